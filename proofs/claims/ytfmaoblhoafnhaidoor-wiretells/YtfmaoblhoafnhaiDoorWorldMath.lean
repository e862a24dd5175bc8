/- A world of clocks, and letters: plain mathematics. -/
import Derived.Test.YtfmaoblhoafnhaiDoorRow
namespace Go.Proofs.YtfmaoblhoafnhaiDoor
set_option linter.unusedVariables false

/-- A letter. -/
structure Lt where
  frm : Int
  to : Int
  ans : Bool
  t1 : Int
  t2 : Int
  t : Int
/-- Clocks that go as they do, how late it is, what is under way. -/
structure Ws where
  n : Nat
  starts : Nat → Int
  rates : Nat → Int
  time : Int
  under : List Lt
namespace Ws
/-- What a clock shows. -/
def rd (S : Ws) (i : Nat) : Int := S.starts i + S.time + (S.time * S.rates i) / 1000000
/-- There is such a clock. -/
def hs (S : Ws) (i : Int) : Prop := 0 ≤ i ∧ i < S.n
/-- What is always so. -/
structure I (S : Ws) : Prop where
  n1 : 1 ≤ S.n
  n6 : S.n ≤ 6
  st : ∀ i, i < S.n → 0 ≤ S.starts i ∧ S.starts i ≤ 1000000
  ra : ∀ i, i < S.n → -1000 ≤ S.rates i ∧ S.rates i ≤ 1000
  t0 : 0 ≤ S.time
  t1 : S.time ≤ 1000000000
  un : S.under.length ≤ 40
theorem rd_in {S : Ws} (h : S.I) {i : Nat} (hi : i < S.n) : -1000001 ≤ (S.time * S.rates i) / 1000000 ∧ (S.time * S.rates i) / 1000000 ≤ 1000000 ∧ -1000000000000 ≤ S.time * S.rates i ∧ S.time * S.rates i ≤ 1000000000000 ∧ -1 ≤ S.rd i ∧ S.rd i ≤ 1002000000 := by
  obtain ⟨a1, a2⟩ := h.st i hi
  obtain ⟨r1, r2⟩ := h.ra i hi
  have t0 := h.t0
  have t1 := h.t1
  have x1 : 0 ≤ S.time * (S.rates i + 1000) := Int.mul_nonneg t0 (by omega)
  have x2 : 0 ≤ S.time * (1000 - S.rates i) := Int.mul_nonneg t0 (by omega)
  have e1 : S.time * (S.rates i + 1000) = S.time * S.rates i + S.time * 1000 := by grind
  have e2 : S.time * (1000 - S.rates i) = S.time * 1000 - S.time * S.rates i := by grind
  unfold rd
  omega
/-- None goes back, and each goes within its bounds. -/
theorem rd_go {S : Ws} (h : S.I) {i : Nat} (hi : i < S.n) {g : Int} (g0 : 0 ≤ g) : S.rd i ≤ ({ S with time := S.time + g } : Ws).rd i ∧ g + (g * S.rates i) / 1000000 ≤ ({ S with time := S.time + g } : Ws).rd i - S.rd i ∧ ({ S with time := S.time + g } : Ws).rd i - S.rd i ≤ g + (g * S.rates i) / 1000000 + 1 := by
  obtain ⟨r1, r2⟩ := h.ra i hi
  have x1 : 0 ≤ g * (S.rates i + 1000) := Int.mul_nonneg g0 (by omega)
  have e1 : g * (S.rates i + 1000) = g * S.rates i + g * 1000 := by grind
  have e2 : (S.time + g) * S.rates i = S.time * S.rates i + g * S.rates i := by grind
  show S.starts i + S.time + (S.time * S.rates i) / 1000000 ≤ S.starts i + (S.time + g) + ((S.time + g) * S.rates i) / 1000000 ∧ g + (g * S.rates i) / 1000000 ≤ S.starts i + (S.time + g) + ((S.time + g) * S.rates i) / 1000000 - (S.starts i + S.time + (S.time * S.rates i) / 1000000) ∧ S.starts i + (S.time + g) + ((S.time + g) * S.rates i) / 1000000 - (S.starts i + S.time + (S.time * S.rates i) / 1000000) ≤ g + (g * S.rates i) / 1000000 + 1
  rw [e2]
  generalize S.time * S.rates i = a at *
  generalize g * S.rates i = b at *
  omega
end Ws
/-- The fault of clocks. -/
def BeE (n : Nat) (z : Nat → Int) (m : Nat) (r : Nat → Int) (ppm e : Int) : Prop :=
  ((ppm < 0 ∨ 1000 < ppm ∨ n < 1 ∨ 6 < n) ∧ e = 1) ∨ ((0 ≤ ppm ∧ ppm ≤ 1000 ∧ 1 ≤ n ∧ n ≤ 6) ∧ m ≠ n ∧ e = 3) ∨
  ((0 ≤ ppm ∧ ppm ≤ 1000 ∧ 1 ≤ n ∧ n ≤ 6) ∧ m = n ∧ (∃ i, i < n ∧ (z i < 0 ∨ 1000000 < z i ∨ r i < -ppm ∨ ppm < r i)) ∧ e = 1) ∨
  ((0 ≤ ppm ∧ ppm ≤ 1000 ∧ 1 ≤ n ∧ n ≤ 6) ∧ m = n ∧ (∀ i, i < n → 0 ≤ z i ∧ z i ≤ 1000000 ∧ -ppm ≤ r i ∧ r i ≤ ppm) ∧ e = 0)
theorem beE_some (n : Nat) (z : Nat → Int) (m : Nat) (r : Nat → Int) (ppm : Int) : ∃ e, BeE n z m r ppm e := by
  by_cases a : 0 ≤ ppm ∧ ppm ≤ 1000 ∧ 1 ≤ n ∧ n ≤ 6
  · by_cases b : m = n
    · by_cases c : ∃ i, i < n ∧ (z i < 0 ∨ 1000000 < z i ∨ r i < -ppm ∨ ppm < r i)
      · exact ⟨1, Or.inr (Or.inr (Or.inl ⟨a, b, c, rfl⟩))⟩
      · refine ⟨0, Or.inr (Or.inr (Or.inr ⟨a, b, fun i hi => ?_, rfl⟩))⟩
        have : ¬ (z i < 0 ∨ 1000000 < z i ∨ r i < -ppm ∨ ppm < r i) := fun q => c ⟨i, hi, q⟩
        omega
    · exact ⟨3, Or.inr (Or.inl ⟨a, b, rfl⟩)⟩
  · exact ⟨1, Or.inl ⟨by omega, rfl⟩⟩
/-- A world at first. -/
def ws0 (n : Nat) (z r : Nat → Int) : Ws := ⟨n, z, r, 0, []⟩
theorem ws0_i {n m : Nat} {z r : Nat → Int} {ppm : Int} (h : BeE n z m r ppm 0) : (ws0 n z r).I := by
  rcases h with ⟨_, e⟩ | ⟨_, _, e⟩ | ⟨_, _, _, e⟩ | ⟨⟨a, b, c, d⟩, _, q, _⟩
  · cases e
  · cases e
  · cases e
  · exact ⟨c, d, fun i hi => ⟨(q i hi).1, (q i hi).2.1⟩, fun i hi => ⟨by have := (q i hi).2.2.1; show -1000 ≤ r i; omega, by have := (q i hi).2.2.2; show r i ≤ 1000; omega⟩, Int.le_refl _, by show (0 : Int) ≤ 1000000000; omega, by show 0 ≤ 40; omega⟩
/-- An act: what the world is behind it, what comes, its fault. -/
def DoR (S : Ws) (wh a b : Int) (S' : Ws) (r : Option Lt) (e : Int) : Prop :=
  (wh = 1 ∧ (a < 0 ∨ 1000000 < a ∨ 1000000000 < S.time + a) ∧ S' = S ∧ r = none ∧ e = 1) ∨
  (wh = 1 ∧ (0 ≤ a ∧ a ≤ 1000000 ∧ S.time + a ≤ 1000000000) ∧ S' = { S with time := S.time + a } ∧ r = none ∧ e = 0) ∨
  (wh = 2 ∧ ¬ (S.hs a ∧ S.hs b) ∧ S' = S ∧ r = none ∧ e = 1) ∨
  (wh = 2 ∧ (S.hs a ∧ S.hs b) ∧ a = b ∧ S' = S ∧ r = none ∧ e = 3) ∨
  (wh = 2 ∧ (S.hs a ∧ S.hs b) ∧ a ≠ b ∧ 40 ≤ S.under.length ∧ S' = S ∧ r = none ∧ e = 4) ∨
  (wh = 2 ∧ (S.hs a ∧ S.hs b) ∧ a ≠ b ∧ S.under.length < 40 ∧ S' = { S with under := S.under ++ [⟨a, b, false, 0, 0, S.rd a.toNat⟩] } ∧ r = none ∧ e = 0) ∨
  ((wh = 3 ∨ wh = 4 ∨ wh = 5) ∧ (a < 0 ∨ (S.under.length : Int) ≤ a) ∧ S' = S ∧ r = none ∧ e = 5) ∨
  (wh = 3 ∧ (0 ≤ a ∧ a < S.under.length) ∧ S' = { S with under := S.under.eraseIdx a.toNat } ∧ r = S.under[a.toNat]? ∧ e = 0) ∨
  (wh = 4 ∧ (0 ≤ a ∧ a < S.under.length) ∧ S' = { S with under := S.under.eraseIdx a.toNat } ∧ r = none ∧ e = 0) ∨
  (wh = 5 ∧ (0 ≤ a ∧ a < S.under.length) ∧ S' = S ∧ r = S.under[a.toNat]? ∧ e = 0) ∨
  ((wh < 1 ∨ 5 < wh) ∧ S' = S ∧ r = none ∧ e = 1)
theorem doR_some (S : Ws) (wh a b : Int) : ∃ S' r e, DoR S wh a b S' r e := by
  by_cases w1 : wh = 1
  · by_cases c : 0 ≤ a ∧ a ≤ 1000000 ∧ S.time + a ≤ 1000000000
    · exact ⟨_, _, _, Or.inr (Or.inl ⟨w1, c, rfl, rfl, rfl⟩)⟩
    · exact ⟨_, _, _, Or.inl ⟨w1, by omega, rfl, rfl, rfl⟩⟩
  by_cases w2 : wh = 2
  · by_cases c : S.hs a ∧ S.hs b
    · by_cases d : a = b
      · exact ⟨_, _, _, Or.inr (Or.inr (Or.inr (Or.inl ⟨w2, c, d, rfl, rfl, rfl⟩)))⟩
      · by_cases l : 40 ≤ S.under.length
        · exact ⟨_, _, _, Or.inr (Or.inr (Or.inr (Or.inr (Or.inl ⟨w2, c, d, l, rfl, rfl, rfl⟩))))⟩
        · exact ⟨_, _, _, Or.inr (Or.inr (Or.inr (Or.inr (Or.inr (Or.inl ⟨w2, c, d, by omega, rfl, rfl, rfl⟩)))))⟩
    · exact ⟨_, _, _, Or.inr (Or.inr (Or.inl ⟨w2, c, rfl, rfl, rfl⟩))⟩
  by_cases wo : wh < 1 ∨ 5 < wh
  · exact ⟨_, _, _, Or.inr (Or.inr (Or.inr (Or.inr (Or.inr (Or.inr (Or.inr (Or.inr (Or.inr (Or.inr ⟨wo, rfl, rfl, rfl⟩)))))))))⟩
  have w3 : wh = 3 ∨ wh = 4 ∨ wh = 5 := by omega
  by_cases c : 0 ≤ a ∧ a < S.under.length
  · rcases w3 with w | w | w
    · exact ⟨_, _, _, Or.inr (Or.inr (Or.inr (Or.inr (Or.inr (Or.inr (Or.inr (Or.inl ⟨w, c, rfl, rfl, rfl⟩)))))))⟩
    · exact ⟨_, _, _, Or.inr (Or.inr (Or.inr (Or.inr (Or.inr (Or.inr (Or.inr (Or.inr (Or.inl ⟨w, c, rfl, rfl, rfl⟩))))))))⟩
    · exact ⟨_, _, _, Or.inr (Or.inr (Or.inr (Or.inr (Or.inr (Or.inr (Or.inr (Or.inr (Or.inr (Or.inl ⟨w, c, rfl, rfl, rfl⟩)))))))))⟩
  · exact ⟨_, _, _, Or.inr (Or.inr (Or.inr (Or.inr (Or.inr (Or.inr (Or.inl ⟨w3, by omega, rfl, rfl, rfl⟩))))))⟩
theorem DoR.i {S S' : Ws} {wh a b e : Int} {r : Option Lt} (h : DoR S wh a b S' r e) (g : S.I) : S'.I := by
  have era : ∀ k, ({ S with under := S.under.eraseIdx k } : Ws).I := fun k => ⟨g.n1, g.n6, g.st, g.ra, g.t0, g.t1, by
    have := g.un
    have l := List.length_eraseIdx_le (l := S.under) (i := k)
    show (S.under.eraseIdx k).length ≤ 40
    omega⟩
  rcases h with ⟨_, _, rfl, _⟩ | ⟨_, c, rfl, _⟩ | ⟨_, _, rfl, _⟩ | ⟨_, _, _, rfl, _⟩ | ⟨_, _, _, _, rfl, _⟩ | ⟨_, _, _, l, rfl, _⟩ | ⟨_, _, rfl, _⟩ | ⟨_, _, rfl, _⟩ | ⟨_, _, rfl, _⟩ | ⟨_, _, rfl, _⟩ | ⟨_, rfl, _⟩
  · exact g
  · exact ⟨g.n1, g.n6, g.st, g.ra, by have := g.t0; show 0 ≤ S.time + a; omega, c.2.2, g.un⟩
  · exact g
  · exact g
  · exact g
  · exact ⟨g.n1, g.n6, g.st, g.ra, g.t0, g.t1, by show (S.under ++ _).length ≤ 40; simp; omega⟩
  · exact g
  · exact era _
  · exact era _
  · exact g
  · exact g
/-- An answer. -/
def AnR (S : Ws) (l : Lt) (S' : Ws) (e : Int) : Prop :=
  (l.ans = true ∧ S' = S ∧ e = 3) ∨ (l.ans = false ∧ ¬ (S.hs l.frm ∧ S.hs l.to) ∧ S' = S ∧ e = 1) ∨
  (l.ans = false ∧ (S.hs l.frm ∧ S.hs l.to) ∧ 40 ≤ S.under.length ∧ S' = S ∧ e = 4) ∨
  (l.ans = false ∧ (S.hs l.frm ∧ S.hs l.to) ∧ S.under.length < 40 ∧ S' = { S with under := S.under ++ [⟨l.to, l.frm, true, l.t, S.rd l.to.toNat, S.rd l.to.toNat⟩] } ∧ e = 0)
theorem anR_some (S : Ws) (l : Lt) : ∃ S' e, AnR S l S' e := by
  cases h : l.ans with
  | true => exact ⟨_, _, Or.inl ⟨h, rfl, rfl⟩⟩
  | false =>
    by_cases c : S.hs l.frm ∧ S.hs l.to
    · by_cases d : 40 ≤ S.under.length
      · exact ⟨_, _, Or.inr (Or.inr (Or.inl ⟨h, c, d, rfl, rfl⟩))⟩
      · exact ⟨_, _, Or.inr (Or.inr (Or.inr ⟨h, c, by omega, rfl, rfl⟩))⟩
    · exact ⟨_, _, Or.inr (Or.inl ⟨h, c, rfl, rfl⟩)⟩
theorem AnR.i {S S' : Ws} {l : Lt} {e : Int} (h : AnR S l S' e) (g : S.I) : S'.I := by
  rcases h with ⟨_, rfl, _⟩ | ⟨_, _, rfl, _⟩ | ⟨_, _, _, rfl, _⟩ | ⟨_, _, q, rfl, _⟩
  · exact g
  · exact g
  · exact g
  · exact ⟨g.n1, g.n6, g.st, g.ra, g.t0, g.t1, by show (S.under ++ _).length ≤ 40; simp; omega⟩
end Go.Proofs.YtfmaoblhoafnhaiDoor
