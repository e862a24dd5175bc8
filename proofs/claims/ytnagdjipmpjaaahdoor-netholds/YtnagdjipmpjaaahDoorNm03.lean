/- A world of clocks, and letters: plain mathematics. Letters in memory, and as values. Letters' cells, one behind the other. -/
import Derived.Test.YtnagdjipmpjaaahDoorNm01
import Derived.OneCell
import Derived.Lib.SmallJoins
import Derived.OwnWalk
namespace Go.Proofs.YtnagdjipmpjaaahDoor
set_option linter.unusedVariables false

/-- A letter. -/
structure Lt where
  frm : Int
  to : Int
  ans : Bool
  t1 : Int
  t2 : Int
  t : Int
/-- Clocks that go as they do, how late it is, what is under way. -/
structure Ws where
  n : Nat
  starts : Nat → Int
  rates : Nat → Int
  time : Int
  under : List Lt
namespace Ws
/-- What a clock shows. -/
def rd (S : Ws) (i : Nat) : Int := S.starts i + S.time + (S.time * S.rates i) / 1000000
/-- There is such a clock. -/
def hs (S : Ws) (i : Int) : Prop := 0 ≤ i ∧ i < S.n
/-- What is always so. -/
structure I (S : Ws) : Prop where
  n1 : 1 ≤ S.n
  n6 : S.n ≤ 6
  st : ∀ i, i < S.n → 0 ≤ S.starts i ∧ S.starts i ≤ 1000000
  ra : ∀ i, i < S.n → -1000 ≤ S.rates i ∧ S.rates i ≤ 1000
  t0 : 0 ≤ S.time
  t1 : S.time ≤ 1000000000
  un : S.under.length ≤ 40
theorem rd_in {S : Ws} (h : S.I) {i : Nat} (hi : i < S.n) : -1000001 ≤ (S.time * S.rates i) / 1000000 ∧ (S.time * S.rates i) / 1000000 ≤ 1000000 ∧ -1000000000000 ≤ S.time * S.rates i ∧ S.time * S.rates i ≤ 1000000000000 ∧ -1 ≤ S.rd i ∧ S.rd i ≤ 1002000000 := by
  obtain ⟨a1, a2⟩ := h.st i hi
  obtain ⟨r1, r2⟩ := h.ra i hi
  have t0 := h.t0
  have t1 := h.t1
  have x1 : 0 ≤ S.time * (S.rates i + 1000) := Int.mul_nonneg t0 (by omega)
  have x2 : 0 ≤ S.time * (1000 - S.rates i) := Int.mul_nonneg t0 (by omega)
  have e1 : S.time * (S.rates i + 1000) = S.time * S.rates i + S.time * 1000 := by grind
  have e2 : S.time * (1000 - S.rates i) = S.time * 1000 - S.time * S.rates i := by grind
  unfold rd
  omega
/-- None goes back, and each goes within its bounds. -/
theorem rd_go {S : Ws} (h : S.I) {i : Nat} (hi : i < S.n) {g : Int} (g0 : 0 ≤ g) : S.rd i ≤ ({ S with time := S.time + g } : Ws).rd i ∧ g + (g * S.rates i) / 1000000 ≤ ({ S with time := S.time + g } : Ws).rd i - S.rd i ∧ ({ S with time := S.time + g } : Ws).rd i - S.rd i ≤ g + (g * S.rates i) / 1000000 + 1 := by
  obtain ⟨r1, r2⟩ := h.ra i hi
  have x1 : 0 ≤ g * (S.rates i + 1000) := Int.mul_nonneg g0 (by omega)
  have e1 : g * (S.rates i + 1000) = g * S.rates i + g * 1000 := by grind
  have e2 : (S.time + g) * S.rates i = S.time * S.rates i + g * S.rates i := by grind
  show S.starts i + S.time + (S.time * S.rates i) / 1000000 ≤ S.starts i + (S.time + g) + ((S.time + g) * S.rates i) / 1000000 ∧ g + (g * S.rates i) / 1000000 ≤ S.starts i + (S.time + g) + ((S.time + g) * S.rates i) / 1000000 - (S.starts i + S.time + (S.time * S.rates i) / 1000000) ∧ S.starts i + (S.time + g) + ((S.time + g) * S.rates i) / 1000000 - (S.starts i + S.time + (S.time * S.rates i) / 1000000) ≤ g + (g * S.rates i) / 1000000 + 1
  rw [e2]
  generalize S.time * S.rates i = a at *
  generalize g * S.rates i = b at *
  omega
end Ws
/-- The fault of clocks. -/
def BeE (n : Nat) (z : Nat → Int) (m : Nat) (r : Nat → Int) (ppm e : Int) : Prop :=
  ((ppm < 0 ∨ 1000 < ppm ∨ n < 1 ∨ 6 < n) ∧ e = 1) ∨ ((0 ≤ ppm ∧ ppm ≤ 1000 ∧ 1 ≤ n ∧ n ≤ 6) ∧ m ≠ n ∧ e = 3) ∨
  ((0 ≤ ppm ∧ ppm ≤ 1000 ∧ 1 ≤ n ∧ n ≤ 6) ∧ m = n ∧ (∃ i, i < n ∧ (z i < 0 ∨ 1000000 < z i ∨ r i < -ppm ∨ ppm < r i)) ∧ e = 1) ∨
  ((0 ≤ ppm ∧ ppm ≤ 1000 ∧ 1 ≤ n ∧ n ≤ 6) ∧ m = n ∧ (∀ i, i < n → 0 ≤ z i ∧ z i ≤ 1000000 ∧ -ppm ≤ r i ∧ r i ≤ ppm) ∧ e = 0)
theorem beE_some (n : Nat) (z : Nat → Int) (m : Nat) (r : Nat → Int) (ppm : Int) : ∃ e, BeE n z m r ppm e := by
  by_cases a : 0 ≤ ppm ∧ ppm ≤ 1000 ∧ 1 ≤ n ∧ n ≤ 6
  · by_cases b : m = n
    · by_cases c : ∃ i, i < n ∧ (z i < 0 ∨ 1000000 < z i ∨ r i < -ppm ∨ ppm < r i)
      · exact ⟨1, Or.inr (Or.inr (Or.inl ⟨a, b, c, rfl⟩))⟩
      · refine ⟨0, Or.inr (Or.inr (Or.inr ⟨a, b, fun i hi => ?_, rfl⟩))⟩
        have : ¬ (z i < 0 ∨ 1000000 < z i ∨ r i < -ppm ∨ ppm < r i) := fun q => c ⟨i, hi, q⟩
        omega
    · exact ⟨3, Or.inr (Or.inl ⟨a, b, rfl⟩)⟩
  · exact ⟨1, Or.inl ⟨by omega, rfl⟩⟩
/-- A world at first. -/
def ws0 (n : Nat) (z r : Nat → Int) : Ws := ⟨n, z, r, 0, []⟩
theorem ws0_i {n m : Nat} {z r : Nat → Int} {ppm : Int} (h : BeE n z m r ppm 0) : (ws0 n z r).I := by
  rcases h with ⟨_, e⟩ | ⟨_, _, e⟩ | ⟨_, _, _, e⟩ | ⟨⟨a, b, c, d⟩, _, q, _⟩
  · cases e
  · cases e
  · cases e
  · exact ⟨c, d, fun i hi => ⟨(q i hi).1, (q i hi).2.1⟩, fun i hi => ⟨by have := (q i hi).2.2.1; show -1000 ≤ r i; omega, by have := (q i hi).2.2.2; show r i ≤ 1000; omega⟩, Int.le_refl _, by show (0 : Int) ≤ 1000000000; omega, by show 0 ≤ 40; omega⟩
/-- An act: what the world is behind it, what comes, its fault. -/
def DoR (S : Ws) (wh a b : Int) (S' : Ws) (r : Option Lt) (e : Int) : Prop :=
  (wh = 1 ∧ (a < 0 ∨ 1000000 < a ∨ 1000000000 < S.time + a) ∧ S' = S ∧ r = none ∧ e = 1) ∨
  (wh = 1 ∧ (0 ≤ a ∧ a ≤ 1000000 ∧ S.time + a ≤ 1000000000) ∧ S' = { S with time := S.time + a } ∧ r = none ∧ e = 0) ∨
  (wh = 2 ∧ ¬ (S.hs a ∧ S.hs b) ∧ S' = S ∧ r = none ∧ e = 1) ∨
  (wh = 2 ∧ (S.hs a ∧ S.hs b) ∧ a = b ∧ S' = S ∧ r = none ∧ e = 3) ∨
  (wh = 2 ∧ (S.hs a ∧ S.hs b) ∧ a ≠ b ∧ 40 ≤ S.under.length ∧ S' = S ∧ r = none ∧ e = 4) ∨
  (wh = 2 ∧ (S.hs a ∧ S.hs b) ∧ a ≠ b ∧ S.under.length < 40 ∧ S' = { S with under := S.under ++ [⟨a, b, false, 0, 0, S.rd a.toNat⟩] } ∧ r = none ∧ e = 0) ∨
  ((wh = 3 ∨ wh = 4 ∨ wh = 5) ∧ (a < 0 ∨ (S.under.length : Int) ≤ a) ∧ S' = S ∧ r = none ∧ e = 5) ∨
  (wh = 3 ∧ (0 ≤ a ∧ a < S.under.length) ∧ S' = { S with under := S.under.eraseIdx a.toNat } ∧ r = S.under[a.toNat]? ∧ e = 0) ∨
  (wh = 4 ∧ (0 ≤ a ∧ a < S.under.length) ∧ S' = { S with under := S.under.eraseIdx a.toNat } ∧ r = none ∧ e = 0) ∨
  (wh = 5 ∧ (0 ≤ a ∧ a < S.under.length) ∧ S' = S ∧ r = S.under[a.toNat]? ∧ e = 0) ∨
  ((wh < 1 ∨ 5 < wh) ∧ S' = S ∧ r = none ∧ e = 1)
theorem doR_some (S : Ws) (wh a b : Int) : ∃ S' r e, DoR S wh a b S' r e := by
  by_cases w1 : wh = 1
  · by_cases c : 0 ≤ a ∧ a ≤ 1000000 ∧ S.time + a ≤ 1000000000
    · exact ⟨_, _, _, Or.inr (Or.inl ⟨w1, c, rfl, rfl, rfl⟩)⟩
    · exact ⟨_, _, _, Or.inl ⟨w1, by omega, rfl, rfl, rfl⟩⟩
  by_cases w2 : wh = 2
  · by_cases c : S.hs a ∧ S.hs b
    · by_cases d : a = b
      · exact ⟨_, _, _, Or.inr (Or.inr (Or.inr (Or.inl ⟨w2, c, d, rfl, rfl, rfl⟩)))⟩
      · by_cases l : 40 ≤ S.under.length
        · exact ⟨_, _, _, Or.inr (Or.inr (Or.inr (Or.inr (Or.inl ⟨w2, c, d, l, rfl, rfl, rfl⟩))))⟩
        · exact ⟨_, _, _, Or.inr (Or.inr (Or.inr (Or.inr (Or.inr (Or.inl ⟨w2, c, d, by omega, rfl, rfl, rfl⟩)))))⟩
    · exact ⟨_, _, _, Or.inr (Or.inr (Or.inl ⟨w2, c, rfl, rfl, rfl⟩))⟩
  by_cases wo : wh < 1 ∨ 5 < wh
  · exact ⟨_, _, _, Or.inr (Or.inr (Or.inr (Or.inr (Or.inr (Or.inr (Or.inr (Or.inr (Or.inr (Or.inr ⟨wo, rfl, rfl, rfl⟩)))))))))⟩
  have w3 : wh = 3 ∨ wh = 4 ∨ wh = 5 := by omega
  by_cases c : 0 ≤ a ∧ a < S.under.length
  · rcases w3 with w | w | w
    · exact ⟨_, _, _, Or.inr (Or.inr (Or.inr (Or.inr (Or.inr (Or.inr (Or.inr (Or.inl ⟨w, c, rfl, rfl, rfl⟩)))))))⟩
    · exact ⟨_, _, _, Or.inr (Or.inr (Or.inr (Or.inr (Or.inr (Or.inr (Or.inr (Or.inr (Or.inl ⟨w, c, rfl, rfl, rfl⟩))))))))⟩
    · exact ⟨_, _, _, Or.inr (Or.inr (Or.inr (Or.inr (Or.inr (Or.inr (Or.inr (Or.inr (Or.inr (Or.inl ⟨w, c, rfl, rfl, rfl⟩)))))))))⟩
  · exact ⟨_, _, _, Or.inr (Or.inr (Or.inr (Or.inr (Or.inr (Or.inr (Or.inl ⟨w3, by omega, rfl, rfl, rfl⟩))))))⟩
theorem DoR.i {S S' : Ws} {wh a b e : Int} {r : Option Lt} (h : DoR S wh a b S' r e) (g : S.I) : S'.I := by
  have era : ∀ k, ({ S with under := S.under.eraseIdx k } : Ws).I := fun k => ⟨g.n1, g.n6, g.st, g.ra, g.t0, g.t1, by
    have := g.un
    have l := List.length_eraseIdx_le (l := S.under) (i := k)
    show (S.under.eraseIdx k).length ≤ 40
    omega⟩
  rcases h with ⟨_, _, rfl, _⟩ | ⟨_, c, rfl, _⟩ | ⟨_, _, rfl, _⟩ | ⟨_, _, _, rfl, _⟩ | ⟨_, _, _, _, rfl, _⟩ | ⟨_, _, _, l, rfl, _⟩ | ⟨_, _, rfl, _⟩ | ⟨_, _, rfl, _⟩ | ⟨_, _, rfl, _⟩ | ⟨_, _, rfl, _⟩ | ⟨_, rfl, _⟩
  · exact g
  · exact ⟨g.n1, g.n6, g.st, g.ra, by have := g.t0; show 0 ≤ S.time + a; omega, c.2.2, g.un⟩
  · exact g
  · exact g
  · exact g
  · exact ⟨g.n1, g.n6, g.st, g.ra, g.t0, g.t1, by show (S.under ++ _).length ≤ 40; simp; omega⟩
  · exact g
  · exact era _
  · exact era _
  · exact g
  · exact g
/-- An answer. -/
def AnR (S : Ws) (l : Lt) (S' : Ws) (e : Int) : Prop :=
  (l.ans = true ∧ S' = S ∧ e = 3) ∨ (l.ans = false ∧ ¬ (S.hs l.frm ∧ S.hs l.to) ∧ S' = S ∧ e = 1) ∨
  (l.ans = false ∧ (S.hs l.frm ∧ S.hs l.to) ∧ 40 ≤ S.under.length ∧ S' = S ∧ e = 4) ∨
  (l.ans = false ∧ (S.hs l.frm ∧ S.hs l.to) ∧ S.under.length < 40 ∧ S' = { S with under := S.under ++ [⟨l.to, l.frm, true, l.t, S.rd l.to.toNat, S.rd l.to.toNat⟩] } ∧ e = 0)
theorem anR_some (S : Ws) (l : Lt) : ∃ S' e, AnR S l S' e := by
  cases h : l.ans with
  | true => exact ⟨_, _, Or.inl ⟨h, rfl, rfl⟩⟩
  | false =>
    by_cases c : S.hs l.frm ∧ S.hs l.to
    · by_cases d : 40 ≤ S.under.length
      · exact ⟨_, _, Or.inr (Or.inr (Or.inl ⟨h, c, d, rfl, rfl⟩))⟩
      · exact ⟨_, _, Or.inr (Or.inr (Or.inr ⟨h, c, by omega, rfl, rfl⟩))⟩
    · exact ⟨_, _, Or.inr (Or.inl ⟨h, c, rfl, rfl⟩)⟩
theorem AnR.i {S S' : Ws} {l : Lt} {e : Int} (h : AnR S l S' e) (g : S.I) : S'.I := by
  rcases h with ⟨_, rfl, _⟩ | ⟨_, _, rfl, _⟩ | ⟨_, _, _, rfl, _⟩ | ⟨_, _, q, rfl, _⟩
  · exact g
  · exact g
  · exact g
  · exact ⟨g.n1, g.n6, g.st, g.ra, g.t0, g.t1, by show (S.under ++ _).length ≤ 40; simp; omega⟩
end Go.Proofs.YtnagdjipmpjaaahDoor
namespace Go.Proofs.YtnagdjipmpjaaahDoor
open Go.ChangeShapes Go.WideShapes Go.ChangeAt Go.RowKit
set_option linter.unusedVariables false

/-- A letter's cells. -/
def ltc (l : Lt) : List Value := [.int .i64 l.frm, .int .i64 l.to, .bool l.ans, .int .i64 l.t1, .int .i64 l.t2, .int .i64 l.t]
/-- Letters lie in a row behind an address. -/
def Lts (w : World) (b off : Nat) (l : List Lt) : Prop := ∀ i q, l[i]? = some q → ∀ j v, (ltc q)[j]? = some v → w.cell? ⟨b, off + i * 6 + j, none⟩ = some v
theorem Lts.on {W u : World} {b off : Nat} {l : List Lt} (hb : Below W.heap.size W u) (h : Lts W b off l) : Lts u b off l := fun i q hq j v hv => by
  have c := h i q hq j v hv
  rw [hb.cell (World.block_lt_of_cell? _ _ c)]; exact c
def WHanded (w : World) (a : Option Addr) (l : List Lt) : Prop := l.length ≤ 9223372036854775807 ∧ (l = [] ∨ ∃ b off : Nat, a = some ⟨b, off, none⟩ ∧ Lts w b off l)
theorem WHanded.on {W u : World} {a : Option Addr} {l : List Lt} (hb : Below W.heap.size W u) (h : WHanded W a l) : WHanded u a l :=
  ⟨h.1, h.2.imp id (fun ⟨b, off, e, s⟩ => ⟨b, off, e, s.on hb⟩)⟩
/-- A letter as a value. -/
def ltv (l : Lt) : Value := .agg #[.int .i64 l.frm, .int .i64 l.to, .bool l.ans, .int .i64 l.t1, .int .i64 l.t2, .int .i64 l.t]
end Go.Proofs.YtnagdjipmpjaaahDoor
namespace Go.Proofs.YtnagdjipmpjaaahDoor
open Go.ChangeShapes Go.WideShapes Go.ChangeAt Go.RowKit Go.Joins
set_option linter.unusedVariables false
set_option linter.unusedSimpArgs false

theorem infoLetter : (Tryd.prog.info? 37).map (fun i => (i.zero, i.size, i.bytes)) = some (some (.agg #[.int .i64 0, .int .i64 0, .bool false, .int .i64 0, .int .i64 0, .int .i64 0]), 6, 48) := by kernel_rfl
/-- Letters' cells, one behind the other. -/
def lcs : List Lt → List Value
  | [] => []
  | l :: r => ltc l ++ lcs r
theorem lcs_app (a b : List Lt) : lcs (a ++ b) = lcs a ++ lcs b := by
  induction a with
  | nil => rfl
  | cons l r ih => show ltc l ++ lcs (r ++ b) = ltc l ++ lcs r ++ lcs b; rw [ih, List.append_assoc]
theorem lcs_len (a : List Lt) : (lcs a).length = a.length * 6 := by
  induction a with
  | nil => rfl
  | cons l r ih => show (ltc l ++ lcs r).length = (r.length + 1) * 6; rw [List.length_append, ih]; show 6 + _ = _; omega
theorem ltc_one (l : Lt) : ∀ u ∈ ltc l, u.oneCell' = true := by
  intro u hu
  simp [ltc] at hu
  rcases hu with rfl | rfl | rfl | rfl | rfl | rfl <;> rfl
theorem lcs_one (a : List Lt) : ∀ u ∈ lcs a, u.oneCell' = true := by
  induction a with
  | nil => intro u hu; cases hu
  | cons l r ih =>
    intro u hu
    rcases List.mem_append.1 hu with h | h
    · exact ltc_one l u h
    · exact ih u h
theorem lcs_at {a : List Lt} {i : Nat} {q : Lt} (h : a[i]? = some q) {j : Nat} {v : Value} (hv : (ltc q)[j]? = some v) : (lcs a)[i * 6 + j]? = some v := by
  induction a generalizing i with
  | nil => cases h
  | cons l r ih =>
    show (ltc l ++ lcs r)[i * 6 + j]? = some v
    cases i with
    | zero =>
      obtain rfl := Option.some.inj h
      have lt : j < (ltc l).length := by
        rcases Nat.lt_or_ge j (ltc l).length with h | h
        · exact h
        · rw [List.getElem?_eq_none h] at hv; cases hv
      rw [Nat.zero_mul, Nat.zero_add, List.getElem?_append_left lt]
      exact hv
    | succ i =>
      have l6 : (ltc l).length = 6 := rfl
      rw [List.getElem?_append_right (by rw [l6]; omega), l6, show (i + 1) * 6 + j - 6 = i * 6 + j by omega]
      exact ih h
end Go.Proofs.YtnagdjipmpjaaahDoor
