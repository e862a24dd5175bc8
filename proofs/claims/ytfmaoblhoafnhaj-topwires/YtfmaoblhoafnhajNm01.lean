/- What all texts of this seat lean on: marks by which a walk tells its calls apart, and worlds behind calls. What a block of the call's own holds behind makings, stores, draws and calls, as one fact, of however many cells: so that a walk carries each struct in one name. A world of clocks, and letters: plain mathematics. An append to a row of the call's own, in a region that draws its order; rows of other blocks behind it. -/
import Derived.Test.YtfmaoblhoafnhajRows
import Derived.WalkKit
import Derived.ProofKit
import Derived.OpenShut
import Derived.Outline
import Derived.WalkLawsBesides
import Derived.Deep.Draws
import Derived.RowKit3
import Derived.Deep.RegionHeld
import Derived.Lib.SmallJoins
import Derived.OwnWalk
import Derived.Maps.AppendAt
import Derived.Deep.RegionLaw
import Derived.Laws.AppendOwnNone
import Derived.OneCell
namespace Go.Proofs.Ytfmaoblhoafnhaj
open Go.ChangeShapes Go.WideShapes Go.ChangeAt Go.RowKit
set_option linter.unusedVariables false

def okB (lo hi : Int) : Bool := decide (lo ≤ hi ∧ -1000000000000 ≤ lo ∧ hi ≤ 1000000000000)
theorem okB_t {lo hi : Int} (h : okB lo hi = true) : lo ≤ hi ∧ -1000000000000 ≤ lo ∧ hi ≤ 1000000000000 := of_decide_eq_true h
theorem okB_f {lo hi : Int} (h : okB lo hi = false) : hi < lo ∨ lo < -1000000000000 ∨ 1000000000000 < hi := by
  have := of_decide_eq_false h; omega
theorem okB_mk {lo hi : Int} (h : lo ≤ hi ∧ -1000000000000 ≤ lo ∧ hi ≤ 1000000000000) : okB lo hi = true := decide_eq_true h
theorem okB_no {lo hi : Int} (h : hi < lo ∨ lo < -1000000000000 ∨ 1000000000000 < hi) : okB lo hi = false := decide_eq_false (by omega)

abbrev sp (lo hi : Int) : Value := .agg #[.int .i64 lo, .int .i64 hi]
abbrev eRange : Value := .iface 73 (.int .i64 1)
abbrev eNone : Value := .iface 73 (.int .i64 5)

theorem bcell {W w1 : World} (hb : Below W.heap.size W w1) : (∀ b o, b < W.heap.size → w1.cell? ⟨b, o, none⟩ = W.cell? ⟨b, o, none⟩) ∧ (∀ b o, b < W.heap.size → w1.frozen? ⟨b, o, none⟩ = W.frozen? ⟨b, o, none⟩) :=
  ⟨fun b o h => hb.cell (p := ⟨b, o, none⟩) h, fun b o h => hb.frozen (p := ⟨b, o, none⟩) h⟩

structure Mark (n : Nat) : Prop where
  of ::
theorem Mark.mk (n : Nat) : Mark n := Mark.of

theorem nlt {a c x y z : Int} (h : (a < c ∧ x = y) ∨ (c ≤ a ∧ x = z)) : (a < c ∧ x = y) ∨ (¬ a < c ∧ x = z) := by omega

theorem below_tr {w W w1 : World} (hb : Below W.heap.size W w1) (h : Below w.heap.size w W) : Below w.heap.size w w1 := h.trans (hb.mono h.size)
end Go.Proofs.Ytfmaoblhoafnhaj
namespace Go.Proofs.Ytfmaoblhoafnhaj
open Go.ChangeShapes Go.WideShapes Go.ChangeAt Go.RowKit
set_option linter.unusedVariables false

structure Row (u : World) (b : Nat) (vs : List Value) : Prop where
  c : ∀ i v, vs[i]? = some v → u.cell? ⟨b, i, none⟩ = some v
  f : ∀ i v, vs[i]? = some v → u.frozen? ⟨b, i, none⟩ = false

section
variable {W u w : World} {cs : Array Value} {t : TypeId} {b b' : Nat} {vs : List Value} {n i : Nat} {a : Addr} {x : Value} {ob : Obj}
theorem Row.lt (h : Row u b (x :: vs)) : b < u.heap.size := World.block_lt_of_cell? _ _ (h.c 0 x rfl)
theorem Row.on (hb : Below W.heap.size W u) (h : Row W b vs) : Row u b vs :=
  ⟨fun i v hv => by rw [hb.cell (World.block_lt_of_cell? _ _ (h.c i v hv))]; exact h.c i v hv, fun i v hv => by rw [hb.frozen (World.block_lt_of_cell? _ _ (h.c i v hv))]; exact h.f i v hv⟩
theorem Row.al (h : Row W b vs) : Row (W.alloc (.cells cs t)) b vs :=
  ⟨fun i v hv => by rw [World.cell?_alloc_lt _ _ _ (World.block_lt_of_cell? _ _ (h.c i v hv))]; exact h.c i v hv, fun i v hv => by rw [frozen?_alloc_cells]; exact h.f i v hv⟩
theorem Row.made (hb : b = W.heap.size) : Row (W.alloc (.cells vs.toArray t)) b vs :=
  ⟨fun i v hv => by rw [World.cell?_alloc_at _ _ _ _ hb]; simpa using hv, fun i v hv => World.frozen?_alloc_at _ _ _ _ hb⟩
theorem Row.dr (h : Row W b vs) : Row W.drew b vs := ⟨fun i v hv => h.c i v hv, fun i v hv => h.f i v hv⟩
theorem Row.drn (h : Row W b vs) : Row (W.drewN n) b vs := ⟨fun i v hv => h.c i v hv, fun i v hv => h.f i v hv⟩
theorem Row.put (i : Nat) (h : Row W b vs) : Row (W.setCell ⟨b, i, none⟩ x) b (vs.set i x) := by
  refine ⟨fun j v hv => ?_, fun j v hv => ?_⟩
  · by_cases e : i = j
    · subst e
      rw [List.getElem?_set_self'] at hv
      cases hx : vs[i]? with
      | none => rw [hx] at hv; cases hv
      | some y =>
        rw [hx] at hv
        obtain rfl := Option.some.inj hv
        exact World.cell?_setCell_same _ _ _ (h.c i y hx)
    · rw [List.getElem?_set_ne e] at hv
      rw [World.cell?_setCell_other _ _ _ _ (fun q => e (by injection q))]; exact h.c j v hv
  · rw [World.frozen?_setCell]
    by_cases e : i = j
    · subst e
      rw [List.getElem?_set_self'] at hv
      cases hx : vs[i]? with
      | none => rw [hx] at hv; cases hv
      | some y => exact h.f i y hx
    · rw [List.getElem?_set_ne e] at hv; exact h.f j v hv
theorem Row.far (hne : b' ≠ b) (h : Row W b vs) : Row (W.setCell ⟨b', i, none⟩ x) b vs :=
  ⟨fun j v hv => by rw [World.cell?_setCell_far _ _ _ _ hne]; exact h.c j v hv, fun j v hv => by rw [World.frozen?_setCell]; exact h.f j v hv⟩
theorem rbel_on (hb : Below W.heap.size W u) (h : Below w.heap.size w W) : Below w.heap.size w u := h.trans (hb.mono h.size)
theorem rbel_al (h : Below w.heap.size w W) : Below w.heap.size w (W.alloc ob) := h.alloc h.size _
theorem rbel_put (hne : w.heap.size ≤ b) (h : Below w.heap.size w W) : Below w.heap.size w (W.setCell ⟨b, i, none⟩ x) := h.setCell (p := ⟨b, i, none⟩) hne _
theorem rbel_dr (h : Below w.heap.size w W) : Below w.heap.size w W.drew := h.drew
theorem rbel_drn (h : Below w.heap.size w W) : Below w.heap.size w (W.drewN n) := ⟨h.os, h.tape, h.output, h.size, h.block⟩
end
end Go.Proofs.Ytfmaoblhoafnhaj
namespace Go.Proofs.Ytfmaoblhoafnhaj
set_option linter.unusedVariables false

/-- A letter. -/
structure Lt where
  frm : Int
  to : Int
  ans : Bool
  t1 : Int
  t2 : Int
  t : Int
/-- Clocks that go as they do, how late it is, what is under way. -/
structure Ws where
  n : Nat
  starts : Nat → Int
  rates : Nat → Int
  time : Int
  under : List Lt
namespace Ws
/-- What a clock shows. -/
def rd (S : Ws) (i : Nat) : Int := S.starts i + S.time + (S.time * S.rates i) / 1000000
/-- There is such a clock. -/
def hs (S : Ws) (i : Int) : Prop := 0 ≤ i ∧ i < S.n
/-- What is always so. -/
structure I (S : Ws) : Prop where
  n1 : 1 ≤ S.n
  n6 : S.n ≤ 6
  st : ∀ i, i < S.n → 0 ≤ S.starts i ∧ S.starts i ≤ 1000000
  ra : ∀ i, i < S.n → -1000 ≤ S.rates i ∧ S.rates i ≤ 1000
  t0 : 0 ≤ S.time
  t1 : S.time ≤ 1000000000
  un : S.under.length ≤ 40
theorem rd_in {S : Ws} (h : S.I) {i : Nat} (hi : i < S.n) : -1000001 ≤ (S.time * S.rates i) / 1000000 ∧ (S.time * S.rates i) / 1000000 ≤ 1000000 ∧ -1000000000000 ≤ S.time * S.rates i ∧ S.time * S.rates i ≤ 1000000000000 ∧ -1 ≤ S.rd i ∧ S.rd i ≤ 1002000000 := by
  obtain ⟨a1, a2⟩ := h.st i hi
  obtain ⟨r1, r2⟩ := h.ra i hi
  have t0 := h.t0
  have t1 := h.t1
  have x1 : 0 ≤ S.time * (S.rates i + 1000) := Int.mul_nonneg t0 (by omega)
  have x2 : 0 ≤ S.time * (1000 - S.rates i) := Int.mul_nonneg t0 (by omega)
  have e1 : S.time * (S.rates i + 1000) = S.time * S.rates i + S.time * 1000 := by grind
  have e2 : S.time * (1000 - S.rates i) = S.time * 1000 - S.time * S.rates i := by grind
  unfold rd
  omega
/-- None goes back, and each goes within its bounds. -/
theorem rd_go {S : Ws} (h : S.I) {i : Nat} (hi : i < S.n) {g : Int} (g0 : 0 ≤ g) : S.rd i ≤ ({ S with time := S.time + g } : Ws).rd i ∧ g + (g * S.rates i) / 1000000 ≤ ({ S with time := S.time + g } : Ws).rd i - S.rd i ∧ ({ S with time := S.time + g } : Ws).rd i - S.rd i ≤ g + (g * S.rates i) / 1000000 + 1 := by
  obtain ⟨r1, r2⟩ := h.ra i hi
  have x1 : 0 ≤ g * (S.rates i + 1000) := Int.mul_nonneg g0 (by omega)
  have e1 : g * (S.rates i + 1000) = g * S.rates i + g * 1000 := by grind
  have e2 : (S.time + g) * S.rates i = S.time * S.rates i + g * S.rates i := by grind
  show S.starts i + S.time + (S.time * S.rates i) / 1000000 ≤ S.starts i + (S.time + g) + ((S.time + g) * S.rates i) / 1000000 ∧ g + (g * S.rates i) / 1000000 ≤ S.starts i + (S.time + g) + ((S.time + g) * S.rates i) / 1000000 - (S.starts i + S.time + (S.time * S.rates i) / 1000000) ∧ S.starts i + (S.time + g) + ((S.time + g) * S.rates i) / 1000000 - (S.starts i + S.time + (S.time * S.rates i) / 1000000) ≤ g + (g * S.rates i) / 1000000 + 1
  rw [e2]
  generalize S.time * S.rates i = a at *
  generalize g * S.rates i = b at *
  omega
end Ws
/-- The fault of clocks. -/
def BeE (n : Nat) (z : Nat → Int) (m : Nat) (r : Nat → Int) (ppm e : Int) : Prop :=
  ((ppm < 0 ∨ 1000 < ppm ∨ n < 1 ∨ 6 < n) ∧ e = 1) ∨ ((0 ≤ ppm ∧ ppm ≤ 1000 ∧ 1 ≤ n ∧ n ≤ 6) ∧ m ≠ n ∧ e = 3) ∨
  ((0 ≤ ppm ∧ ppm ≤ 1000 ∧ 1 ≤ n ∧ n ≤ 6) ∧ m = n ∧ (∃ i, i < n ∧ (z i < 0 ∨ 1000000 < z i ∨ r i < -ppm ∨ ppm < r i)) ∧ e = 1) ∨
  ((0 ≤ ppm ∧ ppm ≤ 1000 ∧ 1 ≤ n ∧ n ≤ 6) ∧ m = n ∧ (∀ i, i < n → 0 ≤ z i ∧ z i ≤ 1000000 ∧ -ppm ≤ r i ∧ r i ≤ ppm) ∧ e = 0)
theorem beE_some (n : Nat) (z : Nat → Int) (m : Nat) (r : Nat → Int) (ppm : Int) : ∃ e, BeE n z m r ppm e := by
  by_cases a : 0 ≤ ppm ∧ ppm ≤ 1000 ∧ 1 ≤ n ∧ n ≤ 6
  · by_cases b : m = n
    · by_cases c : ∃ i, i < n ∧ (z i < 0 ∨ 1000000 < z i ∨ r i < -ppm ∨ ppm < r i)
      · exact ⟨1, Or.inr (Or.inr (Or.inl ⟨a, b, c, rfl⟩))⟩
      · refine ⟨0, Or.inr (Or.inr (Or.inr ⟨a, b, fun i hi => ?_, rfl⟩))⟩
        have : ¬ (z i < 0 ∨ 1000000 < z i ∨ r i < -ppm ∨ ppm < r i) := fun q => c ⟨i, hi, q⟩
        omega
    · exact ⟨3, Or.inr (Or.inl ⟨a, b, rfl⟩)⟩
  · exact ⟨1, Or.inl ⟨by omega, rfl⟩⟩
/-- A world at first. -/
def ws0 (n : Nat) (z r : Nat → Int) : Ws := ⟨n, z, r, 0, []⟩
theorem ws0_i {n m : Nat} {z r : Nat → Int} {ppm : Int} (h : BeE n z m r ppm 0) : (ws0 n z r).I := by
  rcases h with ⟨_, e⟩ | ⟨_, _, e⟩ | ⟨_, _, _, e⟩ | ⟨⟨a, b, c, d⟩, _, q, _⟩
  · cases e
  · cases e
  · cases e
  · exact ⟨c, d, fun i hi => ⟨(q i hi).1, (q i hi).2.1⟩, fun i hi => ⟨by have := (q i hi).2.2.1; show -1000 ≤ r i; omega, by have := (q i hi).2.2.2; show r i ≤ 1000; omega⟩, Int.le_refl _, by show (0 : Int) ≤ 1000000000; omega, by show 0 ≤ 40; omega⟩
/-- An act: what the world is behind it, what comes, its fault. -/
def DoR (S : Ws) (wh a b : Int) (S' : Ws) (r : Option Lt) (e : Int) : Prop :=
  (wh = 1 ∧ (a < 0 ∨ 1000000 < a ∨ 1000000000 < S.time + a) ∧ S' = S ∧ r = none ∧ e = 1) ∨
  (wh = 1 ∧ (0 ≤ a ∧ a ≤ 1000000 ∧ S.time + a ≤ 1000000000) ∧ S' = { S with time := S.time + a } ∧ r = none ∧ e = 0) ∨
  (wh = 2 ∧ ¬ (S.hs a ∧ S.hs b) ∧ S' = S ∧ r = none ∧ e = 1) ∨
  (wh = 2 ∧ (S.hs a ∧ S.hs b) ∧ a = b ∧ S' = S ∧ r = none ∧ e = 3) ∨
  (wh = 2 ∧ (S.hs a ∧ S.hs b) ∧ a ≠ b ∧ 40 ≤ S.under.length ∧ S' = S ∧ r = none ∧ e = 4) ∨
  (wh = 2 ∧ (S.hs a ∧ S.hs b) ∧ a ≠ b ∧ S.under.length < 40 ∧ S' = { S with under := S.under ++ [⟨a, b, false, 0, 0, S.rd a.toNat⟩] } ∧ r = none ∧ e = 0) ∨
  ((wh = 3 ∨ wh = 4 ∨ wh = 5) ∧ (a < 0 ∨ (S.under.length : Int) ≤ a) ∧ S' = S ∧ r = none ∧ e = 5) ∨
  (wh = 3 ∧ (0 ≤ a ∧ a < S.under.length) ∧ S' = { S with under := S.under.eraseIdx a.toNat } ∧ r = S.under[a.toNat]? ∧ e = 0) ∨
  (wh = 4 ∧ (0 ≤ a ∧ a < S.under.length) ∧ S' = { S with under := S.under.eraseIdx a.toNat } ∧ r = none ∧ e = 0) ∨
  (wh = 5 ∧ (0 ≤ a ∧ a < S.under.length) ∧ S' = S ∧ r = S.under[a.toNat]? ∧ e = 0) ∨
  ((wh < 1 ∨ 5 < wh) ∧ S' = S ∧ r = none ∧ e = 1)
theorem doR_some (S : Ws) (wh a b : Int) : ∃ S' r e, DoR S wh a b S' r e := by
  by_cases w1 : wh = 1
  · by_cases c : 0 ≤ a ∧ a ≤ 1000000 ∧ S.time + a ≤ 1000000000
    · exact ⟨_, _, _, Or.inr (Or.inl ⟨w1, c, rfl, rfl, rfl⟩)⟩
    · exact ⟨_, _, _, Or.inl ⟨w1, by omega, rfl, rfl, rfl⟩⟩
  by_cases w2 : wh = 2
  · by_cases c : S.hs a ∧ S.hs b
    · by_cases d : a = b
      · exact ⟨_, _, _, Or.inr (Or.inr (Or.inr (Or.inl ⟨w2, c, d, rfl, rfl, rfl⟩)))⟩
      · by_cases l : 40 ≤ S.under.length
        · exact ⟨_, _, _, Or.inr (Or.inr (Or.inr (Or.inr (Or.inl ⟨w2, c, d, l, rfl, rfl, rfl⟩))))⟩
        · exact ⟨_, _, _, Or.inr (Or.inr (Or.inr (Or.inr (Or.inr (Or.inl ⟨w2, c, d, by omega, rfl, rfl, rfl⟩)))))⟩
    · exact ⟨_, _, _, Or.inr (Or.inr (Or.inl ⟨w2, c, rfl, rfl, rfl⟩))⟩
  by_cases wo : wh < 1 ∨ 5 < wh
  · exact ⟨_, _, _, Or.inr (Or.inr (Or.inr (Or.inr (Or.inr (Or.inr (Or.inr (Or.inr (Or.inr (Or.inr ⟨wo, rfl, rfl, rfl⟩)))))))))⟩
  have w3 : wh = 3 ∨ wh = 4 ∨ wh = 5 := by omega
  by_cases c : 0 ≤ a ∧ a < S.under.length
  · rcases w3 with w | w | w
    · exact ⟨_, _, _, Or.inr (Or.inr (Or.inr (Or.inr (Or.inr (Or.inr (Or.inr (Or.inl ⟨w, c, rfl, rfl, rfl⟩)))))))⟩
    · exact ⟨_, _, _, Or.inr (Or.inr (Or.inr (Or.inr (Or.inr (Or.inr (Or.inr (Or.inr (Or.inl ⟨w, c, rfl, rfl, rfl⟩))))))))⟩
    · exact ⟨_, _, _, Or.inr (Or.inr (Or.inr (Or.inr (Or.inr (Or.inr (Or.inr (Or.inr (Or.inr (Or.inl ⟨w, c, rfl, rfl, rfl⟩)))))))))⟩
  · exact ⟨_, _, _, Or.inr (Or.inr (Or.inr (Or.inr (Or.inr (Or.inr (Or.inl ⟨w3, by omega, rfl, rfl, rfl⟩))))))⟩
theorem DoR.i {S S' : Ws} {wh a b e : Int} {r : Option Lt} (h : DoR S wh a b S' r e) (g : S.I) : S'.I := by
  have era : ∀ k, ({ S with under := S.under.eraseIdx k } : Ws).I := fun k => ⟨g.n1, g.n6, g.st, g.ra, g.t0, g.t1, by
    have := g.un
    have l := List.length_eraseIdx_le (l := S.under) (i := k)
    show (S.under.eraseIdx k).length ≤ 40
    omega⟩
  rcases h with ⟨_, _, rfl, _⟩ | ⟨_, c, rfl, _⟩ | ⟨_, _, rfl, _⟩ | ⟨_, _, _, rfl, _⟩ | ⟨_, _, _, _, rfl, _⟩ | ⟨_, _, _, l, rfl, _⟩ | ⟨_, _, rfl, _⟩ | ⟨_, _, rfl, _⟩ | ⟨_, _, rfl, _⟩ | ⟨_, _, rfl, _⟩ | ⟨_, rfl, _⟩
  · exact g
  · exact ⟨g.n1, g.n6, g.st, g.ra, by have := g.t0; show 0 ≤ S.time + a; omega, c.2.2, g.un⟩
  · exact g
  · exact g
  · exact g
  · exact ⟨g.n1, g.n6, g.st, g.ra, g.t0, g.t1, by show (S.under ++ _).length ≤ 40; simp; omega⟩
  · exact g
  · exact era _
  · exact era _
  · exact g
  · exact g
/-- An answer. -/
def AnR (S : Ws) (l : Lt) (S' : Ws) (e : Int) : Prop :=
  (l.ans = true ∧ S' = S ∧ e = 3) ∨ (l.ans = false ∧ ¬ (S.hs l.frm ∧ S.hs l.to) ∧ S' = S ∧ e = 1) ∨
  (l.ans = false ∧ (S.hs l.frm ∧ S.hs l.to) ∧ 40 ≤ S.under.length ∧ S' = S ∧ e = 4) ∨
  (l.ans = false ∧ (S.hs l.frm ∧ S.hs l.to) ∧ S.under.length < 40 ∧ S' = { S with under := S.under ++ [⟨l.to, l.frm, true, l.t, S.rd l.to.toNat, S.rd l.to.toNat⟩] } ∧ e = 0)
theorem anR_some (S : Ws) (l : Lt) : ∃ S' e, AnR S l S' e := by
  cases h : l.ans with
  | true => exact ⟨_, _, Or.inl ⟨h, rfl, rfl⟩⟩
  | false =>
    by_cases c : S.hs l.frm ∧ S.hs l.to
    · by_cases d : 40 ≤ S.under.length
      · exact ⟨_, _, Or.inr (Or.inr (Or.inl ⟨h, c, d, rfl, rfl⟩))⟩
      · exact ⟨_, _, Or.inr (Or.inr (Or.inr ⟨h, c, by omega, rfl, rfl⟩))⟩
    · exact ⟨_, _, Or.inr (Or.inl ⟨h, c, rfl, rfl⟩)⟩
theorem AnR.i {S S' : Ws} {l : Lt} {e : Int} (h : AnR S l S' e) (g : S.I) : S'.I := by
  rcases h with ⟨_, rfl, _⟩ | ⟨_, _, rfl, _⟩ | ⟨_, _, _, rfl, _⟩ | ⟨_, _, q, rfl, _⟩
  · exact g
  · exact g
  · exact g
  · exact ⟨g.n1, g.n6, g.st, g.ra, g.t0, g.t1, by show (S.under ++ _).length ≤ 40; simp; omega⟩
end Go.Proofs.Ytfmaoblhoafnhaj
namespace Go.Proofs.Ytfmaoblhoafnhaj
open Go.ChangeShapes Go.WideShapes Go.ChangeAt Go.RowKit Go.Joins
set_option linter.unusedVariables false
set_option linter.unusedSimpArgs false

/-- An append to a row of the call's own, as one step of a region that draws its order; and where it lies. -/
theorem step_append_at {P : Program} {ops : Array Oper} {o : Oper} {a : Act} {w : World} {K : Act → World → Prop} {Q : Exit → Act → World → Prop} {E : Prop}
    (hg : o.guard = none) (s x : Operand) (t : TypeId) (hop : o.op = Op.call { callee := Callee.builtin Builtin.append, args := #[s, x], argTypes := #[t, t] })
    (base : Nat) (e : TypeId) (i : TypeInfo) (z : Value) (size bytes : Nat) (h1 : P.underlying t = some (.slice e)) (h2 : P.info? e = some i) (h3 : i.zero = some z) (h4 : i.size = size) (h5 : i.bytes = bytes) (h6 : z.cells.size = size) (h7 : 0 < size)
    (v : Value) (n : Nat) (xs : List Value) (hs : a.eval s = v) (hown : w.ownsRow base e size v n xs)
    (ad : Addr) (m c : Nat) (news : List Value) (hx : a.eval x = .slice (some ad) m c) (hn : news.length = m * size) (hc : ∀ j u, news[j]? = some u → w.cell? (ad.add j) = some u) (h1c : ∀ u ∈ news, u.oneCell' = true)
    (b1 : n + m ≤ maxLen) (b2 : (n + m) * bytes ≤ 140737488355328) (hbase : base ≤ w.heap.size)
    (hK : ∀ v' w', w'.ownsRow base e size v' (n + m) (xs ++ news) → w.grownBy w' v.ownBlock → (v'.ownBlock = v.ownBlock ∨ v'.ownBlock = some w.heap.size) → K (a.put o.dst v') w') :
    if Region.wanted o (yielded ops a.tmps) = true then Oper.wp P o a w K Q else E := by
  have hw : Region.wanted o (yielded ops a.tmps) = true := by simp [Region.wanted, hg]
  rw [if_pos hw]
  obtain ⟨v', w', hr, g1, g2, _, g4⟩ := run_append_own_at (P := P) w base t o.type e i z size bytes h1 h2 h3 h4 h5 h6 h7 v n xs hown ad m c news hn hc h1c b1 b2 hbase
  unfold Oper.wp execOp
  simp only [hop, resolve, invoke, builtin, Sem.run_bind, Sem.run_pure, Result.andThen_ok, List.map_toArray, List.map_cons, List.map_nil, hs, hx, hr]
  exact hK v' w' g1 g2 g4
theorem row_block {u u' : World} {b : Nat} {vs : List Value} (he : u'.heap[b]? = u.heap[b]?) (h : Row u b vs) : Row u' b vs :=
  ⟨fun i x hx => (World.cell?_of_block (w := u) (a := ⟨b, i, none⟩) he).trans (h.c i x hx), fun i x hx => (World.frozen?_of_block (w := u) (a := ⟨b, i, none⟩) he).trans (h.f i x hx)⟩
theorem row_grown {W w1 : World} {ob : Option Nat} {b : Nat} {vs : List Value} (hg : W.grownBy w1 ob) (hlt : b < W.heap.size) (hne : ob ≠ some b) (h : Row W b vs) : Row w1 b vs :=
  row_block (hg.block b hlt (fun e => hne e.symm)) h
theorem own_slice {w : World} {base size n : Nat} {e : TypeId} {v : Value} {xs : List Value} (h : w.ownsRow base e size v n xs) : ∃ a cap, v = .slice a n cap := by
  rcases h.2 with ⟨rfl, rfl⟩ | ⟨g, cap, cur, rfl, _⟩
  · exact ⟨none, 0, rfl⟩
  · exact ⟨_, cap, rfl⟩
end Go.Proofs.Ytfmaoblhoafnhaj
