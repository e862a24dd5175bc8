/- What all texts of this seat lean on: marks by which a walk tells its calls apart, and worlds behind calls. What package drift answers of any numbers: check and divideUp. What a block of the call's own holds behind makings, stores, draws and calls, as one fact, of however many cells: so that a walk carries each struct in one name. A world of clocks, and letters: plain mathematics. Ways along arcs, and the least of them: plain mathematics. An arc from u to v of c says: what v shows less what u shows is at most c. Letters in memory, and as values. Letters' cells, one behind the other. Edges in a row, and what is wrong with some. What drift.GrowTimes and drift.Grow answer of any numbers. What drift.GrowTimes answers of numbers that are right: the world is as it was. -/
import Derived.Test.YthejaecljkjliaiGreatDoorRows
import Derived.WalkKit
import Derived.ProofKit
import Derived.OpenShut
import Derived.Outline
import Derived.WalkLawsBesides
import Derived.IntWalk
import Derived.Deep.Draws
import Derived.RowKit3
import Derived.Deep.RegionHeld
import Derived.OneCell
import Derived.Lib.SmallJoins
import Derived.OwnWalk
namespace Go.Proofs.YthejaecljkjliaiGreatDoor
open Go.ChangeShapes Go.WideShapes Go.ChangeAt Go.RowKit
set_option linter.unusedVariables false

def okB (lo hi : Int) : Bool := decide (lo ≤ hi ∧ -1000000000000 ≤ lo ∧ hi ≤ 1000000000000)
theorem okB_t {lo hi : Int} (h : okB lo hi = true) : lo ≤ hi ∧ -1000000000000 ≤ lo ∧ hi ≤ 1000000000000 := of_decide_eq_true h
theorem okB_f {lo hi : Int} (h : okB lo hi = false) : hi < lo ∨ lo < -1000000000000 ∨ 1000000000000 < hi := by
  have := of_decide_eq_false h; omega
theorem okB_mk {lo hi : Int} (h : lo ≤ hi ∧ -1000000000000 ≤ lo ∧ hi ≤ 1000000000000) : okB lo hi = true := decide_eq_true h
theorem okB_no {lo hi : Int} (h : hi < lo ∨ lo < -1000000000000 ∨ 1000000000000 < hi) : okB lo hi = false := decide_eq_false (by omega)

abbrev sp (lo hi : Int) : Value := .agg #[.int .i64 lo, .int .i64 hi]
abbrev eRange : Value := .iface 85 (.int .i64 1)
abbrev eNone : Value := .iface 85 (.int .i64 5)

theorem bcell {W w1 : World} (hb : Below W.heap.size W w1) : (∀ b o, b < W.heap.size → w1.cell? ⟨b, o, none⟩ = W.cell? ⟨b, o, none⟩) ∧ (∀ b o, b < W.heap.size → w1.frozen? ⟨b, o, none⟩ = W.frozen? ⟨b, o, none⟩) :=
  ⟨fun b o h => hb.cell (p := ⟨b, o, none⟩) h, fun b o h => hb.frozen (p := ⟨b, o, none⟩) h⟩

structure Mark (n : Nat) : Prop where
  of ::
theorem Mark.mk (n : Nat) : Mark n := Mark.of

theorem nlt {a c x y z : Int} (h : (a < c ∧ x = y) ∨ (c ≤ a ∧ x = z)) : (a < c ∧ x = y) ∨ (¬ a < c ∧ x = z) := by omega

theorem below_tr {w W w1 : World} (hb : Below W.heap.size W w1) (h : Below w.heap.size w W) : Below w.heap.size w w1 := h.trans (hb.mono h.size)
end Go.Proofs.YthejaecljkjliaiGreatDoor
namespace Go.Proofs.YthejaecljkjliaiGreatDoor
open Go.ChangeShapes Go.WideShapes Go.ChangeAt Go.RowKit
set_option linter.unusedVariables false
set_option linter.unusedSimpArgs false

def rdy (n p : Int) : Bool := decide (0 ≤ n ∧ n ≤ 1000000000000 ∧ 0 ≤ p ∧ p ≤ 1000)
theorem rdy_t {n p : Int} (h : rdy n p = true) : 0 ≤ n ∧ n ≤ 1000000000000 ∧ 0 ≤ p ∧ p ≤ 1000 := of_decide_eq_true h
theorem rdy_f {n p : Int} (h : rdy n p = false) : n < 0 ∨ 1000000000000 < n ∨ p < 0 ∨ 1000 < p := by
  have := of_decide_eq_false h; omega
theorem mul_low {a b : Int} (ha : 0 ≤ a) (hb : 0 ≤ b) : 0 ≤ a * b := Int.mul_nonneg ha hb
theorem mul_high {a b x y : Int} (ha : 0 ≤ a) (hb : 0 ≤ b) (hx : a ≤ x) (hy : b ≤ y) : a * b ≤ x * y := Int.mul_le_mul hx hy hb (by omega)
theorem np_b {n p : Int} (h1 : 0 ≤ n) (h2 : n ≤ 1000000000000) (h3 : 0 ≤ p) (h4 : p ≤ 1000) : 0 ≤ n * p ∧ n * p ≤ 1000000000000000 :=
  ⟨mul_low h1 h3, Int.le_trans (mul_high h1 h3 h2 h4) (by decide)⟩
theorem nm_b {n p : Int} (h1 : 0 ≤ n) (h2 : n ≤ 1000000000000) (h3 : 0 ≤ p) (h4 : p ≤ 1000) : 0 ≤ n * (1000000 - p) ∧ n * (1000000 - p) ≤ 1000000000000000000 :=
  ⟨mul_low h1 (by omega), Int.le_trans (mul_high (y := 1000000) h1 (by omega) h2 (by omega)) (by decide)⟩
theorem nq_b {n p : Int} (h1 : 0 ≤ n) (h2 : n ≤ 1000000000000) (h3 : 0 ≤ p) (h4 : p ≤ 1000) : 0 ≤ n * (1000000 + p) ∧ n * (1000000 + p) ≤ 1001000000000000000 :=
  ⟨mul_low h1 (by omega), Int.le_trans (mul_high (y := 1001000) h1 (by omega) h2 (by omega)) (by decide)⟩
theorem quo_b {a b : Int} (h1 : 0 ≤ a) (h2 : 1 ≤ b) : 0 ≤ a / b ∧ a / b ≤ a := IntWalk.tdiv_le a b h1 h2

set_option maxHeartbeats 1000000 in
theorem dcheck_ok (n p : Int) (w : World) (h : rdy n p = true) :
    Calls Tryz.prog 104 #[.int .i64 n, .int .i64 p] w fun e w' => e = .returned (.nilIface) ∧ Below w.heap.size w w' := by
  have q := rdy_t h
  obtain ⟨h1, h2, h3, h4⟩ := q
  clear h
  go_enter Tryz.func104, Tryz.ntmps104
  go_wp2
  go_ret
  exact ⟨rfl, by (repeat (first | exact Below.refl _ _ | refine Below.alloc ?_ (by first | (simp; done) | (simp; omega) | omega) _ | refine Below.setCell ?_ (by first | (simp; done) | (simp; omega) | omega) _ | apply Below.drew | refine below_tr (by assumption) ?_))⟩

set_option maxHeartbeats 1000000 in
theorem dcheck_no (n p : Int) (w : World) (h : rdy n p = false) :
    Calls Tryz.prog 104 #[.int .i64 n, .int .i64 p] w fun e w' => e = .returned (.iface 85 (.int .i64 1)) ∧ Below w.heap.size w w' := by
  have h' := rdy_f h
  clear h
  by_cases h1 : n < 0
  · clear h'
    go_enter Tryz.func104, Tryz.ntmps104
    go_wp2
    go_ret
    exact ⟨rfl, Below.refl _ _⟩
  · by_cases h2 : 1000000000000 < n
    · clear h'
      go_enter Tryz.func104, Tryz.ntmps104
      go_wp2
      go_ret
      exact ⟨rfl, Below.refl _ _⟩
    · by_cases h3 : p < 0
      · clear h'
        go_enter Tryz.func104, Tryz.ntmps104
        go_wp2
        go_ret
        exact ⟨rfl, Below.refl _ _⟩
      · have h4 : 1000 < p := by omega
        clear h'
        go_enter Tryz.func104, Tryz.ntmps104
        go_wp2
        go_ret
        exact ⟨rfl, Below.refl _ _⟩

set_option maxHeartbeats 1000000 in
theorem divideUp_is (a b : Int) (w : World) (h1 : 0 ≤ a) (h2 : a ≤ 2000000000000000000) (h3 : 1 ≤ b) (h4 : b ≤ 2000000) :
    Calls Tryz.prog 105 #[.int .i64 a, .int .i64 b] w fun e w' => e = .returned (.int .i64 ((a + b - 1) / b)) ∧ Below w.heap.size w w' := by
  go_enter Tryz.func105, Tryz.ntmps105
  go_wp2
  go_ret
  exact ⟨rfl, by (repeat (first | exact Below.refl _ _ | refine Below.alloc ?_ (by first | (simp; done) | (simp; omega) | omega) _ | refine Below.setCell ?_ (by first | (simp; done) | (simp; omega) | omega) _ | apply Below.drew | refine below_tr (by assumption) ?_))⟩

end Go.Proofs.YthejaecljkjliaiGreatDoor
namespace Go.Proofs.YthejaecljkjliaiGreatDoor
open Go.ChangeShapes Go.WideShapes Go.ChangeAt Go.RowKit
set_option linter.unusedVariables false

structure Row (u : World) (b : Nat) (vs : List Value) : Prop where
  c : ∀ i v, vs[i]? = some v → u.cell? ⟨b, i, none⟩ = some v
  f : ∀ i v, vs[i]? = some v → u.frozen? ⟨b, i, none⟩ = false

section
variable {W u w : World} {cs : Array Value} {t : TypeId} {b b' : Nat} {vs : List Value} {n i : Nat} {a : Addr} {x : Value} {ob : Obj}
theorem Row.lt (h : Row u b (x :: vs)) : b < u.heap.size := World.block_lt_of_cell? _ _ (h.c 0 x rfl)
theorem Row.on (hb : Below W.heap.size W u) (h : Row W b vs) : Row u b vs :=
  ⟨fun i v hv => by rw [hb.cell (World.block_lt_of_cell? _ _ (h.c i v hv))]; exact h.c i v hv, fun i v hv => by rw [hb.frozen (World.block_lt_of_cell? _ _ (h.c i v hv))]; exact h.f i v hv⟩
theorem Row.al (h : Row W b vs) : Row (W.alloc (.cells cs t)) b vs :=
  ⟨fun i v hv => by rw [World.cell?_alloc_lt _ _ _ (World.block_lt_of_cell? _ _ (h.c i v hv))]; exact h.c i v hv, fun i v hv => by rw [frozen?_alloc_cells]; exact h.f i v hv⟩
theorem Row.made (hb : b = W.heap.size) : Row (W.alloc (.cells vs.toArray t)) b vs :=
  ⟨fun i v hv => by rw [World.cell?_alloc_at _ _ _ _ hb]; simpa using hv, fun i v hv => World.frozen?_alloc_at _ _ _ _ hb⟩
theorem Row.dr (h : Row W b vs) : Row W.drew b vs := ⟨fun i v hv => h.c i v hv, fun i v hv => h.f i v hv⟩
theorem Row.drn (h : Row W b vs) : Row (W.drewN n) b vs := ⟨fun i v hv => h.c i v hv, fun i v hv => h.f i v hv⟩
theorem Row.put (i : Nat) (h : Row W b vs) : Row (W.setCell ⟨b, i, none⟩ x) b (vs.set i x) := by
  refine ⟨fun j v hv => ?_, fun j v hv => ?_⟩
  · by_cases e : i = j
    · subst e
      rw [List.getElem?_set_self'] at hv
      cases hx : vs[i]? with
      | none => rw [hx] at hv; cases hv
      | some y =>
        rw [hx] at hv
        obtain rfl := Option.some.inj hv
        exact World.cell?_setCell_same _ _ _ (h.c i y hx)
    · rw [List.getElem?_set_ne e] at hv
      rw [World.cell?_setCell_other _ _ _ _ (fun q => e (by injection q))]; exact h.c j v hv
  · rw [World.frozen?_setCell]
    by_cases e : i = j
    · subst e
      rw [List.getElem?_set_self'] at hv
      cases hx : vs[i]? with
      | none => rw [hx] at hv; cases hv
      | some y => exact h.f i y hx
    · rw [List.getElem?_set_ne e] at hv; exact h.f j v hv
theorem Row.far (hne : b' ≠ b) (h : Row W b vs) : Row (W.setCell ⟨b', i, none⟩ x) b vs :=
  ⟨fun j v hv => by rw [World.cell?_setCell_far _ _ _ _ hne]; exact h.c j v hv, fun j v hv => by rw [World.frozen?_setCell]; exact h.f j v hv⟩
theorem rbel_on (hb : Below W.heap.size W u) (h : Below w.heap.size w W) : Below w.heap.size w u := h.trans (hb.mono h.size)
theorem rbel_al (h : Below w.heap.size w W) : Below w.heap.size w (W.alloc ob) := h.alloc h.size _
theorem rbel_put (hne : w.heap.size ≤ b) (h : Below w.heap.size w W) : Below w.heap.size w (W.setCell ⟨b, i, none⟩ x) := h.setCell (p := ⟨b, i, none⟩) hne _
theorem rbel_dr (h : Below w.heap.size w W) : Below w.heap.size w W.drew := h.drew
theorem rbel_drn (h : Below w.heap.size w W) : Below w.heap.size w (W.drewN n) := ⟨h.os, h.tape, h.output, h.size, h.block⟩
end
end Go.Proofs.YthejaecljkjliaiGreatDoor
namespace Go.Proofs.YthejaecljkjliaiGreatDoor
set_option linter.unusedVariables false

/-- A letter. -/
structure Lt where
  frm : Int
  to : Int
  ans : Bool
  t1 : Int
  t2 : Int
  t : Int
/-- Clocks that go as they do, how late it is, what is under way. -/
structure Ws where
  n : Nat
  starts : Nat → Int
  rates : Nat → Int
  time : Int
  under : List Lt
namespace Ws
/-- What a clock shows. -/
def rd (S : Ws) (i : Nat) : Int := S.starts i + S.time + (S.time * S.rates i) / 1000000
/-- There is such a clock. -/
def hs (S : Ws) (i : Int) : Prop := 0 ≤ i ∧ i < S.n
/-- What is always so. -/
structure I (S : Ws) : Prop where
  n1 : 1 ≤ S.n
  n6 : S.n ≤ 6
  st : ∀ i, i < S.n → 0 ≤ S.starts i ∧ S.starts i ≤ 1000000
  ra : ∀ i, i < S.n → -1000 ≤ S.rates i ∧ S.rates i ≤ 1000
  t0 : 0 ≤ S.time
  t1 : S.time ≤ 1000000000
  un : S.under.length ≤ 40
theorem rd_in {S : Ws} (h : S.I) {i : Nat} (hi : i < S.n) : -1000001 ≤ (S.time * S.rates i) / 1000000 ∧ (S.time * S.rates i) / 1000000 ≤ 1000000 ∧ -1000000000000 ≤ S.time * S.rates i ∧ S.time * S.rates i ≤ 1000000000000 ∧ -1 ≤ S.rd i ∧ S.rd i ≤ 1002000000 := by
  obtain ⟨a1, a2⟩ := h.st i hi
  obtain ⟨r1, r2⟩ := h.ra i hi
  have t0 := h.t0
  have t1 := h.t1
  have x1 : 0 ≤ S.time * (S.rates i + 1000) := Int.mul_nonneg t0 (by omega)
  have x2 : 0 ≤ S.time * (1000 - S.rates i) := Int.mul_nonneg t0 (by omega)
  have e1 : S.time * (S.rates i + 1000) = S.time * S.rates i + S.time * 1000 := by grind
  have e2 : S.time * (1000 - S.rates i) = S.time * 1000 - S.time * S.rates i := by grind
  unfold rd
  omega
/-- None goes back, and each goes within its bounds. -/
theorem rd_go {S : Ws} (h : S.I) {i : Nat} (hi : i < S.n) {g : Int} (g0 : 0 ≤ g) : S.rd i ≤ ({ S with time := S.time + g } : Ws).rd i ∧ g + (g * S.rates i) / 1000000 ≤ ({ S with time := S.time + g } : Ws).rd i - S.rd i ∧ ({ S with time := S.time + g } : Ws).rd i - S.rd i ≤ g + (g * S.rates i) / 1000000 + 1 := by
  obtain ⟨r1, r2⟩ := h.ra i hi
  have x1 : 0 ≤ g * (S.rates i + 1000) := Int.mul_nonneg g0 (by omega)
  have e1 : g * (S.rates i + 1000) = g * S.rates i + g * 1000 := by grind
  have e2 : (S.time + g) * S.rates i = S.time * S.rates i + g * S.rates i := by grind
  show S.starts i + S.time + (S.time * S.rates i) / 1000000 ≤ S.starts i + (S.time + g) + ((S.time + g) * S.rates i) / 1000000 ∧ g + (g * S.rates i) / 1000000 ≤ S.starts i + (S.time + g) + ((S.time + g) * S.rates i) / 1000000 - (S.starts i + S.time + (S.time * S.rates i) / 1000000) ∧ S.starts i + (S.time + g) + ((S.time + g) * S.rates i) / 1000000 - (S.starts i + S.time + (S.time * S.rates i) / 1000000) ≤ g + (g * S.rates i) / 1000000 + 1
  rw [e2]
  generalize S.time * S.rates i = a at *
  generalize g * S.rates i = b at *
  omega
end Ws
/-- The fault of clocks. -/
def BeE (n : Nat) (z : Nat → Int) (m : Nat) (r : Nat → Int) (ppm e : Int) : Prop :=
  ((ppm < 0 ∨ 1000 < ppm ∨ n < 1 ∨ 6 < n) ∧ e = 1) ∨ ((0 ≤ ppm ∧ ppm ≤ 1000 ∧ 1 ≤ n ∧ n ≤ 6) ∧ m ≠ n ∧ e = 3) ∨
  ((0 ≤ ppm ∧ ppm ≤ 1000 ∧ 1 ≤ n ∧ n ≤ 6) ∧ m = n ∧ (∃ i, i < n ∧ (z i < 0 ∨ 1000000 < z i ∨ r i < -ppm ∨ ppm < r i)) ∧ e = 1) ∨
  ((0 ≤ ppm ∧ ppm ≤ 1000 ∧ 1 ≤ n ∧ n ≤ 6) ∧ m = n ∧ (∀ i, i < n → 0 ≤ z i ∧ z i ≤ 1000000 ∧ -ppm ≤ r i ∧ r i ≤ ppm) ∧ e = 0)
theorem beE_some (n : Nat) (z : Nat → Int) (m : Nat) (r : Nat → Int) (ppm : Int) : ∃ e, BeE n z m r ppm e := by
  by_cases a : 0 ≤ ppm ∧ ppm ≤ 1000 ∧ 1 ≤ n ∧ n ≤ 6
  · by_cases b : m = n
    · by_cases c : ∃ i, i < n ∧ (z i < 0 ∨ 1000000 < z i ∨ r i < -ppm ∨ ppm < r i)
      · exact ⟨1, Or.inr (Or.inr (Or.inl ⟨a, b, c, rfl⟩))⟩
      · refine ⟨0, Or.inr (Or.inr (Or.inr ⟨a, b, fun i hi => ?_, rfl⟩))⟩
        have : ¬ (z i < 0 ∨ 1000000 < z i ∨ r i < -ppm ∨ ppm < r i) := fun q => c ⟨i, hi, q⟩
        omega
    · exact ⟨3, Or.inr (Or.inl ⟨a, b, rfl⟩)⟩
  · exact ⟨1, Or.inl ⟨by omega, rfl⟩⟩
/-- A world at first. -/
def ws0 (n : Nat) (z r : Nat → Int) : Ws := ⟨n, z, r, 0, []⟩
theorem ws0_i {n m : Nat} {z r : Nat → Int} {ppm : Int} (h : BeE n z m r ppm 0) : (ws0 n z r).I := by
  rcases h with ⟨_, e⟩ | ⟨_, _, e⟩ | ⟨_, _, _, e⟩ | ⟨⟨a, b, c, d⟩, _, q, _⟩
  · cases e
  · cases e
  · cases e
  · exact ⟨c, d, fun i hi => ⟨(q i hi).1, (q i hi).2.1⟩, fun i hi => ⟨by have := (q i hi).2.2.1; show -1000 ≤ r i; omega, by have := (q i hi).2.2.2; show r i ≤ 1000; omega⟩, Int.le_refl _, by show (0 : Int) ≤ 1000000000; omega, by show 0 ≤ 40; omega⟩
/-- An act: what the world is behind it, what comes, its fault. -/
def DoR (S : Ws) (wh a b : Int) (S' : Ws) (r : Option Lt) (e : Int) : Prop :=
  (wh = 1 ∧ (a < 0 ∨ 1000000 < a ∨ 1000000000 < S.time + a) ∧ S' = S ∧ r = none ∧ e = 1) ∨
  (wh = 1 ∧ (0 ≤ a ∧ a ≤ 1000000 ∧ S.time + a ≤ 1000000000) ∧ S' = { S with time := S.time + a } ∧ r = none ∧ e = 0) ∨
  (wh = 2 ∧ ¬ (S.hs a ∧ S.hs b) ∧ S' = S ∧ r = none ∧ e = 1) ∨
  (wh = 2 ∧ (S.hs a ∧ S.hs b) ∧ a = b ∧ S' = S ∧ r = none ∧ e = 3) ∨
  (wh = 2 ∧ (S.hs a ∧ S.hs b) ∧ a ≠ b ∧ 40 ≤ S.under.length ∧ S' = S ∧ r = none ∧ e = 4) ∨
  (wh = 2 ∧ (S.hs a ∧ S.hs b) ∧ a ≠ b ∧ S.under.length < 40 ∧ S' = { S with under := S.under ++ [⟨a, b, false, 0, 0, S.rd a.toNat⟩] } ∧ r = none ∧ e = 0) ∨
  ((wh = 3 ∨ wh = 4 ∨ wh = 5) ∧ (a < 0 ∨ (S.under.length : Int) ≤ a) ∧ S' = S ∧ r = none ∧ e = 5) ∨
  (wh = 3 ∧ (0 ≤ a ∧ a < S.under.length) ∧ S' = { S with under := S.under.eraseIdx a.toNat } ∧ r = S.under[a.toNat]? ∧ e = 0) ∨
  (wh = 4 ∧ (0 ≤ a ∧ a < S.under.length) ∧ S' = { S with under := S.under.eraseIdx a.toNat } ∧ r = none ∧ e = 0) ∨
  (wh = 5 ∧ (0 ≤ a ∧ a < S.under.length) ∧ S' = S ∧ r = S.under[a.toNat]? ∧ e = 0) ∨
  ((wh < 1 ∨ 5 < wh) ∧ S' = S ∧ r = none ∧ e = 1)
theorem doR_some (S : Ws) (wh a b : Int) : ∃ S' r e, DoR S wh a b S' r e := by
  by_cases w1 : wh = 1
  · by_cases c : 0 ≤ a ∧ a ≤ 1000000 ∧ S.time + a ≤ 1000000000
    · exact ⟨_, _, _, Or.inr (Or.inl ⟨w1, c, rfl, rfl, rfl⟩)⟩
    · exact ⟨_, _, _, Or.inl ⟨w1, by omega, rfl, rfl, rfl⟩⟩
  by_cases w2 : wh = 2
  · by_cases c : S.hs a ∧ S.hs b
    · by_cases d : a = b
      · exact ⟨_, _, _, Or.inr (Or.inr (Or.inr (Or.inl ⟨w2, c, d, rfl, rfl, rfl⟩)))⟩
      · by_cases l : 40 ≤ S.under.length
        · exact ⟨_, _, _, Or.inr (Or.inr (Or.inr (Or.inr (Or.inl ⟨w2, c, d, l, rfl, rfl, rfl⟩))))⟩
        · exact ⟨_, _, _, Or.inr (Or.inr (Or.inr (Or.inr (Or.inr (Or.inl ⟨w2, c, d, by omega, rfl, rfl, rfl⟩)))))⟩
    · exact ⟨_, _, _, Or.inr (Or.inr (Or.inl ⟨w2, c, rfl, rfl, rfl⟩))⟩
  by_cases wo : wh < 1 ∨ 5 < wh
  · exact ⟨_, _, _, Or.inr (Or.inr (Or.inr (Or.inr (Or.inr (Or.inr (Or.inr (Or.inr (Or.inr (Or.inr ⟨wo, rfl, rfl, rfl⟩)))))))))⟩
  have w3 : wh = 3 ∨ wh = 4 ∨ wh = 5 := by omega
  by_cases c : 0 ≤ a ∧ a < S.under.length
  · rcases w3 with w | w | w
    · exact ⟨_, _, _, Or.inr (Or.inr (Or.inr (Or.inr (Or.inr (Or.inr (Or.inr (Or.inl ⟨w, c, rfl, rfl, rfl⟩)))))))⟩
    · exact ⟨_, _, _, Or.inr (Or.inr (Or.inr (Or.inr (Or.inr (Or.inr (Or.inr (Or.inr (Or.inl ⟨w, c, rfl, rfl, rfl⟩))))))))⟩
    · exact ⟨_, _, _, Or.inr (Or.inr (Or.inr (Or.inr (Or.inr (Or.inr (Or.inr (Or.inr (Or.inr (Or.inl ⟨w, c, rfl, rfl, rfl⟩)))))))))⟩
  · exact ⟨_, _, _, Or.inr (Or.inr (Or.inr (Or.inr (Or.inr (Or.inr (Or.inl ⟨w3, by omega, rfl, rfl, rfl⟩))))))⟩
theorem DoR.i {S S' : Ws} {wh a b e : Int} {r : Option Lt} (h : DoR S wh a b S' r e) (g : S.I) : S'.I := by
  have era : ∀ k, ({ S with under := S.under.eraseIdx k } : Ws).I := fun k => ⟨g.n1, g.n6, g.st, g.ra, g.t0, g.t1, by
    have := g.un
    have l := List.length_eraseIdx_le (l := S.under) (i := k)
    show (S.under.eraseIdx k).length ≤ 40
    omega⟩
  rcases h with ⟨_, _, rfl, _⟩ | ⟨_, c, rfl, _⟩ | ⟨_, _, rfl, _⟩ | ⟨_, _, _, rfl, _⟩ | ⟨_, _, _, _, rfl, _⟩ | ⟨_, _, _, l, rfl, _⟩ | ⟨_, _, rfl, _⟩ | ⟨_, _, rfl, _⟩ | ⟨_, _, rfl, _⟩ | ⟨_, _, rfl, _⟩ | ⟨_, rfl, _⟩
  · exact g
  · exact ⟨g.n1, g.n6, g.st, g.ra, by have := g.t0; show 0 ≤ S.time + a; omega, c.2.2, g.un⟩
  · exact g
  · exact g
  · exact g
  · exact ⟨g.n1, g.n6, g.st, g.ra, g.t0, g.t1, by show (S.under ++ _).length ≤ 40; simp; omega⟩
  · exact g
  · exact era _
  · exact era _
  · exact g
  · exact g
/-- An answer. -/
def AnR (S : Ws) (l : Lt) (S' : Ws) (e : Int) : Prop :=
  (l.ans = true ∧ S' = S ∧ e = 3) ∨ (l.ans = false ∧ ¬ (S.hs l.frm ∧ S.hs l.to) ∧ S' = S ∧ e = 1) ∨
  (l.ans = false ∧ (S.hs l.frm ∧ S.hs l.to) ∧ 40 ≤ S.under.length ∧ S' = S ∧ e = 4) ∨
  (l.ans = false ∧ (S.hs l.frm ∧ S.hs l.to) ∧ S.under.length < 40 ∧ S' = { S with under := S.under ++ [⟨l.to, l.frm, true, l.t, S.rd l.to.toNat, S.rd l.to.toNat⟩] } ∧ e = 0)
theorem anR_some (S : Ws) (l : Lt) : ∃ S' e, AnR S l S' e := by
  cases h : l.ans with
  | true => exact ⟨_, _, Or.inl ⟨h, rfl, rfl⟩⟩
  | false =>
    by_cases c : S.hs l.frm ∧ S.hs l.to
    · by_cases d : 40 ≤ S.under.length
      · exact ⟨_, _, Or.inr (Or.inr (Or.inl ⟨h, c, d, rfl, rfl⟩))⟩
      · exact ⟨_, _, Or.inr (Or.inr (Or.inr ⟨h, c, by omega, rfl, rfl⟩))⟩
    · exact ⟨_, _, Or.inr (Or.inl ⟨h, c, rfl, rfl⟩)⟩
theorem AnR.i {S S' : Ws} {l : Lt} {e : Int} (h : AnR S l S' e) (g : S.I) : S'.I := by
  rcases h with ⟨_, rfl, _⟩ | ⟨_, _, rfl, _⟩ | ⟨_, _, _, rfl, _⟩ | ⟨_, _, q, rfl, _⟩
  · exact g
  · exact g
  · exact g
  · exact ⟨g.n1, g.n6, g.st, g.ra, g.t0, g.t1, by show (S.under ++ _).length ≤ 40; simp; omega⟩
end Go.Proofs.YthejaecljkjliaiGreatDoor
namespace Go.Proofs.YthejaecljkjliaiGreatDoor
set_option linter.unusedVariables false

theorem pigeon : ∀ (n : Nat) (f : Nat → Nat), (∀ t, t ≤ n → f t < n) → ∃ s t, s < t ∧ t ≤ n ∧ f s = f t
  | 0, f, h => absurd (h 0 (Nat.le_refl _)) (by omega)
  | n + 1, f, h => by
    by_cases c : ∃ s, s ≤ n ∧ f s = f (n + 1)
    · obtain ⟨s, hs, e⟩ := c
      exact ⟨s, n + 1, by omega, Nat.le_refl _, e⟩
    · have ne : ∀ s, s ≤ n → f s ≠ f (n + 1) := fun s hs e => c ⟨s, hs, e⟩
      have hm := h (n + 1) (Nat.le_refl _)
      obtain ⟨s, t, h1, h2, h3⟩ := pigeon n (fun t => if f (n + 1) < f t then f t - 1 else f t) (fun t ht => by
        have := h t (by omega)
        have := ne t ht
        show (if f (n + 1) < f t then f t - 1 else f t) < n
        split <;> omega)
      refine ⟨s, t, h1, by omega, ?_⟩
      have a := ne s (by omega)
      have b := ne t h2
      split at h3 <;> split at h3 <;> omega

section
variable {R : Nat → Nat → Int → Prop} {n : Nat}
/-- A way of r arcs from i to k, of c in all. -/
def Wk (R : Nat → Nat → Int → Prop) (r i k : Nat) (c : Int) : Prop := ∃ (v : Nat → Nat) (p : Nat → Int), v 0 = i ∧ v r = k ∧ p 0 = 0 ∧ p r = c ∧ ∀ t, t < r → R (v t) (v (t + 1)) (p (t + 1) - p t)
theorem Wk.nil (i : Nat) : Wk R 0 i i 0 := ⟨fun _ => i, fun _ => 0, rfl, rfl, rfl, rfl, fun t ht => by omega⟩
theorem Wk.zero {i k : Nat} {c : Int} (h : Wk R 0 i k c) : i = k ∧ c = 0 := by
  obtain ⟨v, p, a, b, d, e, _⟩ := h
  exact ⟨a.symm.trans b, e.symm.trans d⟩
theorem Wk.snoc {r i j k : Nat} {a b : Int} (h : Wk R r i j a) (g : R j k b) : Wk R (r + 1) i k (a + b) := by
  obtain ⟨v, p, h1, h2, h3, h4, h5⟩ := h
  refine ⟨fun t => if t ≤ r then v t else k, fun t => if t ≤ r then p t else a + b, ?_, ?_, ?_, ?_, fun t ht => ?_⟩
  · simp only [Nat.zero_le, if_true]; exact h1
  · exact if_neg (by omega)
  · simp only [Nat.zero_le, if_true]; exact h3
  · exact if_neg (by omega)
  · by_cases e : t = r
    · subst e
      simp only [Nat.le_refl, if_true]
      rw [if_neg (by omega), if_neg (by omega), h2, h4, show a + b - a = b by omega]
      exact g
    · simp only
      rw [if_pos (by omega), if_pos (by omega), if_pos (by omega), if_pos (by omega)]
      exact h5 t (by omega)
theorem Wk.last {r i k : Nat} {c : Int} (h : Wk R (r + 1) i k c) : ∃ j a b, Wk R r i j a ∧ R j k b ∧ c = a + b := by
  obtain ⟨v, p, h1, h2, h3, h4, h5⟩ := h
  refine ⟨v r, p r, p (r + 1) - p r, ⟨v, p, h1, rfl, h3, rfl, fun t ht => h5 t (by omega)⟩, ?_, by omega⟩
  have := h5 r (by omega)
  rwa [h2] at this
theorem Wk.app {r i j k : Nat} {a : Int} (h : Wk R r i j a) : ∀ {s : Nat} {b : Int}, Wk R s j k b → Wk R (r + s) i k (a + b) := by
  intro s
  induction s generalizing k with
  | zero =>
    intro b g
    obtain ⟨rfl, rfl⟩ := g.zero
    rw [Int.add_zero]
    exact h
  | succ s ih =>
    intro b g
    obtain ⟨j', a', b', g1, g2, rfl⟩ := g.last
    have := (ih g1).snoc g2
    rwa [Int.add_assoc] at this
/-- A piece of a way. -/
theorem wk_sub {v : Nat → Nat} {p : Nat → Int} {r s t : Nat} (h : ∀ t, t < r → R (v t) (v (t + 1)) (p (t + 1) - p t)) (h1 : s ≤ t) (h2 : t ≤ r) : Wk R (t - s) (v s) (v t) (p t - p s) := by
  refine ⟨fun x => v (s + x), fun x => p (s + x) - p s, rfl, ?_, by simp, ?_, fun x hx => ?_⟩
  · show v (s + (t - s)) = v t
    rw [show s + (t - s) = t by omega]
  · show p (s + (t - s)) - p s = _
    rw [show s + (t - s) = t by omega]
  · have := h (s + x) (by omega)
    show R (v (s + x)) (v (s + (x + 1))) (p (s + (x + 1)) - p s - (p (s + x) - p s))
    rw [show s + (x + 1) = s + x + 1 by omega, show p (s + x + 1) - p s - (p (s + x) - p s) = p (s + x + 1) - p (s + x) by omega]
    exact this
theorem wk_in (hR : ∀ u v c, R u v c → u < n ∧ v < n) {v : Nat → Nat} {p : Nat → Int} {r t : Nat} (h : ∀ t, t < r → R (v t) (v (t + 1)) (p (t + 1) - p t)) (h0 : v 0 < n) (ht : t ≤ r) : v t < n := by
  cases t with
  | zero => exact h0
  | succ t => exact (hR _ _ _ (h t (by omega))).2
/-- A long way comes by a node again. -/
theorem wk_again (hR : ∀ u v c, R u v c → u < n ∧ v < n) {r i k : Nat} {c : Int} (h : Wk R r i k c) (hi : i < n) (hr : n ≤ r) : ∃ (s q x : Nat) (j : Nat) (a b d : Int), 0 < q ∧ q ≤ n ∧ s + q + x = r ∧ Wk R s i j a ∧ Wk R q j j b ∧ Wk R x j k d ∧ c = a + b + d := by
  obtain ⟨v, p, h1, h2, h3, h4, h5⟩ := h
  obtain ⟨s, t, st, tn, e⟩ := pigeon n v (fun t ht => wk_in hR h5 (by rw [h1]; exact hi) (by omega))
  have w1 := wk_sub h5 (show 0 ≤ s by omega) (show s ≤ r by omega)
  have w2 := wk_sub h5 (show s ≤ t by omega) (show t ≤ r by omega)
  have w3 := wk_sub h5 (show t ≤ r by omega) (Nat.le_refl r)
  rw [h1] at w1
  rw [← e] at w2 w3
  rw [h2] at w3
  refine ⟨s - 0, t - s, r - t, v s, p s - p 0, p t - p s, p r - p t, by omega, by omega, by omega, w1, w2, w3, by omega⟩
/-- If no way around is below 0 that is no longer than there are nodes, none is. -/
theorem no_neg (hR : ∀ u v c, R u v c → u < n ∧ v < n) (h : ∀ r i c, r ≤ n → i < n → Wk R r i i c → 0 ≤ c) : ∀ r i c, i < n → Wk R r i i c → 0 ≤ c := by
  intro r
  induction r using Nat.strongRecOn with
  | _ r ih =>
    intro i c hi w
    by_cases hr : r ≤ n
    · exact h r i c hr hi w
    · obtain ⟨s, q, x, j, a, b, d, q0, qn, e, w1, w2, w3, rfl⟩ := wk_again hR w hi (by omega)
      have hj : j < n := by
        cases s with
        | zero => obtain ⟨rfl, _⟩ := w1.zero; exact hi
        | succ s => obtain ⟨_, _, _, _, g, _⟩ := w1.last; exact (hR _ _ _ g).2
      have k1 := h q j b qn hj w2
      have k2 := ih (s + x) (by omega) i (a + d) hi (w1.app w3)
      omega
/-- Then the least ways are short. -/
theorem short (hR : ∀ u v c, R u v c → u < n ∧ v < n) (h : ∀ r i c, i < n → Wk R r i i c → 0 ≤ c) : ∀ r i k c, i < n → Wk R r i k c → ∃ r' c', r' < n ∧ c' ≤ c ∧ Wk R r' i k c' := by
  intro r
  induction r using Nat.strongRecOn with
  | _ r ih =>
    intro i k c hi w
    by_cases hr : r < n
    · exact ⟨r, c, hr, Int.le_refl _, w⟩
    · obtain ⟨s, q, x, j, a, b, d, q0, qn, e, w1, w2, w3, rfl⟩ := wk_again hR w hi (by omega)
      have hj : j < n := by
        cases s with
        | zero => obtain ⟨rfl, _⟩ := w1.zero; exact hi
        | succ s => obtain ⟨_, _, _, _, g, _⟩ := w1.last; exact (hR _ _ _ g).2
      have k1 := h q j b hj w2
      obtain ⟨r', c', a1, a2, a3⟩ := ih (s + x) (by omega) i k (a + d) hi (w1.app w3)
      exact ⟨r', c', a1, by omega, a3⟩
/-- What fits is within. -/
theorem wk_fit {x : Nat → Int} (hx : ∀ u v c, R u v c → x v - x u ≤ c) : ∀ {r i k : Nat} {c : Int}, Wk R r i k c → x k - x i ≤ c := by
  intro r
  induction r with
  | zero =>
    intro i k c w
    obtain ⟨rfl, rfl⟩ := w.zero
    omega
  | succ r ih =>
    intro i k c w
    obtain ⟨j, a, b, w1, g, rfl⟩ := w.last
    have := ih w1
    have := hx _ _ _ g
    omega
theorem wk_more {R' : Nat → Nat → Int → Prop} (h : ∀ u v c, R u v c → R' u v c) {r i k : Nat} {c : Int} (w : Wk R r i k c) : Wk R' r i k c := by
  obtain ⟨v, p, h1, h2, h3, h4, h5⟩ := w
  exact ⟨v, p, h1, h2, h3, h4, fun t ht => h _ _ _ (h5 t ht)⟩

/-- The least of the ways from i to k. -/
def Dst (R : Nat → Nat → Int → Prop) (i k : Nat) (c : Int) : Prop := (∃ r, Wk R r i k c) ∧ ∀ r c', Wk R r i k c' → c ≤ c'
theorem Dst.one {i k : Nat} {c c' : Int} (h : Dst R i k c) (h' : Dst R i k c') : c = c' := by
  obtain ⟨⟨r, w⟩, m⟩ := h
  obtain ⟨⟨r', w'⟩, m'⟩ := h'
  have := m _ _ w'
  have := m' _ _ w
  omega
theorem Dst.tri {i j k : Nat} {a b c : Int} (h1 : Dst R i j a) (h2 : Dst R j k b) (h : Dst R i k c) : c ≤ a + b := by
  obtain ⟨⟨r, w⟩, _⟩ := h1
  obtain ⟨⟨s, w'⟩, _⟩ := h2
  exact h.2 _ _ (w.app w')
theorem Dst.fit {x : Nat → Int} (hx : ∀ u v c, R u v c → x v - x u ≤ c) {i k : Nat} {c : Int} (h : Dst R i k c) : x k - x i ≤ c := by
  obtain ⟨⟨r, w⟩, _⟩ := h
  exact wk_fit hx w
theorem Dst.more {R' : Nat → Nat → Int → Prop} (hm : ∀ u v c, R u v c → R' u v c) {i k : Nat} {c c' : Int} (h : Dst R i k c) (h' : Dst R' i k c') : c' ≤ c := by
  obtain ⟨⟨r, w⟩, _⟩ := h
  exact h'.2 _ _ (wk_more hm w)
/-- Is there a way around below 0? -/
def Neg (R : Nat → Nat → Int → Prop) (n : Nat) : Prop := ∃ r i c, i < n ∧ Wk R r i i c ∧ c < 0
theorem Neg.unfit {x : Nat → Int} (hx : ∀ u v c, R u v c → x v - x u ≤ c) (h : Neg R n) : False := by
  obtain ⟨r, i, c, _, w, lt⟩ := h
  have := wk_fit hx w
  omega
theorem Neg.more {R' : Nat → Nat → Int → Prop} (hm : ∀ u v c, R u v c → R' u v c) (h : Neg R n) : Neg R' n := by
  obtain ⟨r, i, c, a, w, lt⟩ := h
  exact ⟨r, i, c, a, wk_more hm w, lt⟩
theorem not_neg (h : ¬ Neg R n) : ∀ r i c, i < n → Wk R r i i c → 0 ≤ c := fun r i c hi w => by
  apply Classical.byContradiction
  intro k
  exact h ⟨r, i, c, hi, w, by omega⟩
theorem Dst.self (h : ¬ Neg R n) {i : Nat} (hi : i < n) : Dst R i i 0 := ⟨⟨0, Wk.nil i⟩, fun r c w => not_neg h r i c hi w⟩

/-! ### Tables of what is known, made tighter along arcs -/
/-- A table: of each two nodes the least way that was found, if any. -/
abbrev Tb := Nat → Nat → Option Int
def Sound (R : Nat → Nat → Int → Prop) (S : Tb) : Prop := ∀ i k x, S i k = some x → ∃ r, Wk R r i k x
def Upto (R : Nat → Nat → Int → Prop) (n r : Nat) (S : Tb) : Prop := ∀ i k c s, s ≤ r → i < n → Wk R s i k c → ∃ x, S i k = some x ∧ x ≤ c
/-- The second is as tight at least. -/
def Lower (S S' : Tb) : Prop := ∀ i k x, S i k = some x → ∃ y, S' i k = some y ∧ y ≤ x
theorem Lower.refl (S : Tb) : Lower S S := fun i k x h => ⟨x, h, Int.le_refl _⟩
theorem Lower.trans {S T U : Tb} (h : Lower S T) (g : Lower T U) : Lower S U := fun i k x e => by
  obtain ⟨y, h1, h2⟩ := h i k x e
  obtain ⟨z, g1, g2⟩ := g i k y h1
  exact ⟨z, g1, by omega⟩
theorem Upto.lower {r : Nat} {S S' : Tb} (h : Upto R n r S) (l : Lower S S') : Upto R n r S' := fun i k c s hs hi w => by
  obtain ⟨x, h1, h2⟩ := h i k c s hs hi w
  obtain ⟨y, g1, g2⟩ := l i k x h1
  exact ⟨y, g1, by omega⟩
/-- Along all arcs once more. -/
theorem Upto.next {r : Nat} {S S' : Tb} (h : Upto R n r S) (l : Lower S S') (g : ∀ i j k c x, i < n → R j k c → S i j = some x → ∃ y, S' i k = some y ∧ y ≤ x + c) : Upto R n (r + 1) S' := fun i k c s hs hi w => by
  by_cases e : s ≤ r
  · exact (h.lower l) i k c s e hi w
  · obtain rfl : s = r + 1 := by omega
    obtain ⟨j, a, b, w1, q, rfl⟩ := w.last
    obtain ⟨x, h1, h2⟩ := h i j a r (Nat.le_refl _) hi w1
    obtain ⟨y, g1, g2⟩ := g i j k b x hi q h1
    exact ⟨y, g1, by omega⟩
/-- A table of long enough ways, without a way around below 0: it has the least. -/
theorem Upto.least (hR : ∀ u v c, R u v c → u < n ∧ v < n) (hN : ¬ Neg R n) {r : Nat} (hr : n ≤ r + 1) {S : Tb} (h : Upto R n r S) (s : Sound R S) {i k : Nat} (hi : i < n) : (∀ x, S i k = some x → Dst R i k x) ∧ (S i k = none → ∀ r c, ¬ Wk R r i k c) := by
  constructor
  · intro x e
    refine ⟨s i k x e, fun r' c' w => ?_⟩
    obtain ⟨r2, c2, a1, a2, a3⟩ := short hR (not_neg hN) r' i k c' hi w
    obtain ⟨y, h1, h2⟩ := h i k c2 r2 (by omega) hi a3
    rw [e] at h1
    obtain rfl := Option.some.inj h1
    omega
  · intro e r' c' w
    obtain ⟨r2, c2, a1, a2, a3⟩ := short hR (not_neg hN) r' i k c' hi w
    obtain ⟨y, h1, h2⟩ := h i k c2 r2 (by omega) hi a3
    rw [e] at h1
    cases h1
/-- .. and there is one just if the table has one. -/
theorem Upto.neg (hR : ∀ u v c, R u v c → u < n ∧ v < n) {r : Nat} (hr : n ≤ r) {S : Tb} (h : Upto R n r S) (s : Sound R S) : Neg R n ↔ ∃ i x, i < n ∧ S i i = some x ∧ x < 0 := by
  constructor
  · intro hn
    apply Classical.byContradiction
    intro no
    have z : ∀ q i c, q ≤ n → i < n → Wk R q i i c → 0 ≤ c := fun q i c hq hi w => by
      obtain ⟨x, h1, h2⟩ := h i i c q (by omega) hi w
      apply Classical.byContradiction
      intro k
      exact no ⟨i, x, hi, h1, by omega⟩
    obtain ⟨q, i, c, hi, w, lt⟩ := hn
    have := no_neg hR z q i c hi w
    omega
  · rintro ⟨i, x, hi, e, lt⟩
    obtain ⟨q, w⟩ := s i i x e
    exact ⟨q, i, x, hi, w, lt⟩
/-- One step: from i by a to b. -/
def rlx (S : Tb) (i a b : Nat) (c : Int) : Tb := fun i' k =>
  if i' = i ∧ k = b then (match S i a with
    | none => S i b
    | some x => match S i b with
      | none => some (x + c)
      | some y => if x + c < y then some (x + c) else some y)
  else S i' k
theorem rlx_lower (S : Tb) (i a b : Nat) (c : Int) : Lower S (rlx S i a b c) := fun i' k x e => by
  unfold rlx
  by_cases h : i' = i ∧ k = b
  · obtain ⟨rfl, rfl⟩ := h
    rw [if_pos ⟨rfl, rfl⟩]
    cases S i' a with
    | none => exact ⟨x, e, Int.le_refl _⟩
    | some z =>
      rw [e]
      simp only
      split
      · exact ⟨_, rfl, by omega⟩
      · exact ⟨_, rfl, Int.le_refl _⟩
  · rw [if_neg h]; exact ⟨x, e, Int.le_refl _⟩
theorem rlx_sound {S : Tb} (s : Sound R S) {i a b : Nat} {c : Int} (g : R a b c) : Sound R (rlx S i a b c) := fun i' k x e => by
  unfold rlx at e
  by_cases h : i' = i ∧ k = b
  · obtain ⟨rfl, rfl⟩ := h
    rw [if_pos ⟨rfl, rfl⟩] at e
    cases ha : S i' a with
    | none => rw [ha] at e; exact s _ _ _ e
    | some z =>
      rw [ha] at e
      obtain ⟨r, w⟩ := s _ _ _ ha
      cases hb : S i' k with
      | none =>
        rw [hb] at e
        obtain rfl := Option.some.inj e
        exact ⟨_, w.snoc g⟩
      | some y =>
        rw [hb] at e
        simp only at e
        split at e
        · obtain rfl := Option.some.inj e
          exact ⟨_, w.snoc g⟩
        · obtain rfl := Option.some.inj e
          exact s _ _ _ hb
  · rw [if_neg h] at e; exact s _ _ _ e
theorem rlx_does (S : Tb) (i a b : Nat) (c x : Int) (e : S i a = some x) : ∃ y, rlx S i a b c i b = some y ∧ y ≤ x + c := by
  unfold rlx
  rw [if_pos ⟨rfl, rfl⟩, e]
  cases S i b with
  | none => exact ⟨_, rfl, Int.le_refl _⟩
  | some y =>
    simp only
    split
    · exact ⟨_, rfl, Int.le_refl _⟩
    · exact ⟨_, rfl, by omega⟩
/-- The table at the beginning: each node by itself. -/
def tb0 : Tb := fun i k => if i = k then some 0 else none
theorem tb0_sound : Sound R tb0 := fun i k x e => by
  unfold tb0 at e
  by_cases h : i = k
  · subst h
    rw [if_pos rfl] at e
    obtain rfl := Option.some.inj e
    exact ⟨0, Wk.nil i⟩
  · rw [if_neg h] at e; cases e
theorem tb0_upto : Upto R n 0 tb0 := fun i k c s hs hi w => by
  obtain rfl : s = 0 := by omega
  obtain ⟨rfl, rfl⟩ := w.zero
  exact ⟨0, if_pos rfl, Int.le_refl _⟩
end

/-! ### Edges -/
/-- An edge: from a to b at least lo and at most hi more. -/
structure Eg where
  a : Int
  b : Int
  lo : Int
  hi : Int
/-- The arcs of the first m edges. -/
def Arc (q : Nat → Eg) (m : Nat) (u v : Nat) (c : Int) : Prop := ∃ j, j < m ∧ (((u : Int) = (q j).a ∧ (v : Int) = (q j).b ∧ c = (q j).hi) ∨ ((u : Int) = (q j).b ∧ (v : Int) = (q j).a ∧ c = -(q j).lo))
theorem Arc.less {q : Nat → Eg} {m m' u v : Nat} {c : Int} (h : m ≤ m') (g : Arc q m u v c) : Arc q m' u v c := by
  obtain ⟨j, hj, k⟩ := g
  exact ⟨j, by omega, k⟩
theorem Arc.back {q : Nat → Eg} {m u v : Nat} {c : Int} (g : Arc q m u v c) : ∃ c', Arc q m v u c' := by
  obtain ⟨j, hj, ⟨h1, h2, _⟩ | ⟨h1, h2, _⟩⟩ := g
  · exact ⟨_, j, hj, Or.inr ⟨h2, h1, rfl⟩⟩
  · exact ⟨_, j, hj, Or.inl ⟨h2, h1, rfl⟩⟩
/-- A way back. -/
theorem wk_back {q : Nat → Eg} {m : Nat} : ∀ {r i k : Nat} {c : Int}, Wk (Arc q m) r i k c → ∃ r' c', Wk (Arc q m) r' k i c' := by
  intro r
  induction r with
  | zero =>
    intro i k c w
    obtain ⟨rfl, _⟩ := w.zero
    exact ⟨0, 0, Wk.nil i⟩
  | succ r ih =>
    intro i k c w
    obtain ⟨j, a, b, w1, g, _⟩ := w.last
    obtain ⟨r', c', w2⟩ := ih w1
    obtain ⟨c2, g2⟩ := g.back
    exact ⟨_, _, ((Wk.nil k).snoc g2).app w2⟩
/-- Clocks that fit. -/
def FitE (q : Nat → Eg) (m : Nat) (x : Nat → Int) : Prop := ∀ u v c, Arc q m u v c → x v - x u ≤ c
end Go.Proofs.YthejaecljkjliaiGreatDoor
namespace Go.Proofs.YthejaecljkjliaiGreatDoor
open Go.ChangeShapes Go.WideShapes Go.ChangeAt Go.RowKit
set_option linter.unusedVariables false

/-- A letter's cells. -/
def ltc (l : Lt) : List Value := [.int .i64 l.frm, .int .i64 l.to, .bool l.ans, .int .i64 l.t1, .int .i64 l.t2, .int .i64 l.t]
/-- Letters lie in a row behind an address. -/
def Lts (w : World) (b off : Nat) (l : List Lt) : Prop := ∀ i q, l[i]? = some q → ∀ j v, (ltc q)[j]? = some v → w.cell? ⟨b, off + i * 6 + j, none⟩ = some v
theorem Lts.on {W u : World} {b off : Nat} {l : List Lt} (hb : Below W.heap.size W u) (h : Lts W b off l) : Lts u b off l := fun i q hq j v hv => by
  have c := h i q hq j v hv
  rw [hb.cell (World.block_lt_of_cell? _ _ c)]; exact c
def WHanded (w : World) (a : Option Addr) (l : List Lt) : Prop := l.length ≤ 9223372036854775807 ∧ (l = [] ∨ ∃ b off : Nat, a = some ⟨b, off, none⟩ ∧ Lts w b off l)
theorem WHanded.on {W u : World} {a : Option Addr} {l : List Lt} (hb : Below W.heap.size W u) (h : WHanded W a l) : WHanded u a l :=
  ⟨h.1, h.2.imp id (fun ⟨b, off, e, s⟩ => ⟨b, off, e, s.on hb⟩)⟩
/-- A letter as a value. -/
def ltv (l : Lt) : Value := .agg #[.int .i64 l.frm, .int .i64 l.to, .bool l.ans, .int .i64 l.t1, .int .i64 l.t2, .int .i64 l.t]
end Go.Proofs.YthejaecljkjliaiGreatDoor
namespace Go.Proofs.YthejaecljkjliaiGreatDoor
open Go.ChangeShapes Go.WideShapes Go.ChangeAt Go.RowKit Go.Joins
set_option linter.unusedVariables false
set_option linter.unusedSimpArgs false

theorem infoLetter : (Tryz.prog.info? 98).map (fun i => (i.zero, i.size, i.bytes)) = some (some (.agg #[.int .i64 0, .int .i64 0, .bool false, .int .i64 0, .int .i64 0, .int .i64 0]), 6, 48) := by kernel_rfl
/-- Letters' cells, one behind the other. -/
def lcs : List Lt → List Value
  | [] => []
  | l :: r => ltc l ++ lcs r
theorem lcs_app (a b : List Lt) : lcs (a ++ b) = lcs a ++ lcs b := by
  induction a with
  | nil => rfl
  | cons l r ih => show ltc l ++ lcs (r ++ b) = ltc l ++ lcs r ++ lcs b; rw [ih, List.append_assoc]
theorem lcs_len (a : List Lt) : (lcs a).length = a.length * 6 := by
  induction a with
  | nil => rfl
  | cons l r ih => show (ltc l ++ lcs r).length = (r.length + 1) * 6; rw [List.length_append, ih]; show 6 + _ = _; omega
theorem ltc_one (l : Lt) : ∀ u ∈ ltc l, u.oneCell' = true := by
  intro u hu
  simp [ltc] at hu
  rcases hu with rfl | rfl | rfl | rfl | rfl | rfl <;> rfl
theorem lcs_one (a : List Lt) : ∀ u ∈ lcs a, u.oneCell' = true := by
  induction a with
  | nil => intro u hu; cases hu
  | cons l r ih =>
    intro u hu
    rcases List.mem_append.1 hu with h | h
    · exact ltc_one l u h
    · exact ih u h
theorem lcs_at {a : List Lt} {i : Nat} {q : Lt} (h : a[i]? = some q) {j : Nat} {v : Value} (hv : (ltc q)[j]? = some v) : (lcs a)[i * 6 + j]? = some v := by
  induction a generalizing i with
  | nil => cases h
  | cons l r ih =>
    show (ltc l ++ lcs r)[i * 6 + j]? = some v
    cases i with
    | zero =>
      obtain rfl := Option.some.inj h
      have lt : j < (ltc l).length := by
        rcases Nat.lt_or_ge j (ltc l).length with h | h
        · exact h
        · rw [List.getElem?_eq_none h] at hv; cases hv
      rw [Nat.zero_mul, Nat.zero_add, List.getElem?_append_left lt]
      exact hv
    | succ i =>
      have l6 : (ltc l).length = 6 := rfl
      rw [List.getElem?_append_right (by rw [l6]; omega), l6, show (i + 1) * 6 + j - 6 = i * 6 + j by omega]
      exact ih h
end Go.Proofs.YthejaecljkjliaiGreatDoor
namespace Go.Proofs.YthejaecljkjliaiGreatDoor
open Go.ChangeShapes Go.WideShapes Go.ChangeAt Go.RowKit
set_option linter.unusedVariables false

/-- m edges lie in a row behind an address. -/
def Esp (w : World) (b off m : Nat) (q : Nat → Eg) : Prop := ∀ i, i < m → w.cell? ⟨b, off + i * 4, none⟩ = some (.int .i64 (q i).a) ∧ w.cell? ⟨b, off + i * 4 + 1, none⟩ = some (.int .i64 (q i).b) ∧ w.cell? ⟨b, off + i * 4 + 2, none⟩ = some (.int .i64 (q i).lo) ∧ w.cell? ⟨b, off + i * 4 + 3, none⟩ = some (.int .i64 (q i).hi)
theorem Esp.on {W u : World} {b off m : Nat} {q : Nat → Eg} (hb : Below W.heap.size W u) (h : Esp W b off m q) : Esp u b off m q := fun i hi => by
  obtain ⟨h0, h1, h2, h3⟩ := h i hi
  exact ⟨by rw [hb.cell (World.block_lt_of_cell? _ _ h0)]; exact h0, by rw [hb.cell (World.block_lt_of_cell? _ _ h1)]; exact h1, by rw [hb.cell (World.block_lt_of_cell? _ _ h2)]; exact h2, by rw [hb.cell (World.block_lt_of_cell? _ _ h3)]; exact h3⟩
/-- Edges as they are handed over: none, or a row. -/
def EHanded (w : World) (a : Option Addr) (m : Nat) (q : Nat → Eg) : Prop := m ≤ 9223372036854775807 ∧ (m = 0 ∨ ∃ b off : Nat, a = some ⟨b, off, none⟩ ∧ Esp w b off m q)
theorem EHanded.on {W u : World} {a : Option Addr} {m : Nat} {q : Nat → Eg} (hb : Below W.heap.size W u) (h : EHanded W a m q) : EHanded u a m q :=
  ⟨h.1, h.2.imp id (fun ⟨b, off, e, s⟩ => ⟨b, off, e, s.on hb⟩)⟩
/-- Is an edge between nodes? -/
def inN (n : Int) (e : Eg) : Prop := 0 ≤ e.a ∧ e.a < n ∧ 0 ≤ e.b ∧ e.b < n
/-- What is wrong with the edge at a place. -/
def eEr (n : Int) (q : Nat → Eg) (i : Nat) : Int := if (q i).a < 0 ∨ n ≤ (q i).a ∨ (q i).b < 0 ∨ n ≤ (q i).b then 1 else if (q i).a = (q i).b then 3 else if okB (q i).lo (q i).hi = true then 0 else 1
theorem eEr_zero {n : Int} {q : Nat → Eg} {i : Nat} (h : eEr n q i = 0) : inN n (q i) ∧ (q i).a ≠ (q i).b ∧ okB (q i).lo (q i).hi = true := by
  unfold eEr at h
  split at h
  · cases h
  · split at h
    · cases h
    · split at h
      · exact ⟨⟨by omega, by omega, by omega, by omega⟩, by assumption, by assumption⟩
      · cases h
/-- The first fault of the first m. -/
def eFr (n : Int) (q : Nat → Eg) : Nat → Int
  | 0 => 0
  | m + 1 => if eFr n q m = 0 then eEr n q m else eFr n q m
theorem eFr_zero {n : Int} {q : Nat → Eg} : ∀ {m : Nat}, eFr n q m = 0 → ∀ i, i < m → eEr n q i = 0
  | 0, _, i, hi => by omega
  | m + 1, h, i, hi => by
    simp only [eFr] at h
    split at h
    · by_cases e : i = m
      · subst e; exact h
      · exact eFr_zero (by assumption) i (by omega)
    · contradiction
theorem eFr_ok {n : Int} {q : Nat → Eg} : ∀ {m : Nat}, (∀ i, i < m → eEr n q i = 0) → eFr n q m = 0
  | 0, _ => rfl
  | m + 1, h => by simp only [eFr]; rw [if_pos (eFr_ok (fun i hi => h i (by omega)))]; exact h m (by omega)
theorem eFr_first {n : Int} {q : Nat → Eg} {k : Nat} (hg : ∀ i, i < k → eEr n q i = 0) (hb : eEr n q k ≠ 0) : ∀ m, k < m → eFr n q m = eEr n q k
  | 0, h => by omega
  | m + 1, h => by
    simp only [eFr]
    by_cases e : k = m
    · subst e
      rw [if_pos (eFr_ok hg)]
    · rw [eFr_first hg hb m (by omega), if_neg hb]
theorem first_eEr (n : Int) (q : Nat → Eg) : ∀ m, (∀ i, i < m → eEr n q i = 0) ∨ ∃ k, k < m ∧ eEr n q k ≠ 0 ∧ ∀ i, i < k → eEr n q i = 0
  | 0 => Or.inl fun i hi => by omega
  | m + 1 => by
    rcases first_eEr n q m with h | ⟨k, h1, h2, h3⟩
    · by_cases c : eEr n q m = 0
      · refine Or.inl fun i hi => ?_
        by_cases e : i = m
        · subst e; exact c
        · exact h i (by omega)
      · exact Or.inr ⟨m, by omega, c, h⟩
    · exact Or.inr ⟨k, by omega, h2, h3⟩
/-- What is wrong with edges. -/
def eE (n : Int) (q : Nat → Eg) (m : Nat) : Int := if n < 1 ∨ 6 < n then 1 else if 40 < m then 4 else eFr n q m
/-- Edges as they may be. -/
structure Egs (n : Int) (q : Nat → Eg) (m : Nat) : Prop where
  n1 : 1 ≤ n
  n6 : n ≤ 6
  m40 : m ≤ 40
  each : ∀ i, i < m → inN n (q i) ∧ (q i).a ≠ (q i).b ∧ okB (q i).lo (q i).hi = true
theorem eE_zero {n : Int} {q : Nat → Eg} {m : Nat} (h : eE n q m = 0) : Egs n q m := by
  unfold eE at h
  split at h
  · cases h
  · split at h
    · cases h
    · exact ⟨by omega, by omega, by omega, fun i hi => eEr_zero (eFr_zero h i hi)⟩
theorem Egs.arc {n : Nat} {q : Nat → Eg} {m : Nat} (h : Egs n q m) : ∀ u v c, Arc q m u v c → u < n ∧ v < n := by
  rintro u v c ⟨j, hj, ⟨h1, h2, _⟩ | ⟨h1, h2, _⟩⟩
  · obtain ⟨⟨a1, a2, a3, a4⟩, _⟩ := h.each j hj
    omega
  · obtain ⟨⟨a1, a2, a3, a4⟩, _⟩ := h.each j hj
    omega
theorem Egs.small {n : Int} {q : Nat → Eg} {m : Nat} (h : Egs n q m) {u v : Nat} {c : Int} (g : Arc q m u v c) : -1000000000000 ≤ c ∧ c ≤ 1000000000000 := by
  obtain ⟨j, hj, ⟨h1, h2, rfl⟩ | ⟨h1, h2, rfl⟩⟩ := g
  · obtain ⟨_, _, o⟩ := h.each j hj
    have := okB_t o
    omega
  · obtain ⟨_, _, o⟩ := h.each j hj
    have := okB_t o
    omega
end Go.Proofs.YthejaecljkjliaiGreatDoor
namespace Go.Proofs.YthejaecljkjliaiGreatDoor
open Go.ChangeShapes Go.WideShapes Go.ChangeAt Go.RowKit
set_option linter.unusedVariables false
set_option linter.unusedSimpArgs false

theorem nt_b {n t p : Int} (h1 : 0 ≤ n) (h2 : n ≤ 1000000000000) (h5 : 0 ≤ t) (h6 : t ≤ 1000) (h3 : 0 ≤ p) (h4 : p ≤ 1000) : 0 ≤ n * t ∧ n * t ≤ 1000000000000000 ∧ 0 ≤ n * t * p ∧ n * t * p ≤ 1000000000000000000 := by
  obtain ⟨a, b⟩ := np_b h1 h2 h5 h6
  exact ⟨a, b, mul_low a h3, Int.le_trans (mul_high a h3 b h4) (by decide)⟩

set_option maxHeartbeats 1000000 in
theorem growT_ok (n t p : Int) (w : World) (h : rdy n p = true) (h5 : 0 ≤ t) (h6 : t ≤ 1000) :
    Calls Tryz.prog 72 #[.int .i64 n, .int .i64 t, .int .i64 p] w fun e w' => e = .returned (.tuple #[.int .i64 ((n * t * p + 1000000 - 1) / 1000000), .nilIface]) ∧ Below w.heap.size w w' := by
  have q := rdy_t h
  obtain ⟨h1, h2, h3, h4⟩ := q
  obtain ⟨b1, b2, b3, b4⟩ := nt_b h1 h2 h5 h6 h3 h4
  go_enter Tryz.func72, Tryz.ntmps72
  go_wp2_with (first | (go_at_call 104; refine (dcheck_ok _ _ _ (by assumption)).mono ?_; rintro e w1 ⟨rfl, hb⟩; obtain ⟨hc, hf⟩ := bcell hb; have hz := hb.size; (try simp only [World.size_alloc, Nat.add_one_le_iff] at hz); (try (have hz0 : w.heap.size < w1.heap.size := by omega)); (try (have hz1 : w.heap.size + 1 < w1.heap.size := by omega))) | (go_at_call 105; refine (divideUp_is _ _ _ (by omega) (by omega) (by omega) (by omega)).mono ?_; rintro e w1 ⟨rfl, hb⟩; obtain ⟨hc, hf⟩ := bcell hb; have hz := hb.size; (try simp only [World.size_alloc, Nat.add_one_le_iff] at hz); (try (have hz0 : w.heap.size < w1.heap.size := by omega)); (try (have hz1 : w.heap.size + 1 < w1.heap.size := by omega))))
  go_ret2
  exact ⟨rfl, by (repeat (first | exact Below.refl _ _ | refine Below.alloc ?_ (by first | (simp; done) | (simp; omega) | omega) _ | refine Below.setCell ?_ (by first | (simp; done) | (simp; omega) | omega) _ | apply Below.drew | refine below_tr (by assumption) ?_))⟩

set_option maxHeartbeats 1000000 in
theorem growT_no (n t p : Int) (w : World) (h : rdy n p = false) :
    Calls Tryz.prog 72 #[.int .i64 n, .int .i64 t, .int .i64 p] w fun e w' => e = .returned (.tuple #[.int .i64 0, .iface 85 (.int .i64 1)]) ∧ Below w.heap.size w w' := by
  go_enter Tryz.func72, Tryz.ntmps72
  go_wp2_with (first | (go_at_call 104; refine (dcheck_no _ _ _ (by assumption)).mono ?_; rintro e w1 ⟨rfl, hb⟩; obtain ⟨hc, hf⟩ := bcell hb; have hz := hb.size; (try simp only [World.size_alloc, Nat.add_one_le_iff] at hz); (try (have hz0 : w.heap.size < w1.heap.size := by omega)); (try (have hz1 : w.heap.size + 1 < w1.heap.size := by omega))))
  go_ret2
  exact ⟨rfl, by (repeat (first | exact Below.refl _ _ | refine Below.alloc ?_ (by first | (simp; done) | (simp; omega) | omega) _ | refine Below.setCell ?_ (by first | (simp; done) | (simp; omega) | omega) _ | apply Below.drew | refine below_tr (by assumption) ?_))⟩

theorem growT_one (n p : Int) (w : World) (h : rdy n p = true) : Calls Tryz.prog 72 #[.int .i64 n, .int .i64 1, .int .i64 p] w fun e w' => e = .returned (.tuple #[.int .i64 ((n * p + 1000000 - 1) / 1000000), .nilIface]) ∧ Below w.heap.size w w' := by
  have g := growT_ok n 1 p w h (by decide) (by decide)
  rw [Int.mul_one] at g; exact g

end Go.Proofs.YthejaecljkjliaiGreatDoor
namespace Go.Proofs.YthejaecljkjliaiGreatDoor
open Go.ChangeShapes Go.WideShapes Go.ChangeAt Go.RowKit
set_option linter.unusedVariables false
set_option linter.unusedSimpArgs false

set_option maxHeartbeats 1000000 in
theorem dcheck_same (n p : Int) (w : World) (h : rdy n p = true) :
    Calls Tryz.prog 104 #[.int .i64 n, .int .i64 p] w fun e w' => e = .returned (.nilIface) ∧ w' = w := by
  have q := rdy_t h
  obtain ⟨h1, h2, h3, h4⟩ := q
  clear h
  go_enter Tryz.func104, Tryz.ntmps104
  go_wp2
  go_ret
  exact ⟨rfl, rfl⟩
set_option maxHeartbeats 1000000 in
theorem divideUp_same (a b : Int) (w : World) (h1 : 0 ≤ a) (h2 : a ≤ 2000000000000000000) (h3 : 1 ≤ b) (h4 : b ≤ 2000000) :
    Calls Tryz.prog 105 #[.int .i64 a, .int .i64 b] w fun e w' => e = .returned (.int .i64 ((a + b - 1) / b)) ∧ w' = w := by
  go_enter Tryz.func105, Tryz.ntmps105
  go_wp2
  go_ret
  exact ⟨rfl, rfl⟩
set_option maxHeartbeats 1000000 in
theorem growT_same (n t p : Int) (w : World) (h : rdy n p = true) (h5 : 0 ≤ t) (h6 : t ≤ 1000) :
    Calls Tryz.prog 72 #[.int .i64 n, .int .i64 t, .int .i64 p] w fun e w' => e = .returned (.tuple #[.int .i64 ((n * t * p + 1000000 - 1) / 1000000), .nilIface]) ∧ w' = w := by
  have q := rdy_t h
  obtain ⟨h1, h2, h3, h4⟩ := q
  obtain ⟨b1, b2, b3, b4⟩ := nt_b h1 h2 h5 h6 h3 h4
  go_enter Tryz.func72, Tryz.ntmps72
  go_wp2_with (first | (go_at_call 104; refine (dcheck_same _ _ _ (by assumption)).mono ?_; rintro e w1 ⟨rfl, hu⟩; rw [hu]; clear hu) | (go_at_call 105; refine (divideUp_same _ _ _ (by omega) (by omega) (by omega) (by omega)).mono ?_; rintro e w1 ⟨rfl, hu⟩; rw [hu]; clear hu))
  go_ret2
  exact ⟨rfl, rfl⟩
end Go.Proofs.YthejaecljkjliaiGreatDoor
