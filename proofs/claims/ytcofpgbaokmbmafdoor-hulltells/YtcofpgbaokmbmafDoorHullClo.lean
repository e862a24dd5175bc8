/- What the small functions and closures of package hull answer. -/
import Derived.Test.YtcofpgbaokmbmafDoorHullHigh
import Derived.Test.YtcofpgbaokmbmafDoorHullOwn
import Derived.BigQuiet
namespace Go.Proofs.YtcofpgbaokmbmafDoor
open Go.ChangeShapes Go.WideShapes Go.ChangeAt Go.RowKit Go.Joins
set_option linter.unusedVariables false
set_option linter.unusedSimpArgs false

/-- Is a number too far from 0? -/
def farB (n : Int) : Bool := decide (n < -1000000) || decide (1000000 < n)
theorem isFar_any (n : Int) (w : World) : Calls Tryd.prog 19 #[.int .i64 n] w fun e w' => e = .returned (.bool (farB n)) ∧ w' = w := by
  unfold farB
  by_cases h1 : n < -1000000
  · have d1 : decide (n < -1000000) = true := decide_eq_true h1
    go_enter Tryd.func19, Tryd.ntmps19
    go_wp2
    go_ret
    simp [d1]
  · have d1 : decide (n < -1000000) = false := decide_eq_false h1
    go_enter Tryd.func19, Tryd.ntmps19
    go_wp2
    go_ret
    simp [d1]
/-- Is a point none? -/
def badP (p : Int × Int) : Bool := farB p.1 || farB p.2
theorem badP_iff (p : Int × Int) : badP p = true ↔ ¬ okP p := by
  unfold badP farB okP
  simp only [Bool.or_eq_true, decide_eq_true_eq]
  omega
theorem check1_any (x y : Int) (w : World) : Calls Tryd.prog 18 #[.agg #[.int .i64 x, .int .i64 y]] w fun e w' => e = .returned (.bool (badP (x, y))) ∧ Below w.heap.size w w' := by
  have cF := isFar_any
  unfold badP
  cases hx : farB x
  all_goals
    have HX : Hid (farB x = _) := hx
    go_enter Tryd.func18, Tryd.ntmps18
    go_wp2_with (go_at_call 19; refine (cF _ _).mono ?_; rintro e u ⟨rfl, rfl⟩)
    go_ret
    refine ⟨?_, rbel_al (Below.refl _ _)⟩
    simp [HX.out]
theorem at1_any (x y t : Int) (c : Nat) (w : World) (hc : w.cell? ⟨c, 0, none⟩ = some (.int .i64 t)) : Calls Tryd.prog 29 #[.agg #[.int .i64 x, .int .i64 y], .pointer (some ⟨c, 0, none⟩)] w fun e w' => e = .returned (.bool (decide (x ≤ t))) ∧ Below w.heap.size w w' := by
  have lc : c < w.heap.size := World.block_lt_of_cell? _ _ hc
  have nc : ¬ (c = w.heap.size) := by omega
  go_enter Tryd.func29, Tryd.ntmps29
  go_wp2
  go_ret
  exact ⟨rfl, rbel_al (Below.refl _ _)⟩
theorem at2_any (x y t : Int) (c : Nat) (w : World) (hc : w.cell? ⟨c, 0, none⟩ = some (.int .i64 t)) : Calls Tryd.prog 30 #[.agg #[.int .i64 x, .int .i64 y], .pointer (some ⟨c, 0, none⟩)] w fun e w' => e = .returned (.bool (decide (t ≤ x))) ∧ Below w.heap.size w w' := by
  have lc : c < w.heap.size := World.block_lt_of_cell? _ _ hc
  have nc : ¬ (c = w.heap.size) := by omega
  go_enter Tryd.func30, Tryd.ntmps30
  go_wp2
  go_ret
  exact ⟨rfl, rbel_al (Below.refl _ _)⟩
theorem hgt1_any (x y t : Int) (c : Nat) (w : World) (hc : w.cell? ⟨c, 0, none⟩ = some (.int .i64 t)) : Calls Tryd.prog 31 #[.agg #[.int .i64 x, .int .i64 y], .pointer (some ⟨c, 0, none⟩)] w fun e w' => e = .returned (.bool (decide (t ≤ x))) ∧ Below w.heap.size w w' := by
  have lc : c < w.heap.size := World.block_lt_of_cell? _ _ hc
  have nc : ¬ (c = w.heap.size) := by omega
  go_enter Tryd.func31, Tryd.ntmps31
  go_wp2
  go_ret
  exact ⟨rfl, rbel_al (Below.refl _ _)⟩
theorem high2_any (x y x' y' : Int) (w : World) : Calls Tryd.prog 43 #[.agg #[.int .i64 x, .int .i64 y], .agg #[.int .i64 x', .int .i64 y']] w fun e w' => e = .returned (.bool (x == x')) ∧ Below w.heap.size w w' := by
  go_enter Tryd.func43, Tryd.ntmps43
  go_wp2
  go_ret
  exact ⟨rfl, rbel_al (rbel_al (Below.refl _ _))⟩
theorem isAbove_any (p a b : Int × Int) (w : World) (hp : okP p) (ha : okP a) (hb : okP b) : Calls Tryd.prog 28 #[.agg #[.int .i64 p.1, .int .i64 p.2], .agg #[.int .i64 a.1, .int .i64 a.2], .agg #[.int .i64 b.1, .int .i64 b.2]] w fun e w' => e = .returned (.bool (decide (0 < hgt a b p))) ∧ Below w.heap.size w w' := by
  obtain ⟨⟨p1, p2⟩, p3, p4⟩ := hp
  obtain ⟨⟨a1, a2⟩, a3, a4⟩ := ha
  obtain ⟨⟨b1, b2⟩, b3, b4⟩ := hb
  obtain ⟨m1, m2⟩ := mul_in (u := p.2 - a.2) (v := b.1 - a.1) (by omega) (by omega) (by omega) (by omega)
  obtain ⟨m3, m4⟩ := mul_in (u := b.2 - a.2) (v := p.1 - a.1) (by omega) (by omega) (by omega) (by omega)
  have e1 : IntKind.i64.wrap (p.2 - a.2) = p.2 - a.2 := IntWalk.i64_in _ (by omega)
  have e2 : IntKind.i64.wrap (b.1 - a.1) = b.1 - a.1 := IntWalk.i64_in _ (by omega)
  have e3 : IntKind.i64.wrap (b.2 - a.2) = b.2 - a.2 := IntWalk.i64_in _ (by omega)
  have e4 : IntKind.i64.wrap (p.1 - a.1) = p.1 - a.1 := IntWalk.i64_in _ (by omega)
  obtain ⟨M, hM⟩ : ∃ M, M = (p.2 - a.2) * (b.1 - a.1) := ⟨_, rfl⟩
  obtain ⟨K, hK⟩ : ∃ K, K = (b.2 - a.2) * (p.1 - a.1) := ⟨_, rfl⟩
  have e5 : IntKind.i64.wrap ((p.2 - a.2) * (b.1 - a.1)) = M := by rw [hM]; exact IntWalk.i64_in _ (by omega)
  have e6 : IntKind.i64.wrap ((b.2 - a.2) * (p.1 - a.1)) = K := by rw [hK]; exact IntWalk.i64_in _ (by omega)
  have HR : Hid (decide (0 < hgt a b p) = decide (K < M)) := by
    show decide (0 < hgt a b p) = decide (K < M)
    rw [hM, hK]
    unfold hgt
    exact decide_eq_decide.2 (by omega)
  have d1 : ¬ (w.heap.size = w.heap.size + 1) := by omega
  have d2 : ¬ (w.heap.size = w.heap.size + 1 + 1) := by omega
  have d3 : ¬ (w.heap.size + 1 = w.heap.size + 1 + 1) := by omega
  clear m1 m2 m3 m4 p1 p2 p3 p4 a1 a2 a3 a4 b1 b2 b3 b4 hM hK
  generalize p.1 = px at *
  generalize p.2 = py at *
  generalize a.1 = ax at *
  generalize a.2 = ay at *
  generalize b.1 = bx at *
  generalize b.2 = bY at *
  go_enter Tryd.func28, Tryd.ntmps28
  go_wp2
  go_ret
  exact ⟨by rw [HR.out]; rfl, rbel_al (rbel_al (rbel_al (Below.refl _ _)))⟩
/-- A quotient by a number above 0, rounded up. -/
def divUp (n d : Int) : Int := if 0 < n.tmod d then n.tdiv d + 1 else n.tdiv d
theorem divUp_is (n d : Int) (d0 : 0 < d) : n ≤ divUp n d * d ∧ (divUp n d - 1) * d < n := by
  have e := Int.mul_tdiv_add_tmod n d
  unfold divUp
  split
  · rename_i h
    have : n.tmod d < d := Int.tmod_lt_of_pos n d0
    have e1 : (n.tdiv d + 1) * d = d * n.tdiv d + d := by grind
    have e2 : (n.tdiv d + 1 - 1) * d = d * n.tdiv d := by grind
    omega
  · rename_i h
    have l := tdiv_low n d d0
    refine ⟨?_, l⟩
    have e1 : n.tdiv d * d = d * n.tdiv d := by grind
    omega
theorem divideUp_any (n d : Int) (w : World) (d0 : 0 < d) (h : -4000000000000 ≤ n ∧ n ≤ 4000000000000) : Calls Tryd.prog 32 #[.int .i64 n, .int .i64 d] w fun e w' => e = .returned (.int .i64 (divUp n d)) ∧ w' = w := by
  obtain ⟨t1, t2⟩ := tdiv_in n d d0 h
  have dn : ¬ (d = 0) := by omega
  unfold divUp
  obtain ⟨Q, hQ⟩ : ∃ Q, Q = n.tdiv d := ⟨_, rfl⟩
  rw [← hQ]
  have w2 : IntKind.i64.wrap (n.tdiv d) = Q := by rw [hQ]; exact IntWalk.i64_in _ (by omega)
  have w3 : IntKind.i64.wrap (Q + 1) = Q + 1 := IntWalk.i64_in _ (by omega)
  by_cases c : 0 < n.tmod d
  · rw [if_pos c]
    clear hQ t1 t2 h
    go_enter Tryd.func32, Tryd.ntmps32
    go_wp2
    go_ret
    exact ⟨rfl, rfl⟩
  · rw [if_neg c]
    clear hQ t1 t2 h
    go_enter Tryd.func32, Tryd.ntmps32
    go_wp2
    go_ret
    exact ⟨rfl, rfl⟩
end Go.Proofs.YtcofpgbaokmbmafDoor
