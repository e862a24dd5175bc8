/- The ways through the law CivilWeeks, over what package civil must answer. -/
import Derived.Test.YthaajbdppmdhaacDoorRow
import Derived.Test.YthaajbdppmdhaacDoorCivilRound
import Derived.WalkKit
import Derived.ProofKit
import Derived.OpenShut
import Derived.Outline
import Derived.Below
import Derived.IntWalk
import Derived.WalkLawsBesides
namespace Go.Proofs.YthaajbdppmdhaacDoor.civilWeeks
open Go.ChangeShapes Go.WideShapes Go.ChangeAt Go.RowKit
set_option linter.unusedVariables false
set_option linter.unusedSimpArgs false

theorem year_is (y : Int) (h1 : 1970 ≤ y) (h2 : y ≤ 2199) : dnum y 12 31 - dnum y 1 1 = 336 + mdays y 2 := by
  have e1 : moff y ((12 : Int) - 1).toNat = moff y 11 := rfl
  have e2 : moff y ((1 : Int) - 1).toNat = 0 := rfl
  unfold dnum
  rw [e1, e2, moff_at y 11 (by omega), show ahead (((11 : Nat) : Int) + 1) = 334 from rfl]
  unfold mdays
  cases leapB y <;> simp <;> omega
set_option maxRecDepth 100000 in
set_option maxHeartbeats 4000000 in
theorem low (y : Int) (w : World)
    (hy : y < 1970)
    (c1 : ∀ u, Below w.heap.size w u → Calls Tryd.prog 18 #[.agg #[.int .i64 (y), .int .i64 (1), .int .i64 (1)]] u fun e w' => e = .returned (.tuple #[.int .i64 0, .iface 81 (.int .i64 (1))]) ∧ Below u.heap.size u w')
    (c2 : ∀ u, Below w.heap.size w u → Calls Tryd.prog 18 #[.agg #[.int .i64 (y), .int .i64 (12), .int .i64 (31)]] u fun e w' => e = .returned (.tuple #[.int .i64 0, .iface 81 (.int .i64 (1))]) ∧ Below u.heap.size u w') :
    Calls Tryd.prog 6 #[.int .i64 y] w fun e w' => e = .returned (.bool true) ∧ Below w.heap.size w w' := by
  have cnt : Mark 0 := .mk _
  go_enter Tryd.func6, Tryd.ntmps6
  go_wp2_with (first | (go_at_call 18; have cq : Mark 0 := cnt; refine (c1 _ (Below.refl _ _)).mono ?_; clear cq cnt; have cnt : Mark 1 := .mk _; rintro e u0 ⟨rfl, hb⟩; replace hw : Below w.heap.size w u0 := rbel_on hb (Below.refl _ _); have hs0 := hw.size; clear hb) | (go_at_call 18; have cq : Mark 1 := cnt; refine (c2 _ (hw)).mono ?_; clear cq cnt; have cnt : Mark 2 := .mk _; rintro e u1 ⟨rfl, hb⟩; replace hw : Below w.heap.size w u1 := rbel_on hb (hw); have hs1 := hw.size; clear hb))
  go_ret
  exact ⟨rfl, hw⟩

set_option maxRecDepth 100000 in
set_option maxHeartbeats 4000000 in
theorem high (y : Int) (w : World)
    (h1 : 1970 ≤ y) (hy : 2199 < y)
    (c1 : ∀ u, Below w.heap.size w u → Calls Tryd.prog 18 #[.agg #[.int .i64 (y), .int .i64 (1), .int .i64 (1)]] u fun e w' => e = .returned (.tuple #[.int .i64 0, .iface 81 (.int .i64 (1))]) ∧ Below u.heap.size u w')
    (c2 : ∀ u, Below w.heap.size w u → Calls Tryd.prog 18 #[.agg #[.int .i64 (y), .int .i64 (12), .int .i64 (31)]] u fun e w' => e = .returned (.tuple #[.int .i64 0, .iface 81 (.int .i64 (1))]) ∧ Below u.heap.size u w') :
    Calls Tryd.prog 6 #[.int .i64 y] w fun e w' => e = .returned (.bool true) ∧ Below w.heap.size w w' := by
  have cnt : Mark 0 := .mk _
  go_enter Tryd.func6, Tryd.ntmps6
  go_wp2_with (first | (go_at_call 18; have cq : Mark 0 := cnt; refine (c1 _ (Below.refl _ _)).mono ?_; clear cq cnt; have cnt : Mark 1 := .mk _; rintro e u0 ⟨rfl, hb⟩; replace hw : Below w.heap.size w u0 := rbel_on hb (Below.refl _ _); have hs0 := hw.size; clear hb) | (go_at_call 18; have cq : Mark 1 := cnt; refine (c2 _ (hw)).mono ?_; clear cq cnt; have cnt : Mark 2 := .mk _; rintro e u1 ⟨rfl, hb⟩; replace hw : Below w.heap.size w u1 := rbel_on hb (hw); have hs1 := hw.size; clear hb))
  go_ret
  refine ⟨?_, hw⟩
  have h9 : decide (2199 < y) = true := decide_eq_true hy
  simp [h9]

set_option maxRecDepth 100000 in
set_option maxHeartbeats 4000000 in
theorem inside (y a b k : Int) (w : World)
    (h1 : 0 ≤ a) (h2 : a ≤ 84005) (h3 : 0 ≤ b) (h4 : b ≤ 84005) (h5 : 28 ≤ k) (h6 : k ≤ 29) (h7 : b - a = 336 + k)
    (c1 : ∀ u, Below w.heap.size w u → Calls Tryd.prog 18 #[.agg #[.int .i64 (y), .int .i64 (1), .int .i64 (1)]] u fun e w' => e = .returned (.tuple #[.int .i64 a, .nilIface]) ∧ Below u.heap.size u w')
    (c2 : ∀ u, Below w.heap.size w u → Calls Tryd.prog 18 #[.agg #[.int .i64 (y), .int .i64 (12), .int .i64 (31)]] u fun e w' => e = .returned (.tuple #[.int .i64 b, .nilIface]) ∧ Below u.heap.size u w')
    (c3 : ∀ u, Below w.heap.size w u → Calls Tryd.prog 24 #[.int .i64 y, .int .i64 2] u fun e w' => e = .returned (.tuple #[.int .i64 k, .nilIface]) ∧ Below u.heap.size u w') :
    Calls Tryd.prog 6 #[.int .i64 y] w fun e w' => e = .returned (.bool true) ∧ Below w.heap.size w w' := by
  obtain rfl : b = a + 336 + k := by omega
  clear h7
  have cnt : Mark 0 := .mk _
  go_enter Tryd.func6, Tryd.ntmps6
  go_wp2_with (first | (go_at_call 18; have cq : Mark 0 := cnt; refine (c1 _ (Below.refl _ _)).mono ?_; clear cq cnt; have cnt : Mark 1 := .mk _; rintro e u0 ⟨rfl, hb⟩; replace hw : Below w.heap.size w u0 := rbel_on hb (Below.refl _ _); have hs0 := hw.size; clear hb) | (go_at_call 18; have cq : Mark 1 := cnt; refine (c2 _ (hw)).mono ?_; clear cq cnt; have cnt : Mark 2 := .mk _; rintro e u1 ⟨rfl, hb⟩; replace hw : Below w.heap.size w u1 := rbel_on hb (hw); have hs1 := hw.size; clear hb) | (go_at_call 24; have cq : Mark 2 := cnt; refine (c3 _ (hw)).mono ?_; clear cq cnt; have cnt : Mark 3 := .mk _; rintro e u2 ⟨rfl, hb⟩; replace hw : Below w.heap.size w u2 := rbel_on hb (hw); have hs2 := hw.size; clear hb))
  go_ret
  refine ⟨?_, hw⟩
  have h9 : (a + 336 + k - a == 336 + k) = true := by simp; omega
  first | rfl | simp [h9] | (simp; omega)

end Go.Proofs.YthaajbdppmdhaacDoor.civilWeeks
