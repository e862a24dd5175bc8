/- What drift.GrowTimes answers of numbers that are right: the world is as it was. -/
import Derived.Test.YtmomcaodmdlnpahDoorDriftTimes
namespace Go.Proofs.YtmomcaodmdlnpahDoor
open Go.ChangeShapes Go.WideShapes Go.ChangeAt Go.RowKit
set_option linter.unusedVariables false
set_option linter.unusedSimpArgs false

set_option maxHeartbeats 1000000 in
theorem dcheck_same (n p : Int) (w : World) (h : rdy n p = true) :
    Calls Tryd.prog 61 #[.int .i64 n, .int .i64 p] w fun e w' => e = .returned (.nilIface) ∧ w' = w := by
  have q := rdy_t h
  obtain ⟨h1, h2, h3, h4⟩ := q
  clear h
  go_enter Tryd.func61, Tryd.ntmps61
  go_wp2
  go_ret
  exact ⟨rfl, rfl⟩
set_option maxHeartbeats 1000000 in
theorem divideUp_same (a b : Int) (w : World) (h1 : 0 ≤ a) (h2 : a ≤ 2000000000000000000) (h3 : 1 ≤ b) (h4 : b ≤ 2000000) :
    Calls Tryd.prog 62 #[.int .i64 a, .int .i64 b] w fun e w' => e = .returned (.int .i64 ((a + b - 1) / b)) ∧ w' = w := by
  go_enter Tryd.func62, Tryd.ntmps62
  go_wp2
  go_ret
  exact ⟨rfl, rfl⟩
set_option maxHeartbeats 1000000 in
theorem growT_same (n t p : Int) (w : World) (h : rdy n p = true) (h5 : 0 ≤ t) (h6 : t ≤ 1000) :
    Calls Tryd.prog 50 #[.int .i64 n, .int .i64 t, .int .i64 p] w fun e w' => e = .returned (.tuple #[.int .i64 ((n * t * p + 1000000 - 1) / 1000000), .nilIface]) ∧ w' = w := by
  have q := rdy_t h
  obtain ⟨h1, h2, h3, h4⟩ := q
  obtain ⟨b1, b2, b3, b4⟩ := nt_b h1 h2 h5 h6 h3 h4
  go_enter Tryd.func50, Tryd.ntmps50
  go_wp2_with (first | (go_at_call 61; refine (dcheck_same _ _ _ (by assumption)).mono ?_; rintro e w1 ⟨rfl, hu⟩; rw [hu]; clear hu) | (go_at_call 62; refine (divideUp_same _ _ _ (by omega) (by omega) (by omega) (by omega)).mono ?_; rintro e w1 ⟨rfl, hu⟩; rw [hu]; clear hu))
  go_ret2
  exact ⟨rfl, rfl⟩
end Go.Proofs.YtmomcaodmdlnpahDoor
