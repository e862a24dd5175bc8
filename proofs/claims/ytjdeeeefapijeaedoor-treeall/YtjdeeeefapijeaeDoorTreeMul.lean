/- math/bits.Mul of one and a small number. -/
import Derived.Test.YtjdeeeefapijeaeDoorTreeRef
namespace Go.Proofs.YtjdeeeefapijeaeDoor
open Go.ChangeShapes Go.WideShapes Go.ChangeAt Go.RowKit Go.Joins
set_option linter.unusedVariables false
set_option linter.unusedSimpArgs false

set_option maxRecDepth 100000 in
set_option maxHeartbeats 4000000 in
theorem mul64_any (n : Nat) (h6 : n ≤ 6) (w : World) :
    Calls Tryd.prog 82 #[.int .u64 1, .int .u64 n] w fun e w' => e = .returned (.tuple #[.int .u64 0, .int .u64 n]) ∧ w' = w := by
  rcases (show n = 0 ∨ n = 1 ∨ n = 2 ∨ n = 3 ∨ n = 4 ∨ n = 5 ∨ n = 6 by omega) with rfl | rfl | rfl | rfl | rfl | rfl | rfl
  all_goals
    go_enter Tryd.func82, Tryd.ntmps82
    go_wp2
    go_ret2
    exact ⟨rfl, rfl⟩
set_option maxRecDepth 100000 in
set_option maxHeartbeats 4000000 in
theorem mul_any (n : Nat) (h6 : n ≤ 6) (w : World) :
    Calls Tryd.prog 73 #[.int .u64 1, .int .u64 n] w fun e w' => e = .returned (.tuple #[.int .u64 0, .int .u64 n]) ∧ w' = w := by
  have cM := mul64_any n h6 w
  go_enter Tryd.func73, Tryd.ntmps73
  go_wp2_with (go_at_call 82; refine cM.mono ?_; rintro e u0 ⟨rfl, hu⟩; rw [hu]; clear hu)
  go_ret2
  exact ⟨rfl, rfl⟩
end Go.Proofs.YtjdeeeefapijeaeDoor
