/- What is taken of a row: two numbers, 0 where there is none. -/
import Derived.Test.YtigcliepeapcpajDoorClockRow
namespace Go.Proofs.YtigcliepeapcpajDoor
open Go.ChangeShapes Go.WideShapes Go.ChangeAt Go.RowKit
set_option linter.unusedVariables false

theorem vT_set2 (z : Nat → Int) (j : Nat) (h : j < 2) : ([Value.int .i64 (vT z j 0), .int .i64 (vT z j 1)] : List Value).set j (.int .i64 (z j)) = [.int .i64 (vT z (j + 1) 0), .int .i64 (vT z (j + 1) 1)] := by
  rcases (show j = 0 ∨ j = 1 by omega) with rfl | rfl <;> simp [vT]
end Go.Proofs.YtigcliepeapcpajDoor
