/- What package wait must answer: Wait. -/
import Derived.Test.YthhhlfbifcnmpagDoorWaitMath
import Derived.Test.YthhhlfbifcnmpagDoorErrC
namespace Go.Proofs.YthhhlfbifcnmpagDoor
open Go.ChangeShapes Go.WideShapes Go.ChangeAt Go.RowKit
set_option linter.unusedVariables false

structure WtW (w0 : World) : Prop where
  wait : ∀ (lo hi t p : Int) (u : World), Below w0.heap.size w0 u → In64 lo → In64 hi → In64 t → In64 p → Calls Tryd.prog 12 #[.agg #[.int .i64 lo, .int .i64 hi], .int .i64 t, .int .i64 p] u fun o w' => o = .returned (.tuple #[.int .i64 (waN lo hi t p), errc (waE lo hi t p)]) ∧ Below u.heap.size u w'
end Go.Proofs.YthhhlfbifcnmpagDoor
