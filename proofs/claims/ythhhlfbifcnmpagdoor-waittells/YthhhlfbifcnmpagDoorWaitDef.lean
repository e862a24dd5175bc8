/- What package wait must answer. -/
import Derived.Test.YthhhlfbifcnmpagDoorWaitDefW
namespace Go.Proofs.YthhhlfbifcnmpagDoor
open Go.ChangeShapes Go.WideShapes Go.ChangeAt Go.RowKit
set_option linter.unusedVariables false

structure WtA (w0 : World) : Prop extends WtW w0 where
  past : ∀ (lo hi t : Int) (u : World), Below w0.heap.size w0 u → In64 lo → In64 hi → In64 t → Calls Tryd.prog 9 #[.agg #[.int .i64 lo, .int .i64 hi], .int .i64 t] u fun o w' => o = .returned (.tuple #[.bool (decide (pfE lo hi t = 0 ∧ t < lo)), errc (pfE lo hi t)]) ∧ Below u.heap.size u w'
  future : ∀ (lo hi t : Int) (u : World), Below w0.heap.size w0 u → In64 lo → In64 hi → In64 t → Calls Tryd.prog 10 #[.agg #[.int .i64 lo, .int .i64 hi], .int .i64 t] u fun o w' => o = .returned (.tuple #[.bool (decide (pfE lo hi t = 0 ∧ hi < t)), errc (pfE lo hi t)]) ∧ Below u.heap.size u w'
  stamp : ∀ (lo hi : Int) (u : World), Below w0.heap.size w0 u → In64 lo → In64 hi → Calls Tryd.prog 7 #[.agg #[.int .i64 lo, .int .i64 hi]] u fun o w' => o = .returned (.tuple #[.int .i64 (stN lo hi), errc (stE lo hi)]) ∧ Below u.heap.size u w'
end Go.Proofs.YthhhlfbifcnmpagDoor
