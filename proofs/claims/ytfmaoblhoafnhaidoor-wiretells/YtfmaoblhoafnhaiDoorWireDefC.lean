/- What package wire must answer: Check. -/
import Derived.Test.YtfmaoblhoafnhaiDoorWireDefR
namespace Go.Proofs.YtfmaoblhoafnhaiDoor
open Go.ChangeShapes Go.WideShapes Go.ChangeAt Go.RowKit
set_option linter.unusedVariables false

/-- .. and Check. -/
structure WrC (w0 : World) : Prop extends WrR w0 where
  check : ∀ (l : Lt) (u : World), Below w0.heap.size w0 u → LtW l → Calls Tryd.prog 6 #[ltv l] u fun o w' => o = .returned (errc (ltE l)) ∧ Below u.heap.size u w'
end Go.Proofs.YtfmaoblhoafnhaiDoor
