/- Package wire, Check besides. -/
import Derived.Test.YtfmaoblhoafnhaiDoorWirePkg
import Derived.Test.YtfmaoblhoafnhaiDoorWireDefC
namespace Go.Proofs.YtfmaoblhoafnhaiDoor
open Go.ChangeShapes Go.WideShapes Go.ChangeAt Go.RowKit Go.Joins
set_option linter.unusedVariables false
set_option linter.unusedSimpArgs false

theorem wrc {w : World} : WrC w := { wrr with check := fun l u _ _ => wcheck_any l u }
end Go.Proofs.YtfmaoblhoafnhaiDoor
