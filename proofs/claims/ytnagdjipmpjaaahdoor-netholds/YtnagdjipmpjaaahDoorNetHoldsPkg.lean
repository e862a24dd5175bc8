/- What packages net and bounds answer, as NetHolds wants them. -/
import Derived.Test.YtnagdjipmpjaaahDoorNm16
import Derived.Test.YtnagdjipmpjaaahDoorNetHoldsA
import Derived.Test.YtnagdjipmpjaaahDoorBoundsFit
namespace Go.Proofs.YtnagdjipmpjaaahDoor
open Go.ChangeShapes Go.WideShapes Go.ChangeAt Go.RowKit Go.Joins
set_option linter.unusedVariables false

theorem bdfit {w : World} : netHolds.BdFit w := ⟨fun z a m cap q ca k cc c b e u _ hH hK hz hF => fits_any z a m cap q ca k cc c b e u hH hK hz hF⟩
end Go.Proofs.YtnagdjipmpjaaahDoor
