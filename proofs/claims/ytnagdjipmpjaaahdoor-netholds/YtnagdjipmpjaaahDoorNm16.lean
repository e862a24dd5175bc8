/- Package net: Show besides. Package net: Edges besides. -/
import Derived.Test.YtnagdjipmpjaaahDoorNm15
namespace Go.Proofs.YtnagdjipmpjaaahDoor
open Go.ChangeShapes Go.WideShapes Go.ChangeAt Go.RowKit Go.Joins
set_option linter.unusedVariables false
set_option linter.unusedSimpArgs false

def ntr (w : World) : NtR w := { nto w with
  read := fun b F N i u hR hT _ => by
    obtain ⟨L, hP, rfl⟩ := hR
    exact nshow_any hP hT.g.i i
  }
end Go.Proofs.YtnagdjipmpjaaahDoor
namespace Go.Proofs.YtnagdjipmpjaaahDoor
open Go.ChangeShapes Go.WideShapes Go.ChangeAt Go.RowKit Go.Joins
set_option linter.unusedVariables false
set_option linter.unusedSimpArgs false

def nte (w : World) : NtE w := { ntr w with
  edges := fun b F N u hR hT => by
    obtain ⟨L, hP, rfl⟩ := hR
    exact nedges_net hP hT
  }
end Go.Proofs.YtnagdjipmpjaaahDoor
