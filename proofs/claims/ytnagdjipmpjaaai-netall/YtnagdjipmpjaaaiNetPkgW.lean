/- Package net, as NetAll wants it. -/
import Derived.Test.YtnagdjipmpjaaaiNm15
import Derived.Test.YtnagdjipmpjaaaiNetPkgWd
import Derived.Test.YtnagdjipmpjaaaiNm16
namespace Go.Proofs.Ytnagdjipmpjaaai
open Go.ChangeShapes Go.WideShapes Go.ChangeAt Go.RowKit Go.Joins
set_option linter.unusedVariables false
set_option linter.unusedSimpArgs false

def ntw (w : World) : NtW w := { nto w with
  wide := fun b F N T u hR hT hA => by
    obtain ⟨L, hP, rfl⟩ := hR
    exact nwide_at hP hT T hA
  }
end Go.Proofs.Ytnagdjipmpjaaai
