/- What the document asks of a span, as one word. -/
import Derived.Test.YtonlhhkepclnpaaDoorSym
import Derived.Test.YtonlhhkepclnpaaDoorTwo
import Derived.Deep.RegionHeld
import Derived.Deep.RegionWith
import Derived.Deep.CutRange
import Derived.BigRegion
import Derived.WalkKit
import Derived.ProofKit
import Derived.OpenShut
import Derived.Outline
import Derived.Below
import Derived.WalkLawsBesides
namespace Go.Proofs.YtonlhhkepclnpaaDoor.spanTells
open Go.ChangeShapes Go.WideShapes Go.ChangeAt Go.RowKit Go.Joins Go.Proofs.YtonlhhkepclnpaaDoor.told
set_option linter.unusedVariables false
set_option linter.unusedSimpArgs false

theorem rspan_eq (a b : Int) (r : Bool) (w : World) (h : okB a b = r) :
    Calls Tryd.prog 6 #[.agg #[.int .i64 a, .int .i64 b]] w fun e w' => e = .returned (.bool r) ∧ Below w.heap.size w w' := by
  rw [← h]; exact rspan_any a b w

end Go.Proofs.YtonlhhkepclnpaaDoor.spanTells
