/- What the document asks of a rate and of a span, as one word each. -/
import Derived.Test.YtdhgfdbghfefnaaDoorDriftRef
import Derived.Test.YtdhgfdbghfefnaaDoorRef1
import Derived.Test.YtdhgfdbghfefnaaDoorTold
import Derived.Test.YtdhgfdbghfefnaaDoorTwo
import Derived.Deep.RegionWith
import Derived.Deep.RegionHeld
import Derived.WalkKit
import Derived.ProofKit
import Derived.OpenShut
import Derived.Outline
import Derived.Below
import Derived.IntWalk
import Derived.WalkLawsBesides
namespace Go.Proofs.YtdhgfdbghfefnaaDoor.driftTells
open Go.ChangeShapes Go.WideShapes Go.ChangeAt Go.RowKit Go.Joins Go.Proofs.YtdhgfdbghfefnaaDoor.told
set_option linter.unusedVariables false
set_option linter.unusedSimpArgs false

theorem rready_eq (n p : Int) (r : Bool) (w : World) (h : rdy n p = r) :
    Calls Tryd.prog 23 #[.int .i64 n, .int .i64 p] w fun e w' => e = .returned (.bool r) ∧ Below w.heap.size w w' := by
  rw [← h]; exact rready_any n p w
theorem rspan_eq (a b : Int) (r : Bool) (w : World) (h : okB a b = r) :
    Calls Tryd.prog 6 #[.agg #[.int .i64 a, .int .i64 b]] w fun e w' => e = .returned (.bool r) ∧ Below w.heap.size w w' := by
  rw [← h]; exact rspan_any a b w

end Go.Proofs.YtdhgfdbghfefnaaDoor.driftTells
