/- What the document's own reckoning answers of a probe, as one word each. -/
import Derived.Test.YtdhgfdbghfefnabDoorProbeRefOff
import Derived.Test.YtdhgfdbghfefnabDoorProbeBst
import Derived.Lib.SmallJoins
import Derived.Deep.RegionWith
import Derived.Deep.RegionHeld
import Derived.WalkKit
import Derived.ProofKit
import Derived.OpenShut
import Derived.Outline
import Derived.Below
import Derived.IntWalk
import Derived.WalkLawsBesides
namespace Go.Proofs.YtdhgfdbghfefnabDoor.probeTells
open Go.ChangeShapes Go.WideShapes Go.ChangeAt Go.RowKit Go.Joins Go.Proofs.YtdhgfdbghfefnabDoor.told
set_option linter.unusedVariables false
set_option linter.unusedSimpArgs false

theorem roff_q_ok (q : P4) (p : Int) (w : World) (h : q.e p = 0) :
    Calls Tryd.prog 11 #[.agg #[.int .i64 q.a, .int .i64 q.b, .int .i64 q.c, .int .i64 q.d], .int .i64 p] w fun e w' => e = .returned (.tuple #[.agg #[.int .i64 q.lo, .int .i64 (q.hi p)], .int .i64 0]) ∧ Below w.heap.size w w' := roff_ok _ _ _ _ _ w h
theorem roff_q_no (q : P4) (p : Int) (w : World) (h : q.e p ≠ 0) :
    Calls Tryd.prog 11 #[.agg #[.int .i64 q.a, .int .i64 q.b, .int .i64 q.c, .int .i64 q.d], .int .i64 p] w fun e w' => e = .returned (.tuple #[.agg #[.int .i64 0, .int .i64 0], .int .i64 (q.e p)]) ∧ Below w.heap.size w w' := roff_no _ _ _ _ _ w h

end Go.Proofs.YtdhgfdbghfefnabDoor.probeTells
