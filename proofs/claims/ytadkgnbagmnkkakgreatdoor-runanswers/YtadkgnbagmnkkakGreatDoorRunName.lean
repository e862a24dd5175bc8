/- What the document's own reckoning (package noonref2) answers of an error's name. -/
import Derived.Test.YtadkgnbagmnkkakGreatDoorNm07
import Derived.Test.YtadkgnbagmnkkakGreatDoorNm03
import Derived.Lib.SmallJoins
import Derived.BigQuiet
import Derived.IntWalk
namespace Go.Proofs.YtadkgnbagmnkkakGreatDoor.rn
open Go.ChangeShapes Go.WideShapes Go.ChangeAt Go.RowKit Go.Joins
set_option linter.unusedVariables false
set_option linter.unusedSimpArgs false

set_option maxRecDepth 100000 in
set_option maxHeartbeats 8000000 in
theorem rname (e : Int) (w : World) (h0 : 0 ≤ e) (h1 : e ≤ 8) :
  Calls Tryz.prog 22 #[.int .i64 e] w fun o w' => o = .returned (.string ⟨(nameB e).toArray⟩) ∧ Below w.heap.size w w' := by
 have c : e = 0 ∨ e = 1 ∨ e = 2 ∨ e = 3 ∨ e = 4 ∨ e = 5 ∨ e = 6 ∨ e = 7 ∨ e = 8 := by omega
 rcases c with rfl | rfl | rfl | rfl | rfl | rfl | rfl | rfl | rfl
 all_goals
  go_enter Tryz.func22, Tryz.ntmps22
  go_wp2
  go_ret
  exact ⟨rfl, rbel_al (Below.refl _ _)⟩
end Go.Proofs.YtadkgnbagmnkkakGreatDoor.rn
