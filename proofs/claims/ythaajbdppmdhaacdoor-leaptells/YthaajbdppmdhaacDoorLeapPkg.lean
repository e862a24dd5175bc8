/- Package leap answers as the document says, in each world whose tables are as the program's text lays them. -/
import Derived.Test.YthaajbdppmdhaacDoorLeapLp
import Derived.Test.YthaajbdppmdhaacDoorLeapUtc
import Derived.Test.YthaajbdppmdhaacDoorLeapSmear
namespace Go.Proofs.YthaajbdppmdhaacDoor
open Go.ChangeShapes Go.WideShapes Go.ChangeAt Go.RowKit
set_option linter.unusedVariables false

theorem lp {w0 : World} (he : EnvA w0) : Lp w0 where
  check := fun a n cap q u _ hH => check_all a n cap q u hH
  utc := fun a n cap q x y m d h i s e u hu hH wx h' => utc_any a n cap q x y m d h i s e u hH (he.below hu) wx h'
  ahead := fun a n cap q x v e u _ hH wx h => ahead_any a n cap q x v e u hH wx h
theorem lps {w0 : World} (he : EnvA w0) : LpS w0 where
  smear := fun a n cap q x v e u _ hH wx h => smear_any a n cap q x v e u hH wx h
end Go.Proofs.YthaajbdppmdhaacDoor
