/- Package leap answers of labels and texts as the document says, in each world whose tables are as the program's text lays them. -/
import Derived.Test.YthaajbdppmdhaacDoorLeapPkg
import Derived.Test.YthaajbdppmdhaacDoorLeapTais
import Derived.Test.YthaajbdppmdhaacDoorLeapPrint
import Derived.Test.YthaajbdppmdhaacDoorLeapParse
namespace Go.Proofs.YthaajbdppmdhaacDoor
open Go.ChangeShapes Go.WideShapes Go.ChangeAt Go.RowKit
set_option linter.unusedVariables false

theorem lpt {w0 : World} (he : EnvA w0) (ht : EnvT w0) (hN : EnvN w0) (hW : EnvW w0) : LpT w0 where
  tai := fun a n cap q y m d h i s v e u hu hH wy wm wd _ _ _ hT => tai_any a n cap q y m d h i s v e u hH (he.below hu) (hN.below hu) (hW.below hu) wy wm wd hT
  print := fun y m d h i s u hu wy wm wd _ _ _ => lprint_any y m d h i s u (he.below hu) (ht.below hu) (hN.below hu) wy wm wd
  parse := fun t y m d h i s e u hu hm hR => lparse_any t y m d h i s e u (he.below hu) (hN.below hu) hm hR
end Go.Proofs.YthaajbdppmdhaacDoor
