/- Package stat, as it landed: Widths answers as it must, too. -/
import Derived.Test.YthejaecljkjliakDoorStatPkg
import Derived.Test.YthejaecljkjliakDoorStatWid
namespace Go.Proofs.YthejaecljkjliakDoor
open Go.ChangeShapes Go.WideShapes Go.ChangeAt Go.RowKit
set_option linter.unusedVariables false

theorem stw {w : World} : StW w where
  toStM := stm
  widths a n cap q u hb hH hc := widths_any a n cap q u hH
end Go.Proofs.YthejaecljkjliakDoor
