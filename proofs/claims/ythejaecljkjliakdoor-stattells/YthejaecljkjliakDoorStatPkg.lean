/- Package stat, as it landed: Median, Mean, Wander answer as they must. -/
import Derived.Test.YthejaecljkjliakDoorStatMed
import Derived.Test.YthejaecljkjliakDoorStatMean
import Derived.Test.YthejaecljkjliakDoorStatWan
namespace Go.Proofs.YthejaecljkjliakDoor
open Go.ChangeShapes Go.WideShapes Go.ChangeAt Go.RowKit
set_option linter.unusedVariables false

theorem stm {w : World} : StM w where
  median a n cap z e v u hb hH hc hE hv hz := median_any a n cap z e v u hH hE hv hz
  mean a n cap z e u hb hH hc hE := mean_any a n cap z e u hH hE
  wander a n cap z d e u hb hH hc hd hE := wander_any a n cap z d e u hH hc hE
end Go.Proofs.YthejaecljkjliakDoor
