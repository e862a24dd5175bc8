/- leap.Check and leap.Ahead answer as the document says. -/
import Derived.Test.YthaajbdppmdhaadLeapDay
import Derived.Test.YthaajbdppmdhaadLeapLpC
namespace Go.Proofs.Ythaajbdppmdhaad
open Go.ChangeShapes Go.WideShapes Go.ChangeAt Go.RowKit
set_option linter.unusedVariables false

theorem lpc {w0 : World} : LpC w0 where
  check := fun a n cap q u _ hH => check_all a n cap q u hH
  ahead := fun a n cap q x v e u _ hH wx h => ahead_any a n cap q x v e u hH wx h
end Go.Proofs.Ythaajbdppmdhaad
