/- Package wire, as the laws want it. -/
import Derived.Test.YtfmaoblhoafnhaiWirePkgF
import Derived.Test.YtfmaoblhoafnhaiWirePkgS
namespace Go.Proofs.Ytfmaoblhoafnhai
open Go.ChangeShapes Go.WideShapes Go.ChangeAt Go.RowKit Go.Joins
set_option linter.unusedVariables false
set_option linter.unusedSimpArgs false

theorem wrr {w : World} : WrR w where
  letter := fun l u _ _ => wletter_any l u
  readLetter := fun s u _ h => wreadLetter_any s u h
  span := fun lo hi u _ _ _ => wspan_any lo hi u
  readSpan := fun s u _ h => wreadSpan_any s u h
theorem wr {w : World} : Wr w := wrr.toWr
end Go.Proofs.Ytfmaoblhoafnhai
