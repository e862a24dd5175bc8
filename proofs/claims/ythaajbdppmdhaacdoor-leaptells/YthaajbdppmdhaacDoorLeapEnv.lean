/- The tables of package leap, cell by cell. -/
import Derived.Test.YthaajbdppmdhaacDoorLeapHands2
namespace Go.Proofs.YthaajbdppmdhaacDoor
open Go.ChangeShapes Go.WideShapes Go.ChangeAt Go.RowKit
set_option linter.unusedVariables false

def endsTab : List Int := [24, 60, 61]
def worthTab : List Int := [3600, 60, 1]
theorem EnvN.of_cells {w : World} (h : ∀ k, k < endsTab.length → w.cell? ⟨1, k, none⟩ = some (.int .i64 (endsTab.getD k 0))) : EnvN w := ⟨h 0 (by decide), h 1 (by decide), h 2 (by decide)⟩
theorem EnvW.of_cells {w : World} (h : ∀ k, k < worthTab.length → w.cell? ⟨2, k, none⟩ = some (.int .i64 (worthTab.getD k 0))) : EnvW w := ⟨h 0 (by decide), h 1 (by decide), h 2 (by decide)⟩
end Go.Proofs.YthaajbdppmdhaacDoor
