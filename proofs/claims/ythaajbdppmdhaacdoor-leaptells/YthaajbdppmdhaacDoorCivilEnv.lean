/- The table of days ahead of months, cell by cell. -/
import Derived.Test.YthaajbdppmdhaacDoorCivilTab
namespace Go.Proofs.YthaajbdppmdhaacDoor
open Go.ChangeShapes Go.WideShapes Go.ChangeAt Go.RowKit
set_option linter.unusedVariables false

def aheadTab : List Int := [0, 31, 59, 90, 120, 151, 181, 212, 243, 273, 304, 334, 365]
theorem EnvA.of_cells {w : World} (h : ∀ k, k < aheadTab.length → w.cell? ⟨0, k, none⟩ = some (.int .i64 (aheadTab.getD k 0))) : EnvA w := fun k hk => by
  rw [h k hk]
  match k, hk with
  | 0, _ => rfl
  | 1, _ => rfl
  | 2, _ => rfl
  | 3, _ => rfl
  | 4, _ => rfl
  | 5, _ => rfl
  | 6, _ => rfl
  | 7, _ => rfl
  | 8, _ => rfl
  | 9, _ => rfl
  | 10, _ => rfl
  | 11, _ => rfl
  | 12, _ => rfl
end Go.Proofs.YthaajbdppmdhaacDoor
