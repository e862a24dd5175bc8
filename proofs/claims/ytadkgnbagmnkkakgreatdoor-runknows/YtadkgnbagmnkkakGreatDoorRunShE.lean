/- What strings.Cut reads of the package variables: some number. -/
import Derived.Test.YtadkgnbagmnkkakGreatDoorNm03
import Derived.Lib.SmallJoins
import Derived.Shelf.Vars
import Derived.WalkKit
namespace Go.Proofs.YtadkgnbagmnkkakGreatDoor
open Go.ChangeShapes Go.WideShapes Go.ChangeAt Go.RowKit Go.Joins
set_option linter.unusedVariables false

def ShE (w : World) : Prop := ∃ m, w.cell? ⟨1, 0, none⟩ = some (.int .i64 m)
theorem ShE.below {w w' : World} (h : ShE w) (hb : Below w.heap.size w w') : ShE w' := h.imp fun m hm => by rw [hb.cell (World.block_lt_of_cell? _ _ hm)]; exact hm
theorem shaped_of {W : World} (h : W.ShapedOpen Tryz.prog) : ShE W := Go.Proofs.cell_of_shapedOpen_int (zero := #[.int .i64 0]) (t := 3) h (of_decide_eq_true (by kernel_rfl)) (by kernel_rfl) rfl (by kernel_rfl) (by kernel_rfl) Tryz.underlying3
end Go.Proofs.YtadkgnbagmnkkakGreatDoor
