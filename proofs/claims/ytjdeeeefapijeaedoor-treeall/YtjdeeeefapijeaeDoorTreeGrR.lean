/- What package tree's grow must answer of a good root. -/
import Derived.Test.YtjdeeeefapijeaeDoorTreeIdx
import Derived.Test.YtjdeeeefapijeaeDoorTreeRef2
namespace Go.Proofs.YtjdeeeefapijeaeDoor
open Go.ChangeShapes Go.WideShapes Go.ChangeAt Go.RowKit Go.Joins
set_option linter.unusedVariables false

/-- A tree that lies in rows of its own. -/
def GrR (q : Nat → Eg) (m n r : Nat) (w : World) (e : Ending) (w' : World) : Prop :=
  ∃ (g cap gb : Nat), e = .returned (.tuple #[.agg #[.slice (some ⟨g, 0, none⟩) (treeT q m n r).row.length cap, .slice (some ⟨gb, 0, none⟩) n n], .nilIface]) ∧ Nod w' g (treeT q m n r).row ∧ (treeT q m n r).row.length ≤ cap ∧ Blk w' 3 gb (byR n (treeT q m n r)) ∧ Below w.heap.size w w'
theorem Nod.on {W u : World} {g : Nat} {l : List Nat} (hb : Below W.heap.size W u) (h : Nod W g l) : Nod u g l := fun j c hc => by
  rw [hb.cell (World.block_lt_of_cell? _ _ (h j c hc))]; exact h j c hc
theorem Nod.far {W : World} {g b i : Nat} {x : Value} {l : List Nat} (hne : b ≠ g) (h : Nod W g l) : Nod (W.setCell ⟨b, i, none⟩ x) g l := fun j c hc => by
  rw [World.cell?_setCell_far _ _ _ _ hne]; exact h j c hc
end Go.Proofs.YtjdeeeefapijeaeDoor
