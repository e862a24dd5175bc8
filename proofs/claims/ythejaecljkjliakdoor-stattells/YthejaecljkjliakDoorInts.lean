/- Numbers in a row, as they are handed over; errors by their numbers. -/
import Derived.Test.YthejaecljkjliakDoorRow
import Derived.WalkArith
namespace Go.Proofs.YthejaecljkjliakDoor
open Go.ChangeShapes Go.WideShapes Go.ChangeAt Go.RowKit
set_option linter.unusedVariables false

/-- n numbers lie in a row behind an address. -/
def Nrd (w : World) (b off n : Nat) (z : Nat → Int) : Prop := ∀ i, i < n → w.cell? ⟨b, off + i, none⟩ = some (.int .i64 (z i))
theorem Nrd.on {W u : World} {b off n : Nat} {z : Nat → Int} (hb : Below W.heap.size W u) (h : Nrd W b off n z) : Nrd u b off n z := fun i hi => by
  rw [hb.cell (World.block_lt_of_cell? _ _ (h i hi))]; exact h i hi
def NHanded (w : World) (a : Option Addr) (n : Nat) (z : Nat → Int) : Prop := n ≤ 9223372036854775807 ∧ (n = 0 ∨ ∃ b off : Nat, a = some ⟨b, off, none⟩ ∧ Nrd w b off n z)
theorem NHanded.on {W u : World} {a : Option Addr} {n : Nat} {z : Nat → Int} (hb : Below W.heap.size W u) (h : NHanded W a n z) : NHanded u a n z :=
  ⟨h.1, h.2.imp id (fun ⟨b, off, e, s⟩ => ⟨b, off, e, s.on hb⟩)⟩
end Go.Proofs.YthejaecljkjliakDoor
