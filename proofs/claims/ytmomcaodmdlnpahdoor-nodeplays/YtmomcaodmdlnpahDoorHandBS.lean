/- Bools and spans in a row, as they are handed over. -/
import Derived.Test.YtmomcaodmdlnpahDoorInts
import Derived.Test.YtmomcaodmdlnpahDoorErrC
namespace Go.Proofs.YtmomcaodmdlnpahDoor
open Go.ChangeShapes Go.WideShapes Go.ChangeAt Go.RowKit
set_option linter.unusedVariables false

def Bls (w : World) (b off n : Nat) (f : Nat → Bool) : Prop := ∀ i, i < n → w.cell? ⟨b, off + i, none⟩ = some (.bool (f i))
theorem Bls.on {W u : World} {b off n : Nat} {f : Nat → Bool} (hb : Below W.heap.size W u) (h : Bls W b off n f) : Bls u b off n f := fun i hi => by
  rw [hb.cell (World.block_lt_of_cell? _ _ (h i hi))]; exact h i hi
def BHanded (w : World) (a : Option Addr) (n : Nat) (f : Nat → Bool) : Prop := n ≤ 9223372036854775807 ∧ (n = 0 ∨ ∃ b off : Nat, a = some ⟨b, off, none⟩ ∧ Bls w b off n f)
theorem BHanded.on {W u : World} {a : Option Addr} {n : Nat} {f : Nat → Bool} (hb : Below W.heap.size W u) (h : BHanded W a n f) : BHanded u a n f :=
  ⟨h.1, h.2.imp id (fun ⟨b, off, e, s⟩ => ⟨b, off, e, s.on hb⟩)⟩
def Sls (w : World) (b off n : Nat) (f : Nat → Int × Int) : Prop := ∀ i, i < n → w.cell? ⟨b, off + i * 2, none⟩ = some (.int .i64 (f i).1) ∧ w.cell? ⟨b, off + i * 2 + 1, none⟩ = some (.int .i64 (f i).2)
theorem Sls.on {W u : World} {b off n : Nat} {f : Nat → Int × Int} (hb : Below W.heap.size W u) (h : Sls W b off n f) : Sls u b off n f := fun i hi => by
  obtain ⟨h0, h1⟩ := h i hi
  exact ⟨by rw [hb.cell (World.block_lt_of_cell? _ _ h0)]; exact h0, by rw [hb.cell (World.block_lt_of_cell? _ _ h1)]; exact h1⟩
def SHanded (w : World) (a : Option Addr) (n : Nat) (f : Nat → Int × Int) : Prop := n ≤ 9223372036854775807 ∧ (n = 0 ∨ ∃ b off : Nat, a = some ⟨b, off, none⟩ ∧ Sls w b off n f)
theorem SHanded.on {W u : World} {a : Option Addr} {n : Nat} {f : Nat → Int × Int} (hb : Below W.heap.size W u) (h : SHanded W a n f) : SHanded u a n f :=
  ⟨h.1, h.2.imp id (fun ⟨b, off, e, s⟩ => ⟨b, off, e, s.on hb⟩)⟩
end Go.Proofs.YtmomcaodmdlnpahDoor
