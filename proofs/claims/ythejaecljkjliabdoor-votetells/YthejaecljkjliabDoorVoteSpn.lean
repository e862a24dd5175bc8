/- Worlds that keep all but some blocks; spans in a row. -/
import Derived.Test.YthejaecljkjliabDoorRow
import Derived.Test.YthejaecljkjliabDoorKeeps
import Derived.Test.YthejaecljkjliabDoorVoteMath
import Derived.OwnWalk
import Derived.WalkSmall
namespace Go.Proofs.YthejaecljkjliabDoor
open Go.ChangeShapes Go.WideShapes Go.ChangeAt Go.RowKit
set_option linter.unusedVariables false

/-- n spans lie in a row behind an address. -/
def Sps (w : World) (b off n : Nat) (q : Nat → Int × Int) : Prop := ∀ i, i < n → w.cell? ⟨b, off + i * 2, none⟩ = some (.int .i64 (q i).1) ∧ w.cell? ⟨b, off + i * 2 + 1, none⟩ = some (.int .i64 (q i).2)
theorem Sps.on {W u : World} {b off n : Nat} {q : Nat → Int × Int} (hb : Below W.heap.size W u) (h : Sps W b off n q) : Sps u b off n q := fun i hi => by
  obtain ⟨h0, h1⟩ := h i hi
  exact ⟨by rw [hb.cell (World.block_lt_of_cell? _ _ h0)]; exact h0, by rw [hb.cell (World.block_lt_of_cell? _ _ h1)]; exact h1⟩
theorem Sps.onK {S : Nat → Prop} {W u : World} {b off n : Nat} {q : Nat → Int × Int} (hb : Keeps S W u) (hn : ¬ S b) (h : Sps W b off n q) : Sps u b off n q := fun i hi => ⟨hb.cell hn (h i hi).1, hb.cell hn (h i hi).2⟩
/-- A row of none that the call made. -/
theorem own_empty (w : World) (e : TypeId) (size : Nat) : (w.alloc (.cells #[] e)).ownsRow w.heap.size e size (.slice (some ⟨w.heap.size, 0, none⟩) 0 0) 0 [] := by
  refine ⟨by simp, Or.inr ⟨w.heap.size, 0, #[], rfl, Nat.le_refl _, ?_, Nat.le_refl _, Nat.zero_le _, by simp, by simp⟩⟩
  show (w.heap.push _)[w.heap.size]? = _
  simp
/-- What the call owns it owns still where nothing that was there has turned. -/
theorem own_on {w u : World} {base : Nat} {e : TypeId} {size n : Nat} {v : Value} {xs : List Value} (hb : Below w.heap.size w u) (h : w.ownsRow base e size v n xs) : u.ownsRow base e size v n xs := by
  refine ⟨h.1, ?_⟩
  rcases h.2 with h | ⟨g, cap, cur, h1, h2, h3, h4⟩
  · exact Or.inl h
  · exact Or.inr ⟨g, cap, cur, h1, h2, (hb.block g (by
      apply Classical.byContradiction
      intro hn
      rw [Array.getElem?_eq_none (by omega)] at h3
      cases h3)).trans h3, h4⟩
end Go.Proofs.YthejaecljkjliabDoor
