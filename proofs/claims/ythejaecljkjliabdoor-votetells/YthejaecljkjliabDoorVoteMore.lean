/- That there is what is in the most, and what is sure: plain numbers alone. -/
import Derived.Test.YthejaecljkjliabDoorVoteMath
namespace Go.Proofs.YthejaecljkjliabDoor
set_option linter.unusedVariables false
theorem steps_exist (q : Nat → Int × Int) (n : Nat) : ∃ L, Steps q n L := by
  have hp := List.mergeSort_perm (stepsOf q n) (fun a b => decide (a.1 ≤ b.1))
  have hs : ((stepsOf q n).mergeSort (fun a b => decide (a.1 ≤ b.1))).Pairwise (fun a b => decide (a.1 ≤ b.1) = true) := List.pairwise_mergeSort (by intro a b c; simp; omega) (by intro a b; simp; omega) _
  refine ⟨_, by rw [hp.length_eq, stepsOf_length], fun i j hij hj => ?_, hp⟩
  have hi : i < ((stepsOf q n).mergeSort (fun a b => decide (a.1 ≤ b.1))).length := Nat.lt_trans hij hj
  have := List.pairwise_iff_getElem.1 hs i j hi hj hij
  simp only [el, List.getD, List.getElem?_eq_getElem hj, List.getElem?_eq_getElem hi]
  simpa using this
theorem most_exists {q : Nat → Int × Int} {n : Nat} (ok : ∀ i, i < n → (q i).1 ≤ (q i).2) (h0 : 0 < n) : ∃ lo hi m, IsMost (cnt q n) lo hi m := by
  obtain ⟨L, hL⟩ := steps_exist q n
  exact ⟨_, _, _, most_told hL ok h0⟩
theorem safe_exists {q : Nat → Int × Int} {n : Nat} {K : Int} (ok : ∀ i, i < n → (q i).1 ≤ (q i).2) (h0 : 0 < n) (hK : 1 ≤ K) : (∀ x, cnt q n x < K) ∨ ∃ lo hi, IsSafe (cnt q n) K lo hi := by
  obtain ⟨L, hL⟩ := steps_exist q n
  rcases safe_told hL ok h0 hK with ⟨_, h⟩ | ⟨_, h⟩
  · exact Or.inl h
  · exact Or.inr ⟨_, _, h⟩
end Go.Proofs.YthejaecljkjliabDoor
