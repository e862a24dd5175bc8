/- Is it so of one of the first n: plain mathematics. -/
import Derived.Test.YthejaecljkjliakDoorSpan
namespace Go.Proofs.YthejaecljkjliakDoor
set_option linter.unusedVariables false

/-- Is it so of one of the first n? -/
def anyB (p : Nat → Bool) : Nat → Bool
  | 0 => false
  | n + 1 => anyB p n || p n
theorem anyB_no {p : Nat → Bool} : ∀ {n : Nat}, (∀ i, i < n → p i = false) → anyB p n = false
  | 0, _ => rfl
  | n + 1, h => by simp only [anyB]; rw [anyB_no (fun i hi => h i (by omega)), h n (by omega)]; rfl
theorem anyB_yes {p : Nat → Bool} : ∀ {n k : Nat}, k < n → p k = true → anyB p n = true
  | 0, k, h, _ => by omega
  | n + 1, k, h, e => by
    simp only [anyB]
    by_cases q : k = n
    · rw [← q, e, Bool.or_true]
    · rw [anyB_yes (show k < n by omega) e]; rfl
theorem anyB_iff {p : Nat → Bool} {n : Nat} : anyB p n = true ↔ ∃ k, k < n ∧ p k = true := by
  constructor
  · intro h
    apply Classical.byContradiction
    intro no
    have := anyB_no (p := p) (n := n) (fun i hi => by
      cases e : p i with
      | false => rfl
      | true => exact absurd ⟨i, hi, e⟩ no)
    rw [this] at h
    cases h
  · rintro ⟨k, h1, h2⟩
    exact anyB_yes h1 h2
theorem anyB_congr {p p' : Nat → Bool} : ∀ {n : Nat}, (∀ i, i < n → p i = p' i) → anyB p n = anyB p' n
  | 0, _ => rfl
  | n + 1, h => by simp only [anyB]; rw [anyB_congr (fun i hi => h i (by omega)), h n (by omega)]
end Go.Proofs.YthejaecljkjliakDoor
