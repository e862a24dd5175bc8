/- Sums over the first numbers: plain mathematics. -/
import Derived.Test.YtbghpjmjhhjcgagDoorRow
namespace Go.Proofs.YtbghpjmjhhjcgagDoor
set_option linter.unusedVariables false

/-- The sum of the first n. -/
def sumN : Nat → (Nat → Nat) → Nat
  | 0, _ => 0
  | n + 1, g => sumN n g + g n
theorem sumN_congr : ∀ {n : Nat} {g h : Nat → Nat}, (∀ i, i < n → g i = h i) → sumN n g = sumN n h
  | 0, _, _, _ => rfl
  | n + 1, g, h, e => by simp only [sumN]; rw [sumN_congr (fun i hi => e i (by omega)), e n (by omega)]
theorem sumN_zero : ∀ {n : Nat} {g : Nat → Nat}, (∀ i, i < n → g i = 0) → sumN n g = 0
  | 0, _, _ => rfl
  | n + 1, g, e => by simp only [sumN]; rw [sumN_zero (fun i hi => e i (by omega)), e n (by omega)]
theorem sumN_le : ∀ {n : Nat} {g h : Nat → Nat}, (∀ i, i < n → g i ≤ h i) → sumN n g ≤ sumN n h
  | 0, _, _, _ => Nat.le_refl _
  | n + 1, g, h, e => by
    simp only [sumN]
    have := sumN_le (n := n) (g := g) (h := h) (fun i hi => e i (by omega))
    have := e n (by omega)
    omega
theorem sumN_add : ∀ (n : Nat) (g h : Nat → Nat), sumN n (fun i => g i + h i) = sumN n g + sumN n h
  | 0, _, _ => rfl
  | n + 1, g, h => by simp only [sumN]; rw [sumN_add n g h]; omega
theorem sumN_swap : ∀ (n m : Nat) (g : Nat → Nat → Nat), sumN n (fun i => sumN m (fun j => g i j)) = sumN m (fun j => sumN n (fun i => g i j))
  | 0, m, g => by
    show 0 = sumN m (fun j => 0)
    rw [sumN_zero (fun _ _ => rfl)]
  | n + 1, m, g => by
    show sumN n (fun i => sumN m (fun j => g i j)) + sumN m (fun j => g n j) = sumN m (fun j => sumN n (fun i => g i j) + g n j)
    rw [sumN_swap n m g, sumN_add]
theorem sumN_if {n : Nat} {c : Prop} [Decidable c] {g : Nat → Nat} : sumN n (fun i => if c then g i else 0) = if c then sumN n g else 0 := by
  by_cases h : c
  · rw [if_pos h]; exact sumN_congr (fun i _ => if_pos h)
  · rw [if_neg h]; exact sumN_zero (fun i _ => if_neg h)
theorem sumN_mul (c : Nat) : ∀ (n : Nat) (g : Nat → Nat), sumN n (fun i => g i * c) = sumN n g * c
  | 0, _ => by simp [sumN]
  | n + 1, g => by simp only [sumN]; rw [sumN_mul c n g, Nat.add_mul]
/-- One alone counts. -/
theorem sumN_one : ∀ {n i : Nat} {g : Nat → Nat}, i < n → (∀ j, j < n → j ≠ i → g j = 0) → sumN n g = g i
  | 0, i, g, h, _ => by omega
  | n + 1, i, g, h, e => by
    simp only [sumN]
    by_cases q : i = n
    · subst q
      rw [sumN_zero (fun j hj => e j (by omega) (by omega))]
      omega
    · rw [sumN_one (show i < n by omega) (fun j hj => e j (by omega)), e n (by omega) (by omega)]
      omega
/-- One turned: by how much it is more. -/
theorem sumN_more : ∀ {n i : Nat} {g h : Nat → Nat} {c : Nat}, i < n → (∀ j, j < n → j ≠ i → h j = g j) → h i = g i + c → sumN n h = sumN n g + c
  | 0, i, g, h, c, hi, _, _ => by omega
  | n + 1, i, g, h, c, hi, e, q => by
    simp only [sumN]
    by_cases k : i = n
    · subst k
      rw [sumN_congr (g := h) (h := g) (fun j hj => e j (by omega) (by omega)), q]
      omega
    · rw [sumN_more (show i < n by omega) (fun j hj => e j (by omega)) q, e n (by omega) (by omega)]
      omega
/-- How many of the first n there are. -/
def cntN (n : Nat) (p : Nat → Bool) : Nat := sumN n (fun i => if p i = true then 1 else 0)
theorem cntN_lt {n i : Nat} {p q : Nat → Bool} (hi : i < n) (h : ∀ j, j < n → p j = true → q j = true) (hq : q i = true) (hp : p i = false) : cntN n p < cntN n q := by
  have h1 : cntN n (fun j => p j || decide (j = i)) ≤ cntN n q := sumN_le (fun j hj => by
    by_cases a : p j = true
    · simp [a, h j hj a]
    · by_cases b : j = i
      · subst b; simp [hq]
      · simp [a, b])
  have h2 : cntN n (fun j => p j || decide (j = i)) = cntN n p + 1 := sumN_more hi (fun j hj ne => by simp [ne]) (by simp [hp])
  omega
theorem cntN_le (n : Nat) (p : Nat → Bool) : cntN n p ≤ n := by
  have h : ∀ n : Nat, sumN n (fun _ => 1) = n := by
    intro n
    induction n with
    | zero => rfl
    | succ n ih => simp only [sumN]; rw [ih]
  have := sumN_le (n := n) (g := fun i => if p i = true then 1 else 0) (h := fun _ => 1) (fun i _ => by split <;> omega)
  rw [h] at this
  exact this
theorem cntN_one {n : Nat} {p : Nat → Bool} (h : cntN n p = 1) : ∃ i, i < n ∧ p i = true ∧ ∀ j, j < n → p j = true → j = i := by
  have ex : ∃ i, i < n ∧ p i = true := by
    apply Classical.byContradiction
    intro no
    have : cntN n p = 0 := sumN_zero (fun i hi => if_neg (fun e => no ⟨i, hi, e⟩))
    omega
  obtain ⟨i, hi, pi⟩ := ex
  refine ⟨i, hi, pi, fun j hj pj => Classical.byContradiction fun ne => ?_⟩
  have h1 : cntN n (fun k => decide (k = i)) < cntN n p := cntN_lt hj (fun k hk e => by rw [of_decide_eq_true e]; exact pi) pj (by simp [ne])
  have h2 : cntN n (fun k => decide (k = i)) = 1 := (sumN_one hi (fun k hk ne => by simp [ne])).trans (by simp)
  omega
theorem cntN_zero {n : Nat} {p : Nat → Bool} (h : cntN n p = 0) : ∀ i, i < n → p i = false := fun i hi => by
  cases e : p i with
  | false => rfl
  | true =>
    have : cntN n (fun _ => false) < cntN n p := cntN_lt hi (fun j hj e => by cases e) e rfl
    omega
/-- A set without one. -/
def ers (S : Nat → Bool) (i : Nat) (j : Nat) : Bool := S j && !decide (j = i)
theorem ers_self (S : Nat → Bool) (i : Nat) : ers S i i = false := by simp [ers]
theorem ers_ne {S : Nat → Bool} {i j : Nat} (h : j ≠ i) : ers S i j = S j := by simp [ers, h]
theorem ers_ers (S : Nat → Bool) (i j : Nat) : ers (ers S i) j = ers (ers S j) i := by
  funext k
  unfold ers
  cases S k <;> simp [Bool.and_comm]
theorem cntN_ers {n i : Nat} {S : Nat → Bool} (hi : i < n) (h : S i = true) : cntN n S = cntN n (ers S i) + 1 := by
  refine sumN_more hi (fun j hj ne => ?_) ?_
  · rw [ers_ne ne]
  · rw [ers_self, h]; rfl
end Go.Proofs.YtbghpjmjhhjcgagDoor
