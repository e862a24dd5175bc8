/- Events, and in how many orders they could be: plain mathematics. -/
import Derived.Test.YtbghpjmjhhjcgagDoorOrdSum
import Derived.Test.YtbghpjmjhhjcgagDoorSpan
namespace Go.Proofs.YtbghpjmjhhjcgagDoor
set_option linter.unusedVariables false

/-- An event: its number, and from when to when it may have been. -/
structure Ev where
  id : Int
  lo : Int
  hi : Int
/-- Is one surely ahead of another one? -/
def sur (f : Nat → Ev) (i k : Nat) : Bool := decide ((f i).hi < (f k).lo)
section
variable {f : Nat → Ev} {n : Nat} {S : Nat → Bool}
/-- In a set nobody is surely ahead of it; it is surely ahead of nobody. -/
def minB (f : Nat → Ev) (n : Nat) (S : Nat → Bool) (i : Nat) : Bool := S i && decide (∀ k, k < n → S k = true → sur f k i = false)
def maxB (f : Nat → Ev) (n : Nat) (S : Nat → Bool) (i : Nat) : Bool := S i && decide (∀ k, k < n → S k = true → sur f i k = false)
theorem minB_t {i : Nat} : minB f n S i = true ↔ S i = true ∧ ∀ k, k < n → S k = true → sur f k i = false := by simp [minB]
theorem maxB_t {i : Nat} : maxB f n S i = true ↔ S i = true ∧ ∀ k, k < n → S k = true → sur f i k = false := by simp [maxB]
/-- In how many orders a set of m can be, by who is first; by who is last. -/
def waysF (f : Nat → Ev) (n : Nat) : Nat → (Nat → Bool) → Nat
  | 0, _ => 1
  | m + 1, S => sumN n (fun i => if minB f n S i = true then waysF f n m (ers S i) else 0)
def waysL (f : Nat → Ev) (n : Nat) : Nat → (Nat → Bool) → Nat
  | 0, _ => 1
  | m + 1, S => sumN n (fun i => if maxB f n S i = true then waysL f n m (ers S i) else 0)
/-- Nobody is surely ahead of himself, where spans are right. -/
def Irr (f : Nat → Ev) (n : Nat) : Prop := ∀ i, i < n → sur f i i = false
theorem pair_same (hI : Irr f n) {i j : Nat} (hi : i < n) (hj : j < n) : (minB f n S i = true ∧ maxB f n (ers S i) j = true) ↔ (maxB f n S j = true ∧ minB f n (ers S j) i = true) := by
  rw [minB_t, maxB_t, minB_t, maxB_t]
  constructor
  · rintro ⟨⟨a1, a2⟩, b1, b2⟩
    have ne : j ≠ i := fun e => by rw [e, ers_self] at b1; cases b1
    rw [ers_ne ne] at b1
    refine ⟨⟨b1, fun k hk sk => ?_⟩, by rw [ers_ne (Ne.symm ne)]; exact a1, fun k hk sk => ?_⟩
    · by_cases e : k = i
      · subst e
        exact a2 j hj b1
      · exact b2 k hk (by rw [ers_ne e]; exact sk)
    · by_cases e : k = j
      · subst e
        rw [ers_self] at sk
        cases sk
      · rw [ers_ne e] at sk
        exact a2 k hk sk
  · rintro ⟨⟨a1, a2⟩, b1, b2⟩
    have ne : i ≠ j := fun e => by rw [e, ers_self] at b1; cases b1
    rw [ers_ne ne] at b1
    refine ⟨⟨b1, fun k hk sk => ?_⟩, by rw [ers_ne (Ne.symm ne)]; exact a1, fun k hk sk => ?_⟩
    · by_cases e : k = j
      · subst e
        exact a2 i hi b1
      · exact b2 k hk (by rw [ers_ne e]; exact sk)
    · by_cases e : k = i
      · subst e
        rw [ers_self] at sk
        cases sk
      · rw [ers_ne e] at sk
        exact a2 k hk sk
/-- By who is first as by who is last. -/
theorem ways_same (hI : Irr f n) : ∀ (m : Nat) (S : Nat → Bool), cntN n S = m → waysF f n m S = waysL f n m S
  | 0, _, _ => rfl
  | 1, S, h => by
    obtain ⟨i, hi, si, only⟩ := cntN_one h
    have a : minB f n S i = true := minB_t.2 ⟨si, fun k hk sk => by rw [only k hk sk]; exact hI i hi⟩
    have b : maxB f n S i = true := maxB_t.2 ⟨si, fun k hk sk => by rw [only k hk sk]; exact hI i hi⟩
    show sumN n (fun i => if minB f n S i = true then 1 else 0) = sumN n (fun i => if maxB f n S i = true then 1 else 0)
    rw [sumN_one hi (fun j hj ne => if_neg (fun e => ne (only j hj (minB_t.1 e).1))), sumN_one hi (fun j hj ne => if_neg (fun e => ne (only j hj (maxB_t.1 e).1))), if_pos a, if_pos b]
  | m + 2, S, h => by
    have e1 : waysF f n (m + 2) S = sumN n (fun i => sumN n (fun j => if minB f n S i = true ∧ maxB f n (ers S i) j = true then waysL f n m (ers (ers S i) j) else 0)) := by
      refine sumN_congr (fun i hi => ?_)
      by_cases a : minB f n S i = true
      · rw [if_pos a, ways_same hI (m + 1) (ers S i) (by have := cntN_ers hi (minB_t.1 a).1; omega)]
        exact sumN_congr (fun j hj => by simp [a])
      · rw [if_neg a, sumN_zero (fun j hj => if_neg (fun e => a e.1))]
    have e2 : waysL f n (m + 2) S = sumN n (fun j => sumN n (fun i => if maxB f n S j = true ∧ minB f n (ers S j) i = true then waysF f n m (ers (ers S j) i) else 0)) := by
      refine sumN_congr (fun j hj => ?_)
      by_cases a : maxB f n S j = true
      · rw [if_pos a, ← ways_same hI (m + 1) (ers S j) (by have := cntN_ers hj (maxB_t.1 a).1; omega)]
        exact sumN_congr (fun i hi => by simp [a])
      · rw [if_neg a, sumN_zero (fun i hi => if_neg (fun e => a e.1))]
    rw [e1, e2, sumN_swap]
    refine sumN_congr (fun j hj => sumN_congr (fun i hi => ?_))
    have p := pair_same (S := S) hI hi hj
    by_cases c : minB f n S i = true ∧ maxB f n (ers S i) j = true
    · rw [if_pos c, if_pos (p.1 c), ers_ers, ways_same hI m _ ?_]
      have c1 := cntN_ers hj (maxB_t.1 (p.1 c).1).1
      have c2 := cntN_ers hi (minB_t.1 (p.1 c).2).1
      omega
    · rw [if_neg c, if_neg (fun q => c (p.2 q))]
/-- 1 times 2, and so on. -/
def fac : Nat → Nat
  | 0 => 1
  | m + 1 => (m + 1) * fac m
theorem waysL_le : ∀ (m : Nat) (S : Nat → Bool), cntN n S = m → waysL f n m S ≤ fac m
  | 0, _, _ => Nat.le_refl _
  | m + 1, S, h => by
    have : waysL f n (m + 1) S ≤ sumN n (fun i => (if S i = true then 1 else 0) * fac m) := sumN_le (fun i hi => by
      by_cases a : maxB f n S i = true
      · have s := (maxB_t.1 a).1
        rw [if_pos a, if_pos s, Nat.one_mul]
        exact waysL_le m (ers S i) (by have := cntN_ers hi s; omega)
      · rw [if_neg a]
        exact Nat.zero_le _)
    rw [sumN_mul] at this
    have e : sumN n (fun i => if S i = true then 1 else 0) = m + 1 := h
    rw [e] at this
    exact this
theorem waysL_congr : ∀ (m : Nat) {S S' : Nat → Bool}, (∀ i, i < n → S i = S' i) → waysL f n m S = waysL f n m S'
  | 0, _, _, _ => rfl
  | m + 1, S, S', h => by
    refine sumN_congr (fun i hi => ?_)
    have e : maxB f n S i = maxB f n S' i := by
      have q : (∀ k, k < n → S k = true → sur f i k = false) ↔ (∀ k, k < n → S' k = true → sur f i k = false) := ⟨fun g k hk s => g k hk (by rw [h k hk]; exact s), fun g k hk s => g k hk (by rw [← h k hk]; exact s)⟩
      unfold maxB
      rw [h i hi, decide_eq_decide.2 q]
    rw [e]
    split
    · exact waysL_congr m (fun k hk => by unfold ers; rw [h k hk])
    · rfl
/-- In how many orders all can be. -/
def mny (f : Nat → Ev) (n : Nat) : Nat := waysL f n n (fun _ => true)
theorem cntN_all : ∀ n : Nat, cntN n (fun _ => true) = n
  | 0 => rfl
  | n + 1 => by
    have := cntN_all n
    unfold cntN at this ⊢
    simp only [sumN, if_true] at this ⊢
    omega
/-- .. where none is surely ahead of another one, and where each is of the next. -/
theorem waysL_free (h : ∀ i k, i < n → k < n → sur f i k = false) : ∀ (m : Nat) (S : Nat → Bool), cntN n S = m → waysL f n m S = fac m
  | 0, _, _ => rfl
  | m + 1, S, c => by
    have : waysL f n (m + 1) S = sumN n (fun i => (if S i = true then 1 else 0) * fac m) := sumN_congr (fun i hi => by
      by_cases s : S i = true
      · rw [if_pos (maxB_t.2 ⟨s, fun k hk _ => h i k hi hk⟩), if_pos s, Nat.one_mul]
        exact waysL_free h m (ers S i) (by have := cntN_ers hi s; omega)
      · rw [if_neg (fun e => s (maxB_t.1 e).1), if_neg s, Nat.zero_mul])
    rw [this, sumN_mul]
    have e : sumN n (fun i => if S i = true then 1 else 0) = m + 1 := c
    rw [e]
    rfl
theorem waysL_apart (h : ∀ i k, i < n → k < n → (sur f i k = true ↔ i < k)) : ∀ (m : Nat), m ≤ n → waysL f n m (fun i => decide (i < m)) = 1
  | 0, _ => rfl
  | m + 1, hm => by
    show sumN n (fun i => if maxB f n (fun i => decide (i < m + 1)) i = true then waysL f n m (ers (fun i => decide (i < m + 1)) i) else 0) = 1
    rw [sumN_one (i := m) (by omega) (fun j hj ne => if_neg (fun e => ?_))]
    · rw [if_pos (maxB_t.2 ⟨by simp, fun k hk s => ?_⟩)]
      · rw [waysL_congr m (S' := fun i => decide (i < m)) (fun i hi => ?_)]
        · exact waysL_apart h m (by omega)
        · unfold ers
          by_cases c : i < m
          · have : i ≠ m := by omega
            simp [c, this, show i < m + 1 by omega]
          · by_cases d : i = m
            · simp [d]
            · simp [c, d]; omega
      · have s' : k < m + 1 := of_decide_eq_true s
        cases e : sur f m k with
        | false => rfl
        | true => have := (h m k (by omega) hk).1 e; omega
    · obtain ⟨a, b⟩ := maxB_t.1 e
      have a' : j < m + 1 := of_decide_eq_true a
      have := b m (by omega) (by simp)
      rw [(h j m hj (by omega)).2 (by omega)] at this
      cases this
end
end Go.Proofs.YtbghpjmjhhjcgagDoor
