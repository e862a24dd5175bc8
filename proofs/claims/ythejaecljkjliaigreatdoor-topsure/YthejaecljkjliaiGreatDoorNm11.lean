/- Sums over the first numbers: plain mathematics. Events, and in how many orders they could be: plain mathematics. Sets as numbers, and in how many orders they can come: plain mathematics. Events in a row, as they are handed over; what package order must answer. In how many spans a number is; what is in the most of them, and in at least so many; and that a walk over the numbers at which spans begin and end tells it. Plain numbers alone. Worlds that keep all but some blocks; spans in a row. What a sort of a row of the call's own leaves of what was there ahead, and what it holds then. -/
import Derived.Test.YthejaecljkjliaiGreatDoorNm01
import Derived.Test.YthejaecljkjliaiGreatDoorNm02
import Derived.OwnWalk
import Derived.WalkSmall
import Derived.Shelf.SlSortCmp.WholeK
namespace Go.Proofs.YthejaecljkjliaiGreatDoor
set_option linter.unusedVariables false

/-- The sum of the first n. -/
def sumN : Nat → (Nat → Nat) → Nat
  | 0, _ => 0
  | n + 1, g => sumN n g + g n
theorem sumN_congr : ∀ {n : Nat} {g h : Nat → Nat}, (∀ i, i < n → g i = h i) → sumN n g = sumN n h
  | 0, _, _, _ => rfl
  | n + 1, g, h, e => by simp only [sumN]; rw [sumN_congr (fun i hi => e i (by omega)), e n (by omega)]
theorem sumN_zero : ∀ {n : Nat} {g : Nat → Nat}, (∀ i, i < n → g i = 0) → sumN n g = 0
  | 0, _, _ => rfl
  | n + 1, g, e => by simp only [sumN]; rw [sumN_zero (fun i hi => e i (by omega)), e n (by omega)]
theorem sumN_le : ∀ {n : Nat} {g h : Nat → Nat}, (∀ i, i < n → g i ≤ h i) → sumN n g ≤ sumN n h
  | 0, _, _, _ => Nat.le_refl _
  | n + 1, g, h, e => by
    simp only [sumN]
    have := sumN_le (n := n) (g := g) (h := h) (fun i hi => e i (by omega))
    have := e n (by omega)
    omega
theorem sumN_add : ∀ (n : Nat) (g h : Nat → Nat), sumN n (fun i => g i + h i) = sumN n g + sumN n h
  | 0, _, _ => rfl
  | n + 1, g, h => by simp only [sumN]; rw [sumN_add n g h]; omega
theorem sumN_swap : ∀ (n m : Nat) (g : Nat → Nat → Nat), sumN n (fun i => sumN m (fun j => g i j)) = sumN m (fun j => sumN n (fun i => g i j))
  | 0, m, g => by
    show 0 = sumN m (fun j => 0)
    rw [sumN_zero (fun _ _ => rfl)]
  | n + 1, m, g => by
    show sumN n (fun i => sumN m (fun j => g i j)) + sumN m (fun j => g n j) = sumN m (fun j => sumN n (fun i => g i j) + g n j)
    rw [sumN_swap n m g, sumN_add]
theorem sumN_if {n : Nat} {c : Prop} [Decidable c] {g : Nat → Nat} : sumN n (fun i => if c then g i else 0) = if c then sumN n g else 0 := by
  by_cases h : c
  · rw [if_pos h]; exact sumN_congr (fun i _ => if_pos h)
  · rw [if_neg h]; exact sumN_zero (fun i _ => if_neg h)
theorem sumN_mul (c : Nat) : ∀ (n : Nat) (g : Nat → Nat), sumN n (fun i => g i * c) = sumN n g * c
  | 0, _ => by simp [sumN]
  | n + 1, g => by simp only [sumN]; rw [sumN_mul c n g, Nat.add_mul]
/-- One alone counts. -/
theorem sumN_one : ∀ {n i : Nat} {g : Nat → Nat}, i < n → (∀ j, j < n → j ≠ i → g j = 0) → sumN n g = g i
  | 0, i, g, h, _ => by omega
  | n + 1, i, g, h, e => by
    simp only [sumN]
    by_cases q : i = n
    · subst q
      rw [sumN_zero (fun j hj => e j (by omega) (by omega))]
      omega
    · rw [sumN_one (show i < n by omega) (fun j hj => e j (by omega)), e n (by omega) (by omega)]
      omega
/-- One turned: by how much it is more. -/
theorem sumN_more : ∀ {n i : Nat} {g h : Nat → Nat} {c : Nat}, i < n → (∀ j, j < n → j ≠ i → h j = g j) → h i = g i + c → sumN n h = sumN n g + c
  | 0, i, g, h, c, hi, _, _ => by omega
  | n + 1, i, g, h, c, hi, e, q => by
    simp only [sumN]
    by_cases k : i = n
    · subst k
      rw [sumN_congr (g := h) (h := g) (fun j hj => e j (by omega) (by omega)), q]
      omega
    · rw [sumN_more (show i < n by omega) (fun j hj => e j (by omega)) q, e n (by omega) (by omega)]
      omega
/-- How many of the first n there are. -/
def cntN (n : Nat) (p : Nat → Bool) : Nat := sumN n (fun i => if p i = true then 1 else 0)
theorem cntN_lt {n i : Nat} {p q : Nat → Bool} (hi : i < n) (h : ∀ j, j < n → p j = true → q j = true) (hq : q i = true) (hp : p i = false) : cntN n p < cntN n q := by
  have h1 : cntN n (fun j => p j || decide (j = i)) ≤ cntN n q := sumN_le (fun j hj => by
    by_cases a : p j = true
    · simp [a, h j hj a]
    · by_cases b : j = i
      · subst b; simp [hq]
      · simp [a, b])
  have h2 : cntN n (fun j => p j || decide (j = i)) = cntN n p + 1 := sumN_more hi (fun j hj ne => by simp [ne]) (by simp [hp])
  omega
theorem cntN_le (n : Nat) (p : Nat → Bool) : cntN n p ≤ n := by
  have h : ∀ n : Nat, sumN n (fun _ => 1) = n := by
    intro n
    induction n with
    | zero => rfl
    | succ n ih => simp only [sumN]; rw [ih]
  have := sumN_le (n := n) (g := fun i => if p i = true then 1 else 0) (h := fun _ => 1) (fun i _ => by split <;> omega)
  rw [h] at this
  exact this
theorem cntN_one {n : Nat} {p : Nat → Bool} (h : cntN n p = 1) : ∃ i, i < n ∧ p i = true ∧ ∀ j, j < n → p j = true → j = i := by
  have ex : ∃ i, i < n ∧ p i = true := by
    apply Classical.byContradiction
    intro no
    have : cntN n p = 0 := sumN_zero (fun i hi => if_neg (fun e => no ⟨i, hi, e⟩))
    omega
  obtain ⟨i, hi, pi⟩ := ex
  refine ⟨i, hi, pi, fun j hj pj => Classical.byContradiction fun ne => ?_⟩
  have h1 : cntN n (fun k => decide (k = i)) < cntN n p := cntN_lt hj (fun k hk e => by rw [of_decide_eq_true e]; exact pi) pj (by simp [ne])
  have h2 : cntN n (fun k => decide (k = i)) = 1 := (sumN_one hi (fun k hk ne => by simp [ne])).trans (by simp)
  omega
theorem cntN_zero {n : Nat} {p : Nat → Bool} (h : cntN n p = 0) : ∀ i, i < n → p i = false := fun i hi => by
  cases e : p i with
  | false => rfl
  | true =>
    have : cntN n (fun _ => false) < cntN n p := cntN_lt hi (fun j hj e => by cases e) e rfl
    omega
/-- A set without one. -/
def ers (S : Nat → Bool) (i : Nat) (j : Nat) : Bool := S j && !decide (j = i)
theorem ers_self (S : Nat → Bool) (i : Nat) : ers S i i = false := by simp [ers]
theorem ers_ne {S : Nat → Bool} {i j : Nat} (h : j ≠ i) : ers S i j = S j := by simp [ers, h]
theorem ers_ers (S : Nat → Bool) (i j : Nat) : ers (ers S i) j = ers (ers S j) i := by
  funext k
  unfold ers
  cases S k <;> simp [Bool.and_comm]
theorem cntN_ers {n i : Nat} {S : Nat → Bool} (hi : i < n) (h : S i = true) : cntN n S = cntN n (ers S i) + 1 := by
  refine sumN_more hi (fun j hj ne => ?_) ?_
  · rw [ers_ne ne]
  · rw [ers_self, h]; rfl
end Go.Proofs.YthejaecljkjliaiGreatDoor
namespace Go.Proofs.YthejaecljkjliaiGreatDoor
set_option linter.unusedVariables false

/-- An event: its number, and from when to when it may have been. -/
structure Ev where
  id : Int
  lo : Int
  hi : Int
/-- Is one surely ahead of another one? -/
def sur (f : Nat → Ev) (i k : Nat) : Bool := decide ((f i).hi < (f k).lo)
section
variable {f : Nat → Ev} {n : Nat} {S : Nat → Bool}
/-- In a set nobody is surely ahead of it; it is surely ahead of nobody. -/
def minB (f : Nat → Ev) (n : Nat) (S : Nat → Bool) (i : Nat) : Bool := S i && decide (∀ k, k < n → S k = true → sur f k i = false)
def maxB (f : Nat → Ev) (n : Nat) (S : Nat → Bool) (i : Nat) : Bool := S i && decide (∀ k, k < n → S k = true → sur f i k = false)
theorem minB_t {i : Nat} : minB f n S i = true ↔ S i = true ∧ ∀ k, k < n → S k = true → sur f k i = false := by simp [minB]
theorem maxB_t {i : Nat} : maxB f n S i = true ↔ S i = true ∧ ∀ k, k < n → S k = true → sur f i k = false := by simp [maxB]
/-- In how many orders a set of m can be, by who is first; by who is last. -/
def waysF (f : Nat → Ev) (n : Nat) : Nat → (Nat → Bool) → Nat
  | 0, _ => 1
  | m + 1, S => sumN n (fun i => if minB f n S i = true then waysF f n m (ers S i) else 0)
def waysL (f : Nat → Ev) (n : Nat) : Nat → (Nat → Bool) → Nat
  | 0, _ => 1
  | m + 1, S => sumN n (fun i => if maxB f n S i = true then waysL f n m (ers S i) else 0)
/-- Nobody is surely ahead of himself, where spans are right. -/
def Irr (f : Nat → Ev) (n : Nat) : Prop := ∀ i, i < n → sur f i i = false
theorem pair_same (hI : Irr f n) {i j : Nat} (hi : i < n) (hj : j < n) : (minB f n S i = true ∧ maxB f n (ers S i) j = true) ↔ (maxB f n S j = true ∧ minB f n (ers S j) i = true) := by
  rw [minB_t, maxB_t, minB_t, maxB_t]
  constructor
  · rintro ⟨⟨a1, a2⟩, b1, b2⟩
    have ne : j ≠ i := fun e => by rw [e, ers_self] at b1; cases b1
    rw [ers_ne ne] at b1
    refine ⟨⟨b1, fun k hk sk => ?_⟩, by rw [ers_ne (Ne.symm ne)]; exact a1, fun k hk sk => ?_⟩
    · by_cases e : k = i
      · subst e
        exact a2 j hj b1
      · exact b2 k hk (by rw [ers_ne e]; exact sk)
    · by_cases e : k = j
      · subst e
        rw [ers_self] at sk
        cases sk
      · rw [ers_ne e] at sk
        exact a2 k hk sk
  · rintro ⟨⟨a1, a2⟩, b1, b2⟩
    have ne : i ≠ j := fun e => by rw [e, ers_self] at b1; cases b1
    rw [ers_ne ne] at b1
    refine ⟨⟨b1, fun k hk sk => ?_⟩, by rw [ers_ne (Ne.symm ne)]; exact a1, fun k hk sk => ?_⟩
    · by_cases e : k = j
      · subst e
        exact a2 i hi b1
      · exact b2 k hk (by rw [ers_ne e]; exact sk)
    · by_cases e : k = i
      · subst e
        rw [ers_self] at sk
        cases sk
      · rw [ers_ne e] at sk
        exact a2 k hk sk
/-- By who is first as by who is last. -/
theorem ways_same (hI : Irr f n) : ∀ (m : Nat) (S : Nat → Bool), cntN n S = m → waysF f n m S = waysL f n m S
  | 0, _, _ => rfl
  | 1, S, h => by
    obtain ⟨i, hi, si, only⟩ := cntN_one h
    have a : minB f n S i = true := minB_t.2 ⟨si, fun k hk sk => by rw [only k hk sk]; exact hI i hi⟩
    have b : maxB f n S i = true := maxB_t.2 ⟨si, fun k hk sk => by rw [only k hk sk]; exact hI i hi⟩
    show sumN n (fun i => if minB f n S i = true then 1 else 0) = sumN n (fun i => if maxB f n S i = true then 1 else 0)
    rw [sumN_one hi (fun j hj ne => if_neg (fun e => ne (only j hj (minB_t.1 e).1))), sumN_one hi (fun j hj ne => if_neg (fun e => ne (only j hj (maxB_t.1 e).1))), if_pos a, if_pos b]
  | m + 2, S, h => by
    have e1 : waysF f n (m + 2) S = sumN n (fun i => sumN n (fun j => if minB f n S i = true ∧ maxB f n (ers S i) j = true then waysL f n m (ers (ers S i) j) else 0)) := by
      refine sumN_congr (fun i hi => ?_)
      by_cases a : minB f n S i = true
      · rw [if_pos a, ways_same hI (m + 1) (ers S i) (by have := cntN_ers hi (minB_t.1 a).1; omega)]
        exact sumN_congr (fun j hj => by simp [a])
      · rw [if_neg a, sumN_zero (fun j hj => if_neg (fun e => a e.1))]
    have e2 : waysL f n (m + 2) S = sumN n (fun j => sumN n (fun i => if maxB f n S j = true ∧ minB f n (ers S j) i = true then waysF f n m (ers (ers S j) i) else 0)) := by
      refine sumN_congr (fun j hj => ?_)
      by_cases a : maxB f n S j = true
      · rw [if_pos a, ← ways_same hI (m + 1) (ers S j) (by have := cntN_ers hj (maxB_t.1 a).1; omega)]
        exact sumN_congr (fun i hi => by simp [a])
      · rw [if_neg a, sumN_zero (fun i hi => if_neg (fun e => a e.1))]
    rw [e1, e2, sumN_swap]
    refine sumN_congr (fun j hj => sumN_congr (fun i hi => ?_))
    have p := pair_same (S := S) hI hi hj
    by_cases c : minB f n S i = true ∧ maxB f n (ers S i) j = true
    · rw [if_pos c, if_pos (p.1 c), ers_ers, ways_same hI m _ ?_]
      have c1 := cntN_ers hj (maxB_t.1 (p.1 c).1).1
      have c2 := cntN_ers hi (minB_t.1 (p.1 c).2).1
      omega
    · rw [if_neg c, if_neg (fun q => c (p.2 q))]
/-- 1 times 2, and so on. -/
def fac : Nat → Nat
  | 0 => 1
  | m + 1 => (m + 1) * fac m
theorem waysL_le : ∀ (m : Nat) (S : Nat → Bool), cntN n S = m → waysL f n m S ≤ fac m
  | 0, _, _ => Nat.le_refl _
  | m + 1, S, h => by
    have : waysL f n (m + 1) S ≤ sumN n (fun i => (if S i = true then 1 else 0) * fac m) := sumN_le (fun i hi => by
      by_cases a : maxB f n S i = true
      · have s := (maxB_t.1 a).1
        rw [if_pos a, if_pos s, Nat.one_mul]
        exact waysL_le m (ers S i) (by have := cntN_ers hi s; omega)
      · rw [if_neg a]
        exact Nat.zero_le _)
    rw [sumN_mul] at this
    have e : sumN n (fun i => if S i = true then 1 else 0) = m + 1 := h
    rw [e] at this
    exact this
theorem waysL_congr : ∀ (m : Nat) {S S' : Nat → Bool}, (∀ i, i < n → S i = S' i) → waysL f n m S = waysL f n m S'
  | 0, _, _, _ => rfl
  | m + 1, S, S', h => by
    refine sumN_congr (fun i hi => ?_)
    have e : maxB f n S i = maxB f n S' i := by
      have q : (∀ k, k < n → S k = true → sur f i k = false) ↔ (∀ k, k < n → S' k = true → sur f i k = false) := ⟨fun g k hk s => g k hk (by rw [h k hk]; exact s), fun g k hk s => g k hk (by rw [← h k hk]; exact s)⟩
      unfold maxB
      rw [h i hi, decide_eq_decide.2 q]
    rw [e]
    split
    · exact waysL_congr m (fun k hk => by unfold ers; rw [h k hk])
    · rfl
/-- In how many orders all can be. -/
def mny (f : Nat → Ev) (n : Nat) : Nat := waysL f n n (fun _ => true)
theorem cntN_all : ∀ n : Nat, cntN n (fun _ => true) = n
  | 0 => rfl
  | n + 1 => by
    have := cntN_all n
    unfold cntN at this ⊢
    simp only [sumN, if_true] at this ⊢
    omega
/-- .. where none is surely ahead of another one, and where each is of the next. -/
theorem waysL_free (h : ∀ i k, i < n → k < n → sur f i k = false) : ∀ (m : Nat) (S : Nat → Bool), cntN n S = m → waysL f n m S = fac m
  | 0, _, _ => rfl
  | m + 1, S, c => by
    have : waysL f n (m + 1) S = sumN n (fun i => (if S i = true then 1 else 0) * fac m) := sumN_congr (fun i hi => by
      by_cases s : S i = true
      · rw [if_pos (maxB_t.2 ⟨s, fun k hk _ => h i k hi hk⟩), if_pos s, Nat.one_mul]
        exact waysL_free h m (ers S i) (by have := cntN_ers hi s; omega)
      · rw [if_neg (fun e => s (maxB_t.1 e).1), if_neg s, Nat.zero_mul])
    rw [this, sumN_mul]
    have e : sumN n (fun i => if S i = true then 1 else 0) = m + 1 := c
    rw [e]
    rfl
theorem waysL_apart (h : ∀ i k, i < n → k < n → (sur f i k = true ↔ i < k)) : ∀ (m : Nat), m ≤ n → waysL f n m (fun i => decide (i < m)) = 1
  | 0, _ => rfl
  | m + 1, hm => by
    show sumN n (fun i => if maxB f n (fun i => decide (i < m + 1)) i = true then waysL f n m (ers (fun i => decide (i < m + 1)) i) else 0) = 1
    rw [sumN_one (i := m) (by omega) (fun j hj ne => if_neg (fun e => ?_))]
    · rw [if_pos (maxB_t.2 ⟨by simp, fun k hk s => ?_⟩)]
      · rw [waysL_congr m (S' := fun i => decide (i < m)) (fun i hi => ?_)]
        · exact waysL_apart h m (by omega)
        · unfold ers
          by_cases c : i < m
          · have : i ≠ m := by omega
            simp [c, this, show i < m + 1 by omega]
          · by_cases d : i = m
            · simp [d]
            · simp [c, d]; omega
      · have s' : k < m + 1 := of_decide_eq_true s
        cases e : sur f m k with
        | false => rfl
        | true => have := (h m k (by omega) hk).1 e; omega
    · obtain ⟨a, b⟩ := maxB_t.1 e
      have a' : j < m + 1 := of_decide_eq_true a
      have := b m (by omega) (by simp)
      rw [(h j m hj (by omega)).2 (by omega)] at this
      cases this
end
end Go.Proofs.YthejaecljkjliaiGreatDoor
namespace Go.Proofs.YthejaecljkjliaiGreatDoor
set_option linter.unusedVariables false

/-- The set that a number tells. -/
def bit (T : Nat) (i : Nat) : Bool := decide (T / 2 ^ i % 2 = 1)
theorem pow_pos2 (i : Nat) : 0 < 2 ^ i := Nat.pow_pos (by omega)
theorem add_bit {U i : Nat} (h : bit U i = false) (j : Nat) : bit (U + 2 ^ i) j = if j = i then true else bit U j := by
  have h0 : U / 2 ^ i % 2 = 0 := by
    have := of_decide_eq_false h
    omega
  have p := pow_pos2 i
  have e1 : (U + 2 ^ i) / 2 ^ i = U / 2 ^ i + 1 := Nat.add_div_right U p
  unfold bit
  by_cases c : j = i
  · subst c
    rw [if_pos rfl, e1]
    exact decide_eq_true (by omega)
  · rw [if_neg c]
    rcases Nat.lt_or_ge j i with lt | ge
    · obtain ⟨d, rfl⟩ : ∃ d, i = j + 1 + d := ⟨i - j - 1, by omega⟩
      have q : 2 ^ (j + 1 + d) = 2 ^ j * (2 * 2 ^ d) := by rw [Nat.pow_add, Nat.pow_add, Nat.pow_one, Nat.mul_assoc]
      rw [q, Nat.add_mul_div_left U _ (pow_pos2 j)]
      exact decide_eq_decide.2 (by omega)
    · obtain ⟨d, rfl⟩ : ∃ d, j = i + 1 + d := ⟨j - i - 1, by omega⟩
      have q : 2 ^ (i + 1 + d) = 2 ^ i * (2 * 2 ^ d) := by rw [Nat.pow_add, Nat.pow_add, Nat.pow_one, Nat.mul_assoc]
      have r : ∀ X : Nat, X / (2 ^ i * (2 * 2 ^ d)) = X / 2 ^ i / 2 / 2 ^ d := fun X => by rw [← Nat.div_div_eq_div_mul, ← Nat.div_div_eq_div_mul]
      rw [q, r, r, e1, show (U / 2 ^ i + 1) / 2 = U / 2 ^ i / 2 by omega]
theorem bit_zero (i : Nat) : bit 0 i = false := by simp [bit]
/-- What a set has is not above it. -/
theorem bit_le {T i : Nat} (h : bit T i = true) : 2 ^ i ≤ T := by
  apply Classical.byContradiction
  intro c
  have : T / 2 ^ i = 0 := Nat.div_eq_of_lt (by omega)
  have := of_decide_eq_true h
  omega
theorem bit_sub {T i : Nat} (h : bit T i = true) : bit (T - 2 ^ i) i = false := by
  have l := bit_le h
  have h1 := of_decide_eq_true h
  have e : (T - 2 ^ i) / 2 ^ i = T / 2 ^ i - 1 := by
    have := Nat.sub_mul_div T (2 ^ i) 1
    rwa [Nat.mul_one] at this
  unfold bit
  rw [e]
  exact decide_eq_false (by omega)
theorem bit_ers {T i : Nat} (h : bit T i = true) : bit (T - 2 ^ i) = ers (bit T) i := by
  funext j
  have l := bit_le h
  have a := add_bit (bit_sub h) j
  rw [show T - 2 ^ i + 2 ^ i = T by omega] at a
  unfold ers
  by_cases c : j = i
  · subst c
    simp [bit_sub h]
  · rw [if_neg c] at a
    simp [a, c]
theorem bit_full {n i : Nat} (h : i < n) : bit (2 ^ n - 1) i = true := by
  obtain ⟨d, rfl⟩ : ∃ d, n = i + 1 + d := ⟨n - i - 1, by omega⟩
  have q : 2 ^ (i + 1 + d) = 2 ^ i * (2 * 2 ^ d) := by rw [Nat.pow_add, Nat.pow_add, Nat.pow_one, Nat.mul_assoc]
  have p := pow_pos2 i
  have p2 := pow_pos2 d
  have e : (2 ^ i * (2 * 2 ^ d) - 1) / 2 ^ i = 2 * 2 ^ d - 1 := by
    have r : 2 ^ i * (2 * 2 ^ d) - 1 = 2 ^ i * (2 * 2 ^ d - 1) + (2 ^ i - 1) := by
      have : 2 ^ i * (2 * 2 ^ d - 1) + 2 ^ i = 2 ^ i * (2 * 2 ^ d) := by
        rw [← Nat.mul_succ]
        congr 1
        omega
      omega
    rw [r, Nat.mul_add_div p, Nat.div_eq_of_lt (show 2 ^ i - 1 < 2 ^ i by omega)]
    omega
  unfold bit
  rw [q, e]
  exact decide_eq_true (by omega)
theorem bit_out {T n i : Nat} (h : T < 2 ^ n) (g : n ≤ i) : bit T i = false := by
  have : 2 ^ n ≤ 2 ^ i := Nat.pow_le_pow_right (by omega) g
  unfold bit
  rw [Nat.div_eq_of_lt (by omega)]
  exact decide_eq_false (by omega)
theorem add_lt {T n i : Nat} (h : T < 2 ^ n) (hi : i < n) (hb : bit T i = false) : T + 2 ^ i < 2 ^ n := by
  apply Classical.byContradiction
  intro c
  have l : T + 2 ^ i < 2 ^ (n + 1) := by
    have : 2 ^ i ≤ 2 ^ n := Nat.pow_le_pow_right (by omega) (by omega)
    rw [Nat.pow_succ]
    omega
  have b : bit (T + 2 ^ i) n = true := by
    unfold bit
    have : (T + 2 ^ i) / 2 ^ n = 1 := by
      apply Nat.div_eq_of_lt_le
      · omega
      · rw [Nat.pow_succ] at l
        omega
    rw [this]
    rfl
  rw [add_bit hb, if_neg (by omega), bit_out h (Nat.le_refl _)] at b
  cases b
section
variable {f : Nat → Ev} {n : Nat}
/-- Are all that are surely ahead of an event in a set? -/
def rdyB (f : Nat → Ev) (n : Nat) (S : Nat → Bool) (i : Nat) : Bool := decide (∀ k, k < n → sur f k i = true → S k = true)
theorem rdyB_t {S : Nat → Bool} {i : Nat} : rdyB f n S i = true ↔ ∀ k, k < n → sur f k i = true → S k = true := by simp [rdyB]
/-- With each also all that are surely ahead of it. -/
abbrev dwn (f : Nat → Ev) (n : Nat) (S : Nat → Bool) : Prop := ∀ i, i < n → S i = true → rdyB f n S i = true
/-- In how many orders a set can come ahead of the others. -/
def wd (f : Nat → Ev) (n : Nat) (S : Nat → Bool) : Nat := if dwn f n S then waysL f n (cntN n S) S else 0
theorem dwn_ers {S : Nat → Bool} {i : Nat} (h : dwn f n S) (hi : i < n) (m : maxB f n S i = true) : dwn f n (ers S i) := fun j hj sj => by
  have ne : j ≠ i := fun e => by rw [e, ers_self] at sj; cases sj
  rw [ers_ne ne] at sj
  refine rdyB_t.2 (fun k hk e => ?_)
  have sk := rdyB_t.1 (h j hj sj) k hk e
  by_cases c : k = i
  · subst c
    have := (maxB_t.1 m).2 j hj sj
    rw [e] at this
    cases this
  · rw [ers_ne c]
    exact sk
theorem dwn_add {S : Nat → Bool} {i : Nat} (hi : i < n) (s : S i = true) (h : dwn f n (ers S i)) (r : rdyB f n (ers S i) i = true) : dwn f n S := fun j hj sj => by
  refine rdyB_t.2 (fun k hk e => ?_)
  by_cases c : j = i
  · subst c
    have := rdyB_t.1 r k hk e
    unfold ers at this
    simp at this
    exact this.1
  · have := rdyB_t.1 (h j hj (by rw [ers_ne c]; exact sj)) k hk e
    unfold ers at this
    simp at this
    exact this.1
/-- One by one, by who came last. -/
theorem wd_step (hI : Irr f n) {S : Nat → Bool} {m : Nat} (c : cntN n S = m + 1) : wd f n S = sumN n (fun i => if S i = true ∧ rdyB f n (ers S i) i = true then wd f n (ers S i) else 0) := by
  unfold wd
  by_cases h : dwn f n S
  · rw [if_pos h, c]
    refine sumN_congr (fun i hi => ?_)
    by_cases s : S i = true
    · have ce : cntN n (ers S i) = m := by have := cntN_ers hi s; omega
      by_cases x : maxB f n S i = true
      · have r : rdyB f n (ers S i) i = true := rdyB_t.2 (fun k hk e => by
          have ne : k ≠ i := fun q => by rw [q, hI i hi] at e; cases e
          rw [ers_ne ne]
          exact rdyB_t.1 (h i hi s) k hk e)
        rw [if_pos x, if_pos ⟨s, r⟩, if_pos (dwn_ers h hi x), ce]
      · rw [if_neg x]
        by_cases r : rdyB f n (ers S i) i = true
        · rw [if_pos ⟨s, r⟩, if_neg (fun d => x ?_)]
          refine maxB_t.2 ⟨s, fun k hk sk => ?_⟩
          cases e : sur f i k with
          | false => rfl
          | true =>
            have ne : k ≠ i := fun q => by rw [q, hI i hi] at e; cases e
            have := rdyB_t.1 (d k hk (by rw [ers_ne ne]; exact sk)) i hi e
            rw [ers_self] at this
            cases this
        · rw [if_neg (fun q => r q.2)]
    · rw [if_neg (fun q => s (maxB_t.1 q).1), if_neg (fun q => s q.1)]
  · rw [if_neg h, sumN_zero (fun i hi => ?_)]
    by_cases q : S i = true ∧ rdyB f n (ers S i) i = true
    · rw [if_pos q, if_neg (fun d => h (dwn_add hi q.1 d q.2))]
    · rw [if_neg q]
theorem wd_none (S : Nat → Bool) (c : cntN n S = 0) : wd f n S = 1 := by
  unfold wd
  have d : dwn f n S := fun i hi s => by rw [cntN_zero c i hi] at s; cases s
  rw [if_pos d, c]
  rfl
theorem wd_le (S : Nat → Bool) : wd f n S ≤ fac (cntN n S) := by
  unfold wd
  split
  · exact waysL_le _ _ rfl
  · exact Nat.zero_le _
theorem fac_mono : ∀ {a b : Nat}, a ≤ b → fac a ≤ fac b := by
  intro a b h
  induction h with
  | refl => exact Nat.le_refl _
  | step _ ih =>
    refine Nat.le_trans ih ?_
    show _ ≤ (_ + 1) * fac _
    exact Nat.le_mul_of_pos_left _ (by omega)
theorem wd_12 (h : n ≤ 12) (S : Nat → Bool) : wd f n S ≤ 479001600 := Nat.le_trans (wd_le S) (Nat.le_trans (fac_mono (Nat.le_trans (cntN_le n S) h)) (by decide))
theorem wd_full : wd f n (bit (2 ^ n - 1)) = mny f n := by
  have e : ∀ i, i < n → bit (2 ^ n - 1) i = true := fun i hi => bit_full hi
  have c : cntN n (bit (2 ^ n - 1)) = n := by
    rw [show cntN n (bit (2 ^ n - 1)) = cntN n (fun _ => true) from sumN_congr (fun i hi => by rw [e i hi])]
    exact cntN_all n
  unfold wd mny
  have d : dwn f n (bit (2 ^ n - 1)) := fun i hi _ => rdyB_t.2 (fun k hk _ => e k hk)
  rw [if_pos d, c]
  exact waysL_congr n (fun i hi => e i hi)
theorem mny_12 (h : n ≤ 12) : mny f n ≤ 479001600 := by rw [← wd_full]; exact wd_12 h _
/-- What a set without one gives while sets up to T, and of T the first k, have been gone over. -/
def trmW (f : Nat → Ev) (n T k U i : Nat) : Nat := if bit U i = true ∧ rdyB f n (bit (U - 2 ^ i)) i = true ∧ (U - 2 ^ i < T ∨ (U - 2 ^ i = T ∧ i < k)) then wd f n (bit (U - 2 ^ i)) else 0
theorem trmW_in {T k U i : Nat} (b : bit U i = true) (r : rdyB f n (bit (U - 2 ^ i)) i = true) (h : U - 2 ^ i < T ∨ (U - 2 ^ i = T ∧ i < k)) : trmW f n T k U i = wd f n (bit (U - 2 ^ i)) := if_pos ⟨b, r, h⟩
theorem trmW_out {T k U i : Nat} (h : bit U i = true → rdyB f n (bit (U - 2 ^ i)) i = true → (U - 2 ^ i < T ∨ (U - 2 ^ i = T ∧ i < k)) → False) : trmW f n T k U i = 0 := if_neg (fun q => h q.1 q.2.1 q.2.2)
theorem trmW_same {T k T' k' U i : Nat} (h : bit U i = true → rdyB f n (bit (U - 2 ^ i)) i = true → ((U - 2 ^ i < T ∨ (U - 2 ^ i = T ∧ i < k)) ↔ (U - 2 ^ i < T' ∨ (U - 2 ^ i = T' ∧ i < k')))) : trmW f n T k U i = trmW f n T' k' U i := by
  by_cases b : bit U i = true
  · by_cases r : rdyB f n (bit (U - 2 ^ i)) i = true
    · by_cases c : U - 2 ^ i < T ∨ (U - 2 ^ i = T ∧ i < k)
      · rw [trmW_in b r c, trmW_in b r ((h b r).1 c)]
      · rw [trmW_out (fun _ _ x => c x), trmW_out (fun _ _ x => c ((h b r).2 x))]
    · rw [trmW_out (fun _ x _ => r x), trmW_out (fun _ x _ => r x)]
  · rw [trmW_out (fun x _ _ => b x), trmW_out (fun x _ _ => b x)]
/-- What the table holds then. -/
def tabW (f : Nat → Ev) (n T k U : Nat) : Nat := (if U = 0 then 1 else 0) + sumN n (trmW f n T k U)
theorem tabW_zero (U : Nat) : tabW f n 0 0 U = if U = 0 then 1 else 0 := by
  unfold tabW
  rw [sumN_zero (fun i hi => trmW_out (fun _ _ q => by omega))]
  omega
/-- Of a set that is gone over next all is in. -/
theorem tabW_done (hI : Irr f n) {T U : Nat} (h : U ≤ T) (hU : U < 2 ^ n) : tabW f n T 0 U = wd f n (bit U) := by
  unfold tabW
  by_cases u : U = 0
  · subst u
    rw [if_pos rfl, sumN_zero (fun i hi => trmW_out (fun q _ _ => by rw [bit_zero] at q; cases q))]
    have c : cntN n (bit 0) = 0 := sumN_zero (fun i hi => by rw [bit_zero]; rfl)
    rw [wd_none _ c]
  · rw [if_neg u, Nat.zero_add]
    have ne : cntN n (bit U) ≠ 0 := fun c => by
      have z := cntN_zero c
      have : ∀ m, m ≤ n → U < 2 ^ m → (∀ i, i < m → bit U i = false) → U = 0 := by
        intro m
        induction m with
        | zero => intro _ h _; simpa using h
        | succ m ih =>
          intro hm h b
          refine ih (by omega) ?_ (fun i hi => b i (by omega))
          have := b m (by omega)
          apply Classical.byContradiction
          intro q
          have d : U / 2 ^ m = 1 := by
            apply Nat.div_eq_of_lt_le
            · omega
            · rw [Nat.pow_succ] at h
              omega
          unfold bit at this
          rw [d] at this
          simp at this
      exact u (this n (Nat.le_refl _) hU z)
    obtain ⟨m, c⟩ : ∃ m, cntN n (bit U) = m + 1 := ⟨cntN n (bit U) - 1, by omega⟩
    rw [wd_step hI c]
    refine sumN_congr (fun i hi => ?_)
    by_cases b : bit U i = true
    · have l := bit_le b
      have p := pow_pos2 i
      have e := bit_ers b
      by_cases r : rdyB f n (ers (bit U) i) i = true
      · rw [trmW_in b (by rw [e]; exact r) (Or.inl (by omega)), if_pos ⟨b, r⟩, e]
      · rw [trmW_out (fun _ x _ => r (by rw [← e]; exact x)), if_neg (fun q => r q.2)]
    · rw [trmW_out (fun x _ _ => b x), if_neg (fun q => b q.1)]
theorem tabW_le (hI : Irr f n) (h : n ≤ 12) {T k U : Nat} (hU : U < 2 ^ n) : tabW f n T k U ≤ 479001600 := by
  refine Nat.le_trans ?_ (wd_12 (f := f) h (bit U))
  rw [← tabW_done hI (T := T + U + 1) (U := U) (by omega) hU]
  unfold tabW
  have := sumN_le (n := n) (g := trmW f n T k U) (h := trmW f n (T + U + 1) 0 U) (fun i hi => by
    by_cases b : bit U i = true
    · by_cases r : rdyB f n (bit (U - 2 ^ i)) i = true
      · rw [trmW_in (T := T + U + 1) b r (Or.inl (by have := Nat.sub_le U (2 ^ i); omega))]
        by_cases c : U - 2 ^ i < T ∨ (U - 2 ^ i = T ∧ i < k)
        · rw [trmW_in b r c]
          exact Nat.le_refl _
        · rw [trmW_out (fun _ _ x => c x)]
          exact Nat.zero_le _
      · rw [trmW_out (fun _ x _ => r x)]
        exact Nat.zero_le _
    · rw [trmW_out (fun x _ _ => b x)]
      exact Nat.zero_le _)
  omega
/-- Of the set that is gone over all is in. -/
theorem tabW_self (hI : Irr f n) {T k : Nat} (hT : T < 2 ^ n) : tabW f n T k T = wd f n (bit T) := by
  rw [← tabW_done hI (Nat.le_refl T) hT]
  unfold tabW
  have m := sumN_congr (n := n) (g := trmW f n T k T) (h := trmW f n T 0 T) (fun j hj => trmW_same (fun bj _ => by have := bit_le bj; have := pow_pos2 j; omega))
  rw [m]
/-- One more is told of. -/
theorem tabW_put {T k : Nat} (hk : k < n) (b : bit T k = false) (r : rdyB f n (bit T) k = true) (U : Nat) : tabW f n T (k + 1) U = tabW f n T k U + if U = T + 2 ^ k then wd f n (bit T) else 0 := by
  unfold tabW
  by_cases u : U = T + 2 ^ k
  · subst u
    have bk : bit (T + 2 ^ k) k = true := by rw [add_bit b, if_pos rfl]
    have e : T + 2 ^ k - 2 ^ k = T := by omega
    rw [if_pos rfl]
    have m := sumN_more (n := n) (i := k) (g := trmW f n T k (T + 2 ^ k)) (h := trmW f n T (k + 1) (T + 2 ^ k)) (c := wd f n (bit T)) hk (fun j hj ne => trmW_same (fun bj _ => by have := bit_le bj; omega)) (by
      rw [trmW_in bk (by rw [e]; exact r) (Or.inr ⟨e, by omega⟩), trmW_out (fun _ _ q => by omega), e]
      omega)
    omega
  · rw [if_neg u]
    have m := sumN_congr (n := n) (g := trmW f n T (k + 1) U) (h := trmW f n T k U) (fun j hj => trmW_same (fun bj _ => by
      have := bit_le bj
      by_cases e : j = k
      · subst e
        constructor
        · rintro (q | ⟨q, _⟩)
          · exact Or.inl q
          · exact absurd (show U = T + 2 ^ j by omega) u
        · rintro (q | ⟨q, q'⟩)
          · exact Or.inl q
          · omega
      · omega))
    rw [m]
    rfl
/-- None more. -/
theorem tabW_skip {T k : Nat} (hk : k < n) (h : bit T k = true ∨ rdyB f n (bit T) k = false) (U : Nat) : tabW f n T (k + 1) U = tabW f n T k U := by
  unfold tabW
  have m := sumN_congr (n := n) (g := trmW f n T (k + 1) U) (h := trmW f n T k U) (fun j hj => trmW_same (fun bj rj => by
    by_cases e : j = k
    · subst e
      constructor
      · rintro (q | ⟨q, _⟩)
        · exact Or.inl q
        · exfalso
          rcases h with h | h
          · rw [← q, bit_sub bj] at h
            cases h
          · rw [← q, rj] at h
            cases h
      · rintro (q | ⟨q, q'⟩)
        · exact Or.inl q
        · omega
    · omega))
  rw [m]
theorem tabW_next (T U : Nat) : tabW f n T n U = tabW f n (T + 1) 0 U := by
  unfold tabW
  have m := sumN_congr (n := n) (g := trmW f n T n U) (h := trmW f n (T + 1) 0 U) (fun j hj => trmW_same (fun _ _ => by omega))
  rw [m]
end
end Go.Proofs.YthejaecljkjliaiGreatDoor
namespace Go.Proofs.YthejaecljkjliaiGreatDoor
open Go.ChangeShapes Go.WideShapes Go.ChangeAt Go.RowKit
set_option linter.unusedVariables false

/-- n events lie in a row behind an address. -/
def Evs (w : World) (b off n : Nat) (f : Nat → Ev) : Prop := ∀ i, i < n → w.cell? ⟨b, off + i * 3, none⟩ = some (.int .i64 (f i).id) ∧ w.cell? ⟨b, off + i * 3 + 1, none⟩ = some (.int .i64 (f i).lo) ∧ w.cell? ⟨b, off + i * 3 + 1 + 1, none⟩ = some (.int .i64 (f i).hi)
theorem Evs.on {W u : World} {b off n : Nat} {f : Nat → Ev} (hb : Below W.heap.size W u) (h : Evs W b off n f) : Evs u b off n f := fun i hi => by
  obtain ⟨h0, h1, h2⟩ := h i hi
  exact ⟨by rw [hb.cell (World.block_lt_of_cell? _ _ h0)]; exact h0, by rw [hb.cell (World.block_lt_of_cell? _ _ h1)]; exact h1, by rw [hb.cell (World.block_lt_of_cell? _ _ h2)]; exact h2⟩
def VHanded (w : World) (a : Option Addr) (n : Nat) (f : Nat → Ev) : Prop := n ≤ 9223372036854775807 ∧ (n = 0 ∨ ∃ b off : Nat, a = some ⟨b, off, none⟩ ∧ Evs w b off n f)
theorem VHanded.on {W u : World} {a : Option Addr} {n : Nat} {f : Nat → Ev} (hb : Below W.heap.size W u) (h : VHanded W a n f) : VHanded u a n f :=
  ⟨h.1, h.2.imp id (fun ⟨b, off, e, s⟩ => ⟨b, off, e, s.on hb⟩)⟩
theorem VHanded.same {w : World} {a : Option Addr} {n : Nat} {f g : Nat → Ev} (h : VHanded w a n f) (e : ∀ i, i < n → f i = g i) : VHanded w a n g :=
  ⟨h.1, h.2.imp id (fun ⟨b, off, e', s⟩ => ⟨b, off, e', fun i hi => by rw [← e i hi]; exact s i hi⟩)⟩
section
variable {f : Nat → Ev} {n : Nat} {e : Int}
/-- One is right by itself and by those ahead of it. -/
def okAt (f : Nat → Ev) (j : Nat) : Prop := okB (f j).lo (f j).hi = true ∧ ∀ k, k < j → (f k).id ≠ (f j).id
/-- What is wrong with events. -/
def EvE (n : Nat) (f : Nat → Ev) (e : Int) : Prop := (12 < n ∧ e = 4) ∨ (n ≤ 12 ∧ ∃ i, i < n ∧ (∀ j, j < i → okAt f j) ∧ ((okB (f i).lo (f i).hi = false ∧ e = 1) ∨ (okB (f i).lo (f i).hi = true ∧ (∃ k, k < i ∧ (f k).id = (f i).id) ∧ e = 3))) ∨ (n ≤ 12 ∧ (∀ j, j < n → okAt f j) ∧ e = 0)
theorem first_not {p : Nat → Prop} : ∀ {n : Nat}, (∀ j, j < n → p j) ∨ ∃ i, i < n ∧ ¬ p i ∧ ∀ j, j < i → p j
  | 0 => Or.inl (fun j hj => by omega)
  | n + 1 => by
    rcases first_not (p := p) (n := n) with h | ⟨i, hi, a, b⟩
    · by_cases q : p n
      · exact Or.inl (fun j hj => by by_cases c : j = n; exact c ▸ q; exact h j (by omega))
      · exact Or.inr ⟨n, by omega, q, h⟩
    · exact Or.inr ⟨i, by omega, a, b⟩
theorem evE_some (n : Nat) (f : Nat → Ev) : ∃ e, EvE n f e := by
  by_cases h : 12 < n
  · exact ⟨4, Or.inl ⟨h, rfl⟩⟩
  · rcases first_not (p := okAt f) (n := n) with g | ⟨i, hi, a, b⟩
    · exact ⟨0, Or.inr (Or.inr ⟨by omega, g, rfl⟩)⟩
    · cases o : okB (f i).lo (f i).hi with
      | false => exact ⟨1, Or.inr (Or.inl ⟨by omega, i, hi, b, Or.inl ⟨o, rfl⟩⟩)⟩
      | true =>
        refine ⟨3, Or.inr (Or.inl ⟨by omega, i, hi, b, Or.inr ⟨o, ?_, rfl⟩⟩)⟩
        apply Classical.byContradiction
        intro no
        exact a ⟨o, fun k hk e => no ⟨k, hk, e⟩⟩
theorem EvE.zero (h : EvE n f 0) : n ≤ 12 ∧ ∀ j, j < n → okAt f j := by
  rcases h with ⟨_, e⟩ | ⟨_, i, _, _, ⟨_, e⟩ | ⟨_, _, e⟩⟩ | ⟨a, b, _⟩
  · cases e
  · cases e
  · cases e
  · exact ⟨a, b⟩
theorem EvE.one {e' : Int} (h : EvE n f e) (g : EvE n f e') : e = e' := by
  have no : ∀ i, ((okB (f i).lo (f i).hi = false ∧ e = 1) ∨ (okB (f i).lo (f i).hi = true ∧ (∃ k, k < i ∧ (f k).id = (f i).id) ∧ e = 3)) → okAt f i → False := by
    rintro i (⟨a, _⟩ | ⟨_, ⟨k, hk, q⟩, _⟩) ⟨b, c⟩
    · rw [a] at b; cases b
    · exact c k hk q
  have no' : ∀ i, ((okB (f i).lo (f i).hi = false ∧ e' = 1) ∨ (okB (f i).lo (f i).hi = true ∧ (∃ k, k < i ∧ (f k).id = (f i).id) ∧ e' = 3)) → okAt f i → False := by
    rintro i (⟨a, _⟩ | ⟨_, ⟨k, hk, q⟩, _⟩) ⟨b, c⟩
    · rw [a] at b; cases b
    · exact c k hk q
  rcases h with ⟨a, rfl⟩ | ⟨a, i, hi, b, c⟩ | ⟨a, b, rfl⟩
  · rcases g with ⟨_, rfl⟩ | ⟨a', _⟩ | ⟨a', _⟩
    · rfl
    · omega
    · omega
  · rcases g with ⟨a', _⟩ | ⟨_, i', hi', b', c'⟩ | ⟨_, b', _⟩
    · omega
    · rcases Nat.lt_trichotomy i i' with lt | rfl | lt
      · exact absurd (b' i lt) (no i c)
      · rcases c with ⟨c1, rfl⟩ | ⟨c1, _, rfl⟩
        · rcases c' with ⟨_, rfl⟩ | ⟨c2, _⟩
          · rfl
          · rw [c1] at c2; cases c2
        · rcases c' with ⟨c2, _⟩ | ⟨_, _, rfl⟩
          · rw [c1] at c2; cases c2
          · rfl
      · exact absurd (b i' lt) (no' i' c')
    · exact absurd (b' i hi) (no i c)
  · rcases g with ⟨a', _⟩ | ⟨_, i', hi', b', c'⟩ | ⟨_, _, rfl⟩
    · omega
    · exact absurd (b i' hi') (no' i' c')
    · rfl
theorem EvE.le (h : EvE n f e) : (e = 4 ∧ 12 < n) ∨ (n ≤ 12 ∧ (e = 0 ∨ e = 1 ∨ e = 3)) := by
  rcases h with ⟨a, e⟩ | ⟨a, i, _, _, ⟨_, e⟩ | ⟨_, _, e⟩⟩ | ⟨a, b, e⟩
  · exact Or.inl ⟨e, a⟩
  · exact Or.inr ⟨a, Or.inr (Or.inl e)⟩
  · exact Or.inr ⟨a, Or.inr (Or.inr e)⟩
  · exact Or.inr ⟨a, Or.inl e⟩
theorem okAt.irr (h : ∀ j, j < n → okAt f j) : Irr f n := fun i hi => decide_eq_false (by have := (okB_t (h i hi).1).1; omega)
/-- An order names each once. -/
def EachP (n : Nat) (o : Nat → Int) (m : Nat) : Prop := m = n ∧ ∀ i, i < n → 0 ≤ o i ∧ o i < n ∧ ∀ k, k < i → o k ≠ o i
/-- The earliest times along an order. -/
def tmO (f : Nat → Ev) (o : Nat → Int) : Nat → Int
  | 0 => (f (o 0).toNat).lo
  | i + 1 => max (tmO f o i) (f (o (i + 1)).toNat).lo
def CouldP (f : Nat → Ev) (o : Nat → Int) (m : Nat) : Prop := ∀ i, i < m → tmO f o i ≤ (f (o i).toNat).hi
theorem tmO_ge (f : Nat → Ev) (o : Nat → Int) : ∀ {i k : Nat}, k ≤ i → (f (o k).toNat).lo ≤ tmO f o i
  | 0, k, h => by
    have : k = 0 := by omega
    subst this
    exact Int.le_refl _
  | i + 1, k, h => by
    show _ ≤ max _ _
    by_cases c : k = i + 1
    · subst c
      omega
    · have := tmO_ge f o (i := i) (k := k) (by omega)
      omega
theorem tmO_at (f : Nat → Ev) (o : Nat → Int) : ∀ i, ∃ k, k ≤ i ∧ tmO f o i = (f (o k).toNat).lo
  | 0 => ⟨0, Nat.le_refl _, rfl⟩
  | i + 1 => by
    obtain ⟨k, hk, e⟩ := tmO_at f o i
    show ∃ k, k ≤ i + 1 ∧ max (tmO f o i) _ = _
    by_cases c : tmO f o i ≤ (f (o (i + 1)).toNat).lo
    · exact ⟨i + 1, Nat.le_refl _, by omega⟩
    · exact ⟨k, by omega, by omega⟩
/-- It could be so just if nobody sure stands behind. -/
theorem could_iff {o : Nat → Int} {m : Nat} (ok : ∀ i, i < m → (f (o i).toNat).lo ≤ (f (o i).toNat).hi) : CouldP f o m ↔ ∀ i k, i < m → k < i → sur f (o i).toNat (o k).toNat = false := by
  constructor
  · intro h i k hi hk
    have := h i hi
    have := tmO_ge f o (i := i) (k := k) (by omega)
    exact decide_eq_false (by omega)
  · intro h i hi
    obtain ⟨k, hk, e⟩ := tmO_at f o i
    rw [e]
    by_cases c : k = i
    · subst c
      exact ok k hi
    · have := of_decide_eq_false (h i k hi (by omega))
      omega
/-- How long the longest rows are that end with each. -/
def RkI (f : Nat → Ev) (n : Nat) (r : Nat → Int) : Prop := ∀ i, i < n → 1 ≤ r i ∧ (∀ k, k < n → sur f k i = true → r k < r i) ∧ (r i = 1 ∨ ∃ k, k < n ∧ sur f k i = true ∧ r i = r k + 1)
/-- How many begin earlier. -/
def erl (f : Nat → Ev) (n i : Nat) : Nat := cntN n (fun k => decide ((f k).lo < (f i).lo))
theorem erl_lt (h : ∀ j, j < n → okAt f j) {k i : Nat} (hk : k < n) (s : sur f k i = true) : erl f n k < erl f n i := by
  have s' : (f k).hi < (f i).lo := of_decide_eq_true s
  have o := (okB_t (h k hk).1).1
  exact cntN_lt (i := k) hk (fun j hj e => by have : (f j).lo < (f k).lo := of_decide_eq_true e; exact decide_eq_true (by omega)) (decide_eq_true (by omega)) (decide_eq_false (by omega))
theorem RkI.one (h : ∀ j, j < n → okAt f j) {r r' : Nat → Int} (g : RkI f n r) (g' : RkI f n r') : ∀ i, i < n → r i = r' i := by
  have st : ∀ m i, i < n → erl f n i ≤ m → r i = r' i := by
    intro m
    induction m with
    | zero =>
      intro i hi c
      obtain ⟨a1, a2, a3⟩ := g i hi
      obtain ⟨b1, b2, b3⟩ := g' i hi
      rcases a3 with a3 | ⟨k, hk, s, e⟩
      · rcases b3 with b3 | ⟨k, hk, s, e⟩
        · omega
        · have := erl_lt h hk s
          omega
      · have := erl_lt h hk s
        omega
    | succ m ih =>
      intro i hi c
      obtain ⟨a1, a2, a3⟩ := g i hi
      obtain ⟨b1, b2, b3⟩ := g' i hi
      have low : r i ≤ r' i := by
        rcases a3 with a3 | ⟨k, hk, s, e⟩
        · omega
        · have := erl_lt h hk s
          have := ih k hk (by omega)
          have := b2 k hk s
          omega
      have high : r' i ≤ r i := by
        rcases b3 with b3 | ⟨k, hk, s, e⟩
        · omega
        · have := erl_lt h hk s
          have := ih k hk (by omega)
          have := a2 k hk s
          omega
      omega
  exact fun i hi => st _ i hi (Nat.le_refl _)
/-- The greatest of those among the first m that are so, 0 at least. -/
def maxO (p : Nat → Bool) (g : Nat → Int) : Nat → Int
  | 0 => 0
  | m + 1 => if p m = true ∧ maxO p g m < g m then g m else maxO p g m
theorem maxO_ge {p : Nat → Bool} {g : Nat → Int} : ∀ {m : Nat}, 0 ≤ maxO p g m ∧ ∀ k, k < m → p k = true → g k ≤ maxO p g m
  | 0 => ⟨Int.le_refl _, fun k hk => by omega⟩
  | m + 1 => by
    obtain ⟨a, b⟩ := maxO_ge (p := p) (g := g) (m := m)
    show 0 ≤ (if p m = true ∧ maxO p g m < g m then g m else maxO p g m) ∧ ∀ k, k < m + 1 → p k = true → g k ≤ (if p m = true ∧ maxO p g m < g m then g m else maxO p g m)
    by_cases c : p m = true ∧ maxO p g m < g m
    · rw [if_pos c]
      refine ⟨by omega, fun k hk e => ?_⟩
      by_cases q : k = m
      · subst q; exact Int.le_refl _
      · have := b k (by omega) e; omega
    · rw [if_neg c]
      refine ⟨a, fun k hk e => ?_⟩
      by_cases q : k = m
      · subst q
        apply Classical.byContradiction
        intro no
        exact c ⟨e, by omega⟩
      · exact b k (by omega) e
theorem maxO_at {p : Nat → Bool} {g : Nat → Int} : ∀ {m : Nat}, maxO p g m = 0 ∨ ∃ k, k < m ∧ p k = true ∧ maxO p g m = g k
  | 0 => Or.inl rfl
  | m + 1 => by
    show (if p m = true ∧ maxO p g m < g m then g m else maxO p g m) = 0 ∨ ∃ k, k < m + 1 ∧ p k = true ∧ (if p m = true ∧ maxO p g m < g m then g m else maxO p g m) = g k
    by_cases c : p m = true ∧ maxO p g m < g m
    · rw [if_pos c]
      exact Or.inr ⟨m, by omega, c.1, rfl⟩
    · rw [if_neg c]
      rcases maxO_at (p := p) (g := g) (m := m) with h | ⟨k, hk, a, b⟩
      · exact Or.inl h
      · exact Or.inr ⟨k, by omega, a, b⟩
theorem maxO_congr {p : Nat → Bool} {g g' : Nat → Int} : ∀ {m : Nat}, (∀ k, k < m → p k = true → g k = g' k) → maxO p g m = maxO p g' m
  | 0, _ => rfl
  | m + 1, h => by
    show (if p m = true ∧ maxO p g m < g m then g m else maxO p g m) = (if p m = true ∧ maxO p g' m < g' m then g' m else maxO p g' m)
    rw [maxO_congr (fun k hk => h k (by omega))]
    by_cases c : p m = true
    · rw [h m (by omega) c]
    · rw [if_neg (fun q => c q.1), if_neg (fun q => c q.1)]
/-- Ranks, reckoned. -/
def rkF (f : Nat → Ev) (n : Nat) : Nat → Nat → Int
  | 0, _ => 1
  | t + 1, i => maxO (fun k => sur f k i) (rkF f n t) n + 1
theorem rkF_same (h : ∀ j, j < n → okAt f j) : ∀ (t t' i : Nat), i < n → erl f n i < t → erl f n i < t' → rkF f n t i = rkF f n t' i
  | 0, _, i, _, c, _ => by omega
  | t + 1, 0, i, _, _, c => by omega
  | t + 1, t' + 1, i, hi, c, c' => by
    show maxO _ _ _ + 1 = maxO _ _ _ + 1
    rw [maxO_congr (g' := rkF f n t') (fun k hk s => rkF_same h t t' k hk (by have := erl_lt h hk s; omega) (by have := erl_lt h hk s; omega))]
/-- The ranks. -/
def rkO (f : Nat → Ev) (n i : Nat) : Int := rkF f n (n + 1) i
theorem rkO_eq (h : ∀ j, j < n → okAt f j) {i : Nat} (hi : i < n) : rkO f n i = maxO (fun k => sur f k i) (rkO f n) n + 1 := by
  show maxO _ (rkF f n n) n + 1 = maxO _ (rkF f n (n + 1)) n + 1
  rw [maxO_congr (g' := rkF f n (n + 1)) (fun k hk s => rkF_same h n (n + 1) k hk (by have := erl_lt h hk s; have := cntN_le n (fun k => decide ((f k).lo < (f i).lo)); unfold erl at *; omega) (by have := cntN_le n (fun j => decide ((f j).lo < (f k).lo)); unfold erl; omega))]
theorem rkO_is (h : ∀ j, j < n → okAt f j) : RkI f n (rkO f n) := fun i hi => by
  have e := rkO_eq h hi
  obtain ⟨a, b⟩ := maxO_ge (p := fun k => sur f k i) (g := rkO f n) (m := n)
  refine ⟨by omega, fun k hk s => by have := b k hk s; omega, ?_⟩
  rcases maxO_at (p := fun k => sur f k i) (g := rkO f n) (m := n) with c | ⟨k, hk, s, c⟩
  · exact Or.inl (by omega)
  · exact Or.inr ⟨k, hk, s, by omega⟩
theorem rkO_le (h : ∀ j, j < n → okAt f j) : ∀ i, i < n → rkO f n i ≤ erl f n i + 1 := by
  have st : ∀ m i, i < n → erl f n i ≤ m → rkO f n i ≤ erl f n i + 1 := by
    intro m
    induction m with
    | zero =>
      intro i hi c
      rcases (rkO_is h i hi).2.2 with e | ⟨k, hk, s, e⟩
      · omega
      · have := erl_lt h hk s; omega
    | succ m ih =>
      intro i hi c
      rcases (rkO_is h i hi).2.2 with e | ⟨k, hk, s, e⟩
      · omega
      · have := erl_lt h hk s
        have := ih k hk (by omega)
        omega
  exact fun i hi => st _ i hi (Nat.le_refl _)
end
/-- Each Id is a number that an int can be. -/
def IdW (n : Nat) (f : Nat → Ev) : Prop := ∀ i, i < n → In64 (f i).id
/-- The error of an order, of times along it. -/
def OrE (n : Nat) (f : Nat → Ev) (o : Nat → Int) (m : Nat) (e : Int) : Prop := (EvE n f e ∧ e ≠ 0) ∨ (EvE n f 0 ∧ ¬ EachP n o m ∧ e = 3) ∨ (EvE n f 0 ∧ EachP n o m ∧ e = 0)
end Go.Proofs.YthejaecljkjliaiGreatDoor
namespace Go.Proofs.YthejaecljkjliaiGreatDoor
set_option linter.unusedVariables false

/-- Is x in the span? -/
def inn (s : Int × Int) (x : Int) : Int := if s.1 ≤ x ∧ x ≤ s.2 then 1 else 0
/-- In how many of the first n spans x is. -/
def cnt (q : Nat → Int × Int) : Nat → Int → Int
  | 0, _ => 0
  | n + 1, x => cnt q n x + inn (q n) x
theorem inn_le (s : Int × Int) (x : Int) : 0 ≤ inn s x ∧ inn s x ≤ 1 := by unfold inn; split <;> omega
theorem cnt_le (q : Nat → Int × Int) (x : Int) : ∀ n : Nat, 0 ≤ cnt q n x ∧ cnt q n x ≤ n
  | 0 => by simp [cnt]
  | n + 1 => by have h := cnt_le q x n; have := inn_le (q n) x; simp only [cnt]; omega
/-- Whatever each span that has x has too is in no fewer. -/
theorem cnt_mono (q : Nat → Int × Int) (x y : Int) : ∀ n : Nat, (∀ i, i < n → inn (q i) x = 1 → inn (q i) y = 1) → cnt q n x ≤ cnt q n y
  | 0, _ => by simp [cnt]
  | n + 1, h => by
    have ih := cnt_mono q x y n (fun i hi => h i (by omega))
    have h1 := h n (by omega)
    have := inn_le (q n) x; have := inn_le (q n) y
    simp only [cnt]
    by_cases e : inn (q n) x = 1
    · have := h1 e; omega
    · omega
theorem cnt_congr (q : Nat → Int × Int) (x y : Int) (n : Nat) (h : ∀ i, i < n → inn (q i) x = inn (q i) y) : cnt q n x = cnt q n y := by
  have a := cnt_mono q x y n (fun i hi e => by rw [← h i hi]; exact e)
  have b := cnt_mono q y x n (fun i hi e => by rw [h i hi]; exact e)
  omega
theorem cnt_pos (q : Nat → Int × Int) (x : Int) : ∀ n : Nat, 0 < cnt q n x → ∃ i, i < n ∧ inn (q i) x = 1
  | 0, h => by simp [cnt] at h
  | n + 1, h => by
    by_cases e : inn (q n) x = 1
    · exact ⟨n, by omega, e⟩
    · have := inn_le (q n) x
      simp only [cnt] at h
      obtain ⟨i, hi, he⟩ := cnt_pos q x n (by omega)
      exact ⟨i, by omega, he⟩
theorem cnt_one (q : Nat → Int × Int) (x : Int) : ∀ n i : Nat, i < n → inn (q i) x = 1 → 1 ≤ cnt q n x
  | 0, i, h, _ => by omega
  | n + 1, i, h, e => by
    have := inn_le (q n) x
    have c := cnt_le q x n
    simp only [cnt]
    by_cases ei : i = n
    · subst ei; omega
    · have := cnt_one q x n i (by omega) e; omega
/-- In all. -/
theorem cnt_all (q : Nat → Int × Int) (x : Int) : ∀ n : Nat, (n : Int) ≤ cnt q n x ↔ ∀ i, i < n → inn (q i) x = 1
  | 0 => by simp [cnt]
  | n + 1 => by
    have ih := cnt_all q x n
    have a := inn_le (q n) x
    have c := cnt_le q x n
    simp only [cnt]
    constructor
    · intro h i hi
      by_cases e : i = n
      · subst e; omega
      · exact ih.1 (by omega) i (by omega)
    · intro h
      have h1 := ih.2 (fun i hi => h i (by omega))
      have h2 := h n (by omega)
      omega
theorem inn_one (s : Int × Int) (x : Int) : inn s x = 1 ↔ s.1 ≤ x ∧ x ≤ s.2 := by
  unfold inn; split <;> simp_all
/-- Of those with x the greatest beginning: no later than x, in no fewer. -/
theorem lo_at (q : Nat → Int × Int) (x : Int) : ∀ n m : Nat, m ≤ n → (∃ i, i < m ∧ inn (q i) x = 1) → ∃ i, i < m ∧ inn (q i) x = 1 ∧ ∀ j, j < m → inn (q j) x = 1 → (q j).1 ≤ (q i).1
  | n, 0, _, h => by obtain ⟨i, hi, _⟩ := h; omega
  | n, m + 1, hm, h => by
    by_cases e : inn (q m) x = 1
    · by_cases h' : ∃ i, i < m ∧ inn (q i) x = 1
      · obtain ⟨i, hi, ei, hb⟩ := lo_at q x n m (by omega) h'
        by_cases c : (q i).1 ≤ (q m).1
        · refine ⟨m, by omega, e, fun j hj ej => ?_⟩
          by_cases jm : j = m
          · subst jm; omega
          · have := hb j (by omega) ej; omega
        · refine ⟨i, by omega, ei, fun j hj ej => ?_⟩
          by_cases jm : j = m
          · subst jm; omega
          · exact hb j (by omega) ej
      · refine ⟨m, by omega, e, fun j hj ej => ?_⟩
        by_cases jm : j = m
        · subst jm; omega
        · exact absurd ⟨j, by omega, ej⟩ h'
    · obtain ⟨i, hi, ei⟩ := h
      have im : i ≠ m := fun c => e (c ▸ ei)
      obtain ⟨i, hi, ei, hb⟩ := lo_at q x n m (by omega) ⟨i, by omega, ei⟩
      exact ⟨i, by omega, ei, fun j hj ej => by
        by_cases jm : j = m
        · subst jm; exact absurd ej e
        · exact hb j (by omega) ej⟩
theorem hi_at (q : Nat → Int × Int) (x : Int) : ∀ m : Nat, (∃ i, i < m ∧ inn (q i) x = 1) → ∃ i, i < m ∧ inn (q i) x = 1 ∧ ∀ j, j < m → inn (q j) x = 1 → (q i).2 ≤ (q j).2
  | 0, h => by obtain ⟨i, hi, _⟩ := h; omega
  | m + 1, h => by
    by_cases e : inn (q m) x = 1
    · by_cases h' : ∃ i, i < m ∧ inn (q i) x = 1
      · obtain ⟨i, hi, ei, hb⟩ := hi_at q x m h'
        by_cases c : (q m).2 ≤ (q i).2
        · refine ⟨m, by omega, e, fun j hj ej => ?_⟩
          by_cases jm : j = m
          · subst jm; omega
          · have := hb j (by omega) ej; omega
        · refine ⟨i, by omega, ei, fun j hj ej => ?_⟩
          by_cases jm : j = m
          · subst jm; omega
          · exact hb j (by omega) ej
      · refine ⟨m, by omega, e, fun j hj ej => ?_⟩
        by_cases jm : j = m
        · subst jm; omega
        · exact absurd ⟨j, by omega, ej⟩ h'
    · obtain ⟨i, hi, ei⟩ := h
      have im : i ≠ m := fun c => e (c ▸ ei)
      obtain ⟨i, hi, ei, hb⟩ := hi_at q x m ⟨i, by omega, ei⟩
      exact ⟨i, by omega, ei, fun j hj ej => by
        by_cases jm : j = m
        · subst jm; exact absurd ej e
        · exact hb j (by omega) ej⟩
/-- Whatever is in some is in no more than some beginning that is no later. -/
theorem lo_best (q : Nat → Int × Int) (n : Nat) (x : Int) (h : 0 < cnt q n x) : ∃ i, i < n ∧ (q i).1 ≤ x ∧ x ≤ (q i).2 ∧ cnt q n x ≤ cnt q n (q i).1 := by
  obtain ⟨i, hi, ei, hb⟩ := lo_at q x n n (Nat.le_refl _) (cnt_pos q x n h)
  have e2 := (inn_one _ _).1 ei
  refine ⟨i, hi, e2.1, e2.2, cnt_mono q x (q i).1 n (fun j hj ej => ?_)⟩
  have := (inn_one _ _).1 ej
  have := hb j hj ej
  exact (inn_one _ _).2 (by omega)
/-- .. and than some end that is no sooner, and all between are in no fewer. -/
theorem hi_best (q : Nat → Int × Int) (n : Nat) (x : Int) (h : 0 < cnt q n x) : ∃ i, i < n ∧ x ≤ (q i).2 ∧ ∀ y, x ≤ y → y ≤ (q i).2 → cnt q n x ≤ cnt q n y := by
  obtain ⟨i, hi, ei, hb⟩ := hi_at q x n (cnt_pos q x n h)
  have e2 := (inn_one _ _).1 ei
  refine ⟨i, hi, e2.2, fun y h1 h2 => cnt_mono q x y n (fun j hj ej => ?_)⟩
  have := (inn_one _ _).1 ej
  have := hb j hj ej
  exact (inn_one _ _).2 (by omega)

/-- The first span of the numbers that are in the most, and in how many. -/
structure IsMost (c : Int → Int) (lo hi m : Int) : Prop where
  pos : 1 ≤ m
  le : lo ≤ hi
  top : ∀ x, c x ≤ m
  on : ∀ x, lo ≤ x → x ≤ hi → c x = m
  before : ∀ x, x < lo → c x < m
  after : c (hi + 1) < m
theorem IsMost.same {c : Int → Int} {lo hi m lo' hi' m' : Int} (h : IsMost c lo hi m) (h' : IsMost c lo' hi' m') : lo = lo' ∧ hi = hi' ∧ m = m' := by
  have a := h.on lo (Int.le_refl _) h.le
  have a' := h'.on lo' (Int.le_refl _) h'.le
  have b := h.top lo'
  have b' := h'.top lo
  have em : m = m' := by omega
  subst em
  have el : lo = lo' := by
    by_cases c1 : lo < lo'
    · have := h'.before lo c1; omega
    · by_cases c2 : lo' < lo
      · have := h.before lo' c2; omega
      · omega
  subst el
  refine ⟨rfl, ?_, rfl⟩
  have l1 := h.le; have l2 := h'.le
  by_cases c1 : hi < hi'
  · have := h.after; have := h'.on (hi + 1) (by omega) (by omega); omega
  · by_cases c2 : hi' < hi
    · have := h'.after; have := h.on (hi' + 1) (by omega) (by omega); omega
    · omega
/-- From the least to the greatest number that is in at least k. -/
structure IsSafe (c : Int → Int) (k lo hi : Int) : Prop where
  first : k ≤ c lo
  last : k ≤ c hi
  all : ∀ x, k ≤ c x → lo ≤ x ∧ x ≤ hi
theorem IsSafe.same {c : Int → Int} {k lo hi lo' hi' : Int} (h : IsSafe c k lo hi) (h' : IsSafe c k lo' hi') : lo = lo' ∧ hi = hi' := by
  have := h.all lo' h'.first; have := h'.all lo h.first
  have := h.all hi' h'.last; have := h'.all hi h.last
  omega
theorem IsSafe.le {c : Int → Int} {k lo hi : Int} (h : IsSafe c k lo hi) : lo ≤ hi := (h.all lo h.first).2

/-! ### The walk over steps -/
def lsum (L : List (Int × Int)) (x : Int) : Int := (L.map fun p => if p.1 ≤ x then p.2 else 0).sum
theorem sum_perm {L M : List Int} (h : L.Perm M) : L.sum = M.sum := by
  induction h with
  | nil => rfl
  | cons a _ ih => simp [ih]
  | swap a b l => simp; omega
  | trans _ _ a b => exact a.trans b
theorem lsum_perm {L M : List (Int × Int)} (h : L.Perm M) (x : Int) : lsum L x = lsum M x := sum_perm (h.map _)
theorem lsum_append (L M : List (Int × Int)) (x : Int) : lsum (L ++ M) x = lsum L x + lsum M x := by simp [lsum, List.sum_append]
/-- The steps of the first n spans. -/
def stepsOf (q : Nat → Int × Int) : Nat → List (Int × Int)
  | 0 => []
  | n + 1 => stepsOf q n ++ [((q n).1, 1), ((q n).2 + 1, -1)]
theorem stepsOf_length (q : Nat → Int × Int) : ∀ n, (stepsOf q n).length = 2 * n
  | 0 => rfl
  | n + 1 => by simp [stepsOf, stepsOf_length q n]; omega
theorem stepsOf_mem (q : Nat → Int × Int) (p : Int × Int) : ∀ n, p ∈ stepsOf q n → ∃ i, i < n ∧ (p = ((q i).1, 1) ∨ p = ((q i).2 + 1, -1))
  | 0, h => by simp [stepsOf] at h
  | n + 1, h => by
    simp only [stepsOf, List.mem_append, List.mem_cons, List.not_mem_nil, or_false] at h
    rcases h with h | h
    · obtain ⟨i, hi, e⟩ := stepsOf_mem q p n h
      exact ⟨i, by omega, e⟩
    · exact ⟨n, by omega, h⟩
theorem lsum_steps (q : Nat → Int × Int) (x : Int) : ∀ n, (∀ i, i < n → (q i).1 ≤ (q i).2) → lsum (stepsOf q n) x = cnt q n x
  | 0, _ => rfl
  | n + 1, h => by
    have ih := lsum_steps q x n (fun i hi => h i (by omega))
    have hn := h n (by omega)
    rw [stepsOf, lsum_append, ih]
    simp only [cnt, inn, lsum, List.map_cons, List.map_nil, List.sum_cons, List.sum_nil]
    split <;> split <;> split <;> omega
def inAt (L : List (Int × Int)) (k : Nat) : Int := ((L.take k).map (·.2)).sum
def el (L : List (Int × Int)) (k : Nat) : Int × Int := L.getD k (0, 0)
theorem take_succ_el (L : List (Int × Int)) (k : Nat) (h : k < L.length) : L.take (k + 1) = L.take k ++ [el L k] := by
  rw [List.take_add_one]; simp [el, List.getD, List.getElem?_eq_getElem h]
theorem inAt_zero (L : List (Int × Int)) : inAt L 0 = 0 := rfl
theorem inAt_succ (L : List (Int × Int)) (k : Nat) (h : k < L.length) : inAt L (k + 1) = inAt L k + (el L k).2 := by
  unfold inAt; rw [take_succ_el L k h]; simp
/-- Sorted by place. -/
def Srt (L : List (Int × Int)) : Prop := ∀ i j, i < j → j < L.length → (el L i).1 ≤ (el L j).1
theorem Srt.le {L : List (Int × Int)} (h : Srt L) {i j : Nat} (hij : i ≤ j) (hj : j < L.length) : (el L i).1 ≤ (el L j).1 := by
  by_cases e : i = j
  · subst e; omega
  · exact h i j (by omega) hj
theorem mem_take_el (L : List (Int × Int)) (k : Nat) (p : Int × Int) (h : p ∈ L.take k) : ∃ i, i < k ∧ i < L.length ∧ p = el L i := by
  obtain ⟨i, hi, e⟩ := List.mem_iff_getElem.1 h
  have hi' := hi
  simp at hi'
  exact ⟨i, by omega, by omega, by simp [el, List.getD, List.getElem?_eq_getElem (show i < L.length by omega)]; simpa using e.symm⟩
theorem mem_drop_el (L : List (Int × Int)) (k : Nat) (p : Int × Int) (h : p ∈ L.drop k) : ∃ i, k ≤ i ∧ i < L.length ∧ p = el L i := by
  obtain ⟨i, hi, e⟩ := List.mem_iff_getElem.1 h
  have hi' := hi
  simp at hi'
  exact ⟨k + i, by omega, by omega, by simp [el, List.getD, List.getElem?_eq_getElem (show k + i < L.length by omega)]; simpa using e.symm⟩
theorem lsum_in (L : List (Int × Int)) (x : Int) (h : ∀ p ∈ L, p.1 ≤ x) : lsum L x = (L.map (·.2)).sum := by
  unfold lsum
  congr 1
  apply List.map_congr_left
  intro p hp
  rw [if_pos (h p hp)]
theorem lsum_out (L : List (Int × Int)) (x : Int) (h : ∀ p ∈ L, x < p.1) : lsum L x = 0 := by
  induction L with
  | nil => rfl
  | cons p L ih =>
    have h1 := h p (by simp)
    have h2 := ih (fun r hr => h r (by simp [hr]))
    unfold lsum at *
    simp only [List.map_cons, List.sum_cons, h2]
    rw [if_neg (by omega)]; rfl
/-- Behind step k and ahead of step k + 1 a number is in as many as the first k + 1 steps say. -/
theorem lsum_at (L : List (Int × Int)) (hs : Srt L) (k : Nat) (x : Int) (hk : k + 1 < L.length) (h1 : (el L k).1 ≤ x) (h2 : x < (el L (k + 1)).1) : lsum L x = inAt L (k + 1) := by
  have e : lsum L x = lsum (L.take (k + 1) ++ L.drop (k + 1)) x := by rw [List.take_append_drop]
  rw [e, lsum_append, lsum_in _ _ (fun p hp => ?_), lsum_out _ _ (fun p hp => ?_)]
  · unfold inAt; omega
  · obtain ⟨i, h3, h4, rfl⟩ := mem_drop_el _ _ _ hp
    have := hs.le h3 h4; omega
  · obtain ⟨i, h3, h4, rfl⟩ := mem_take_el _ _ _ hp
    have := hs.le (show i ≤ k by omega) (by omega); omega
theorem lsum_before (L : List (Int × Int)) (hs : Srt L) (x : Int) (h : x < (el L 0).1) : lsum L x = 0 :=
  lsum_out _ _ (fun p hp => by
    obtain ⟨i, _, h4, rfl⟩ := mem_drop_el L 0 p (by simpa using hp)
    have := hs.le (Nat.zero_le i) h4; omega)
theorem lsum_after (L : List (Int × Int)) (hs : Srt L) (x : Int) (h0 : 0 < L.length) (h : (el L (L.length - 1)).1 ≤ x) : lsum L x = inAt L L.length := by
  rw [lsum_in _ _ (fun p hp => ?_)]
  · unfold inAt; rw [List.take_length]
  · obtain ⟨i, _, h4, rfl⟩ := mem_drop_el L 0 p (by simpa using hp)
    have := hs.le (show i ≤ L.length - 1 by omega) (by omega); omega

/-- What is told k steps on: each span of numbers that are in as many, rising, to T. -/
def toldBy {σ : Type} (T : σ → Int → Int → Int → σ) (a : σ) (L : List (Int × Int)) : Nat → σ
  | 0 => a
  | k + 1 => if (el L k).1 < (el L (k + 1)).1 then T (toldBy T a L k) (el L k).1 ((el L (k + 1)).1 - 1) (inAt L (k + 1)) else toldBy T a L k
/-- What the steps of spans are, sorted somehow. -/
structure Steps (q : Nat → Int × Int) (n : Nat) (L : List (Int × Int)) : Prop where
  len : L.length = 2 * n
  srt : Srt L
  perm : L.Perm (stepsOf q n)
section
variable {q : Nat → Int × Int} {n : Nat} {L : List (Int × Int)}
theorem Steps.sum (h : Steps q n L) (ok : ∀ i, i < n → (q i).1 ≤ (q i).2) (x : Int) : lsum L x = cnt q n x := (lsum_perm h.perm x).trans (lsum_steps q x n ok)
theorem Steps.seg (h : Steps q n L) (ok : ∀ i, i < n → (q i).1 ≤ (q i).2) (k : Nat) (x : Int) (hk : k + 1 < 2 * n) (h1 : (el L k).1 ≤ x) (h2 : x < (el L (k + 1)).1) : cnt q n x = inAt L (k + 1) := by
  rw [← h.sum ok, lsum_at L h.srt k x (by rw [h.len]; exact hk) h1 h2]
theorem Steps.before (h : Steps q n L) (ok : ∀ i, i < n → (q i).1 ≤ (q i).2) (x : Int) (h1 : x < (el L 0).1) : cnt q n x = 0 := by
  rw [← h.sum ok, lsum_before L h.srt x h1]
theorem Steps.mem (h : Steps q n L) (i : Nat) (hi : i < 2 * n) : ∃ j, j < n ∧ (el L i = ((q j).1, 1) ∨ el L i = ((q j).2 + 1, -1)) := by
  apply stepsOf_mem
  refine h.perm.mem_iff.1 ?_
  have hi' : i < L.length := by rw [h.len]; exact hi
  simp only [el, List.getD, List.getElem?_eq_getElem hi']
  exact List.getElem_mem hi'
theorem Steps.ends (h : Steps q n L) (j : Nat) (hj : j < n) (p : Int × Int) (hp : p = ((q j).1, 1) ∨ p = ((q j).2 + 1, -1)) : ∃ i, i < 2 * n ∧ el L i = p := by
  have : p ∈ stepsOf q n := by
    clear h
    induction n with
    | zero => omega
    | succ n ih =>
      simp only [stepsOf, List.mem_append, List.mem_cons, List.not_mem_nil, or_false]
      by_cases e : j = n
      · subst e; exact Or.inr hp
      · exact Or.inl (ih (by omega))
  obtain ⟨i, hi, e⟩ := List.mem_iff_getElem.1 (h.perm.mem_iff.2 this)
  rw [h.len] at hi
  exact ⟨i, hi, by simp [el, List.getD, List.getElem?_eq_getElem (show i < L.length by rw [h.len]; exact hi)]; exact e⟩
theorem Steps.last (h : Steps q n L) (ok : ∀ i, i < n → (q i).1 ≤ (q i).2) (x : Int) (h1 : (el L (2 * n - 1)).1 ≤ x) : cnt q n x = 0 := by
  have c := cnt_le q x n
  apply Classical.byContradiction
  intro hne
  obtain ⟨i, hi, e⟩ := cnt_pos q x n (by omega)
  have e := (inn_one _ _).1 e
  obtain ⟨j, hj, ej⟩ := h.ends i hi _ (Or.inr rfl)
  have := h.srt.le (show j ≤ 2 * n - 1 by omega) (by rw [h.len]; omega)
  rw [ej] at this
  simp at this
  omega
/-- The first step is a beginning, and the first number is in some. -/
theorem Steps.first (h : Steps q n L) (ok : ∀ i, i < n → (q i).1 ≤ (q i).2) (h0 : 0 < n) : 1 ≤ cnt q n (el L 0).1 := by
  obtain ⟨j, hj, e⟩ := h.mem 0 (by omega)
  obtain ⟨i, hi, ei⟩ := h.ends j hj _ (Or.inl rfl)
  have le := h.srt.le (Nat.zero_le i) (by rw [h.len]; exact hi)
  rw [ei] at le
  have := ok j hj
  rcases e with e | e
  · rw [e]; exact cnt_one q _ n j hj ((inn_one _ _).2 (by simp; omega))
  · rw [e] at le; simp at le; omega
end

/-! ### Most -/
def mostT (a : Int × Int × Int) (lo hi k : Int) : Int × Int × Int :=
  if a.2.2 < k then (lo, hi, k) else if k = a.2.2 ∧ lo = a.2.1 + 1 then (a.1, hi, a.2.2) else a
structure MostUpto (c : Int → Int) (D : Int) (a : Int × Int × Int) : Prop where
  pos : 1 ≤ a.2.2
  le : a.1 ≤ a.2.1
  lt : a.2.1 < D
  top : ∀ x, x < D → c x ≤ a.2.2
  on : ∀ x, a.1 ≤ x → x ≤ a.2.1 → c x = a.2.2
  before : ∀ x, x < a.1 → c x < a.2.2
  after : a.2.1 + 1 < D → c (a.2.1 + 1) < a.2.2
theorem most_first {c : Int → Int} {D D' k : Int} (hD : D < D') (hc : ∀ x, D ≤ x → x < D' → c x = k) (h0 : ∀ x, x < D → c x = 0) (hk : 1 ≤ k) : MostUpto c D' (D, D' - 1, k) := by
  refine ⟨hk, by simp; omega, by simp; omega, fun x hx => ?_, fun x h1 h2 => ?_, fun x hx => ?_, fun h => absurd h (by simp)⟩
  · by_cases e : x < D
    · have := h0 x e; simp; omega
    · have := hc x (by omega) hx; simp; omega
  · simp at h1 h2 ⊢; exact hc x h1 (by omega)
  · have := h0 x hx; simp at *; omega
theorem most_step {c : Int → Int} {D D' k : Int} {a : Int × Int × Int} (hD : D < D') (hc : ∀ x, D ≤ x → x < D' → c x = k) (h : MostUpto c D a) : MostUpto c D' (mostT a D (D' - 1) k) := by
  obtain ⟨lo, hi, m⟩ := a
  have p := h.pos; have l := h.le; have t := h.lt
  simp only at p l t
  have T := h.top; have O := h.on; have B := h.before; have A := h.after
  simp only at T O B A
  unfold mostT
  simp only
  split
  · refine ⟨by simp; omega, by simp; omega, by simp; omega, fun x hx => ?_, fun x h1 h2 => ?_, fun x hx => ?_, fun h => absurd h (by simp)⟩
    · by_cases e : x < D
      · have := T x e; simp; omega
      · have := hc x (by omega) hx; simp; omega
    · simp at h1 h2 ⊢; exact hc x h1 (by omega)
    · have := T x hx; simp at *; omega
  · split
    · rename_i hm
      obtain ⟨rfl, rfl⟩ := hm
      refine ⟨p, by simp; omega, by simp; omega, fun x hx => ?_, fun x h1 h2 => ?_, fun x hx => ?_, fun h => absurd h (by simp)⟩
      · by_cases e : x < hi + 1
        · have := T x e; simp; omega
        · have := hc x (by omega) hx; simp; omega
      · simp at h1 h2 ⊢
        by_cases e : x ≤ hi
        · exact O x h1 e
        · exact hc x (by omega) (by omega)
      · exact B x hx
    · rename_i hm
      refine ⟨p, l, by simp; omega, fun x hx => ?_, O, B, fun hh => ?_⟩
      · by_cases e : x < D
        · exact T x e
        · have := hc x (by omega) hx; simp; omega
      · simp at hh ⊢
        by_cases e : hi + 1 < D
        · exact A e
        · have := hc (hi + 1) (by omega) hh; omega
section
variable {q : Nat → Int × Int} {n : Nat} {L : List (Int × Int)}
theorem most_inv (h : Steps q n L) (ok : ∀ i, i < n → (q i).1 ≤ (q i).2) (h0 : 0 < n) : ∀ k, k < 2 * n →
    ((el L k).1 = (el L 0).1 ∧ toldBy mostT (0, 0, 0) L k = (0, 0, 0)) ∨ MostUpto (cnt q n) (el L k).1 (toldBy mostT (0, 0, 0) L k)
  | 0, _ => Or.inl ⟨rfl, rfl⟩
  | k + 1, hk => by
    have ih := most_inv h ok h0 k (by omega)
    have seg := h.seg ok k
    by_cases c : (el L k).1 < (el L (k + 1)).1
    · right
      have e : toldBy mostT (0, 0, 0) L (k + 1) = mostT (toldBy mostT (0, 0, 0) L k) (el L k).1 ((el L (k + 1)).1 - 1) (inAt L (k + 1)) := if_pos c
      rw [e]
      have hc : ∀ x, (el L k).1 ≤ x → x < (el L (k + 1)).1 → cnt q n x = inAt L (k + 1) := fun x h1 h2 => seg x hk h1 h2
      rcases ih with ⟨e1, e2⟩ | ih
      · rw [e2]
        have f := h.first ok h0
        rw [← e1, hc _ (Int.le_refl _) c] at f
        have : mostT (0, 0, 0) (el L k).1 ((el L (k + 1)).1 - 1) (inAt L (k + 1)) = ((el L k).1, (el L (k + 1)).1 - 1, inAt L (k + 1)) := if_pos (by simp; omega)
        rw [this]
        exact most_first c hc (fun x hx => h.before ok x (by omega)) f
      · exact most_step c hc ih
    · have le := h.srt k (k + 1) (by omega) (by rw [h.len]; exact hk)
      have e : toldBy mostT (0, 0, 0) L (k + 1) = toldBy mostT (0, 0, 0) L k := if_neg c
      have e2 : (el L (k + 1)).1 = (el L k).1 := by omega
      rw [e, e2]
      exact ih
/-- WHAT THE WALK TELLS OF MOST. -/
theorem most_told (h : Steps q n L) (ok : ∀ i, i < n → (q i).1 ≤ (q i).2) (h0 : 0 < n) :
    IsMost (cnt q n) (toldBy mostT (0, 0, 0) L (2 * n - 1)).1 (toldBy mostT (0, 0, 0) L (2 * n - 1)).2.1 (toldBy mostT (0, 0, 0) L (2 * n - 1)).2.2 := by
  have last := h.last ok
  have f := h.first ok h0
  rcases most_inv h ok h0 (2 * n - 1) (by omega) with ⟨e, _⟩ | u
  · have := last (el L 0).1 (by omega); omega
  · have p := u.pos
    refine ⟨p, u.le, fun x => ?_, u.on, u.before, ?_⟩
    · by_cases c : x < (el L (2 * n - 1)).1
      · exact u.top x c
      · have := last x (by omega); omega
    · by_cases c : (toldBy mostT (0, 0, 0) L (2 * n - 1)).2.1 + 1 < (el L (2 * n - 1)).1
      · exact u.after c
      · have := last ((toldBy mostT (0, 0, 0) L (2 * n - 1)).2.1 + 1) (by omega); omega
end

/-! ### Safe -/
def safeT (k : Int) (a : Int × Int × Bool) (lo hi i : Int) : Int × Int × Bool := if i < k then a else (if a.2.2 then a.1 else lo, hi, true)
section
variable {q : Nat → Int × Int} {n : Nat} {L : List (Int × Int)} {K : Int}
theorem safe_inv (h : Steps q n L) (ok : ∀ i, i < n → (q i).1 ≤ (q i).2) (hK : 1 ≤ K) : ∀ k, k < 2 * n →
    (toldBy (safeT K) (0, 0, false) L k = (0, 0, false) ∧ ∀ x, x < (el L k).1 → cnt q n x < K) ∨
    ((toldBy (safeT K) (0, 0, false) L k).2.2 = true ∧ K ≤ cnt q n (toldBy (safeT K) (0, 0, false) L k).1 ∧ K ≤ cnt q n (toldBy (safeT K) (0, 0, false) L k).2.1 ∧
      (toldBy (safeT K) (0, 0, false) L k).2.1 < (el L k).1 ∧ (toldBy (safeT K) (0, 0, false) L k).1 ≤ (toldBy (safeT K) (0, 0, false) L k).2.1 ∧
      ∀ x, x < (el L k).1 → K ≤ cnt q n x → (toldBy (safeT K) (0, 0, false) L k).1 ≤ x ∧ x ≤ (toldBy (safeT K) (0, 0, false) L k).2.1)
  | 0, _ => Or.inl ⟨rfl, fun x hx => by rw [h.before ok x hx]; omega⟩
  | k + 1, hk => by
    have ih := safe_inv h ok hK k (by omega)
    have seg := h.seg ok k
    by_cases c : (el L k).1 < (el L (k + 1)).1
    · have e : toldBy (safeT K) (0, 0, false) L (k + 1) = safeT K (toldBy (safeT K) (0, 0, false) L k) (el L k).1 ((el L (k + 1)).1 - 1) (inAt L (k + 1)) := if_pos c
      rw [e]
      have hc : ∀ x, (el L k).1 ≤ x → x < (el L (k + 1)).1 → cnt q n x = inAt L (k + 1) := fun x h1 h2 => seg x hk h1 h2
      generalize toldBy (safeT K) (0, 0, false) L k = a at ih ⊢
      obtain ⟨lo, hi, f⟩ := a
      unfold safeT
      by_cases lt : inAt L (k + 1) < K
      · rw [if_pos lt]
        rcases ih with ⟨e1, e2⟩ | ⟨e1, e2, e3, e4, e5, e6⟩
        · exact Or.inl ⟨e1, fun x hx => by
            by_cases d : x < (el L k).1
            · exact e2 x d
            · rw [hc x (by omega) hx]; exact lt⟩
        · exact Or.inr ⟨e1, e2, e3, by omega, e5, fun x hx hk => by
            by_cases d : x < (el L k).1
            · exact e6 x d hk
            · rw [hc x (by omega) hx] at hk; omega⟩
      · rw [if_neg lt]
        right
        rcases ih with ⟨e1, e2⟩ | ⟨e1, e2, e3, e4, e5, e6⟩
        · injection e1 with e1 e1'; injection e1' with e1' e1''
          subst e1 e1' e1''
          simp only [Bool.false_eq_true, if_false]
          have a1 := hc (el L k).1 (Int.le_refl _) c
          have a2 := hc ((el L (k + 1)).1 - 1) (by omega) (by omega)
          refine ⟨trivial, by omega, by omega, by omega, by omega, fun x hx hk => ?_⟩
          by_cases d : x < (el L k).1
          · have := e2 x d; omega
          · omega
        · simp only at e1
          subst e1
          simp only [if_true]
          have a2 := hc ((el L (k + 1)).1 - 1) (by omega) (by omega)
          simp only at e2 e3 e4 e5 e6
          refine ⟨trivial, e2, by omega, by omega, by omega, fun x hx hk => ?_⟩
          by_cases d : x < (el L k).1
          · have := e6 x d hk; omega
          · omega
    · have le := h.srt k (k + 1) (by omega) (by rw [h.len]; exact hk)
      have e : toldBy (safeT K) (0, 0, false) L (k + 1) = toldBy (safeT K) (0, 0, false) L k := if_neg c
      have e2 : (el L (k + 1)).1 = (el L k).1 := by omega
      rw [e, e2]
      exact ih
/-- WHAT THE WALK TELLS OF SAFE. -/
theorem safe_told (h : Steps q n L) (ok : ∀ i, i < n → (q i).1 ≤ (q i).2) (h0 : 0 < n) (hK : 1 ≤ K) :
    (toldBy (safeT K) (0, 0, false) L (2 * n - 1) = (0, 0, false) ∧ ∀ x, cnt q n x < K) ∨
    ((toldBy (safeT K) (0, 0, false) L (2 * n - 1)).2.2 = true ∧ IsSafe (cnt q n) K (toldBy (safeT K) (0, 0, false) L (2 * n - 1)).1 (toldBy (safeT K) (0, 0, false) L (2 * n - 1)).2.1) := by
  have last := h.last ok
  rcases safe_inv h ok hK (2 * n - 1) (by omega) with ⟨e1, e2⟩ | ⟨e1, e2, e3, e4, e5, e6⟩
  · exact Or.inl ⟨e1, fun x => by
      by_cases c : x < (el L (2 * n - 1)).1
      · exact e2 x c
      · rw [last x (by omega)]; omega⟩
  · exact Or.inr ⟨e1, e2, e3, fun x hx => by
      by_cases c : x < (el L (2 * n - 1)).1
      · exact e6 x c hx
      · have := last x (by omega); omega⟩
end
end Go.Proofs.YthejaecljkjliaiGreatDoor
namespace Go.Proofs.YthejaecljkjliaiGreatDoor
open Go.ChangeShapes Go.WideShapes Go.ChangeAt Go.RowKit
set_option linter.unusedVariables false

/-- n spans lie in a row behind an address. -/
def Sps (w : World) (b off n : Nat) (q : Nat → Int × Int) : Prop := ∀ i, i < n → w.cell? ⟨b, off + i * 2, none⟩ = some (.int .i64 (q i).1) ∧ w.cell? ⟨b, off + i * 2 + 1, none⟩ = some (.int .i64 (q i).2)
theorem Sps.on {W u : World} {b off n : Nat} {q : Nat → Int × Int} (hb : Below W.heap.size W u) (h : Sps W b off n q) : Sps u b off n q := fun i hi => by
  obtain ⟨h0, h1⟩ := h i hi
  exact ⟨by rw [hb.cell (World.block_lt_of_cell? _ _ h0)]; exact h0, by rw [hb.cell (World.block_lt_of_cell? _ _ h1)]; exact h1⟩
theorem Sps.onK {S : Nat → Prop} {W u : World} {b off n : Nat} {q : Nat → Int × Int} (hb : Keeps S W u) (hn : ¬ S b) (h : Sps W b off n q) : Sps u b off n q := fun i hi => ⟨hb.cell hn (h i hi).1, hb.cell hn (h i hi).2⟩
/-- A row of none that the call made. -/
theorem own_empty (w : World) (e : TypeId) (size : Nat) : (w.alloc (.cells #[] e)).ownsRow w.heap.size e size (.slice (some ⟨w.heap.size, 0, none⟩) 0 0) 0 [] := by
  refine ⟨by simp, Or.inr ⟨w.heap.size, 0, #[], rfl, Nat.le_refl _, ?_, Nat.le_refl _, Nat.zero_le _, by simp, by simp⟩⟩
  show (w.heap.push _)[w.heap.size]? = _
  simp
/-- What the call owns it owns still where nothing that was there has turned. -/
theorem own_on {w u : World} {base : Nat} {e : TypeId} {size n : Nat} {v : Value} {xs : List Value} (hb : Below w.heap.size w u) (h : w.ownsRow base e size v n xs) : u.ownsRow base e size v n xs := by
  refine ⟨h.1, ?_⟩
  rcases h.2 with h | ⟨g, cap, cur, h1, h2, h3, h4⟩
  · exact Or.inl h
  · exact Or.inr ⟨g, cap, cur, h1, h2, (hb.block g (by
      apply Classical.byContradiction
      intro hn
      rw [Array.getElem?_eq_none (by omega)] at h3
      cases h3)).trans h3, h4⟩
end Go.Proofs.YthejaecljkjliaiGreatDoor
namespace Go.Proofs.YthejaecljkjliaiGreatDoor
open Go.ChangeShapes Go.WideShapes Go.ChangeAt Go.RowKit
set_option linter.unusedVariables false

section
open Go.Sort Go.Shelf
/-- Two numbers of a step. -/
def encS (x : Int × Int) : List Value := [.int .i64 x.1, .int .i64 x.2]
theorem sort_below {w0 w : World} {base blk off n : Nat} {d : Array (Int × Int)} {os : Array Obj} (h : Below base w0 w) (h1 : base ≤ blk) (h2 : base ≤ w.heap.size) : Below base w0 (sortWorldK encS 2 w blk off n d os) := by
  refine h.trans ⟨rfl, rfl, rfl, ?_, fun k hk => ?_⟩
  · exact size_sortWorldK_c encS 2 w blk off n d os
  · unfold sortWorldK grow putRowK putRow mapBlock
    simp only [Array.getElem?_append]
    rw [if_pos (by simp [Sort.ahead]; omega)]
    simp only [Array.getElem?_modify]
    rw [if_neg (by omega)]
    rfl
theorem swoS : SWO (ltOf fun x y : Int × Int => Lib.compareInt x.1 y.1) := by
  have lt : ∀ x y : Int × Int, ltOf (fun x y : Int × Int => Lib.compareInt x.1 y.1) x y = decide (x.1 < y.1) := fun x y => by
    unfold ltOf Lib.compareInt
    by_cases h1 : x.1 < y.1
    · simp [h1]
    · by_cases h2 : y.1 < x.1 <;> simp [h1, h2]
  exact ⟨fun x => by rw [lt]; simp, fun x y z h1 h2 => by rw [lt] at *; simp at *; omega, fun x y z h1 h2 => by rw [lt] at *; simp at *; omega⟩
theorem el_get (d : Array (Int × Int)) (i : Nat) (h : i < d.size) : el d.toList i = d[i]! := by
  simp [el, List.getD, h]
/-- What the sort leaves is the steps, sorted. -/
theorem steps_of {q : Nat → Int × Int} {n : Nat} {d d' : Array (Int × Int)} (hd : d.toList = stepsOf q n) (hp : PermIn 0 d.size d d') (hs : SortedIn (ltOf fun x y : Int × Int => Lib.compareInt x.1 y.1) 0 d.size d') : Steps q n d'.toList := by
  obtain ⟨p1, _, p3⟩ := hp
  have ds : d.size = 2 * n := by rw [← Array.length_toList, hd, stepsOf_length]
  have e1 : d.extract 0 d.size = d := by simp
  have e2 : d'.extract 0 d.size = d' := by rw [← p1]; simp
  rw [e1, e2, hd] at p3
  refine ⟨by simp [p1, ds], fun i j hij hj => ?_, p3⟩
  simp at hj
  have := hs i j (Nat.zero_le _) hij (by omega)
  rw [el_get _ _ (by omega), el_get _ _ hj]
  unfold ltOf Lib.compareInt at this
  simp only [decide_eq_false_iff_not] at this
  by_cases h1 : d'[j]!.1 < d'[i]!.1
  · simp [h1] at this
  · omega
/-- The cells of steps in a row. -/
def cellsOf (L : List (Int × Int)) : List Value := L.flatMap encS
theorem cellsOf_length : ∀ L : List (Int × Int), (cellsOf L).length = L.length * 2
  | [] => rfl
  | p :: L => by have := cellsOf_length L; simp [cellsOf, encS] at this ⊢; omega
theorem cellsOf_append (L M : List (Int × Int)) : cellsOf (L ++ M) = cellsOf L ++ cellsOf M := by simp [cellsOf]
theorem cellsOf_get : ∀ (L : List (Int × Int)) (t : Nat), t < L.length * 2 → (cellsOf L)[t]? = some (encS (el L (t / 2)))[t % 2]!
  | [], t, h => by simp at h
  | p :: L, 0, h => rfl
  | p :: L, 1, h => rfl
  | p :: L, t + 2, h => by
    have ih := cellsOf_get L t (by simp at h; omega)
    have e1 : (t + 2) / 2 = t / 2 + 1 := by omega
    have e2 : (t + 2) % 2 = t % 2 := by omega
    have e3 : cellsOf (p :: L) = .int .i64 p.1 :: .int .i64 p.2 :: cellsOf L := rfl
    rw [e1, e2, e3]
    simpa [el] using ih
/-- What a row of the call's own holds, to the sort's eyes. -/
theorem holds_of_own {w : World} {base g n cap : Nat} {e : TypeId} {d : Array (Int × Int)} (h : w.ownsRow base e 2 (.slice (some ⟨g, 0, none⟩) n cap) n (cellsOf d.toList)) (hn : d.size = n) : HoldsK encS 2 w g 0 d := by
  intro j hj
  have hj' : j < d.size * 2 := by simpa using hj
  rw [Nat.zero_add, h.cellAt j (by omega), cellsOf_get _ _ (by simpa using hj'), get_flatK _ _ _ _ hj', el_get _ _ (by omega)]
  exact ⟨rfl, h.frozenAt j⟩
theorem holds_cell {w : World} {g : Nat} {d : Array (Int × Int)} (h : HoldsK encS 2 w g 0 d) {i : Nat} (hi : i < d.size) :
    w.cell? ⟨g, i * 2, none⟩ = some (.int .i64 (el d.toList i).1) ∧ w.cell? ⟨g, i * 2 + 1, none⟩ = some (.int .i64 (el d.toList i).2) := by
  have h0 := (h.cell hi (show 0 < 2 by decide)).1
  have h1 := (h.cell hi (show 1 < 2 by decide)).1
  rw [el_get _ _ hi]
  simp [encS] at h0 h1
  exact ⟨h0, h1⟩
theorem holds_on {W u : World} {g : Nat} {d : Array (Int × Int)} (hb : Below W.heap.size W u) (hg : g < W.heap.size) (h : HoldsK encS 2 W g 0 d) : HoldsK encS 2 u g 0 d := fun j hj =>
  ⟨(hb.cell (p := ⟨g, 0 + j, none⟩) hg).trans (h j hj).1, (hb.frozen (p := ⟨g, 0 + j, none⟩) hg).trans (h j hj).2⟩
end
end Go.Proofs.YthejaecljkjliaiGreatDoor
