/- Plain mathematics of decimal numerals and of spans as texts: a numeral of at most 13 digits is read as a number just if it is that number's own numeral; a span's text is read as it was. No program is named here, and nothing is assumed. -/
import Derived.Lib.Atoi
import Derived.Lib.IndexMore
import Derived.Lib.ItoaMem
import Derived.Lib.Strings
namespace Go.Proofs.YtadkgnbagmnkkakGreatDoor
open Go.Lib

def isDig (b : UInt8) : Bool := decide (48 ≤ b.toNat ∧ b.toNat ≤ 57)

def allDig (l : List UInt8) : Bool := l.all isDig


def printL (a b : Int) : List UInt8 := itoa a ++ [46, 46] ++ itoa b


theorem ofNat_dig (d : Nat) (h : d < 10) : (UInt8.ofNat (48 + d)).toNat = 48 + d := by
 simp only [UInt8.toNat_ofNat']; omega

theorem dig_eq {b : UInt8} {d : Nat} (h : digitVal b = some d) : d < 10 ∧ b = UInt8.ofNat (48 + d) := by
 obtain ⟨h1, h2, h3⟩ := digitVal_eq h
 refine ⟨by omega, ?_⟩
 apply UInt8.toNat_inj.1
 rw [ofNat_dig d (by omega)]; omega

theorem digitVal_of {b : UInt8} (h : isDig b = true) : digitVal b = some (b.toNat - 48) := by
 unfold isDig at h; unfold digitVal; rw [if_pos (of_decide_eq_true h)]

theorem decFrom_snoc (l : List UInt8) (b : UInt8) : ∀ acc, decFrom acc (l ++ [b]) = (decFrom acc l).bind fun m => (digitVal b).map fun d => m * 10 + d := by
 induction l with
 | nil => intro acc; simp [decFrom]; cases digitVal b <;> rfl
 | cons a t ih => intro acc; simp only [List.cons_append, decFrom]; cases digitVal a with
  | none => rfl
  | some d => exact ih _

theorem decFrom_ge (l : List UInt8) : ∀ acc v, decFrom acc l = some v → acc ≤ v := by
 induction l with
 | nil => intro acc v h; simp [decFrom] at h; omega
 | cons a t ih => intro acc v h; simp only [decFrom] at h; cases hd : digitVal a with
  | none => rw [hd] at h; cases h
  | some d => rw [hd] at h; have := ih _ _ h; omega

theorem decFrom_pos (b : UInt8) (r : List UInt8) (v : Nat) (h : decFrom 0 (b :: r) = some v) (hb : b ≠ 48) : 1 ≤ v := by
 simp only [decFrom] at h
 cases hd : digitVal b with
 | none => rw [hd] at h; cases h
 | some d =>
  rw [hd] at h
  have h1 := decFrom_ge _ _ _ h
  obtain ⟨h2, h3⟩ := dig_eq hd
  have : d ≠ 0 := by intro e; subst e; exact hb h3
  omega


theorem decFrom_digits (n : Nat) : ∀ (l : List UInt8) (m : Nat), l.length ≤ n → l ≠ [] → decFrom 0 l = some m → (l.head? ≠ some 48 ∨ l = [48]) → l = decDigits m := by
 induction n with
 | zero => intro l m h hne; cases l with
  | nil => exact absurd rfl hne
  | cons a t => simp at h
 | succ n ih =>
  intro l m hl hne hd hh
  obtain ⟨p, b, rfl⟩ : ∃ p b, l = p ++ [b] := ⟨l.dropLast, l.getLast hne, (List.dropLast_concat_getLast hne).symm⟩
  rw [decFrom_snoc] at hd
  obtain ⟨m', h1, h2⟩ := Option.bind_eq_some_iff.1 hd
  obtain ⟨d, h3, h4⟩ := Option.map_eq_some_iff.1 h2
  obtain ⟨h5, h6⟩ := dig_eq h3
  cases p with
  | nil =>
   simp [decFrom] at h1
   have e : m = d := by omega
   rw [e, decDigits_one h5, h6]; rfl
  | cons a t =>
   have ha : a ≠ 48 := by
    rcases hh with hh | hh
    ·simpa using hh
    ·simp at hh
   have hp := decFrom_pos a t m' h1 ha
   have e : (a :: t) = decDigits m' := ih (a :: t) m' (by simp at hl ⊢; omega) (by simp) h1 (Or.inl (by simpa using ha))
   have hm : ¬ m < 10 := by omega
   have e1 : m / 10 = m' := by omega
   have e2 : m % 10 = d := by omega
   rw [decDigits, dif_neg hm, e1, e2, ← e, h6]


theorem decFrom_decDigits (u : Nat) : decFrom 0 (decDigits u) = some u := by
 induction u using Nat.strongRecOn with
 | _ u ih =>
  have one : ∀ d : Nat, d < 10 → digitVal (UInt8.ofNat (48 + d)) = some d := fun d h => by
   unfold digitVal; rw [ofNat_dig d h, if_pos (by omega)]; congr 1; omega
  by_cases h : u < 10
  ·rw [decDigits_one h]; simp only [decFrom, one u h, Nat.zero_mul, Nat.zero_add]
  ·rw [decDigits, dif_neg h, decFrom_snoc, ih (u / 10) (by omega), one (u % 10) (by omega)]
   simp; omega

theorem decDigits_ne (u : Nat) : decDigits u ≠ [] := by
 intro e
 have := decDigits_length u
 have h2 := nDigits_pos u
 rw [e] at this; simp at this; omega

theorem decDigits_head (u : Nat) (h : 1 ≤ u) : (decDigits u).head? ≠ some 48 := by
 induction u using Nat.strongRecOn with
 | _ u ih =>
  by_cases h9 : u < 10
  ·rw [decDigits_one h9]
   simp only [List.head?_cons, ne_eq, Option.some.injEq]
   intro e
   have := congrArg UInt8.toNat e
   rw [ofNat_dig u h9] at this
   simp at this; omega
  ·rw [decDigits, dif_neg h9]
   have h1 := ih (u / 10) (by omega) (by omega)
   cases hd : decDigits (u / 10) with
   | nil => exact absurd hd (decDigits_ne _)
   | cons a t => rw [hd] at h1; simpa using h1

theorem nDigits_le13 (u : Nat) (h : u < 10000000000000) : nDigits u ≤ 13 := by
 rcases Nat.lt_or_ge 13 (nDigits u) with h1 | h1
 ·exfalso
  have key : ∀ k v, nDigits v = k + 1 → 10 ^ k ≤ v ∨ k = 0 := by
   intro k
   induction k with
   | zero => intro v _; exact Or.inr rfl
   | succ k ih =>
    intro v hv
    left
    by_cases hs : v < 10
    ·rw [nDigits_small hs] at hv; omega
    ·rw [nDigits_big hs] at hv
     have := ih (v / 10) (by omega)
     rw [Nat.pow_succ]
     rcases this with h | h
     ·omega
     ·subst h; omega
  obtain ⟨k, hk⟩ : ∃ k, nDigits u = k + 1 := ⟨nDigits u - 1, by omega⟩
  have h3 := key k u hk
  have h4 : 10 ^ 13 ≤ 10 ^ k := Nat.pow_le_pow_right (by omega) (by omega)
  rcases h3 with h3 | h3
  ·have : (10 : Nat) ^ 13 = 10000000000000 := by decide
   omega
  ·omega
 ·exact h1


theorem dig_not_minus {b : UInt8} (h : isDig b = true) : b ≠ 45 ∧ b ≠ 43 ∧ b ≠ 46 := by
 unfold isDig at h
 have := of_decide_eq_true h
 refine ⟨?_, ?_, ?_⟩ <;> (intro e; subst e; simp at this)











end Go.Proofs.YtadkgnbagmnkkakGreatDoor
