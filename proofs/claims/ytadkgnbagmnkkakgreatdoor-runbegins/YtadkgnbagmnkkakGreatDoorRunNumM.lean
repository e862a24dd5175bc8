/- Numerals of at most seven digits, as the library's strconv reads and writes them: plain mathematics. -/
import Derived.Test.YtadkgnbagmnkkakGreatDoorNm08
import Derived.Lib.AtoiTie
import Derived.Lib.AtoiAllCases
import Derived.Lib.ItoaMem
namespace Go.Proofs.YtadkgnbagmnkkakGreatDoor.rn
set_option linter.unusedVariables false

theorem atoi_dec {l : List UInt8} {v : Nat} (ne : l ≠ []) (h : Lib.decFrom 0 l = some v) : Lib.atoi l = some (v : Int) := by
 cases l with
 | nil => exact absurd rfl ne
 | cons b r =>
  obtain ⟨d, hd⟩ := Lib.digit_of_decFrom (b :: r) 0 v h 0 b rfl
  obtain ⟨h48, h57, _⟩ := Lib.digitVal_eq hd
  have n45 : b ≠ 45 := by intro q; rw [q] at h48; exact absurd h48 (by decide)
  have n43 : b ≠ 43 := by intro q; rw [q] at h48; exact absurd h48 (by decide)
  unfold Lib.atoi
  simp [n45, n43, Lib.decNat, h]
theorem num_yes {l : List UInt8} {v : Nat} (h : numD l = some v) : Lib.atoiAll l = .ok (v : Int) ∧ Lib.itoa (v : Int) = l := by
 unfold numD numM at h
 split at h
 ·cases h
 ·rename_i c
  have hl : 1 ≤ l.length ∧ l.length ≤ 7 := by
   refine ⟨?_, ?_⟩
   ·apply Classical.byContradiction
    intro q
    exact c (Or.inl (by omega))
   ·apply Classical.byContradiction
    intro q
    exact c (Or.inr (Or.inl (by omega)))
  have ne : l ≠ [] := fun e => by rw [e] at hl; simp at hl
  have hh : l.head? ≠ some 48 ∨ l = [48] := by
   by_cases q : l.head? = some 48
   ·right
    cases l with
    | nil => exact absurd rfl ne
    | cons a t =>
     have ha : a = 48 := by simpa using q
     have ht : t = [] := by
      apply Classical.byContradiction
      intro z
      have := List.length_pos_iff.2 z
      exact c (Or.inr (Or.inr ⟨by rw [List.length_cons]; omega, q⟩))
     rw [ha, ht]
   ·exact Or.inl q
  have e := decFrom_digits l.length l v (Nat.le_refl _) ne h hh
  refine ⟨?_, by rw [Lib.itoa_nonneg, ← e]⟩
  rw [Lib.atoiAll_short l (by omega), atoi_dec ne h]
  rfl
theorem dec_len7 (u : Nat) : ∀ k, 1 ≤ k → u < 10 ^ k → (Lib.decDigits u).length ≤ k := by
 induction u using Nat.strongRecOn with
 | ind u ih =>
  intro k hk hu
  rw [Lib.decDigits]
  by_cases h : u < 10
  ·rw [dif_pos h]; simpa using hk
  ·rw [dif_neg h, List.length_append, List.length_singleton]
   obtain ⟨j, rfl⟩ : ∃ j, k = j + 1 := ⟨k - 1, by omega⟩
   have hj : 1 ≤ j := by
    rcases Nat.eq_zero_or_pos j with e | e
    ·subst e; simp at hu; omega
    ·exact e
   have := ih (u / 10) (by omega) j hj (by rw [Nat.pow_succ] at hu; omega)
   omega
theorem num_dec {u : Nat} (h : u ≤ 9999999) : numD (Lib.decDigits u) = some u := by
 have l7 := dec_len7 u 7 (by decide) (by omega)
 unfold numD numM
 rw [if_neg, decFrom_decDigits]
 have ne := decDigits_ne u
 have l1 : 1 ≤ (Lib.decDigits u).length := List.length_pos_iff.2 ne
 rintro (q | q | ⟨q1, q2⟩)
 ·omega
 ·omega
 ·by_cases h1 : 1 ≤ u
  ·exact decDigits_head u h1 q2
  ·obtain rfl : u = 0 := by omega
   rw [Lib.decDigits_one (by decide)] at q1
   simp at q1
theorem num_no {l : List UInt8} (h : numD l = none) {v : Int} (h0 : 0 ≤ v) (h1 : v ≤ 9999999) : Lib.itoa v ≠ l := by
 intro e
 obtain ⟨u, rfl⟩ : ∃ u : Nat, v = u := ⟨v.toNat, by omega⟩
 rw [Lib.itoa_nonneg] at e
 have := num_dec (u := u) (by omega)
 rw [e, h] at this
 cases this
end Go.Proofs.YtadkgnbagmnkkakGreatDoor.rn
