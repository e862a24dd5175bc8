/- Plain mathematics of decimal numerals and of spans as texts: a numeral of at most 13 digits is read as a number just if it is that number's own numeral; a span's text is read as it was. No program is named here, and nothing is assumed. -/
import Derived.Lib.Atoi
import Derived.Lib.IndexMore
import Derived.Lib.ItoaMem
import Derived.Lib.Strings
namespace Go.Proofs.YtadkgnbagmnkkakGreatDoor
open Go.Lib

def isDig (b : UInt8) : Bool := decide (48 ≤ b.toNat ∧ b.toNat ≤ 57)

def allDig (l : List UInt8) : Bool := l.all isDig

def readNum (l : List UInt8) : Option Int :=
 if (trimPrefix l [45]).length < 1 ∨ 13 < (trimPrefix l [45]).length ∨ allDig (trimPrefix l [45]) = false then none
 else if (trimPrefix l [45]).head? = some 48 ∧ l ≠ [48] then none
 else atoi l

def printL (a b : Int) : List UInt8 := itoa a ++ [46, 46] ++ itoa b

def parseL (l : List UInt8) : Option (Int × Int) :=
 if (cut l [46, 46]).2.2 = true then
  match readNum (cut l [46, 46]).1, readNum (cut l [46, 46]).2.1 with
  | some a, some b => some (a, b)
  | _, _ => none
 else none

theorem ofNat_dig (d : Nat) (h : d < 10) : (UInt8.ofNat (48 + d)).toNat = 48 + d := by
 simp only [UInt8.toNat_ofNat']; omega

theorem dig_eq {b : UInt8} {d : Nat} (h : digitVal b = some d) : d < 10 ∧ b = UInt8.ofNat (48 + d) := by
 obtain ⟨h1, h2, h3⟩ := digitVal_eq h
 refine ⟨by omega, ?_⟩
 apply UInt8.toNat_inj.1
 rw [ofNat_dig d (by omega)]; omega

theorem digitVal_of {b : UInt8} (h : isDig b = true) : digitVal b = some (b.toNat - 48) := by
 unfold isDig at h; unfold digitVal; rw [if_pos (of_decide_eq_true h)]

theorem decFrom_snoc (l : List UInt8) (b : UInt8) : ∀ acc, decFrom acc (l ++ [b]) = (decFrom acc l).bind fun m => (digitVal b).map fun d => m * 10 + d := by
 induction l with
 | nil => intro acc; simp [decFrom]; cases digitVal b <;> rfl
 | cons a t ih => intro acc; simp only [List.cons_append, decFrom]; cases digitVal a with
  | none => rfl
  | some d => exact ih _

theorem decFrom_ge (l : List UInt8) : ∀ acc v, decFrom acc l = some v → acc ≤ v := by
 induction l with
 | nil => intro acc v h; simp [decFrom] at h; omega
 | cons a t ih => intro acc v h; simp only [decFrom] at h; cases hd : digitVal a with
  | none => rw [hd] at h; cases h
  | some d => rw [hd] at h; have := ih _ _ h; omega

theorem decFrom_pos (b : UInt8) (r : List UInt8) (v : Nat) (h : decFrom 0 (b :: r) = some v) (hb : b ≠ 48) : 1 ≤ v := by
 simp only [decFrom] at h
 cases hd : digitVal b with
 | none => rw [hd] at h; cases h
 | some d =>
  rw [hd] at h
  have h1 := decFrom_ge _ _ _ h
  obtain ⟨h2, h3⟩ := dig_eq hd
  have : d ≠ 0 := by intro e; subst e; exact hb h3
  omega


theorem decFrom_digits (n : Nat) : ∀ (l : List UInt8) (m : Nat), l.length ≤ n → l ≠ [] → decFrom 0 l = some m → (l.head? ≠ some 48 ∨ l = [48]) → l = decDigits m := by
 induction n with
 | zero => intro l m h hne; cases l with
  | nil => exact absurd rfl hne
  | cons a t => simp at h
 | succ n ih =>
  intro l m hl hne hd hh
  obtain ⟨p, b, rfl⟩ : ∃ p b, l = p ++ [b] := ⟨l.dropLast, l.getLast hne, (List.dropLast_concat_getLast hne).symm⟩
  rw [decFrom_snoc] at hd
  obtain ⟨m', h1, h2⟩ := Option.bind_eq_some_iff.1 hd
  obtain ⟨d, h3, h4⟩ := Option.map_eq_some_iff.1 h2
  obtain ⟨h5, h6⟩ := dig_eq h3
  cases p with
  | nil =>
   simp [decFrom] at h1
   have e : m = d := by omega
   rw [e, decDigits_one h5, h6]; rfl
  | cons a t =>
   have ha : a ≠ 48 := by
    rcases hh with hh | hh
    ·simpa using hh
    ·simp at hh
   have hp := decFrom_pos a t m' h1 ha
   have e : (a :: t) = decDigits m' := ih (a :: t) m' (by simp at hl ⊢; omega) (by simp) h1 (Or.inl (by simpa using ha))
   have hm : ¬ m < 10 := by omega
   have e1 : m / 10 = m' := by omega
   have e2 : m % 10 = d := by omega
   rw [decDigits, dif_neg hm, e1, e2, ← e, h6]

theorem decDigits_all (u : Nat) : (decDigits u).all isDig = true := by
 induction u using Nat.strongRecOn with
 | _ u ih =>
  have one : ∀ d : Nat, d < 10 → isDig (UInt8.ofNat (48 + d)) = true := fun d h => by
   unfold isDig; rw [ofNat_dig d h]; exact decide_eq_true (by omega)
  by_cases h : u < 10
  ·rw [decDigits_one h]; simp only [List.all_cons, List.all_nil, one u h, Bool.and_true]
  ·rw [decDigits, dif_neg h, List.all_append, ih (u / 10) (by omega)]
   simp only [List.all_cons, List.all_nil, one (u % 10) (by omega), Bool.and_true]

theorem decFrom_decDigits (u : Nat) : decFrom 0 (decDigits u) = some u := by
 induction u using Nat.strongRecOn with
 | _ u ih =>
  have one : ∀ d : Nat, d < 10 → digitVal (UInt8.ofNat (48 + d)) = some d := fun d h => by
   unfold digitVal; rw [ofNat_dig d h, if_pos (by omega)]; congr 1; omega
  by_cases h : u < 10
  ·rw [decDigits_one h]; simp only [decFrom, one u h, Nat.zero_mul, Nat.zero_add]
  ·rw [decDigits, dif_neg h, decFrom_snoc, ih (u / 10) (by omega), one (u % 10) (by omega)]
   simp; omega

theorem decDigits_ne (u : Nat) : decDigits u ≠ [] := by
 intro e
 have := decDigits_length u
 have h2 := nDigits_pos u
 rw [e] at this; simp at this; omega

theorem decDigits_head (u : Nat) (h : 1 ≤ u) : (decDigits u).head? ≠ some 48 := by
 induction u using Nat.strongRecOn with
 | _ u ih =>
  by_cases h9 : u < 10
  ·rw [decDigits_one h9]
   simp only [List.head?_cons, ne_eq, Option.some.injEq]
   intro e
   have := congrArg UInt8.toNat e
   rw [ofNat_dig u h9] at this
   simp at this; omega
  ·rw [decDigits, dif_neg h9]
   have h1 := ih (u / 10) (by omega) (by omega)
   cases hd : decDigits (u / 10) with
   | nil => exact absurd hd (decDigits_ne _)
   | cons a t => rw [hd] at h1; simpa using h1

theorem nDigits_le13 (u : Nat) (h : u < 10000000000000) : nDigits u ≤ 13 := by
 rcases Nat.lt_or_ge 13 (nDigits u) with h1 | h1
 ·exfalso
  have key : ∀ k v, nDigits v = k + 1 → 10 ^ k ≤ v ∨ k = 0 := by
   intro k
   induction k with
   | zero => intro v _; exact Or.inr rfl
   | succ k ih =>
    intro v hv
    left
    by_cases hs : v < 10
    ·rw [nDigits_small hs] at hv; omega
    ·rw [nDigits_big hs] at hv
     have := ih (v / 10) (by omega)
     rw [Nat.pow_succ]
     rcases this with h | h
     ·omega
     ·subst h; omega
  obtain ⟨k, hk⟩ : ∃ k, nDigits u = k + 1 := ⟨nDigits u - 1, by omega⟩
  have h3 := key k u hk
  have h4 : 10 ^ 13 ≤ 10 ^ k := Nat.pow_le_pow_right (by omega) (by omega)
  rcases h3 with h3 | h3
  ·have : (10 : Nat) ^ 13 = 10000000000000 := by decide
   omega
  ·omega
 ·exact h1


theorem dig_not_minus {b : UInt8} (h : isDig b = true) : b ≠ 45 ∧ b ≠ 43 ∧ b ≠ 46 := by
 unfold isDig at h
 have := of_decide_eq_true h
 refine ⟨?_, ?_, ?_⟩ <;> (intro e; subst e; simp at this)

theorem trim_minus (r : List UInt8) : trimPrefix (45 :: r) [45] = r := by
 unfold trimPrefix hasPrefix; simp [List.isPrefixOf]

theorem trim_plain (b : UInt8) (r : List UInt8) (h : b ≠ 45) : trimPrefix (b :: r) [45] = b :: r := by
 unfold trimPrefix hasPrefix
 have : ([45] : List UInt8).isPrefixOf (b :: r) = false := by
  simp only [List.isPrefixOf, Bool.and_eq_false_iff]; left; exact beq_eq_false_iff_ne.2 (fun e => h e.symm)
 rw [this]; rfl

theorem readNum_itoa (n : Int) (h1 : -10000000000000 < n) (h2 : n < 10000000000000) : readNum (itoa n) = some n := by
 by_cases hneg : n < 0
 ·obtain ⟨u, rfl⟩ : ∃ u : Nat, n = -(u : Int) := ⟨n.natAbs, by omega⟩
  rw [itoa_neg u (by omega)]
  unfold readNum allDig
  rw [trim_minus, decDigits_all, decDigits_length]
  have := nDigits_pos u
  have := nDigits_le13 u (by omega)
  rw [if_neg (by simp; omega), if_neg (by intro h; exact decDigits_head u (by omega) h.1)]
  simp [atoi, decNat, decDigits_ne, decFrom_decDigits]
 ·obtain ⟨u, rfl⟩ : ∃ u : Nat, n = u := ⟨n.toNat, by omega⟩
  rw [itoa_nonneg]
  unfold readNum allDig
  have ht : trimPrefix (decDigits u) [45] = decDigits u := by
   cases hd : decDigits u with
   | nil => exact absurd hd (decDigits_ne u)
   | cons b r =>
    have ha := decDigits_all u
    rw [hd] at ha
    simp only [List.all_cons, Bool.and_eq_true] at ha
    exact trim_plain b r (dig_not_minus ha.1).1
  rw [ht, decDigits_all, decDigits_length]
  have := nDigits_pos u
  have := nDigits_le13 u (by omega)
  rw [if_neg (by simp; omega), if_neg ?_]
  ·cases hd : decDigits u with
   | nil => exact absurd hd (decDigits_ne u)
   | cons b r =>
    have ha := decDigits_all u
    rw [hd] at ha
    simp only [List.all_cons, Bool.and_eq_true] at ha
    have hb := dig_not_minus ha.1
    have hf := decFrom_decDigits u
    rw [hd] at hf
    simp [atoi, decNat, hb.1, hb.2.1, hf]
  ·rintro ⟨ha, hb⟩
   by_cases h0 : u = 0
   ·subst h0; exact hb (by rw [decDigits_one (by omega)]; rfl)
   ·exact decDigits_head u (by omega) ha


theorem itoa_no_dot (n : Int) : ∀ b ∈ itoa n, b ≠ 46 := by
 intro b hb
 have hd : ∀ u, ∀ b ∈ decDigits u, b ≠ 46 := fun u b hb => by
  have := decDigits_all u
  rw [List.all_eq_true] at this
  exact (dig_not_minus (this b hb)).2.2
 unfold itoa at hb
 split at hb
 ·rcases List.mem_cons.1 hb with rfl | hb
  ·decide
  ·exact hd _ _ hb
 ·exact hd _ _ hb

theorem cut_of (x y : List UInt8) (hx : ∀ b ∈ x, b ≠ 46) : cut (x ++ [46, 46] ++ y) [46, 46] = (x, y, true) := by
 have hi : index (x ++ [46, 46] ++ y) [46, 46] = (x.length : Nat) := by
  apply index_first
  ·simp
  ·unfold occAt
   rw [List.append_assoc, List.drop_left]
   simp [List.isPrefixOf]
  ·intro j hj
   unfold occAt
   rw [List.append_assoc, List.drop_append_of_le_length (by omega)]
   have hne : x.drop j ≠ [] := by intro e; have := congrArg List.length e; simp at this; omega
   cases hd : x.drop j with
   | nil => exact absurd hd hne
   | cons a t =>
    have ha : a ∈ x := List.mem_of_mem_drop (by rw [hd]; simp : a ∈ x.drop j)
    have := hx a ha
    simp only [List.cons_append, List.isPrefixOf, Bool.and_eq_false_iff]
    left
    exact beq_eq_false_iff_ne.2 (fun e => this e.symm)
 unfold cut
 rw [hi, if_pos (by omega)]
 simp


theorem parse_print (a b : Int) (a1 : -10000000000000 < a) (a2 : a < 10000000000000) (b1 : -10000000000000 < b) (b2 : b < 10000000000000) : parseL (printL a b) = some (a, b) := by
 unfold parseL printL
 rw [cut_of _ _ (itoa_no_dot a)]
 simp [readNum_itoa a a1 a2, readNum_itoa b b1 b2]



theorem readNum_parts {l : List UInt8} {n : Int} (h : readNum l = some n) : 1 ≤ (trimPrefix l [45]).length ∧ (trimPrefix l [45]).length ≤ 13 ∧ allDig (trimPrefix l [45]) = true ∧ ((trimPrefix l [45]).head? ≠ some 48 ∨ l = [48]) ∧ atoi l = some n ∧ l.length ≤ 18 := by
 unfold readNum at h
 split at h
 ·cases h
 ·rename_i c1
  have c1c : allDig (trimPrefix l [45]) = true := by
   cases e : allDig (trimPrefix l [45]) with
   | true => rfl
   | false => exact absurd (Or.inr (Or.inr e)) c1
  have c1a : ¬ (trimPrefix l [45]).length < 1 := fun e => c1 (Or.inl e)
  have c1b : ¬ 13 < (trimPrefix l [45]).length := fun e => c1 (Or.inr (Or.inl e))
  have hl : l.length ≤ (trimPrefix l [45]).length + 1 := by unfold trimPrefix; split <;> simp <;> omega
  split at h
  ·cases h
  ·rename_i c2
   refine ⟨by omega, by omega, c1c, ?_, h, by omega⟩
   by_cases e : l = [48]
   ·exact Or.inr e
   ·exact Or.inl fun e2 => c2 ⟨e2, e⟩
end Go.Proofs.YtadkgnbagmnkkakGreatDoor
