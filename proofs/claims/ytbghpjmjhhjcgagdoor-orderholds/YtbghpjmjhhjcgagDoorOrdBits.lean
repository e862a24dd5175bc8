/- Sets as numbers, by the operators on bits. -/
import Derived.Test.YtbghpjmjhhjcgagDoorOrdSet
import Derived.Laws.BitsLemmas
import Derived.Laws.BitsAllLaws
import Derived.IntWalk
namespace Go.Proofs.YtbghpjmjhhjcgagDoor
set_option linter.unusedVariables false

theorem bit_test (T i : Nat) : Nat.testBit T i = bit T i := by unfold bit; exact Nat.testBit_eq_decide_div_mod_eq
theorem or_add {T i : Nat} (h : bit T i = false) : T ||| 2 ^ i = T + 2 ^ i := by
  apply Nat.eq_of_testBit_eq
  intro j
  rw [Nat.testBit_or, Nat.testBit_two_pow, bit_test, bit_test, add_bit h]
  by_cases e : j = i
  · subst e
    simp
  · rw [if_neg e, decide_eq_false (fun q => e q.symm), Bool.or_false]
theorem wraps_13 (n : Int) (h₀ : 0 ≤ n) (h₁ : n < 2 ^ 13) : IntKind.i64.wrap n = n := IntWalk.i64_in _ (by omega)
theorem or_i64 {T B i : Nat} (hT : T < 8192) (hB : B < 8192) (e : B = 2 ^ i) (h : bit T i = false) : bits .or .i64 (T : Int) (B : Int) = ((T + B : Nat) : Int) := by
  rw [(bits_nat .i64 13 (by decide) wraps_13 T B hT hB).2, e, or_add h]
theorem and1_i64 {D : Nat} (hD : D < 8192) : bits .and .i64 (D : Int) 1 = ((D % 2 : Nat) : Int) := by
  have := (bits_nat .i64 13 (by decide) wraps_13 D 1 hD (by decide)).1
  rw [nat_mask1] at this
  exact this
theorem not_i64 {a b : Nat} (ha : a < 8192) (hb : b < 8192) : bits .andNot .i64 (a : Int) (b : Int) = ((a &&& (18446744073709551615 - b) : Nat) : Int) := by
  have hx : a &&& (18446744073709551615 - b) ≤ a := Nat.and_le_left
  show IntKind.i64.wrap ((BitVec.ofInt 64 (a : Int) &&& ~~~BitVec.ofInt 64 (b : Int)).toNat : Int) = _
  rw [BitVec.toNat_and, BitVec.toNat_not, ofInt_u64 a (by omega), ofInt_u64 b (by omega)]
  have e : 2 ^ 64 - 1 - b = 18446744073709551615 - b := by omega
  rw [e]
  exact IntWalk.i64_in _ (by omega)
/-- What is left of a set without another one is none just if all of it is in that one. -/
theorem not_none {a b n : Nat} (ha : a < 2 ^ n) (h12 : n ≤ 12) (hb : b < 8192) : a &&& (18446744073709551615 - b) = 0 ↔ ∀ i, i < n → bit a i = true → bit b i = true := by
  have e : 18446744073709551615 - b = 2 ^ 64 - (b + 1) := by omega
  have tb : ∀ i, Nat.testBit (a &&& (18446744073709551615 - b)) i = (bit a i && (decide (i < 64) && !bit b i)) := fun i => by
    rw [Nat.testBit_and, e, Nat.testBit_two_pow_sub_succ (by omega), bit_test, bit_test]
  constructor
  · intro z i hi ai
    have t := tb i
    rw [z, Nat.zero_testBit, ai, decide_eq_true (show i < 64 by omega)] at t
    cases q : bit b i with
    | true => rfl
    | false => rw [q] at t; cases t
  · intro h
    apply Nat.eq_of_testBit_eq
    intro i
    rw [tb i, Nat.zero_testBit]
    by_cases hi : i < n
    · cases q : bit a i with
      | false => rfl
      | true => rw [h i hi q]; simp
    · rw [bit_out ha (by omega)]; rfl
/-- The set of those among the first j that are surely ahead of one. -/
def ndS (f : Nat → Ev) (k : Nat) : Nat → Nat
  | 0 => 0
  | j + 1 => ndS f k j + if sur f j k = true then 2 ^ j else 0
theorem ndS_lt (f : Nat → Ev) (k : Nat) : ∀ j, ndS f k j < 2 ^ j
  | 0 => by show 0 < 1; omega
  | j + 1 => by
    have := ndS_lt f k j
    show ndS f k j + (if sur f j k = true then 2 ^ j else 0) < 2 ^ (j + 1)
    rw [Nat.pow_succ]
    split <;> omega
theorem ndS_bit (f : Nat → Ev) (k : Nat) : ∀ (j i : Nat), bit (ndS f k j) i = (decide (i < j) && sur f i k)
  | 0, i => by
    show bit 0 i = _
    rw [bit_zero]
    simp
  | j + 1, i => by
    have ih := ndS_bit f k j i
    show bit (ndS f k j + (if sur f j k = true then 2 ^ j else 0)) i = _
    by_cases s : sur f j k = true
    · rw [if_pos s, add_bit (bit_out (ndS_lt f k j) (Nat.le_refl _))]
      by_cases e : i = j
      · subst e
        rw [if_pos rfl, s, decide_eq_true (show i < i + 1 by omega)]
        rfl
      · rw [if_neg e, ih]
        by_cases c : i < j
        · rw [decide_eq_true c, decide_eq_true (show i < j + 1 by omega)]
        · rw [decide_eq_false c, decide_eq_false (show ¬ i < j + 1 by omega)]
    · rw [if_neg s, Nat.add_zero, ih]
      by_cases e : i = j
      · subst e
        rw [Bool.eq_false_iff.2 s]
        simp
      · by_cases c : i < j
        · rw [decide_eq_true c, decide_eq_true (show i < j + 1 by omega)]
        · rw [decide_eq_false c, decide_eq_false (show ¬ i < j + 1 by omega)]
/-- Is one ready, by its set? -/
theorem rdy_need {f : Nat → Ev} {n k T : Nat} (h12 : n ≤ 12) (hT : T < 8192) : (ndS f k n &&& (18446744073709551615 - T) = 0) ↔ rdyB f n (bit T) k = true := by
  rw [not_none (ndS_lt f k n) h12 hT, rdyB_t]
  constructor
  · intro h i hi s
    exact h i hi (by rw [ndS_bit, decide_eq_true hi, s]; rfl)
  · intro h i hi b
    rw [ndS_bit, decide_eq_true hi] at b
    exact h i hi (by simpa using b)
end Go.Proofs.YtbghpjmjhhjcgagDoor
