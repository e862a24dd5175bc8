/- How long to wait: plain mathematics. -/
import Derived.Test.YthhhlfbifcnmpagDoorSpan
namespace Go.Proofs.YthhhlfbifcnmpagDoor
set_option linter.unusedVariables false

/-- A time. -/
def tiB (n : Int) : Bool := decide (-1000000000000 ≤ n ∧ n ≤ 1000000000000)
theorem tiB_t {n : Int} (h : tiB n = true) : -1000000000000 ≤ n ∧ n ≤ 1000000000000 := of_decide_eq_true h
/-- The errors of Past, Future, Stamp. -/
def pfE (lo hi t : Int) : Int := if okB lo hi = true ∧ tiB t = true then 0 else 1
def stE (lo hi : Int) : Int := if okB lo hi = true then 0 else 1
def stN (lo hi : Int) : Int := if okB lo hi = true then hi else 0
/-- How long to wait, where it is not over; the error, and what is told. -/
def waR (lo t p : Int) : Int := ((t - lo + 1) * (1000000 + p) + 1000000 - 1) / 1000000
def waE (lo hi t p : Int) : Int := if pfE lo hi t = 0 ∧ 0 ≤ p ∧ p ≤ 1000 then (if t < lo then 0 else if waR lo t p ≤ 1000000000000 then 0 else 1) else 1
def waN (lo hi t p : Int) : Int := if waE lo hi t p = 0 then (if t < lo then 0 else waR lo t p) else 0
theorem pf_zero {lo hi t : Int} (h : pfE lo hi t = 0) : okB lo hi = true ∧ tiB t = true := by
  unfold pfE at h
  split at h
  case isTrue q => exact q
  case isFalse => cases h
theorem pf_not {lo hi t : Int} (h : pfE lo hi t ≠ 0) : pfE lo hi t = 1 ∧ ¬ (okB lo hi = true ∧ tiB t = true) := by
  unfold pfE at h ⊢
  split
  case isTrue q => rw [if_pos q] at h; exact absurd rfl h
  case isFalse q => exact ⟨rfl, q⟩
theorem wa_zero {lo hi t p : Int} (h : waE lo hi t p = 0) : pfE lo hi t = 0 ∧ 0 ≤ p ∧ p ≤ 1000 ∧ (t < lo ∨ (lo ≤ t ∧ waR lo t p ≤ 1000000000000)) := by
  unfold waE at h
  split at h
  case isFalse => cases h
  case isTrue q =>
    refine ⟨q.1, q.2.1, q.2.2, ?_⟩
    split at h
    case isTrue c => exact Or.inl c
    case isFalse c =>
      split at h
      case isTrue c2 => exact Or.inr ⟨by omega, c2⟩
      case isFalse => cases h
theorem wa_one {lo hi t p : Int} (h : waE lo hi t p ≠ 0) : waE lo hi t p = 1 := by
  unfold waE at h ⊢
  split
  case isFalse => rfl
  case isTrue q =>
    rw [if_pos q] at h
    split
    case isTrue c => rw [if_pos c] at h; exact absurd rfl h
    case isFalse c =>
      rw [if_neg c] at h
      split
      case isTrue c2 => rw [if_pos c2] at h; exact absurd rfl h
      case isFalse => rfl
theorem need_b {lo hi t p : Int} (h : pfE lo hi t = 0) (p0 : 0 ≤ p) (p1 : p ≤ 1000) (c : lo ≤ t) : 0 ≤ (t - lo + 1) * (1000000 + p) ∧ (t - lo + 1) * (1000000 + p) ≤ 2000000000001 * 1001000 ∧ 1 ≤ waR lo t p := by
  obtain ⟨o, q⟩ := pf_zero h
  have o' := okB_t o
  have q' := tiB_t q
  have m1 : 1 * 1000000 ≤ (t - lo + 1) * (1000000 + p) := Int.mul_le_mul (by omega) (by omega) (by omega) (by omega)
  have m2 : (t - lo + 1) * (1000000 + p) ≤ 2000000000001 * 1001000 := Int.mul_le_mul (by omega) (by omega) (by omega) (by omega)
  unfold waR
  omega
theorem wa_b {lo hi t p : Int} (h : waE lo hi t p = 0) : 0 ≤ waN lo hi t p ∧ waN lo hi t p ≤ 1000000000000 := by
  obtain ⟨a, p0, p1, c⟩ := wa_zero h
  unfold waN
  rw [if_pos h]
  rcases c with c | ⟨c, d⟩
  · rw [if_pos c]; omega
  · rw [if_neg (by omega)]
    have := (need_b a p0 p1 c).2.2
    omega
/-- Who waited so long is sure. -/
theorem wait_over {lo hi t p : Int} (h : waE lo hi t p = 0) (c : lo ≤ t) : t - lo + 1 ≤ waN lo hi t p * 1000000 / (1000000 + p) := by
  obtain ⟨a, p0, p1, c2⟩ := wa_zero h
  have e : waN lo hi t p = waR lo t p := by unfold waN; rw [if_pos h, if_neg (by omega)]
  rw [e]
  refine (Int.le_ediv_iff_mul_le (by omega)).2 ?_
  unfold waR
  omega
theorem wait_more {lo hi t u a b : Int} (h : waE lo hi t a = 0) (g : waE lo hi u b = 0) (tu : t ≤ u) (ab : a ≤ b) : waN lo hi t a ≤ waN lo hi u b := by
  obtain ⟨h1, a0, a1, c⟩ := wa_zero h
  obtain ⟨g1, b0, b1, d⟩ := wa_zero g
  have w := wa_b g
  by_cases ct : t < lo
  · unfold waN
    rw [if_pos h, if_pos ct]
    exact w.1
  · have e1 : waN lo hi t a = waR lo t a := by unfold waN; rw [if_pos h, if_neg ct]
    have e2 : waN lo hi u b = waR lo u b := by unfold waN; rw [if_pos g, if_neg (by omega)]
    rw [e1, e2]
    have m : (t - lo + 1) * (1000000 + a) ≤ (u - lo + 1) * (1000000 + b) := Int.mul_le_mul (by omega) (by omega) (by omega) (by omega)
    unfold waR
    omega
end Go.Proofs.YthhhlfbifcnmpagDoor
