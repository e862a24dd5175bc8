/- A clock that learns: plain mathematics. -/
import Derived.Test.YthdjjjajhjmajafDoorSpan
namespace Go.Proofs.YthdjjjajhjmajafDoor
set_option linter.unusedVariables false

/-- What a clock is: its rate, what it shows, whether anything is known, what, since when; whether it told a time, and which. -/
structure Ck where
  p : Int
  h : Int
  k : Bool
  lo : Int
  hi : Int
  s : Int
  t : Bool
  l : Int
/-- Millions, rounded up. -/
def upM (x : Int) : Int := (x + 1000000 - 1) / 1000000
namespace Ck
/-- How much wider it is by now. -/
def n (c : Ck) : Int := 1 + upM ((c.h - c.s) * 2 * c.p)
def made (p : Int) : Ck := ⟨p, 0, false, 0, 0, 0, false, 0⟩
def stepE (c : Ck) (x : Int) : Int := if x < 0 ∨ 1000000000000 < x then 1 else if x < c.h then 8 else 0
def stepC (c : Ck) (x : Int) : Ck := if c.stepE x = 0 then { c with h := x } else c
def nowE (c : Ck) : Int := if c.k = true then (if okB (c.lo - c.n + c.h) (c.hi + c.n + c.h) = true then 0 else 1) else 6
def nowLo (c : Ck) : Int := if c.nowE = 0 then c.lo - c.n + c.h else 0
def nowHi (c : Ck) : Int := if c.nowE = 0 then c.hi + c.n + c.h else 0
/-- What both have. -/
def bLo (c : Ck) (a : Int) : Int := if c.k = true then (if a < c.lo - c.n then c.lo - c.n else a) else a
def bHi (c : Ck) (b : Int) : Int := if c.k = true then (if c.hi + c.n < b then c.hi + c.n else b) else b
def learnE (c : Ck) (a b : Int) : Int := if okB a b = true then (if c.k = true then (if c.nowE = 0 then (if c.bLo a ≤ c.bHi b then 0 else 7) else c.nowE) else 0) else 1
def learnC (c : Ck) (a b : Int) : Ck := if c.learnE a b = 0 then { c with k := true, lo := c.bLo a, hi := c.bHi b, s := c.h } else c
/-- The middle, rounded down; the time to tell. -/
def mid (c : Ck) : Int := (c.nowLo + c.nowHi) / 2
def pt (c : Ck) : Int := if c.t = true ∧ c.mid < c.l then c.l else c.mid
def pointE (c : Ck) : Int := if c.nowE = 0 then (if c.nowHi < c.pt then 8 else 0) else c.nowE
def pointN (c : Ck) : Int := if c.pointE = 0 then c.pt else 0
def pointC (c : Ck) : Ck := if c.pointE = 0 then { c with t := true, l := c.pt } else c
/-- What is always so. -/
structure I (c : Ck) : Prop where
  p0 : 0 ≤ c.p
  p1 : c.p ≤ 1000
  h0 : 0 ≤ c.h
  h1 : c.h ≤ 1000000000000
  s0 : 0 ≤ c.s
  s1 : c.s ≤ c.h
  ok : okB c.lo c.hi = true
  l0 : -1000000000000 ≤ c.l
  l1 : c.l ≤ 1000000000000
section
variable {c : Ck}
theorem made_i {p : Int} (h0 : 0 ≤ p) (h1 : p ≤ 1000) : (made p).I := ⟨h0, h1, by simp [made], by simp [made], by simp [made], by simp [made], rfl, by simp [made], by simp [made]⟩
theorem n_b (hI : c.I) : 0 ≤ (c.h - c.s) * 2 * c.p ∧ (c.h - c.s) * 2 * c.p ≤ 2000000000000000 ∧ 1 ≤ c.n ∧ c.n ≤ 2000000001 := by
  obtain ⟨a1, a2, a3, a4, a5, a6, _⟩ := hI
  have b1 : 0 ≤ (c.h - c.s) * 2 := by omega
  have b2 : (c.h - c.s) * 2 ≤ 2000000000000 := by omega
  have m1 := Int.mul_nonneg b1 a1
  have m2 : (c.h - c.s) * 2 * c.p ≤ 2000000000000 * 1000 := Int.mul_le_mul b2 a2 a1 (by omega)
  unfold n upM
  omega
theorem nowE_cases (c : Ck) : c.nowE = 0 ∨ c.nowE = 1 ∨ c.nowE = 6 := by
  unfold nowE
  split
  · split
    · exact Or.inl rfl
    · exact Or.inr (Or.inl rfl)
  · exact Or.inr (Or.inr rfl)
theorem now_zero (h : c.nowE = 0) : c.k = true ∧ okB (c.lo - c.n + c.h) (c.hi + c.n + c.h) = true := by
  unfold nowE at h
  split at h
  case isTrue k =>
    split at h
    case isTrue o => exact ⟨k, o⟩
    case isFalse => cases h
  case isFalse => cases h
theorem step_i (hI : c.I) (x : Int) : (c.stepC x).I := by
  unfold stepC
  split
  case isFalse => exact hI
  case isTrue e =>
    obtain ⟨a1, a2, a3, a4, a5, a6, a7, a8, a9⟩ := hI
    unfold stepE at e
    split at e
    case isTrue => cases e
    case isFalse q =>
      split at e
      case isTrue => cases e
      case isFalse q2 => exact ⟨a1, a2, by show 0 ≤ x; omega, by show x ≤ _; omega, a5, by show c.s ≤ x; omega, a7, a8, a9⟩
theorem learn_zero {a b : Int} (h : c.learnE a b = 0) : okB a b = true ∧ (c.k = true → c.nowE = 0 ∧ c.bLo a ≤ c.bHi b) := by
  unfold learnE at h
  split at h
  case isFalse => cases h
  case isTrue o =>
    refine ⟨o, fun k => ?_⟩
    rw [if_pos k] at h
    split at h
    case isFalse q => exact absurd h q
    case isTrue q =>
      split at h
      case isFalse => cases h
      case isTrue q2 => exact ⟨q, q2⟩
theorem both_ok {a b : Int} (h : c.learnE a b = 0) : okB (c.bLo a) (c.bHi b) = true := by
  obtain ⟨o, q⟩ := learn_zero h
  have o' := okB_t o
  cases k : c.k with
  | false =>
    unfold bLo bHi
    rw [k]
    exact o
  | true =>
    obtain ⟨_, q2⟩ := q k
    apply okB_mk
    refine ⟨q2, ?_, ?_⟩
    · unfold bLo; rw [if_pos k]; split <;> omega
    · unfold bHi; rw [if_pos k]; split <;> omega
theorem learn_i (hI : c.I) (a b : Int) : (c.learnC a b).I := by
  unfold learnC
  split
  case isFalse => exact hI
  case isTrue e =>
    obtain ⟨a1, a2, a3, a4, a5, a6, a7, a8, a9⟩ := hI
    exact ⟨a1, a2, a3, a4, a3, Int.le_refl _, both_ok e, a8, a9⟩
theorem mid_b (h : c.nowE = 0) : c.nowLo ≤ c.mid ∧ c.mid ≤ c.nowHi ∧ -1000000000000 ≤ c.nowLo ∧ c.nowHi ≤ 1000000000000 := by
  obtain ⟨_, o⟩ := now_zero h
  have o' := okB_t o
  unfold mid nowLo nowHi
  rw [if_pos h, if_pos h]
  omega
theorem point_zero (h : c.pointE = 0) : c.nowE = 0 ∧ c.pt ≤ c.nowHi := by
  unfold pointE at h
  split at h
  case isFalse q => exact absurd h q
  case isTrue q =>
    split at h
    case isTrue => cases h
    case isFalse q2 => exact ⟨q, by omega⟩
theorem pt_b (h : c.nowE = 0) : c.mid ≤ c.pt ∧ (c.t = true → c.l ≤ c.pt) := by
  unfold pt
  split
  case isTrue q => exact ⟨by omega, fun _ => Int.le_refl _⟩
  case isFalse q => exact ⟨Int.le_refl _, fun ht => by
    apply Classical.byContradiction
    intro k
    exact q ⟨ht, by omega⟩⟩
theorem point_i (hI : c.I) : (c.pointC).I := by
  unfold pointC
  split
  case isFalse => exact hI
  case isTrue e =>
    obtain ⟨a1, a2, a3, a4, a5, a6, a7, a8, a9⟩ := hI
    obtain ⟨e1, e2⟩ := point_zero e
    have m := mid_b e1
    have q := pt_b e1
    exact ⟨a1, a2, a3, a4, a5, a6, a7, by show -1000000000000 ≤ c.pt; omega, by show c.pt ≤ _; omega⟩
end
end Ck
/-- What a clock shows that goes at a rate. -/
def shM (r T : Int) : Int := T + T * r / 1000000
section
variable {p r T T0 : Int}
/-- By how much it may have gone otherwise. -/
theorem sh_drift (h0 : 0 ≤ p) (h1 : p ≤ 1000) (r0 : -p ≤ r) (r1 : r ≤ p) (t0 : 0 ≤ T0) (t1 : T0 ≤ T) : 0 ≤ shM r T - shM r T0 ∧ T * r / 1000000 - T0 * r / 1000000 ≤ 1 + upM ((shM r T - shM r T0) * 2 * p) ∧ T0 * r / 1000000 - T * r / 1000000 ≤ 1 + upM ((shM r T - shM r T0) * 2 * p) := by
  have eD : shM r T - shM r T0 = (T - T0) + (T * r / 1000000 - T0 * r / 1000000) := by unfold shM; omega
  have eX : T * r - T0 * r = (T - T0) * r := by rw [Int.sub_mul]
  obtain ⟨d, hd⟩ : ∃ d, d = T * r / 1000000 - T0 * r / 1000000 := ⟨_, rfl⟩
  obtain ⟨D, hD⟩ : ∃ D, D = T - T0 := ⟨_, rfl⟩
  have D0 : 0 ≤ D := by omega
  have z1 : D * r ≤ D * p := Int.mul_le_mul_of_nonneg_left r1 D0
  have z2 : D * (-p) ≤ D * r := Int.mul_le_mul_of_nonneg_left r0 D0
  rw [Int.mul_neg] at z2
  have z3 : 0 ≤ D * p := Int.mul_nonneg D0 h0
  have z4 : D * p ≤ D * 1000 := Int.mul_le_mul_of_nonneg_left h1 D0
  have eW : (D + d) * 2 * p = 2 * (D * p) + 2 * (p * d) := by grind
  have q1 : 0 ≤ d → 0 ≤ p * d := fun h => Int.mul_nonneg h0 h
  have q2 : d ≤ 0 → 1000 * d ≤ p * d := fun h => Int.mul_le_mul_of_nonpos_right h1 h
  rw [← hd] at eD
  rw [← hD] at eD eX
  rw [eD, eW, ← eX] at *
  unfold upM
  generalize T * r = X at *
  generalize T0 * r = Y at *
  generalize D * p = Z at *
  generalize p * d = V at *
  by_cases hd0 : 0 ≤ d
  · have := q1 hd0
    omega
  · have := q2 (by omega)
    omega
theorem sh_b (h0 : 0 ≤ p) (h1 : p ≤ 1000) (r0 : -p ≤ r) (r1 : r ≤ p) (t0 : 0 ≤ T) (t1 : T ≤ 60000000) : 0 ≤ shM r T ∧ shM r T ≤ 120000000 ∧ -60000 ≤ T * r / 1000000 ∧ T * r / 1000000 ≤ 60000 := by
  have z1 : T * r ≤ T * 1000 := Int.mul_le_mul_of_nonneg_left (by omega) t0
  have z2 : T * (-1000) ≤ T * r := Int.mul_le_mul_of_nonneg_left (by omega) t0
  unfold shM
  generalize T * r = X at *
  omega
end
/-- A clock that truly goes so, and learned what is so. -/
structure Hd (p r b T : Int) (c : Ck) : Prop where
  i : c.I
  ep : c.p = p
  eh : c.h = shM r T
  kn : c.k = true → ∃ T0, 0 ≤ T0 ∧ T0 ≤ T ∧ c.s = shM r T0 ∧ c.lo ≤ b - T0 * r / 1000000 ∧ b - T0 * r / 1000000 ≤ c.hi ∧ -3000000 ≤ c.lo ∧ c.hi ≤ 3000000
section
variable {p r b T : Int} {c : Ck}
/-- A rate, a start, a time. -/
structure HdP (p r b T : Int) : Prop where
  p0 : 0 ≤ p
  p1 : p ≤ 1000
  r0 : -p ≤ r
  r1 : r ≤ p
  b0 : 0 ≤ b
  b1 : b ≤ 1000000
  t0 : 0 ≤ T
  t1 : T ≤ 60000000
theorem Hd.made (P : HdP p r b 0) : Hd p r b 0 (Ck.made p) := ⟨Ck.made_i P.p0 P.p1, rfl, by show 0 = shM r 0; unfold shM; simp, fun h => by cases h⟩
theorem Hd.n (P : HdP p r b T) (h : Hd p r b T c) (k : c.k = true) : c.lo - c.n ≤ b - T * r / 1000000 ∧ b - T * r / 1000000 ≤ c.hi + c.n ∧ 1 ≤ c.n ∧ c.n ≤ 300000 ∧ c.lo ≤ c.hi ∧ -3000000 ≤ c.lo ∧ c.hi ≤ 3000000 := by
  obtain ⟨T0, t0, t1, es, l1, l2, l3, l4⟩ := h.kn k
  obtain ⟨d1, d2, d3⟩ := sh_drift P.p0 P.p1 P.r0 P.r1 t0 t1
  have b1 := sh_b P.p0 P.p1 P.r0 P.r1 t0 (by have := P.t1; omega)
  have b2 := sh_b P.p0 P.p1 P.r0 P.r1 P.t0 P.t1
  have en : c.n = 1 + upM ((shM r T - shM r T0) * 2 * p) := by unfold Ck.n; rw [h.eh, es, h.ep]
  have m1 : 0 ≤ (shM r T - shM r T0) * 2 * p := Int.mul_nonneg (by omega) P.p0
  have m2 : (shM r T - shM r T0) * 2 * p ≤ 240000000 * 1000 := Int.mul_le_mul (by omega) P.p1 P.p0 (by omega)
  have m3 : 0 ≤ upM ((shM r T - shM r T0) * 2 * p) ∧ upM ((shM r T - shM r T0) * 2 * p) ≤ 240000 := by unfold upM; omega
  rw [en]
  omega
theorem Hd.now (P : HdP p r b T) (h : Hd p r b T c) (k : c.k = true) : c.nowE = 0 ∧ c.nowLo ≤ b + T ∧ b + T ≤ c.nowHi ∧ okB c.nowLo c.nowHi = true := by
  obtain ⟨n1, n2, n3, n4, n5, n6, n7⟩ := h.n P k
  have b2 := sh_b P.p0 P.p1 P.r0 P.r1 P.t0 P.t1
  have eh := h.eh
  have es : shM r T = T + T * r / 1000000 := rfl
  have o : okB (c.lo - c.n + c.h) (c.hi + c.n + c.h) = true := okB_mk (by omega)
  have e : c.nowE = 0 := by unfold Ck.nowE; rw [if_pos k, if_pos o]
  refine ⟨e, ?_, ?_, ?_⟩
  · unfold Ck.nowLo; rw [if_pos e]; omega
  · unfold Ck.nowHi; rw [if_pos e]; omega
  · unfold Ck.nowLo Ck.nowHi; rw [if_pos e, if_pos e]; exact o
theorem Hd.step {v : Int} (P : HdP p r b T) (P' : HdP p r b (T + v)) (v0 : 0 ≤ v) (h : Hd p r b T c) : c.stepE (shM r (T + v)) = 0 ∧ Hd p r b (T + v) (c.stepC (shM r (T + v))) := by
  obtain ⟨d1, _, _⟩ := sh_drift P.p0 P.p1 P.r0 P.r1 P.t0 (show T ≤ T + v by omega)
  have b2 := sh_b P.p0 P.p1 P.r0 P.r1 P'.t0 P'.t1
  have e : c.stepE (shM r (T + v)) = 0 := by
    unfold Ck.stepE
    rw [if_neg (by omega), if_neg (by have := h.eh; omega)]
  refine ⟨e, ?_⟩
  have hi := Ck.step_i h.i (shM r (T + v))
  unfold Ck.stepC at hi ⊢
  rw [if_pos e] at hi ⊢
  exact ⟨hi, h.ep, rfl, fun k => by
    obtain ⟨T0, t0, t1, l⟩ := h.kn k
    exact ⟨T0, t0, by omega, l⟩⟩
theorem Hd.learn {u v : Int} (P : HdP p r b T) (u0 : 0 ≤ u) (u1 : u ≤ 1000000) (v0 : 0 ≤ v) (v1 : v ≤ 1000000) (h : Hd p r b T c) : c.learnE (b + T - shM r T - u) (b + T - shM r T + v) = 0 ∧ Hd p r b T (c.learnC (b + T - shM r T - u) (b + T - shM r T + v)) ∧ (c.learnC (b + T - shM r T - u) (b + T - shM r T + v)).k = true := by
  have b2 := sh_b P.p0 P.p1 P.r0 P.r1 P.t0 P.t1
  have es : shM r T = T + T * r / 1000000 := rfl
  have q0 := P.b0
  have q1 := P.b1
  obtain ⟨A, eA⟩ : ∃ A, A = b + T - shM r T - u := ⟨_, rfl⟩
  obtain ⟨B, eB⟩ : ∃ B, B = b + T - shM r T + v := ⟨_, rfl⟩
  rw [← eA, ← eB]
  have o : okB A B = true := okB_mk (by omega)
  have bb : c.bLo A ≤ b - T * r / 1000000 ∧ b - T * r / 1000000 ≤ c.bHi B ∧ -3000000 ≤ c.bLo A ∧ c.bHi B ≤ 3000000 := by
    unfold Ck.bLo Ck.bHi
    cases k : c.k with
    | false => simp only [Bool.false_eq_true, if_false]; omega
    | true =>
      obtain ⟨n1, n2, n3, n4, n5, n6, n7⟩ := h.n P k
      simp only [if_true]
      refine ⟨?_, ?_, ?_, ?_⟩
      · split <;> omega
      · split <;> omega
      · split <;> omega
      · split <;> omega
  have e : c.learnE A B = 0 := by
    unfold Ck.learnE
    rw [if_pos o]
    cases k : c.k with
    | false => rfl
    | true =>
      rw [if_pos rfl, if_pos (h.now P k).1, if_pos (by omega)]
  have hi := Ck.learn_i h.i A B
  refine ⟨e, ?_, ?_⟩
  · unfold Ck.learnC at hi ⊢
    rw [if_pos e] at hi ⊢
    exact ⟨hi, h.ep, h.eh, fun _ => ⟨T, P.t0, Int.le_refl _, h.eh, bb.1, bb.2.1, bb.2.2.1, bb.2.2.2⟩⟩
  · unfold Ck.learnC
    rw [if_pos e]
theorem Hd.point (P : HdP p r b T) (h : Hd p r b T c) : Hd p r b T c.pointC ∧ c.pointC.k = c.k ∧ (c.pointE ≠ 0 → c.pointC = c ∧ (c.k = true → c.pointE = 8)) ∧ (c.pointE = 0 → (c.t = true → c.l ≤ c.pointN) ∧ c.pointC.t = true ∧ c.pointC.l = c.pointN) := by
  have hi := Ck.point_i h.i
  by_cases e : c.pointE = 0
  · unfold Ck.pointC at hi ⊢
    rw [if_pos e] at hi ⊢
    refine ⟨⟨hi, h.ep, h.eh, h.kn⟩, rfl, fun n => absurd e n, fun _ => ⟨fun ht => ?_, rfl, ?_⟩⟩
    · unfold Ck.pointN; rw [if_pos e]; exact (Ck.pt_b (Ck.point_zero e).1).2 ht
    · unfold Ck.pointN; rw [if_pos e]
  · have ec : c.pointC = c := by unfold Ck.pointC; rw [if_neg e]
    rw [ec]
    refine ⟨h, rfl, fun _ => ⟨rfl, fun k => ?_⟩, fun n => absurd n e⟩
    have e0 := (h.now P k).1
    unfold Ck.pointE at e ⊢
    rw [if_pos e0] at e ⊢
    split
    · rfl
    · rename_i q; rw [if_neg q] at e; exact absurd rfl e
end
end Go.Proofs.YthdjjjajhjmajafDoor
