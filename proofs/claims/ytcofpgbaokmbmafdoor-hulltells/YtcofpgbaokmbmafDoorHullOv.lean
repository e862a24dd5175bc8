/- What is over points, by their corners: plain mathematics. -/
import Derived.Test.YtcofpgbaokmbmafDoorHullIns
namespace Go.Proofs.YtcofpgbaokmbmafDoor
set_option linter.unusedVariables false

section
variable {l c : List (Int × Int)} {a b p : Int × Int} {x : Int} {i : Nat}
theorem Up.rise (h : Up l c) {i j : Nat} (hi : c[i]? = some a) (hj : c[j]? = some b) (lt : i < j) : a.1 < b.1 := by
  obtain ⟨l1, e1⟩ := List.getElem?_eq_some_iff.1 hi
  obtain ⟨l2, e2⟩ := List.getElem?_eq_some_iff.1 hj
  have := List.pairwise_iff_getElem.1 h.1 i j l1 l2 lt
  rwa [e1, e2] at this
theorem Up.cor (h : Up l c) (hi : c[i]? = some a) : Cor l a := (h.2 a).1 (List.mem_of_getElem? hi)
theorem Up.none (h : Up l c) (e : l = []) : c = [] := by
  cases c with
  | nil => rfl
  | cons a c =>
    have := ((h.2 a).1 (by simp)).1
    rw [e] at this
    cases this
theorem Up.some (h : Up l c) (ne : l ≠ []) : ∃ a, c[0]? = some a ∧ ∀ q, q ∈ l → a.1 ≤ q.1 := by
  obtain ⟨p, cp, hp⟩ := cor_first ne
  have mp := (h.2 p).2 cp
  obtain ⟨j, hj⟩ := List.getElem?_of_mem mp
  have l0 : 0 < c.length := by have := (List.getElem?_eq_some_iff.1 hj).1; omega
  obtain ⟨a, ha⟩ : ∃ a, c[0]? = Option.some a := ⟨_, List.getElem?_eq_getElem l0⟩
  refine ⟨a, ha, fun q hq => ?_⟩
  have := hp q hq
  by_cases j0 : j = 0
  · subst j0
    rw [ha] at hj
    obtain rfl := Option.some.inj hj
    exact this
  · have := h.rise ha hj (by omega)
    omega
theorem Up.last (h : Up l c) (ne : l ≠ []) : ∃ a, c[c.length - 1]? = Option.some a ∧ ∀ q, q ∈ l → q.1 ≤ a.1 := by
  obtain ⟨p, cp, hp⟩ := cor_last ne
  have mp := (h.2 p).2 cp
  obtain ⟨j, hj⟩ := List.getElem?_of_mem mp
  have l0 := (List.getElem?_eq_some_iff.1 hj).1
  obtain ⟨a, ha⟩ : ∃ a, c[c.length - 1]? = Option.some a := ⟨_, List.getElem?_eq_getElem (by omega)⟩
  refine ⟨a, ha, fun q hq => ?_⟩
  have := hp q hq
  by_cases j0 : j = c.length - 1
  · subst j0
    rw [ha] at hj
    obtain rfl := Option.some.inj hj
    exact this
  · have := h.rise hj ha (by omega)
    omega
/-- Within: by the first corner and the last one. -/
theorem Up.within (h : Up l c) (h0 : c[0]? = Option.some a) (h1 : c[c.length - 1]? = Option.some b) : Within l x ↔ a.1 ≤ x ∧ x ≤ b.1 := by
  have ca := h.cor h0
  have cb := h.cor h1
  have ne : l ≠ [] := fun e => by have := ca.1; rw [e] at this; cases this
  obtain ⟨a', e1, m1⟩ := h.some ne
  obtain ⟨b', e2, m2⟩ := h.last ne
  rw [h0] at e1
  rw [h1] at e2
  obtain rfl := Option.some.inj e1
  obtain rfl := Option.some.inj e2
  constructor
  · rintro ⟨⟨p, hp, h2⟩, q, hq, h3⟩
    have := m1 p hp
    have := m2 q hq
    omega
  · rintro ⟨h2, h3⟩
    exact ⟨⟨a, ca.1, h2⟩, b, cb.1, h3⟩
/-- Between two corners, one behind the other. -/
theorem Up.between (h : Up l c) (hi : c[i]? = Option.some a) (hj : c[i + 1]? = Option.some b) (h1 : a.1 ≤ x) (h2 : x ≤ b.1) {k : Int} (k1 : (b.2 - a.2) * (x - a.1) ≤ k * (b.1 - a.1)) (k2 : (k - 1) * (b.1 - a.1) < (b.2 - a.2) * (x - a.1)) : OvV l x (a.2 + k) := by
  have ca := h.cor hi
  have cb := h.cor hj
  have w := h.rise hi hj (by omega)
  have sup := cor_support ca cb w (fun p cp l1 l2 => by
    obtain ⟨j, hp⟩ := List.getElem?_of_mem ((h.2 p).2 cp)
    rcases Nat.lt_trichotomy j i with c' | c' | c'
    · have := h.rise hp hi c'
      omega
    · subst c'
      rw [hi] at hp
      obtain rfl := Option.some.inj hp
      omega
    · by_cases c2 : j = i + 1
      · subst c2
        rw [hj] at hp
        obtain rfl := Option.some.inj hp
        omega
      · have := h.rise hj hp (by omega)
        omega)
  refine ov_between ca.1 cb.1 w sup h1 h2 ?_ ?_
  · show 0 ≤ (a.2 + k - a.2) * (b.1 - a.1) - (b.2 - a.2) * (x - a.1)
    rw [show a.2 + k - a.2 = k by omega]
    omega
  · show (a.2 + k - 1 - a.2) * (b.1 - a.1) - (b.2 - a.2) * (x - a.1) < 0
    rw [show a.2 + k - 1 - a.2 = k - 1 by omega]
    omega
/-- One corner alone. -/
theorem Up.single (h : Up l c) (h0 : c[0]? = Option.some a) (h1 : c.length = 1) (hw : Within l x) : OvV l x a.2 := by
  have g : c[c.length - 1]? = Option.some a := by rw [h1]; exact h0
  have := (h.within h0 g).1 hw
  exact ov_corner (h.cor h0) (by omega)
end
/-- A quotient towards 0 is not above the least number that serves. -/
theorem tdiv_low (n w : Int) (w0 : 0 < w) : (n.tdiv w - 1) * w < n := by
  by_cases c : n < 0
  · have e : n.tdiv w = -((-n) / w) := by
      have : n = -(-n) := by omega
      rw [this, Int.neg_tdiv, Int.tdiv_eq_ediv_of_nonneg (by omega), Int.neg_neg]
    rw [e]
    have d := Int.mul_ediv_add_emod (-n) w
    have r1 := Int.emod_lt_of_pos (-n) w0
    have : (-(-n / w) - 1) * w = -(w * (-n / w)) - w := by grind
    omega
  · have c : 0 ≤ n := by omega
    rw [Int.tdiv_eq_ediv_of_nonneg c]
    have d := Int.mul_ediv_add_emod n w
    have r0 := Int.emod_nonneg n (show w ≠ 0 by omega)
    have : (n / w - 1) * w = w * (n / w) - w := by grind
    omega
theorem tdiv_in (n w : Int) (w0 : 0 < w) (h : -4000000000000 ≤ n ∧ n ≤ 4000000000000) : -4000000000000 ≤ n.tdiv w ∧ n.tdiv w ≤ 4000000000000 := by
  by_cases c : n < 0
  · have e : n.tdiv w = -((-n) / w) := by
      have : n = -(-n) := by omega
      rw [this, Int.neg_tdiv, Int.tdiv_eq_ediv_of_nonneg (by omega), Int.neg_neg]
    have h1 := Int.ediv_nonneg (show 0 ≤ -n by omega) (show 0 ≤ w by omega)
    have h2 := Int.ediv_le_self w (show 0 ≤ -n by omega)
    omega
  · have c : 0 ≤ n := by omega
    rw [Int.tdiv_eq_ediv_of_nonneg c]
    have h1 := Int.ediv_nonneg c (show 0 ≤ w by omega)
    have h2 := Int.ediv_le_self w c
    omega
theorem mul_in {u v : Int} (h1 : -2000000 ≤ u) (h2 : u ≤ 2000000) (h3 : -2000000 ≤ v) (h4 : v ≤ 2000000) : -4000000000000 ≤ u * v ∧ u * v ≤ 4000000000000 := by
  have a1 : 0 ≤ (u + 2000000) * (v + 2000000) := Int.mul_nonneg (by omega) (by omega)
  have a2 : 0 ≤ (2000000 - u) * (2000000 - v) := Int.mul_nonneg (by omega) (by omega)
  have a3 : 0 ≤ (u + 2000000) * (2000000 - v) := Int.mul_nonneg (by omega) (by omega)
  have a4 : 0 ≤ (2000000 - u) * (v + 2000000) := Int.mul_nonneg (by omega) (by omega)
  have e1 : (u + 2000000) * (v + 2000000) = u * v + 2000000 * u + 2000000 * v + 4000000000000 := by grind
  have e2 : (2000000 - u) * (2000000 - v) = u * v - 2000000 * u - 2000000 * v + 4000000000000 := by grind
  have e3 : (u + 2000000) * (2000000 - v) = -(u * v) + 2000000 * u - 2000000 * v + 4000000000000 := by grind
  have e4 : (2000000 - u) * (v + 2000000) = -(u * v) - 2000000 * u + 2000000 * v + 4000000000000 := by grind
  omega
end Go.Proofs.YtcofpgbaokmbmafDoor
