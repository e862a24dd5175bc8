/- Points on a line, and three points: plain mathematics. -/
import Derived.Test.YtcofpgbaokmbmafDoorHullOv
namespace Go.Proofs.YtcofpgbaokmbmafDoor
set_option linter.unusedVariables false

/-- Points on a line. -/
def lineP (s : Int) (i : Nat) : Int × Int := ((i : Int), s * i)
theorem line_hgt (s : Int) (a b c : Nat) : hgt (lineP s a) (lineP s b) (lineP s c) = 0 := by
  unfold hgt lineP
  grind
/-- The corners are the ends. -/
theorem line_up (s : Int) (n : Nat) (h2 : 2 ≤ n) : Up (lst (lineP s) n) [lineP s 0, lineP s (n - 1)] := by
  refine ⟨by simp [lineP]; omega, fun p => ?_⟩
  have one : ∀ i j : Nat, (lineP s i).1 = (lineP s j).1 → i = j := fun i j e => by
    have : (i : Int) = j := e
    omega
  constructor
  · intro hp
    simp only [List.mem_cons, List.not_mem_nil, or_false] at hp
    rcases hp with rfl | rfl
    · refine ⟨lst_in (by omega), fun i hi e => ?_, fun a ha b hb la => ?_⟩
      · obtain ⟨j, hj, rfl⟩ := mem_lst.1 hi
        rw [one _ _ e]
        exact Int.le_refl _
      · obtain ⟨j, hj, rfl⟩ := mem_lst.1 ha
        have : (j : Int) < ((0 : Nat) : Int) := la
        omega
    · refine ⟨lst_in (by omega), fun i hi e => ?_, fun a ha b hb la lb => ?_⟩
      · obtain ⟨j, hj, rfl⟩ := mem_lst.1 hi
        rw [one _ _ e]
        exact Int.le_refl _
      · obtain ⟨j, hj, rfl⟩ := mem_lst.1 hb
        have : ((n - 1 : Nat) : Int) < (j : Int) := lb
        omega
  · rintro ⟨hp, h1, h3⟩
    obtain ⟨j, hj, rfl⟩ := mem_lst.1 hp
    by_cases j0 : j = 0
    · subst j0; simp
    · by_cases j1 : j = n - 1
      · subst j1; simp
      · have := h3 _ (lst_in (f := lineP s) (n := n) (i := 0) (by omega)) _ (lst_in (f := lineP s) (n := n) (i := n - 1) (by omega)) (by show ((0 : Nat) : Int) < j; omega) (by show (j : Int) < ((n - 1 : Nat) : Int); omega)
        rw [line_hgt] at this
        omega
theorem line_over (s : Int) (n x : Nat) (hx : x < n) : OvV (lst (lineP s) n) x (s * x) := by
  refine ⟨⟨fun a ha e => ?_, fun a ha b hb _ _ _ => ?_⟩, fun u hu => hu.1 (lineP s x) (lst_in hx) rfl⟩
  · obtain ⟨j, hj, rfl⟩ := mem_lst.1 ha
    have : (j : Int) = x := e
    show s * j ≤ s * x
    rw [this]
    exact Int.le_refl _
  · obtain ⟨j, hj, rfl⟩ := mem_lst.1 ha
    obtain ⟨k, hk, rfl⟩ := mem_lst.1 hb
    have := line_hgt s j k x
    unfold lineP at this ⊢
    omega
theorem line_flp (s : Int) (n : Nat) : (lst (lineP s) n).map flp = lst (lineP (-s)) n := by
  rw [← lst_flp]
  unfold lst
  apply List.map_congr_left
  intro i _
  simp [lineP, flp, Int.neg_mul]
theorem line_under (s : Int) (n x : Nat) (hx : x < n) : OvV ((lst (lineP s) n).map flp) x (-(s * x)) := by
  rw [line_flp, ← Int.neg_mul]
  exact line_over (-s) n x hx
theorem line_within (s : Int) (n : Nat) (x : Int) (h : 0 < n) : Within (lst (lineP s) n) x ↔ 0 ≤ x ∧ x < n := by
  constructor
  · rintro ⟨⟨a, ha, h1⟩, b, hb, h2⟩
    obtain ⟨j, hj, rfl⟩ := mem_lst.1 ha
    obtain ⟨k, hk, rfl⟩ := mem_lst.1 hb
    have : (j : Int) ≤ x := h1
    have : x ≤ (k : Int) := h2
    omega
  · rintro ⟨h1, h2⟩
    exact ⟨⟨lineP s 0, lst_in h, h1⟩, lineP s (n - 1), lst_in (by omega), by show x ≤ ((n - 1 : Nat) : Int); omega⟩
theorem line_ok (s : Int) (n : Nat) (h : n ≤ 60) (h1 : -1000 ≤ s) (h2 : s ≤ 1000) : ∀ i, i < n → okP (lineP s i) := fun i hi => by
  have a1 : s * (i : Int) ≤ 1000 * i := Int.mul_le_mul_of_nonneg_right h2 (by omega)
  have a2 : -1000 * (i : Int) ≤ s * i := Int.mul_le_mul_of_nonneg_right h1 (by omega)
  exact ⟨⟨by show -1000000 ≤ (i : Int); omega, by show (i : Int) ≤ 1000000; omega⟩, by show -1000000 ≤ s * i; omega, by show s * i ≤ 1000000; omega⟩
/-- Three points. -/
def threeP (i : Nat) : Int × Int := if i = 0 then (0, 0) else if i = 1 then (2, 5) else (4, 0)
theorem three_over : OvV (lst threeP 3) 1 3 := by
  have e : lst threeP 3 = [(0, 0), (2, 5), (4, 0)] := by decide
  rw [e]
  refine ⟨⟨fun a ha h => ?_, fun a ha b hb h1 h2 h3 => ?_⟩, fun u hu => ?_⟩
  · simp only [List.mem_cons, List.not_mem_nil, or_false] at ha
    rcases ha with rfl | rfl | rfl <;> simp at h
  · simp only [List.mem_cons, List.not_mem_nil, or_false] at ha hb
    rcases ha with rfl | rfl | rfl <;> rcases hb with rfl | rfl | rfl <;> first | decide | (simp at h1 h2 h3)
  · have := hu.2 (0, 0) (by simp) (2, 5) (by simp) (by decide) (by decide) (by decide)
    unfold hgt at this
    simp only at this
    omega
theorem three_within : Within (lst threeP 3) 1 := ⟨⟨(0, 0), by decide, by decide⟩, (4, 0), by decide, by decide⟩
theorem three_ok : ∀ i, i < 3 → okP (threeP i) := fun i hi => by
  have : i = 0 ∨ i = 1 ∨ i = 2 := by omega
  rcases this with rfl | rfl | rfl <;> exact ⟨⟨by decide, by decide⟩, by decide, by decide⟩
end Go.Proofs.YtcofpgbaokmbmafDoor
