/- What the document's own reckoning (package noonref2) answers of a letter: its fault. -/
import Derived.Test.YtfmaoblhoafnhaiDoorWireRefM
import Derived.BigQuiet
import Derived.IntWalk
namespace Go.Proofs.YtfmaoblhoafnhaiDoor
open Go.ChangeShapes Go.WideShapes Go.ChangeAt Go.RowKit Go.Joins
set_option linter.unusedVariables false
set_option linter.unusedSimpArgs false

set_option maxRecDepth 100000 in
set_option maxHeartbeats 8000000 in
theorem rletter (l : Lt) (u : World) : Calls Tryd.prog 4 #[ltv l] u fun o w' => o = .returned (.int .i64 (ltE l)) ∧ Below u.heap.size u w' := by
  obtain ⟨l1, l2, l3, l4, l5, l6⟩ := l
  unfold ltv
  by_cases c0 : l1 < 0
  · have d0 : decide (l1 < 0) = true := decide_eq_true c0
    have e : ltE ⟨l1, l2, l3, l4, l5, l6⟩ = 1 := if_pos (by show _ ∨ _; simp only; omega)
    rw [e]
    go_enter Tryd.func4, Tryd.ntmps4
    go_wp2
    go_ret
    exact ⟨rfl, rbel_al (Below.refl _ _)⟩
  have d0 : decide (l1 < 0) = false := decide_eq_false c0
  by_cases c1 : 5 < l1
  · have d1 : decide (5 < l1) = true := decide_eq_true c1
    have e : ltE ⟨l1, l2, l3, l4, l5, l6⟩ = 1 := if_pos (by show _ ∨ _; simp only; omega)
    rw [e]
    go_enter Tryd.func4, Tryd.ntmps4
    go_wp2
    go_ret
    exact ⟨rfl, rbel_al (Below.refl _ _)⟩
  have d1 : decide (5 < l1) = false := decide_eq_false c1
  by_cases c2 : l2 < 0
  · have d2 : decide (l2 < 0) = true := decide_eq_true c2
    have e : ltE ⟨l1, l2, l3, l4, l5, l6⟩ = 1 := if_pos (by show _ ∨ _; simp only; omega)
    rw [e]
    go_enter Tryd.func4, Tryd.ntmps4
    go_wp2
    go_ret
    exact ⟨rfl, rbel_al (Below.refl _ _)⟩
  have d2 : decide (l2 < 0) = false := decide_eq_false c2
  by_cases c3 : 5 < l2
  · have d3 : decide (5 < l2) = true := decide_eq_true c3
    have e : ltE ⟨l1, l2, l3, l4, l5, l6⟩ = 1 := if_pos (by show _ ∨ _; simp only; omega)
    rw [e]
    go_enter Tryd.func4, Tryd.ntmps4
    go_wp2
    go_ret
    exact ⟨rfl, rbel_al (Below.refl _ _)⟩
  have d3 : decide (5 < l2) = false := decide_eq_false c3
  by_cases c4 : l6 < 0
  · have d4 : decide (l6 < 0) = true := decide_eq_true c4
    have e : ltE ⟨l1, l2, l3, l4, l5, l6⟩ = 1 := if_pos (by show _ ∨ _; simp only; omega)
    rw [e]
    go_enter Tryd.func4, Tryd.ntmps4
    go_wp2
    go_ret
    exact ⟨rfl, rbel_al (Below.refl _ _)⟩
  have d4 : decide (l6 < 0) = false := decide_eq_false c4
  by_cases c5 : 1000000000000 < l6
  · have d5 : decide (1000000000000 < l6) = true := decide_eq_true c5
    have e : ltE ⟨l1, l2, l3, l4, l5, l6⟩ = 1 := if_pos (by show _ ∨ _; simp only; omega)
    rw [e]
    go_enter Tryd.func4, Tryd.ntmps4
    go_wp2
    go_ret
    exact ⟨rfl, rbel_al (Below.refl _ _)⟩
  have d5 : decide (1000000000000 < l6) = false := decide_eq_false c5
  by_cases c6 : l4 < 0
  · have d6 : decide (l4 < 0) = true := decide_eq_true c6
    have e : ltE ⟨l1, l2, l3, l4, l5, l6⟩ = 1 := if_pos (by show _ ∨ _; simp only; omega)
    rw [e]
    go_enter Tryd.func4, Tryd.ntmps4
    go_wp2
    go_ret
    exact ⟨rfl, rbel_al (Below.refl _ _)⟩
  have d6 : decide (l4 < 0) = false := decide_eq_false c6
  by_cases c7 : 1000000000000 < l4
  · have d7 : decide (1000000000000 < l4) = true := decide_eq_true c7
    have e : ltE ⟨l1, l2, l3, l4, l5, l6⟩ = 1 := if_pos (by show _ ∨ _; simp only; omega)
    rw [e]
    go_enter Tryd.func4, Tryd.ntmps4
    go_wp2
    go_ret
    exact ⟨rfl, rbel_al (Below.refl _ _)⟩
  have d7 : decide (1000000000000 < l4) = false := decide_eq_false c7
  by_cases c8 : l5 < 0
  · have d8 : decide (l5 < 0) = true := decide_eq_true c8
    have e : ltE ⟨l1, l2, l3, l4, l5, l6⟩ = 1 := if_pos (by show _ ∨ _; simp only; omega)
    rw [e]
    go_enter Tryd.func4, Tryd.ntmps4
    go_wp2
    go_ret
    exact ⟨rfl, rbel_al (Below.refl _ _)⟩
  have d8 : decide (l5 < 0) = false := decide_eq_false c8
  by_cases c9 : 1000000000000 < l5
  · have d9 : decide (1000000000000 < l5) = true := decide_eq_true c9
    have e : ltE ⟨l1, l2, l3, l4, l5, l6⟩ = 1 := if_pos (by show _ ∨ _; simp only; omega)
    rw [e]
    go_enter Tryd.func4, Tryd.ntmps4
    go_wp2
    go_ret
    exact ⟨rfl, rbel_al (Below.refl _ _)⟩
  have d9 : decide (1000000000000 < l5) = false := decide_eq_false c9
  have n1 : ¬ (l1 < 0 ∨ 6 ≤ l1 ∨ l2 < 0 ∨ 6 ≤ l2 ∨ l6 < 0 ∨ 1000000000000 < l6 ∨ l4 < 0 ∨ 1000000000000 < l4 ∨ l5 < 0 ∨ 1000000000000 < l5) := by omega
  by_cases q : l1 = l2
  · have e : ltE ⟨l1, l2, l3, l4, l5, l6⟩ = 3 := (if_neg n1).trans (if_pos (Or.inl q))
    have dq : (l1 == l2) = true := by simpa using q
    clear n1
    rw [e]
    go_enter Tryd.func4, Tryd.ntmps4
    go_wp2
    go_ret
    exact ⟨rfl, rbel_al (Below.refl _ _)⟩
  have dq : (l1 == l2) = false := by simpa using q
  cases l3 with
  | true =>
    have e : ltE ⟨l1, l2, true, l4, l5, l6⟩ = 0 := (if_neg n1).trans (if_neg (by
      rintro (h | ⟨h, _⟩)
      · exact q h
      · cases h))
    clear n1
    rw [e]
    go_enter Tryd.func4, Tryd.ntmps4
    go_wp2
    go_ret
    exact ⟨rfl, rbel_al (Below.refl _ _)⟩
  | false =>
    by_cases p : l4 = 0
    · by_cases r : l5 = 0
      · have e : ltE ⟨l1, l2, false, l4, l5, l6⟩ = 0 := (if_neg n1).trans (if_neg (by
          rintro (h | ⟨_, h | h⟩)
          · exact q h
          · exact h p
          · exact h r))
        have dp : (l4 == 0) = true := by simpa using p
        have dr : (l5 == 0) = true := by simpa using r
        clear n1
        rw [e]
        go_enter Tryd.func4, Tryd.ntmps4
        go_wp2
        go_ret
        exact ⟨rfl, rbel_al (Below.refl _ _)⟩
      · have e : ltE ⟨l1, l2, false, l4, l5, l6⟩ = 3 := (if_neg n1).trans (if_pos (Or.inr ⟨rfl, Or.inr r⟩))
        have dp : (l4 == 0) = true := by simpa using p
        have dr : (l5 == 0) = false := by simpa using r
        clear n1
        rw [e]
        go_enter Tryd.func4, Tryd.ntmps4
        go_wp2
        go_ret
        exact ⟨rfl, rbel_al (Below.refl _ _)⟩
    · have e : ltE ⟨l1, l2, false, l4, l5, l6⟩ = 3 := (if_neg n1).trans (if_pos (Or.inr ⟨rfl, Or.inl p⟩))
      have dp : (l4 == 0) = false := by simpa using p
      clear n1
      rw [e]
      go_enter Tryd.func4, Tryd.ntmps4
      go_wp2
      go_ret
      exact ⟨rfl, rbel_al (Below.refl _ _)⟩
end Go.Proofs.YtfmaoblhoafnhaiDoor
