/- What the document's own reckoning (package noonref1) answers of a quotient, rounded up. -/
import Derived.Test.YtmomcaodmdlnpahDoorRow
import Derived.IntWalk
import Derived.WalkArith
namespace Go.Proofs.YtmomcaodmdlnpahDoor
open Go.ChangeShapes Go.WideShapes Go.ChangeAt Go.RowKit
set_option linter.unusedVariables false
set_option linter.unusedSimpArgs false

theorem up_more {a b : Int} (h1 : 1 ≤ b) (h : a / b * b < a) : a / b + 1 = (a + b - 1) / b := by
  have e := Int.mul_ediv_add_emod a b
  have r1 := Int.emod_lt_of_pos a (show 0 < b by omega)
  have c : b * (a / b) = a / b * b := Int.mul_comm _ _
  have e2 : a + b - 1 = (a % b - 1) + b * (a / b + 1) := by rw [Int.mul_add]; omega
  have z : (a % b - 1) / b = 0 := Int.ediv_eq_zero_of_lt (by omega) (by omega)
  rw [e2, Int.add_mul_ediv_left _ _ (by omega), z]
  omega
theorem up_same {a b : Int} (h1 : 1 ≤ b) (h : ¬ a / b * b < a) : a / b = (a + b - 1) / b := by
  have e := Int.mul_ediv_add_emod a b
  have r0 := Int.emod_nonneg a (show b ≠ 0 by omega)
  have c : b * (a / b) = a / b * b := Int.mul_comm _ _
  have e2 : a + b - 1 = (b - 1) + b * (a / b) := by omega
  have z : (b - 1) / b = 0 := Int.ediv_eq_zero_of_lt (by omega) (by omega)
  rw [e2, Int.add_mul_ediv_left _ _ (by omega), z]
  omega
theorem up_b {a b : Int} (h0 : 0 ≤ a) (h1 : 1 ≤ b) : 0 ≤ a / b * b ∧ a / b * b ≤ a := by
  have e := Int.mul_ediv_add_emod a b
  have r0 := Int.emod_nonneg a (show b ≠ 0 by omega)
  have c : b * (a / b) = a / b * b := Int.mul_comm _ _
  exact ⟨Int.mul_nonneg (IntWalk.tdiv_le a b h0 h1).1 (by omega), by omega⟩

set_option maxHeartbeats 1000000 in
theorem rup_same (a b : Int) (w : World) (h1 : 0 ≤ a) (h2 : a ≤ 9000000000000000000) (h3 : 1 ≤ b) (h4 : b ≤ 2000000) :
    Calls Tryd.prog 65 #[.int .i64 a, .int .i64 b] w fun e w' => e = .returned (.int .i64 ((a + b - 1) / b)) ∧ w' = w := by
  have q := IntWalk.tdiv_le a b h1 h3
  obtain ⟨q1, q2⟩ := q
  have r := up_b h1 h3
  obtain ⟨r1, r2⟩ := r
  have hnz : ¬ (b = 0) := by omega
  by_cases h : a / b * b < a
  · have H : Hid (a / b + 1 = (a + b - 1) / b) := up_more h3 h
    go_enter Tryd.func65, Tryd.ntmps65
    go_wp2
    go_ret
    exact ⟨(by rw [H.out]; rfl), rfl⟩
  · have H : Hid (a / b = (a + b - 1) / b) := up_same h3 h
    go_enter Tryd.func65, Tryd.ntmps65
    go_wp2
    go_ret
    exact ⟨(by rw [← H.out]; rfl), rfl⟩
end Go.Proofs.YtmomcaodmdlnpahDoor
