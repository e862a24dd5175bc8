/- What package civil reckons of years: daysMore, newYear, Last. -/
import Derived.Test.YthaajbdppmdhaacDoorCivilErr
import Derived.WalkKit
import Derived.ProofKit
import Derived.OpenShut
import Derived.Outline
import Derived.Below
import Derived.IntWalk
import Derived.Deep.Draws
import Derived.WalkLawsBesides
namespace Go.Proofs.YthaajbdppmdhaacDoor
open Go.ChangeShapes Go.WideShapes Go.ChangeAt Go.RowKit
set_option linter.unusedVariables false
set_option linter.unusedSimpArgs false

/-- How many years ahead of one have a day more, from year 1 on. -/
def dmore (y : Int) : Int := (y - 1) / 4 - (y - 1) / 100 + (y - 1) / 400
theorem dmore_in (y : Int) (h0 : 1970 ≤ y) (h1 : y ≤ 2201) : 400 ≤ dmore y ∧ dmore y ≤ 600 := by unfold dmore; omega
theorem dmore_step (y : Int) : dmore (y + 1) - dmore y = if leapB y = true then 1 else 0 := by
  unfold dmore
  by_cases h : leapB y = true
  · rw [if_pos h]; have := of_decide_eq_true h; omega
  · rw [if_neg h]; have : leapB y = false := by simpa using h
    have := of_decide_eq_false this; omega
/-- The first day of a year. -/
theorem dmore_year (y : Int) (h0 : 1970 ≤ y) (h1 : y ≤ 2200) : 365 * (y - 1970) + dmore y - dmore 1970 = yoff (y - 1970).toNat := by
  rw [yoff_at _ (by omega)]
  unfold dmore
  split <;> omega
theorem yoff_in (k : Nat) (hk : k ≤ 230) : 0 ≤ yoff k ∧ yoff k ≤ 84006 := by
  rw [yoff_at k hk]; split <;> omega

theorem ret_i {a b : Int} (h : a = b) : Ending.returned (.int .i64 a) = .returned (.int .i64 b) := by rw [h]

set_option maxHeartbeats 400000 in
theorem daysMore_any (y : Int) (w : World) (h0 : 1970 ≤ y) (h1 : y ≤ 2201) :
    Calls Tryd.prog 80 #[.int .i64 y] w fun e w' => e = .returned (.int .i64 (dmore y)) ∧ w' = w := by
  go_enter Tryd.func80, Tryd.ntmps80
  go_wp2
  go_ret
  exact ⟨rfl, rfl⟩

set_option maxHeartbeats 400000 in
theorem newYear_any (y : Int) (w : World) (h0 : 1970 ≤ y) (h1 : y ≤ 2200) :
    Calls Tryd.prog 53 #[.int .i64 y] w fun e w' => e = .returned (.int .i64 (yoff (y - 1970).toNat)) ∧ w' = w := by
  have E : Hid (365 * (y - 1970) + dmore y - dmore 1970 = yoff (y - 1970).toNat) := dmore_year y h0 h1
  have d1 := dmore_in y h0 (by omega)
  have d2 := dmore_in 1970 (by omega) (by omega)
  obtain ⟨d1a, d1b⟩ := d1
  obtain ⟨d2a, d2b⟩ := d2
  go_enter Tryd.func53, Tryd.ntmps53
  go_wp2_with (go_at_call 80; refine (daysMore_any _ _ (by omega) (by omega)).mono ?_; rintro e u ⟨rfl, hu⟩; rw [hu]; clear hu)
  go_ret
  exact ⟨ret_i E.out, rfl⟩

set_option maxHeartbeats 400000 in
theorem last_any (w : World) :
    Calls Tryd.prog 57 #[] w fun e w' => e = .returned (.int .i64 84005) ∧ w' = w := by
  have c := newYear_any 2200 w (by omega) (by omega)
  rw [show ((2200 : Int) - 1970).toNat = 230 from rfl, yoff_all] at c
  go_enter Tryd.func57, Tryd.ntmps57
  go_wp2_with (go_at_call 53; refine c.mono ?_; rintro e u ⟨rfl, hu⟩; rw [hu]; clear hu)
  go_ret
  exact ⟨rfl, rfl⟩
end Go.Proofs.YthaajbdppmdhaacDoor
