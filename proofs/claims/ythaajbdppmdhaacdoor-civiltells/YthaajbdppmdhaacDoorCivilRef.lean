/- What the document's own reckoning (package noonref1) answers of dates: Leap, Days, YearDays, Date, DayNumber, Last, DateOf. -/
import Derived.Test.YthaajbdppmdhaacDoorRow
import Derived.Test.YthaajbdppmdhaacDoorCivilMath
import Derived.WalkKit
import Derived.ProofKit
import Derived.OpenShut
import Derived.Outline
import Derived.IntWalk
import Derived.Below
import Derived.WalkLawsBesides
import Derived.Deep.RegionWith
import Derived.Deep.RegionHeld
import Derived.BigQuiet
namespace Go.Proofs.YthaajbdppmdhaacDoor
open Go.ChangeShapes Go.WideShapes Go.ChangeAt Go.RowKit
set_option linter.unusedVariables false
set_option linter.unusedSimpArgs false

theorem ne_i {a b : Int} (h : ¬ a = b) : (a == b) = false := by simpa using h
set_option maxHeartbeats 1000000 in
theorem rleap_any (y : Int) (w : World) (h0 : 0 ≤ y) (h1 : y ≤ 100000) :
    Calls Tryd.prog 61 #[.int .i64 y] w fun e w' => e = .returned (.bool (leapB y)) ∧ w' = w := by
  have e1 : y.tmod 400 = y % 400 := Int.tmod_eq_emod_of_nonneg h0
  have e2 : y.tmod 4 = y % 4 := Int.tmod_eq_emod_of_nonneg h0
  have e3 : y.tmod 100 = y % 100 := Int.tmod_eq_emod_of_nonneg h0
  by_cases a : y % 400 = 0
  · have T : Hid (leapB y = true) := decide_eq_true (Or.inl a)
    go_enter Tryd.func61, Tryd.ntmps61
    go_wp2
    go_ret
    exact ⟨by rw [T.out]; rfl, rfl⟩
  · have a' := ne_i a
    by_cases b : y % 4 = 0
    · by_cases c : y % 100 = 0
      · have T : Hid (leapB y = false) := decide_eq_false (by omega)
        go_enter Tryd.func61, Tryd.ntmps61
        go_wp2
        go_ret
        exact ⟨by rw [T.out]; rfl, rfl⟩
      · have c' := ne_i c
        have T : Hid (leapB y = true) := decide_eq_true (Or.inr ⟨b, c⟩)
        have c2 : Hid ((y % 100 != 0) = true) := by
          show (y % 100 != 0) = true
          simpa using c
        go_enter Tryd.func61, Tryd.ntmps61
        go_wp2
        go_ret
        exact ⟨by rw [T.out, ← c2.out]; rfl, rfl⟩
    · have b' := ne_i b
      have T : Hid (leapB y = false) := decide_eq_false (by omega)
      go_enter Tryd.func61, Tryd.ntmps61
      go_wp2
      go_ret
      exact ⟨by rw [T.out]; rfl, rfl⟩
set_option maxHeartbeats 1000000 in
theorem ryear_any (y : Int) (w : World) (h0 : 0 ≤ y) (h1 : y ≤ 100000) :
    Calls Tryd.prog 51 #[.int .i64 y] w fun e w' => e = .returned (.int .i64 (ydays y)) ∧ w' = w := by
  have cL := fun u => rleap_any y u h0 h1
  cases b : leapB y
  all_goals
    have T : Hid (∀ z, leapB y = z → ydays y = if z then 366 else 365) := fun z hz => by unfold ydays; rw [hz]
    replace T := T.out _ b
    rw [b] at cL
    have T : Hid (ydays y = _) := T
    go_enter Tryd.func51, Tryd.ntmps51
    go_wp2_with (go_at_call 61; refine (cL _).mono ?_; rintro e u ⟨rfl, hu⟩; rw [hu]; clear hu)
    go_ret
    exact ⟨by rw [T.out]; rfl, rfl⟩
set_option maxHeartbeats 1000000 in
theorem rdays_any (y m : Int) (w : World) (h0 : 0 ≤ y) (h1 : y ≤ 100000) :
    Calls Tryd.prog 23 #[.int .i64 y, .int .i64 m] w fun e w' => e = .returned (.int .i64 (mdays y m)) ∧ w' = w := by
  have cL := fun u => rleap_any y u h0 h1
  by_cases m2 : m = 2
  · subst m2
    cases b : leapB y
    all_goals
      have T : Hid (∀ z, leapB y = z → mdays y 2 = if z then 29 else 28) := fun z hz => by unfold mdays; rw [hz]; rfl
      replace T := T.out _ b
      rw [b] at cL
      have T : Hid (mdays y 2 = _) := T
      go_enter Tryd.func23, Tryd.ntmps23
      go_wp2_with (go_at_call 61; refine (cL _).mono ?_; rintro e u ⟨rfl, hu⟩; rw [hu]; clear hu)
      go_ret
      exact ⟨by rw [T.out]; rfl, rfl⟩
  · have m2' := ne_i m2
    by_cases s : m = 4 ∨ m = 6 ∨ m = 9 ∨ m = 11
    · have T : Hid (mdays y m = 30) := (if_neg m2).trans (if_pos s)
      rcases s with rfl | rfl | rfl | rfl
      all_goals
        clear m2 m2'
        go_enter Tryd.func23, Tryd.ntmps23
        go_wp2
        go_ret
        exact ⟨by rw [T.out]; rfl, rfl⟩
    · have T : Hid (mdays y m = 31) := (if_neg m2).trans (if_neg s)
      have n4 := ne_i (show ¬ m = 4 by omega)
      have n6 := ne_i (show ¬ m = 6 by omega)
      have n9 := ne_i (show ¬ m = 9 by omega)
      have n11 := ne_i (show ¬ m = 11 by omega)
      clear s m2
      go_enter Tryd.func23, Tryd.ntmps23
      go_wp2
      go_ret
      exact ⟨by rw [T.out]; rfl, rfl⟩
end Go.Proofs.YthaajbdppmdhaacDoor
