/- Package wait, as it landed: Future, Stamp besides. -/
import Derived.Test.YthhhlfbifcnmpagDoorWaitDef
import Derived.Test.YthhhlfbifcnmpagDoorWaitPkgW
namespace Go.Proofs.YthhhlfbifcnmpagDoor
open Go.ChangeShapes Go.WideShapes Go.ChangeAt Go.RowKit Go.Joins
set_option linter.unusedVariables false
set_option linter.unusedSimpArgs false

set_option maxHeartbeats 1000000 in
theorem wfuture_any (lo hi t : Int) (w : World) :
    Calls Tryd.prog 10 #[.agg #[.int .i64 lo, .int .i64 hi], .int .i64 t] w fun o w' => o = .returned (.tuple #[.bool (decide (pfE lo hi t = 0 ∧ hi < t)), errc (pfE lo hi t)]) ∧ Below w.heap.size w w' := by
  have cC := fun u => wcheck_any lo hi t u
  by_cases h : pfE lo hi t = 0
  · have e : decide (pfE lo hi t = 0 ∧ hi < t) = decide (hi < t) := by simp [h]
    rw [e, h, errc_zero]
    rw [h, errc_zero] at cC
    clear h e
    go_enter Tryd.func10, Tryd.ntmps10
    go_wp2_with (go_at_call 17; refine (cC _).mono ?_; rintro e u0 ⟨rfl, hb⟩; have r := Row.on hb (Row.made (W := w) (vs := [.int .i64 lo, .int .i64 hi]) rfl); have r1 := r.c 1 _ rfl; have HB : Hid _ := hb; clear hb r)
    go_ret2
    exact ⟨rfl, rbel_on HB.out (rbel_al (Below.refl _ _))⟩
  · have e : decide (pfE lo hi t = 0 ∧ hi < t) = false := decide_eq_false (fun q => h q.1)
    rw [e, errc_not h]
    rw [errc_not h] at cC
    clear e
    generalize pfE lo hi t = e at *
    clear h
    go_enter Tryd.func10, Tryd.ntmps10
    go_wp2_with (go_at_call 17; refine (cC _).mono ?_; rintro e u0 ⟨rfl, hb⟩; have HB : Hid _ := hb; clear hb)
    go_ret2
    exact ⟨rfl, rbel_on HB.out (rbel_al (Below.refl _ _))⟩

set_option maxHeartbeats 1000000 in
theorem wstamp_any (lo hi : Int) (w : World) :
    Calls Tryd.prog 7 #[.agg #[.int .i64 lo, .int .i64 hi]] w fun o w' => o = .returned (.tuple #[.int .i64 (stN lo hi), errc (stE lo hi)]) ∧ Below w.heap.size w w' := by
  cases h : okB lo hi with
  | true =>
    have e : stE lo hi = 0 := by unfold stE; exact if_pos h
    have n : stN lo hi = hi := by unfold stN; exact if_pos h
    have cC := fun u => check_ok lo hi u h
    rw [e, n, errc_zero]
    clear h e n
    go_enter Tryd.func7, Tryd.ntmps7
    go_wp2_with (go_at_call 15; refine (cC _).mono ?_; rintro e u0 ⟨rfl, hb⟩; have r := Row.on hb (Row.made (W := w) (vs := [.int .i64 lo, .int .i64 hi]) rfl); have r1 := r.c 1 _ rfl; have HB : Hid _ := hb; clear hb r)
    go_ret2
    exact ⟨rfl, rbel_on HB.out (rbel_al (Below.refl _ _))⟩
  | false =>
    have e : stE lo hi = 1 := by unfold stE; exact if_neg (by rw [h]; decide)
    have n : stN lo hi = 0 := by unfold stN; exact if_neg (by rw [h]; decide)
    have cC := fun u => check_no lo hi u h
    rw [e, n, errc_not (by decide)]
    clear h e n
    go_enter Tryd.func7, Tryd.ntmps7
    go_wp2_with (go_at_call 15; refine (cC _).mono ?_; rintro e u0 ⟨rfl, hb⟩; have HB : Hid _ := hb; clear hb)
    go_ret2
    exact ⟨rfl, rbel_on HB.out (rbel_al (Below.refl _ _))⟩

theorem wta {w : World} : WtA w :=
  { toWtW := wtw
    past := fun lo hi t u _ _ _ _ => wpast_any lo hi t u
    future := fun lo hi t u _ _ _ _ => wfuture_any lo hi t u
    stamp := fun lo hi u _ _ _ => wstamp_any lo hi u }
end Go.Proofs.YthhhlfbifcnmpagDoor
