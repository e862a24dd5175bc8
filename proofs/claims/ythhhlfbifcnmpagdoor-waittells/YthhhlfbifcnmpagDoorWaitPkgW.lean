/- Package wait, as it landed: check, Past, shown, Wait. -/
import Derived.Test.YthhhlfbifcnmpagDoorWaitDefW
import Derived.Test.YthhhlfbifcnmpagDoorSpanChkC
import Derived.Test.YthhhlfbifcnmpagDoorDriftGrow
import Derived.Lib.SmallJoins
import Derived.IntWalk
namespace Go.Proofs.YthhhlfbifcnmpagDoor
open Go.ChangeShapes Go.WideShapes Go.ChangeAt Go.RowKit Go.Joins
set_option linter.unusedVariables false
set_option linter.unusedSimpArgs false

set_option maxHeartbeats 1000000 in
theorem wcheck_any (lo hi t : Int) (w : World) :
    Calls Tryd.prog 17 #[.agg #[.int .i64 lo, .int .i64 hi], .int .i64 t] w fun o w' => o = .returned (errc (pfE lo hi t)) ∧ Below w.heap.size w w' := by
  cases h : okB lo hi with
  | false =>
    have e : pfE lo hi t = 1 := by unfold pfE; rw [if_neg (fun q => by rw [h] at q; cases q.1)]
    rw [e, errc_not (by decide)]
    have cC := fun u => check_no lo hi u h
    clear e h
    go_enter Tryd.func17, Tryd.ntmps17
    go_wp2_with (go_at_call 15; refine (cC _).mono ?_; rintro e u0 ⟨rfl, hb⟩; have HB : Hid _ := hb; clear hb)
    go_ret
    exact ⟨rfl, rbel_on HB.out (rbel_al (Below.refl _ _))⟩
  | true =>
    have cC := fun u => check_ok lo hi u h
    have d : (t < -1000000000000 ∧ pfE lo hi t = 1) ∨ (¬ t < -1000000000000 ∧ 1000000000000 < t ∧ pfE lo hi t = 1) ∨ (¬ t < -1000000000000 ∧ ¬ 1000000000000 < t ∧ pfE lo hi t = 0) := by
      by_cases q : tiB t = true
      · have := tiB_t q
        exact Or.inr (Or.inr ⟨by omega, by omega, by unfold pfE; exact if_pos ⟨h, q⟩⟩)
      · have e : pfE lo hi t = 1 := by unfold pfE; exact if_neg (fun z => q z.2)
        have n : ¬ (-1000000000000 ≤ t ∧ t ≤ 1000000000000) := fun z => q (decide_eq_true z)
        by_cases c : t < -1000000000000
        · exact Or.inl ⟨c, e⟩
        · exact Or.inr (Or.inl ⟨c, by omega, e⟩)
    clear h
    rcases d with ⟨d1, e⟩ | ⟨d1, d2, e⟩ | ⟨d1, d2, e⟩
    all_goals
      rw [e]
      first | rw [errc_zero] | rw [errc_not (by decide)]
      clear e
      go_enter Tryd.func17, Tryd.ntmps17
      go_wp2_with (go_at_call 15; refine (cC _).mono ?_; rintro e u0 ⟨rfl, hb⟩; have HB : Hid _ := hb; clear hb)
      go_ret
      exact ⟨rfl, rbel_on HB.out (rbel_al (Below.refl _ _))⟩

set_option maxHeartbeats 1000000 in
theorem wpast_any (lo hi t : Int) (w : World) :
    Calls Tryd.prog 9 #[.agg #[.int .i64 lo, .int .i64 hi], .int .i64 t] w fun o w' => o = .returned (.tuple #[.bool (decide (pfE lo hi t = 0 ∧ t < lo)), errc (pfE lo hi t)]) ∧ Below w.heap.size w w' := by
  have cC := fun u => wcheck_any lo hi t u
  by_cases h : pfE lo hi t = 0
  · have e : decide (pfE lo hi t = 0 ∧ t < lo) = decide (t < lo) := by simp [h]
    rw [e, h, errc_zero]
    rw [h, errc_zero] at cC
    clear h e
    go_enter Tryd.func9, Tryd.ntmps9
    go_wp2_with (go_at_call 17; refine (cC _).mono ?_; rintro e u0 ⟨rfl, hb⟩; have r := Row.on hb (Row.made (W := w) (vs := [.int .i64 lo, .int .i64 hi]) rfl); have r0 := r.c 0 _ rfl; have HB : Hid _ := hb; clear hb r)
    go_ret2
    exact ⟨rfl, rbel_on HB.out (rbel_al (Below.refl _ _))⟩
  · have e : decide (pfE lo hi t = 0 ∧ t < lo) = false := decide_eq_false (fun q => h q.1)
    rw [e, errc_not h]
    rw [errc_not h] at cC
    clear e
    generalize pfE lo hi t = e at *
    clear h
    go_enter Tryd.func9, Tryd.ntmps9
    go_wp2_with (go_at_call 17; refine (cC _).mono ?_; rintro e u0 ⟨rfl, hb⟩; have HB : Hid _ := hb; clear hb)
    go_ret2
    exact ⟨rfl, rbel_on HB.out (rbel_al (Below.refl _ _))⟩

/-- So much true time, and Grow of it, is what is asked, rounded up. -/
theorem shown_is (n p : Int) : n + (n * p + 1000000 - 1) / 1000000 = (n * (1000000 + p) + 1000000 - 1) / 1000000 := by
  have e : n * (1000000 + p) = n * 1000000 + n * p := by rw [Int.mul_add]
  rw [e]
  omega

set_option maxHeartbeats 1000000 in
theorem wshown_no (n p : Int) (w : World) (h : rdy n p = false) :
    Calls Tryd.prog 19 #[.int .i64 n, .int .i64 p] w fun o w' => o = .returned (.tuple #[.int .i64 0, .iface 41 (.int .i64 1)]) ∧ Below w.heap.size w w' := by
  have cC := fun u => grow_no n p u h
  clear h
  go_enter Tryd.func19, Tryd.ntmps19
  go_wp2_with (go_at_call 24; refine (cC _).mono ?_; rintro e u0 ⟨rfl, hb⟩; have HB : Hid _ := hb; clear hb)
  go_ret2
  exact ⟨rfl, HB.out⟩

set_option maxHeartbeats 1000000 in
theorem wshown_ok (n p : Int) (w : World) (h : rdy n p = true) :
    Calls Tryd.prog 19 #[.int .i64 n, .int .i64 p] w fun o w' => o = .returned (if (n * (1000000 + p) + 1000000 - 1) / 1000000 ≤ 1000000000000 then .tuple #[.int .i64 ((n * (1000000 + p) + 1000000 - 1) / 1000000), .nilIface] else .tuple #[.int .i64 0, .iface 41 (.int .i64 1)]) ∧ Below w.heap.size w w' := by
  have cC := fun u => grow_ok n p u h
  have q := rdy_t h
  obtain ⟨h1, h2, h3, h4⟩ := q
  have b := np_b h1 h2 h3 h4
  have i1 : -9223372036854775808 ≤ n + (n * p + 1000000 - 1) / 1000000 ∧ n + (n * p + 1000000 - 1) / 1000000 ≤ 9223372036854775807 := by omega
  rw [← shown_is]
  clear h h3 h4 b
  generalize (n * p + 1000000 - 1) / 1000000 = g at *
  have e1 : IntKind.i64.wrap (n + g) = n + g := IntWalk.i64_in _ (by omega)
  by_cases c : n + g ≤ 1000000000000
  · rw [if_pos c]
    have d : ¬ (1000000000000 < n + g) := by omega
    clear c i1
    go_enter Tryd.func19, Tryd.ntmps19
    go_wp2_with (go_at_call 24; refine (cC _).mono ?_; rintro e u0 ⟨rfl, hb⟩; have HB : Hid _ := hb; clear hb)
    go_ret2
    exact ⟨rfl, HB.out⟩
  · rw [if_neg c]
    have d : 1000000000000 < n + g := by omega
    clear c i1
    go_enter Tryd.func19, Tryd.ntmps19
    go_wp2_with (go_at_call 24; refine (cC _).mono ?_; rintro e u0 ⟨rfl, hb⟩; have HB : Hid _ := hb; clear hb)
    go_ret2
    exact ⟨rfl, HB.out⟩

/-- Wait, where nothing is wrong with what is handed in, and the time is not over. -/
theorem wshown_any (lo hi t p : Int) (w : World) (h : pfE lo hi t = 0) (h0 : 0 ≤ p) (h1 : p ≤ 1000) (c : ¬ t < lo) :
    Calls Tryd.prog 19 #[.int .i64 (t - lo + 1), .int .i64 p] w fun o w' => o = .returned (.tuple #[.int .i64 (waN lo hi t p), errc (waE lo hi t p)]) ∧ Below w.heap.size w w' := by
  have e : waE lo hi t p = if waR lo t p ≤ 1000000000000 then 0 else 1 := by
    unfold waE
    rw [if_pos ⟨h, h0, h1⟩, if_neg c]
  obtain ⟨o, q⟩ := pf_zero h
  have o' := okB_t o
  have q' := tiB_t q
  have a1 : 1 ≤ t - lo + 1 := by omega
  by_cases d : t - lo + 1 ≤ 1000000000000
  · have r : rdy (t - lo + 1) p = true := decide_eq_true ⟨by omega, d, h0, h1⟩
    refine (wshown_ok _ _ w r).mono ?_
    rintro o u ⟨rfl, hb⟩
    refine ⟨?_, hb⟩
    congr 1
    by_cases z : waR lo t p ≤ 1000000000000
    · rw [if_pos z] at e
      have n : waN lo hi t p = waR lo t p := by unfold waN; rw [if_pos e, if_neg c]
      rw [n, e, errc_zero]
      exact if_pos z
    · rw [if_neg z] at e
      have n : waN lo hi t p = 0 := by unfold waN; rw [if_neg (by rw [e]; decide)]
      rw [n, e, errc_not (by decide)]
      exact if_neg z
  · have r : rdy (t - lo + 1) p = false := decide_eq_false (fun z => d z.2.1)
    have z : ¬ waR lo t p ≤ 1000000000000 := by
      have m : (t - lo + 1) * 1000000 ≤ (t - lo + 1) * (1000000 + p) := Int.mul_le_mul_of_nonneg_left (by omega) (by omega)
      unfold waR
      omega
    rw [if_neg z] at e
    have n : waN lo hi t p = 0 := by unfold waN; rw [if_neg (by rw [e]; decide)]
    rw [n, e, errc_not (by decide)]
    exact wshown_no _ _ w r

set_option maxHeartbeats 1000000 in
theorem wwait_any (lo hi t p : Int) (w : World) :
    Calls Tryd.prog 12 #[.agg #[.int .i64 lo, .int .i64 hi], .int .i64 t, .int .i64 p] w fun o w' => o = .returned (.tuple #[.int .i64 (waN lo hi t p), errc (waE lo hi t p)]) ∧ Below w.heap.size w w' := by
  have cC := fun u => wpast_any lo hi t u
  by_cases h : pfE lo hi t = 0
  · by_cases g : 0 ≤ p ∧ p ≤ 1000
    · have d1 : ¬ (p < 0) := by omega
      have d2 : ¬ (1000 < p) := by omega
      by_cases c : t < lo
      · have e : waE lo hi t p = 0 := by unfold waE; rw [if_pos ⟨h, g⟩, if_pos c]
        have n : waN lo hi t p = 0 := by unfold waN; rw [if_pos e, if_pos c]
        have b : decide (pfE lo hi t = 0 ∧ t < lo) = true := decide_eq_true ⟨h, c⟩
        rw [b, h, errc_zero] at cC
        rw [n, e, errc_zero]
        clear h g c e n b
        go_enter Tryd.func12, Tryd.ntmps12
        go_wp2_with (go_at_call 9; refine (cC _).mono ?_; rintro e u0 ⟨rfl, hb⟩; have HB : Hid _ := hb; clear hb)
        go_ret2
        exact ⟨rfl, rbel_on HB.out (rbel_al (Below.refl _ _))⟩
      · have b : decide (pfE lo hi t = 0 ∧ t < lo) = false := decide_eq_false (fun q => c q.2)
        have cS := fun u => wshown_any lo hi t p u h g.1 g.2 c
        obtain ⟨o, q⟩ := pf_zero h
        have o' := okB_t o
        have q' := tiB_t q
        rw [b, h, errc_zero] at cC
        have e1 : IntKind.i64.wrap (t - lo) = t - lo := IntWalk.i64_in _ (by omega)
        have e2 : IntKind.i64.wrap (t - lo + 1) = t - lo + 1 := IntWalk.i64_in _ (by omega)
        clear h g c b o q o' q'
        generalize waE lo hi t p = e at *
        generalize waN lo hi t p = n at *
        go_enter Tryd.func12, Tryd.ntmps12
        go_wp2_with (first | (go_at_call 9; refine (cC _).mono ?_; rintro e u0 ⟨rfl, hb⟩; have r := Row.on hb (Row.made (W := w) (vs := [.int .i64 lo, .int .i64 hi]) rfl); have r0 := r.c 0 _ rfl; have HB : Hid _ := hb; clear hb r) | (go_at_call 19; refine (cS _).mono ?_; rintro e2 u1 ⟨rfl, hb⟩; have HC : Hid _ := hb; clear hb))
        go_ret2
        exact ⟨rfl, rbel_on HC.out (rbel_on HB.out (rbel_al (Below.refl _ _)))⟩
    · have e : waE lo hi t p = 1 := by unfold waE; exact if_neg (fun z => g z.2)
      have n : waN lo hi t p = 0 := by unfold waN; rw [if_neg (by rw [e]; decide)]
      rw [h, errc_zero] at cC
      rw [n, e, errc_not (by decide)]
      generalize decide (0 = 0 ∧ t < lo) = B at *
      have d : p < 0 ∨ (¬ p < 0 ∧ 1000 < p) := by omega
      clear h g e n
      rcases d with d1 | ⟨d1, d2⟩
      all_goals
        go_enter Tryd.func12, Tryd.ntmps12
        go_wp2_with (go_at_call 9; refine (cC _).mono ?_; rintro e u0 ⟨rfl, hb⟩; have HB : Hid _ := hb; clear hb)
        go_ret2
        exact ⟨rfl, rbel_on HB.out (rbel_al (Below.refl _ _))⟩
  · have b : decide (pfE lo hi t = 0 ∧ t < lo) = false := decide_eq_false (fun q => h q.1)
    have e1 := (pf_not h).1
    have e : waE lo hi t p = 1 := by unfold waE; exact if_neg (fun z => h z.1)
    have n : waN lo hi t p = 0 := by unfold waN; rw [if_neg (by rw [e]; decide)]
    rw [b, e1, errc_not (by decide)] at cC
    rw [n, e, errc_not (by decide)]
    clear h b e1 e n
    go_enter Tryd.func12, Tryd.ntmps12
    go_wp2_with (go_at_call 9; refine (cC _).mono ?_; rintro e u0 ⟨rfl, hb⟩; have HB : Hid _ := hb; clear hb)
    go_ret2
    exact ⟨rfl, rbel_on HB.out (rbel_al (Below.refl _ _))⟩

theorem wtw {w : World} : WtW w := ⟨fun lo hi t p u _ _ _ _ _ => wwait_any lo hi t p u⟩
end Go.Proofs.YthhhlfbifcnmpagDoor
