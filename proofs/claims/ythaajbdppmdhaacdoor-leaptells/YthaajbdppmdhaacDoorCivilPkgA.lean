/- What civil.Days, Check and Number answer. -/
import Derived.Test.YthaajbdppmdhaacDoorCivilTab
import Derived.Deep.QuietTactic
import Derived.BigQuiet
namespace Go.Proofs.YthaajbdppmdhaacDoor
open Go.ChangeShapes Go.WideShapes Go.ChangeAt Go.RowKit
set_option linter.unusedVariables false
set_option linter.unusedSimpArgs false

theorem before_m (y m : Int) (w : World) (h0 : 1970 ≤ y) (h1 : y ≤ 2199) (h2 : 1 ≤ m) (h3 : m ≤ 13) (he : EnvA w) :
    Calls Tryd.prog 54 #[.int .i64 y, .int .i64 m] w fun e w' => e = .returned (.int .i64 (moff y (m - 1).toNat)) ∧ w' = w := by
  obtain ⟨k, rfl⟩ : ∃ k : Nat, m = (k : Int) + 1 := ⟨(m - 1).toNat, by omega⟩
  have := before_any y k w h0 h1 (by omega) he
  rwa [show ((k : Int) + 1 - 1).toNat = k by omega]
theorem mdays_moff (y m : Int) (h2 : 1 ≤ m) : moff y (m + 1 - 1).toNat - moff y (m - 1).toNat = mdays y m := by
  obtain ⟨k, rfl⟩ : ∃ k : Nat, m = (k : Int) + 1 := ⟨(m - 1).toNat, by omega⟩
  rw [show ((k : Int) + 1 + 1 - 1).toNat = k + 1 by omega, show ((k : Int) + 1 - 1).toNat = k by omega]
  show moff y k + mdays y (1 + k) - moff y k = _
  rw [show (1 + (k : Int)) = (k : Int) + 1 by omega]
  omega
theorem ret_ie {a b : Int} (h : a = b) (v : Value) : Ending.returned (.tuple #[.int .i64 a, v]) = .returned (.tuple #[.int .i64 b, v]) := by rw [h]

set_option maxHeartbeats 1000000 in
theorem days_ok (y m : Int) (w : World) (h0 : 1970 ≤ y) (h1 : y ≤ 2199) (h2 : 1 ≤ m) (h3 : m ≤ 12) (he : EnvA w) :
    Calls Tryd.prog 24 #[.int .i64 y, .int .i64 m] w fun e w' => e = .returned (.tuple #[.int .i64 (mdays y m), .nilIface]) ∧ w' = w := by
  have E : Hid (moff y (m + 1 - 1).toNat - moff y (m - 1).toNat = mdays y m) := mdays_moff y m h2
  have c1 := before_m y (m + 1) w h0 h1 (by omega) (by omega) he
  have c2 := before_m y m w h0 h1 (by omega) (by omega) he
  obtain ⟨a1, a2⟩ := moff_in y (m + 1 - 1).toNat (by omega)
  obtain ⟨b1, b2⟩ := moff_in y (m - 1).toNat (by omega)
  generalize moff y (m + 1 - 1).toNat = a at *
  generalize moff y (m - 1).toNat = b at *
  clear he
  have cnt : Mark 0 := .mk _
  go_enter Tryd.func24, Tryd.ntmps24
  go_wp2_with (first | (go_at_call 54; have cq : Mark 0 := cnt; refine c1.mono ?_; clear cq cnt; have cnt : Mark 1 := .mk _; rintro e u ⟨rfl, hu⟩; rw [hu]; clear hu) | (go_at_call 54; have cq : Mark 1 := cnt; refine c2.mono ?_; clear cq cnt; have cnt : Mark 2 := .mk _; rintro e u ⟨rfl, hu⟩; rw [hu]; clear hu))
  go_ret2
  exact ⟨ret_ie E.out _, rfl⟩

set_option maxHeartbeats 1000000 in
theorem days_no (y m : Int) (w : World) (wy : In64 y) (wm : In64 m) (h : ¬ (1970 ≤ y ∧ y ≤ 2199 ∧ 1 ≤ m ∧ m ≤ 12)) :
    Calls Tryd.prog 24 #[.int .i64 y, .int .i64 m] w fun e w' => e = .returned (.tuple #[.int .i64 0, .iface 81 (.int .i64 1)]) ∧ w' = w := by
  by_cases h1 : y < 1970
  · clear h
    go_enter Tryd.func24, Tryd.ntmps24
    go_wp2
    go_ret2
    exact ⟨rfl, rfl⟩
  · by_cases h2 : 2199 < y
    · clear h
      go_enter Tryd.func24, Tryd.ntmps24
      go_wp2
      go_ret2
      exact ⟨rfl, rfl⟩
    · by_cases h3 : m < 1
      · clear h
        go_enter Tryd.func24, Tryd.ntmps24
        go_wp2
        go_ret2
        exact ⟨rfl, rfl⟩
      · have h4 : 12 < m := by omega
        clear h
        go_enter Tryd.func24, Tryd.ntmps24
        go_wp2
        go_ret2
        exact ⟨rfl, rfl⟩

set_option maxHeartbeats 1000000 in
theorem check_any (y m d : Int) (w : World) (wy : In64 y) (wm : In64 m) (wd : In64 d) (he : EnvA w) :
    Calls Tryd.prog 17 #[.agg #[.int .i64 y, .int .i64 m, .int .i64 d]] w fun e w' => e = .returned (errc (eD y m d)) ∧ Below w.heap.size w w' := by
  have bel : Below w.heap.size w (w.alloc (.cells #[.int .i64 y, .int .i64 m, .int .i64 d] 39)) := rbel_al (Below.refl _ _)
  by_cases h : 1970 ≤ y ∧ y ≤ 2199 ∧ 1 ≤ m ∧ m ≤ 12
  · obtain ⟨h1, h2, h3, h4⟩ := h
    have c := days_ok y m _ h1 h2 h3 h4 (he.below bel)
    obtain ⟨k1, k2⟩ := mdays_le y m
    have E : Hid (eD y m d = if 1 ≤ d ∧ d ≤ mdays y m then 0 else 1) := by
      show _ = _
      unfold eD okD
      by_cases q : 1 ≤ d ∧ d ≤ mdays y m
      · rw [if_pos q, if_pos (decide_eq_true ⟨h1, h2, h3, h4, q.1, q.2⟩)]
      · rw [if_neg q, if_neg (fun e => q ((of_decide_eq_true e).2.2.2.2))]
    generalize mdays y m = k at *
    clear he
    by_cases q1 : d < 1
    · have E2 : Hid (.iface 81 (.int .i64 1) = errc (eD y m d)) := by show _ = _; rw [E.out, if_neg (by omega)]; rfl
      go_enter Tryd.func17, Tryd.ntmps17
      go_wp2_with (go_at_call 24; refine c.mono ?_; rintro e u ⟨rfl, hu⟩; rw [hu]; clear hu)
      go_ret
      exact ⟨congrArg Ending.returned E2.out, bel⟩
    · by_cases q2 : k < d
      · have E2 : Hid (.iface 81 (.int .i64 1) = errc (eD y m d)) := by show _ = _; rw [E.out, if_neg (by omega)]; rfl
        go_enter Tryd.func17, Tryd.ntmps17
        go_wp2_with (go_at_call 24; refine c.mono ?_; rintro e u ⟨rfl, hu⟩; rw [hu]; clear hu)
        go_ret
        exact ⟨congrArg Ending.returned E2.out, bel⟩
      · have E2 : Hid (.nilIface = errc (eD y m d)) := by show _ = _; rw [E.out, if_pos (by omega)]; rfl
        go_enter Tryd.func17, Tryd.ntmps17
        go_wp2_with (go_at_call 24; refine c.mono ?_; rintro e u ⟨rfl, hu⟩; rw [hu]; clear hu)
        go_ret
        exact ⟨congrArg Ending.returned E2.out, bel⟩
  · have c := days_no y m (w.alloc (.cells #[.int .i64 y, .int .i64 m, .int .i64 d] 39)) wy wm h
    have E2 : Hid (.iface 81 (.int .i64 1) = errc (eD y m d)) := by
      show _ = _
      rw [eD_no (decide_eq_false (fun q => h ⟨q.1, q.2.1, q.2.2.1, q.2.2.2.1⟩))]; rfl
    clear h he
    go_enter Tryd.func17, Tryd.ntmps17
    go_wp2_with (go_at_call 24; refine c.mono ?_; rintro e u ⟨rfl, hu⟩; rw [hu]; clear hu)
    go_ret
    exact ⟨congrArg Ending.returned E2.out, bel⟩

set_option maxHeartbeats 2000000 in
theorem number_any (y m d : Int) (w : World) (wy : In64 y) (wm : In64 m) (wd : In64 d) (he : EnvA w) :
    Calls Tryd.prog 18 #[.agg #[.int .i64 y, .int .i64 m, .int .i64 d]] w fun e w' => e = .returned (.tuple #[.int .i64 (if okD y m d = true then dnum y m d else 0), errc (eD y m d)]) ∧ Below w.heap.size w w' := by
  have bel : Below w.heap.size w (w.alloc (.cells #[.int .i64 y, .int .i64 m, .int .i64 d] 39)) := rbel_al (Below.refl _ _)
  have c := check_any y m d _ wy wm wd (he.below bel)
  cases o : okD y m d with
  | false =>
    rw [eD_no o, errc_not (by decide)] at c
    rw [eD_no o, errc_not (by decide)]
    clear he
    go_enter Tryd.func18, Tryd.ntmps18
    go_wp2_with (go_at_call 17; refine c.mono ?_; rintro e u ⟨rfl, hb⟩; have hw : Below w.heap.size w u := rbel_on hb bel; clear hb)
    go_ret2
    exact ⟨rfl, hw⟩
  | true =>
    obtain ⟨h1, h2, h3, h4, h5, h6⟩ := okD_t o
    obtain ⟨k1, k2⟩ := mdays_le y m
    rw [eD_ok o, errc_zero] at c
    rw [eD_ok o, errc_zero]
    obtain ⟨a1, a2⟩ := yoff_in (y - 1970).toNat (by omega)
    obtain ⟨b1, b2⟩ := moff_in y (m - 1).toNat (by omega)
    have cN := fun u => newYear_any y u h1 (by omega)
    have cB := fun u (hu : EnvA u) => before_m y m u h1 h2 h3 (by omega) hu
    have E : Hid (yoff (y - 1970).toNat + moff y (m - 1).toNat + d - 1 = dnum y m d) := rfl
    generalize yoff (y - 1970).toNat = a at *
    generalize moff y (m - 1).toNat = b at *
    have d1 : d ≤ 31 := by omega
    have w1 : IntKind.i64.wrap (a + b) = a + b := IntWalk.i64_in _ (by omega)
    have w2 : IntKind.i64.wrap (a + b + d) = a + b + d := IntWalk.i64_in _ (by omega)
    have w3 : IntKind.i64.wrap (a + b + d - 1) = a + b + d - 1 := IntWalk.i64_in _ (by omega)
    have HE : Hid (EnvA w) := he
    clear he o h6 k1 k2
    go_enter Tryd.func18, Tryd.ntmps18
    go_wp2_with (go_at_call 17; refine c.mono ?_; rintro e u ⟨rfl, hb⟩; have hw : Below w.heap.size w u := rbel_on hb bel; have PD : Row u w.heap.size [.int .i64 y, .int .i64 m, .int .i64 d] := Row.on hb (Row.made rfl); have cD0 := PD.c 0 _ rfl; have cD1 := PD.c 1 _ rfl; have cD2 := PD.c 2 _ rfl; clear hb)
    go_quiet (first | (go_at_call 53; refine Calls.quiet_of_same (cN _)) | (go_at_call 54; refine Calls.quiet_of_same (cB _ ((HE.out.below hw).drn _))))
    go_wp2
    go_ret2
    exact ⟨ret_ie E.out _, rbel_drn hw⟩
end Go.Proofs.YthaajbdppmdhaacDoor
