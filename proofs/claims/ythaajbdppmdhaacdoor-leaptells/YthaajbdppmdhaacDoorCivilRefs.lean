/- What the document's own reckoning (package noonref1) answers of dates: Leap, Days, YearDays, Date, DayNumber, Last, DateOf. What the document's own reckoning (package noonref1) answers of dates: Date, DayNumber, Last, DateOf. Dates as texts: plain mathematics of bytes, and what the document's own reckoning (package noonref1) answers of texts: Plain, Digits, Pad, DateText, ReadDate. What the document's own reckoning (package noonref1) answers of texts: Plain of a text that is no number, Digits, Pad, DateText. What the document's own reckoning (package noonref1) answers of texts: ReadDate. -/
import Derived.Test.YthaajbdppmdhaacDoorRow
import Derived.Test.YthaajbdppmdhaacDoorCivilMath
import Derived.WalkKit
import Derived.ProofKit
import Derived.OpenShut
import Derived.Outline
import Derived.IntWalk
import Derived.Below
import Derived.WalkLawsBesides
import Derived.Deep.RegionWith
import Derived.Deep.RegionHeld
import Derived.BigQuiet
import Derived.Test.YthaajbdppmdhaacDoorCivilDigits
import Derived.Lib.SmallJoins
namespace Go.Proofs.YthaajbdppmdhaacDoor
open Go.ChangeShapes Go.WideShapes Go.ChangeAt Go.RowKit
set_option linter.unusedVariables false
set_option linter.unusedSimpArgs false

theorem ne_i {a b : Int} (h : ¬ a = b) : (a == b) = false := by simpa using h
set_option maxHeartbeats 1000000 in
theorem rleap_any (y : Int) (w : World) (h0 : 0 ≤ y) (h1 : y ≤ 100000) :
    Calls Tryd.prog 61 #[.int .i64 y] w fun e w' => e = .returned (.bool (leapB y)) ∧ w' = w := by
  have e1 : y.tmod 400 = y % 400 := Int.tmod_eq_emod_of_nonneg h0
  have e2 : y.tmod 4 = y % 4 := Int.tmod_eq_emod_of_nonneg h0
  have e3 : y.tmod 100 = y % 100 := Int.tmod_eq_emod_of_nonneg h0
  by_cases a : y % 400 = 0
  · have T : Hid (leapB y = true) := decide_eq_true (Or.inl a)
    go_enter Tryd.func61, Tryd.ntmps61
    go_wp2
    go_ret
    exact ⟨by rw [T.out]; rfl, rfl⟩
  · have a' := ne_i a
    by_cases b : y % 4 = 0
    · by_cases c : y % 100 = 0
      · have T : Hid (leapB y = false) := decide_eq_false (by omega)
        go_enter Tryd.func61, Tryd.ntmps61
        go_wp2
        go_ret
        exact ⟨by rw [T.out]; rfl, rfl⟩
      · have c' := ne_i c
        have T : Hid (leapB y = true) := decide_eq_true (Or.inr ⟨b, c⟩)
        have c2 : Hid ((y % 100 != 0) = true) := by
          show (y % 100 != 0) = true
          simpa using c
        go_enter Tryd.func61, Tryd.ntmps61
        go_wp2
        go_ret
        exact ⟨by rw [T.out, ← c2.out]; rfl, rfl⟩
    · have b' := ne_i b
      have T : Hid (leapB y = false) := decide_eq_false (by omega)
      go_enter Tryd.func61, Tryd.ntmps61
      go_wp2
      go_ret
      exact ⟨by rw [T.out]; rfl, rfl⟩
set_option maxHeartbeats 1000000 in
theorem ryear_any (y : Int) (w : World) (h0 : 0 ≤ y) (h1 : y ≤ 100000) :
    Calls Tryd.prog 51 #[.int .i64 y] w fun e w' => e = .returned (.int .i64 (ydays y)) ∧ w' = w := by
  have cL := fun u => rleap_any y u h0 h1
  cases b : leapB y
  all_goals
    have T : Hid (∀ z, leapB y = z → ydays y = if z then 366 else 365) := fun z hz => by unfold ydays; rw [hz]
    replace T := T.out _ b
    rw [b] at cL
    have T : Hid (ydays y = _) := T
    go_enter Tryd.func51, Tryd.ntmps51
    go_wp2_with (go_at_call 61; refine (cL _).mono ?_; rintro e u ⟨rfl, hu⟩; rw [hu]; clear hu)
    go_ret
    exact ⟨by rw [T.out]; rfl, rfl⟩
set_option maxHeartbeats 1000000 in
theorem rdays_any (y m : Int) (w : World) (h0 : 0 ≤ y) (h1 : y ≤ 100000) :
    Calls Tryd.prog 23 #[.int .i64 y, .int .i64 m] w fun e w' => e = .returned (.int .i64 (mdays y m)) ∧ w' = w := by
  have cL := fun u => rleap_any y u h0 h1
  by_cases m2 : m = 2
  · subst m2
    cases b : leapB y
    all_goals
      have T : Hid (∀ z, leapB y = z → mdays y 2 = if z then 29 else 28) := fun z hz => by unfold mdays; rw [hz]; rfl
      replace T := T.out _ b
      rw [b] at cL
      have T : Hid (mdays y 2 = _) := T
      go_enter Tryd.func23, Tryd.ntmps23
      go_wp2_with (go_at_call 61; refine (cL _).mono ?_; rintro e u ⟨rfl, hu⟩; rw [hu]; clear hu)
      go_ret
      exact ⟨by rw [T.out]; rfl, rfl⟩
  · have m2' := ne_i m2
    by_cases s : m = 4 ∨ m = 6 ∨ m = 9 ∨ m = 11
    · have T : Hid (mdays y m = 30) := (if_neg m2).trans (if_pos s)
      rcases s with rfl | rfl | rfl | rfl
      all_goals
        clear m2 m2'
        go_enter Tryd.func23, Tryd.ntmps23
        go_wp2
        go_ret
        exact ⟨by rw [T.out]; rfl, rfl⟩
    · have T : Hid (mdays y m = 31) := (if_neg m2).trans (if_neg s)
      have n4 := ne_i (show ¬ m = 4 by omega)
      have n6 := ne_i (show ¬ m = 6 by omega)
      have n9 := ne_i (show ¬ m = 9 by omega)
      have n11 := ne_i (show ¬ m = 11 by omega)
      clear s m2
      go_enter Tryd.func23, Tryd.ntmps23
      go_wp2
      go_ret
      exact ⟨by rw [T.out]; rfl, rfl⟩
end Go.Proofs.YthaajbdppmdhaacDoor
namespace Go.Proofs.YthaajbdppmdhaacDoor
open Go.ChangeShapes Go.WideShapes Go.ChangeAt Go.RowKit
set_option linter.unusedVariables false
set_option linter.unusedSimpArgs false

set_option maxHeartbeats 4000000 in
set_option maxRecDepth 100000 in
theorem rdate_any (y m d : Int) (w : World) :
    Calls Tryd.prog 14 #[.agg #[.int .i64 y, .int .i64 m, .int .i64 d]] w fun e w' => e = .returned (.bool (okD y m d)) ∧ Below w.heap.size w w' := by
  by_cases a1 : 1970 ≤ y
  · by_cases a2 : y ≤ 2199
    · by_cases a3 : 1 ≤ m
      · by_cases a4 : m ≤ 12
        · by_cases a5 : 1 ≤ d
          · by_cases a6 : d ≤ mdays y m
            · have T : Hid (okD y m d = true) := okD_mk ⟨a1, a2, a3, a4, a5, a6⟩
              have cD := fun u => rdays_any y m u (by omega) (by omega)
              have t6 : decide (d ≤ mdays y m) = true := decide_eq_true a6
              go_enter Tryd.func14, Tryd.ntmps14
              go_wp2
              go_quiet (first | (go_at_call 23; refine Calls.quiet_of_same (cD _)))
              go_wp2
              go_ret
              exact ⟨by rw [T.out]; simp [t6], rbel_drn (rbel_al (Below.refl _ _))⟩
            · have T : Hid (okD y m d = false) := decide_eq_false (fun h => a6 (by omega))
              have f6 : decide (d ≤ mdays y m) = false := decide_eq_false a6
              have cD := fun u => rdays_any y m u (by omega) (by omega)
              go_enter Tryd.func14, Tryd.ntmps14
              go_wp2
              go_quiet (first | (go_at_call 23; refine Calls.quiet_of_same (cD _)))
              go_wp2
              go_ret
              exact ⟨by rw [T.out]; simp [f6], rbel_drn (rbel_al (Below.refl _ _))⟩
          · have T : Hid (okD y m d = false) := decide_eq_false (fun h => a5 (by omega))
            have f5 : decide (1 ≤ d) = false := decide_eq_false a5
            go_enter Tryd.func14, Tryd.ntmps14
            go_wp2
            go_quiet (fail)
            go_wp2
            go_ret
            exact ⟨by rw [T.out]; rfl, rbel_drn (rbel_al (Below.refl _ _))⟩
        · have T : Hid (okD y m d = false) := decide_eq_false (fun h => a4 (by omega))
          have f4 : decide (m ≤ 12) = false := decide_eq_false a4
          go_enter Tryd.func14, Tryd.ntmps14
          go_wp2
          go_quiet (fail)
          go_wp2
          go_ret
          exact ⟨by rw [T.out]; rfl, rbel_drn (rbel_al (Below.refl _ _))⟩
      · have T : Hid (okD y m d = false) := decide_eq_false (fun h => a3 (by omega))
        have f3 : decide (1 ≤ m) = false := decide_eq_false a3
        go_enter Tryd.func14, Tryd.ntmps14
        go_wp2
        go_quiet (fail)
        go_wp2
        go_ret
        exact ⟨by rw [T.out]; rfl, rbel_drn (rbel_al (Below.refl _ _))⟩
    · have T : Hid (okD y m d = false) := decide_eq_false (fun h => a2 (by omega))
      have f2 : decide (y ≤ 2199) = false := decide_eq_false a2
      go_enter Tryd.func14, Tryd.ntmps14
      go_wp2
      go_quiet (fail)
      go_wp2
      go_ret
      exact ⟨by rw [T.out]; rfl, rbel_drn (rbel_al (Below.refl _ _))⟩
  · have T : Hid (okD y m d = false) := decide_eq_false (fun h => a1 (by omega))
    have f1 : decide (1970 ≤ y) = false := decide_eq_false a1
    go_enter Tryd.func14, Tryd.ntmps14
    go_wp2
    go_quiet (fail)
    go_wp2
    go_ret
    exact ⟨by rw [T.out]; rfl, rbel_drn (rbel_al (Below.refl _ _))⟩

set_option maxHeartbeats 4000000 in
set_option maxRecDepth 100000 in
theorem rnum_any (y m d : Int) (w : World) (ok : okD y m d = true) :
    Calls Tryd.prog 15 #[.agg #[.int .i64 y, .int .i64 m, .int .i64 d]] w fun e w' => e = .returned (.int .i64 (dnum y m d)) ∧ Below w.heap.size w w' := by
  obtain ⟨a1, a2, a3, a4, a5, a6⟩ := okD_t ok
  have cY := fun (k : Nat) (h : k ≤ 230) u => ryear_any (1970 + k) u (by omega) (by omega)
  have cD := fun (k : Nat) u => rdays_any y (1 + k) u (by omega) (by omega)
  have ml := mdays_le y m
  obtain ⟨K, hK⟩ : ∃ K : Nat, y = 1970 + K := ⟨(y - 1970).toNat, by omega⟩
  obtain ⟨J, hJ⟩ : ∃ J : Nat, m = 1 + J := ⟨(m - 1).toNat, by omega⟩
  have DN : Hid (dnum y m d = yoff K + moff y J + d - 1) := by
    show dnum y m d = _
    unfold dnum
    rw [show (y - 1970).toNat = K by omega, show (m - 1).toNat = J by omega]
  have yb : ∀ k : Nat, k ≤ K → 0 ≤ yoff k ∧ yoff k ≤ 84006 := fun k hk => by
    have h1 := yoff_mono 0 k (Nat.zero_le _)
    have h2 := yoff_mono k 230 (by omega)
    rw [yoff_all] at h2
    simp only [yoff] at h1
    omega
  have mb : ∀ j : Nat, j ≤ J → 0 ≤ moff y j ∧ moff y j ≤ 366 := fun j hj => by
    have h1 := moff_mono y 0 j (Nat.zero_le _)
    have h2 := moff_mono y j 12 (by omega)
    rw [moff_year] at h2
    have := ydays_le y
    simp only [moff] at h1
    omega
  have YB : Hid (∀ k : Nat, k ≤ K → 0 ≤ yoff k ∧ yoff k ≤ 84006) := yb
  have MB : Hid (∀ j : Nat, j ≤ J → 0 ≤ moff y j ∧ moff y j ≤ 366) := mb
  have HK : Hid (y = 1970 + K) := hK
  have HJ : Hid (m = 1 + J) := hJ
  clear yb mb ok hK hJ
  have b1 : K ≤ 229 := by have := HK.out; omega
  have b2 : J ≤ 11 := by have := HJ.out; omega
  go_enter Tryd.func15, Tryd.ntmps15
  go_wp2
  go_loopw [3, 4] (fun n i wr => ∃ k : Nat, k ≤ K ∧ i = .int .i64 (1970 + k) ∧ n = .int .i64 (yoff k) ∧ Row wr w.heap.size [.int .i64 y, .int .i64 m, .int .i64 d] ∧ Below w.heap.size w wr) (fun _ i _ => 2300 - (intOf i).toNat)
  case atStart => exact ⟨0, Nat.zero_le _, rfl, rfl, Row.made rfl, rbel_al (Below.refl _ _)⟩
  case round =>
    obtain ⟨k, hk, rfl, rfl, PS, hw⟩ := hrel
    have zz := hw.size
    have c0 := PS.c 0 _ rfl
    have c1 := PS.c 1 _ rfl
    have c2 := PS.c 2 _ rfl
    obtain ⟨yb1, yb2⟩ := YB.out k hk
    by_cases hlt : k < K
    · have h1 : (1970 : Int) + k < y := by have := HK.out; omega
      have YS : Hid (yoff (k + 1) = yoff k + ydays (1970 + k)) := rfl
      have yl := ydays_le (1970 + k)
      obtain ⟨yl1, yl2⟩ := yl
      go_wp2_with (go_at_call 51; refine (cY k (by omega) _).mono ?_; rintro e u ⟨rfl, hu⟩; rw [hu]; clear hu)
      go_roundw
      case rel => exact ⟨k + 1, by omega, by go_num, by rw [YS.out], PS, hw⟩
      case measure => simp [intOf]; omega
    · have kn : k = K := by omega
      subst kn
      clear hlt hk
      have h1 : ¬ ((1970 : Int) + k < y) := by have := HK.out; omega
      go_wp2
      go_loopw [3, 5] (fun n i wr => ∃ j : Nat, j ≤ J ∧ i = .int .i64 (1 + j) ∧ n = .int .i64 (yoff k + moff y j) ∧ Row wr w.heap.size [.int .i64 y, .int .i64 m, .int .i64 d] ∧ Below w.heap.size w wr) (fun _ i _ => 20 - (intOf i).toNat)
      case atStart => exact ⟨0, Nat.zero_le _, rfl, by simp [moff], PS, hw⟩
      case round =>
        clear PS hw zz c0 c1 c2
        obtain ⟨j, hj, rfl, rfl, PS, hw⟩ := hrel
        have zz := hw.size
        have c0 := PS.c 0 _ rfl
        have c1 := PS.c 1 _ rfl
        have c2 := PS.c 2 _ rfl
        obtain ⟨mb1, mb2⟩ := MB.out j hj
        by_cases hlt : j < J
        · have h2 : (1 : Int) + j < m := by have := HJ.out; omega
          have MS : Hid (moff y (j + 1) = moff y j + mdays y (1 + j)) := rfl
          have dl := mdays_le y (1 + j)
          obtain ⟨dl1, dl2⟩ := dl
          go_wp2_with (go_at_call 23; refine (cD j _).mono ?_; rintro e u ⟨rfl, hu⟩; rw [hu]; clear hu)
          go_roundw
          case rel => exact ⟨j + 1, by omega, by go_num, by rw [MS.out, Int.add_assoc], PS, hw⟩
          case measure => simp [intOf]; omega
        · have jn : j = J := by omega
          subst jn
          have h2 : ¬ ((1 : Int) + j < m) := by have := HJ.out; omega
          obtain ⟨ml1, ml2⟩ := ml
          go_wp2
          go_ret
          exact ⟨by rw [DN.out]; rfl, hw⟩

theorem last_is : dnum 2199 12 31 = 84005 := by decide +kernel
set_option maxHeartbeats 1000000 in
theorem rlast_any (w : World) : Calls Tryd.prog 20 #[] w fun e w' => e = .returned (.int .i64 84005) ∧ Below w.heap.size w w' := by
  have cN := fun u => rnum_any 2199 12 31 u (by decide)
  rw [last_is] at cN
  go_enter Tryd.func20, Tryd.ntmps20
  go_wp2_with (go_at_call 15; refine (cN _).mono ?_; rintro e u ⟨rfl, hb⟩)
  go_ret
  exact ⟨rfl, hb⟩

set_option maxHeartbeats 4000000 in
set_option maxRecDepth 100000 in
theorem rof_any (n y m d : Int) (w : World) (ok : okD y m d = true) (hn : dnum y m d = n) :
    Calls Tryd.prog 21 #[.int .i64 n] w fun e w' => e = .returned (.agg #[.int .i64 y, .int .i64 m, .int .i64 d]) ∧ Below w.heap.size w w' := by
  obtain ⟨a1, a2, a3, a4, a5, a6⟩ := okD_t ok
  obtain ⟨d1, d2, d3, d4⟩ := dnum_at ok
  have rg := dnum_range ok
  have cY := fun (k : Nat) (h : k ≤ 230) u => ryear_any (1970 + k) u (by omega) (by omega)
  have cD := fun (k : Nat) u => rdays_any y (1 + k) u (by omega) (by omega)
  have ml := mdays_le y m
  obtain ⟨K, hK⟩ : ∃ K : Nat, y = 1970 + K := ⟨(y - 1970).toNat, by omega⟩
  obtain ⟨J, hJ⟩ : ∃ J : Nat, m = 1 + J := ⟨(m - 1).toNat, by omega⟩
  have DN : Hid (n = yoff K + moff y J + d - 1) := by
    show n = _
    rw [← hn]
    unfold dnum
    rw [show (y - 1970).toNat = K by omega, show (m - 1).toNat = J by omega]
  rw [show (y - 1970).toNat = K by omega] at d1 d2 d3 d4
  rw [show (m - 1).toNat = J by omega] at d3 d4
  rw [hn] at d1 d2 d3 d4 rg
  have YM : Hid (∀ i k, i ≤ k → yoff i ≤ yoff k) := fun i k => yoff_mono i k
  have MM : Hid (∀ i k, i ≤ k → moff y i ≤ moff y k) := fun i k => moff_mono y i k
  have HK : Hid (y = 1970 + K) := hK
  have HJ : Hid (m = 1 + J) := hJ
  have B1 : Hid (yoff K ≤ n ∧ n < yoff (K + 1)) := ⟨d1, d2⟩
  have B2 : Hid (moff y J ≤ n - yoff K ∧ n - yoff K < moff y (J + 1)) := ⟨d3, d4⟩
  have Y0 : Hid (∀ k, 0 ≤ yoff k) := fun k => yoff_mono 0 k (Nat.zero_le _)
  have M0 : Hid (∀ k, 0 ≤ moff y k) := fun k => moff_mono y 0 k (Nat.zero_le _)
  clear ok hK hJ d1 d2 d3 d4 hn
  obtain ⟨r1, r2⟩ := rg
  have b1 : K ≤ 229 := by have := HK.out; omega
  have b2 : J ≤ 11 := by have := HJ.out; omega
  go_enter Tryd.func21, Tryd.ntmps21
  go_wp2
  go_loopw [0] (fun v wr => ∃ k : Nat, k ≤ K ∧ v = .int .i64 (n - yoff k) ∧ Row wr w.heap.size [.int .i64 0, .int .i64 0, .int .i64 0] ∧ Row wr (w.heap.size + 1) [.int .i64 (1970 + k), .int .i64 1, .int .i64 0] ∧ Below w.heap.size w wr) (fun v _ => (intOf v).toNat)
  case atStart => exact ⟨0, Nat.zero_le _, by simp [yoff], Row.al (Row.made rfl), Row.made (by simp), rbel_al (rbel_al (Below.refl _ _))⟩
  case round =>
    obtain ⟨k, hk, rfl, PR, PS, hw⟩ := hrel
    have zz := hw.size
    have cS0 := PS.c 0 _ rfl
    have cS1 := PS.c 1 _ rfl
    have cS2 := PS.c 2 _ rfl
    have fS0 := PS.f 0 _ rfl
    have fS1 := PS.f 1 _ rfl
    have fS2 := PS.f 2 _ rfl
    have zS := PS.lt
    have yl := ydays_le (1970 + k)
    obtain ⟨yl1, yl2⟩ := yl
    have y0 := Y0.out k
    have YS : Hid (yoff (k + 1) = yoff k + ydays (1970 + k)) := rfl
    have mk : Mark 0 := .mk _
    by_cases hlt : k < K
    · have h1 : ydays (1970 + k) ≤ n - yoff k := by have := YM.out (k + 1) K hlt; have := B1.out; have := YS.out; omega
      go_wp2_with (first | (go_at_call 51; have cq : Mark 0 := mk; refine (cY k (by omega) _).mono ?_; clear cq mk; have mk : Mark 1 := .mk _; rintro e u ⟨rfl, hu⟩; rw [hu]; clear hu) | (go_at_call 51; have cq : Mark 1 := mk; refine (cY k (by omega) _).mono ?_; clear cq mk; have mk : Mark 2 := .mk _; rintro e u ⟨rfl, hu⟩; rw [hu]; clear hu))
      go_roundw
      case rel => exact ⟨k + 1, by omega, by rw [YS.out]; congr 1; omega, Row.far (by omega) PR, by rw [show (1970 : Int) + ((k + 1 : Nat) : Int) = 1970 + k + 1 by omega]; exact Row.put 0 PS, rbel_put (by omega) hw⟩
      case measure => simp [intOf]; omega
    · have kn : k = K := by omega
      subst kn
      clear hlt hk
      have h1 : ¬ (ydays (1970 + k) ≤ n - yoff k) := by have := B1.out; have := YS.out; omega
      have cyk := HK.out
      clear YS
      go_wp2_with (first | (go_at_call 51; have cq : Mark 0 := mk; refine (cY k (by omega) _).mono ?_; clear cq mk; have mk : Mark 1 := .mk _; rintro e u ⟨rfl, hu⟩; rw [hu]; clear hu))
      go_loopw [0] (fun v wr => ∃ j : Nat, j ≤ J ∧ v = .int .i64 (n - yoff k - moff y j) ∧ Row wr w.heap.size [.int .i64 0, .int .i64 0, .int .i64 0] ∧ Row wr (w.heap.size + 1) [.int .i64 y, .int .i64 (1 + j), .int .i64 0] ∧ Below w.heap.size w wr) (fun v _ => (intOf v).toNat)
      case atStart => exact ⟨0, Nat.zero_le _, by simp [moff], PR, by rw [cyk]; exact PS, hw⟩
      case round =>
        clear PR PS hw zz cS0 cS1 cS2 fS0 fS1 fS2 zS mk cyk
        obtain ⟨j, hj, rfl, PR, PS, hw⟩ := hrel
        have zz := hw.size
        have cS0 := PS.c 0 _ rfl
        have cS1 := PS.c 1 _ rfl
        have cS2 := PS.c 2 _ rfl
        have fS0 := PS.f 0 _ rfl
        have fS1 := PS.f 1 _ rfl
        have fS2 := PS.f 2 _ rfl
        have zS := PS.lt
        have dl := mdays_le y (1 + j)
        obtain ⟨dl1, dl2⟩ := dl
        have m0 := M0.out j
        have MS : Hid (moff y (j + 1) = moff y j + mdays y (1 + j)) := rfl
        have mk : Mark 0 := .mk _
        by_cases hlt : j < J
        · have h2 : mdays y (1 + j) ≤ n - yoff k - moff y j := by have := MM.out (j + 1) J hlt; have := B2.out; have := MS.out; omega
          go_wp2_with (first | (go_at_call 23; have cq : Mark 0 := mk; refine (cD j _).mono ?_; clear cq mk; have mk : Mark 1 := .mk _; rintro e u ⟨rfl, hu⟩; rw [hu]; clear hu) | (go_at_call 23; have cq : Mark 1 := mk; refine (cD j _).mono ?_; clear cq mk; have mk : Mark 2 := .mk _; rintro e u ⟨rfl, hu⟩; rw [hu]; clear hu))
          go_roundw
          case rel => exact ⟨j + 1, by omega, by rw [MS.out]; congr 1; omega, Row.far (by omega) PR, by rw [show (1 : Int) + ((j + 1 : Nat) : Int) = 1 + j + 1 by omega]; exact Row.put 1 PS, rbel_put (by omega) hw⟩
          case measure => simp [intOf]; omega
        · have jn : j = J := by omega
          subst jn
          clear hlt hj
          have h2 : ¬ (mdays y (1 + j) ≤ n - yoff k - moff y j) := by have := B2.out; have := MS.out; omega
          have jm := HJ.out
          have de : Hid (n - yoff k - moff y j + 1 = d) := by
            show _ = d
            have := DN.out; omega
          have cR0 := PR.c 0 _ rfl
          have cR1 := PR.c 1 _ rfl
          have cR2 := PR.c 2 _ rfl
          have fR0 := PR.f 0 _ rfl
          have fR1 := PR.f 1 _ rfl
          have fR2 := PR.f 2 _ rfl
          have h3 : 0 ≤ n - yoff k - moff y j := by have := B2.out; omega
          clear MS jm
          go_wp2_with (first | (go_at_call 23; have cq : Mark 0 := mk; refine (cD j _).mono ?_; clear cq mk; have mk : Mark 1 := .mk _; rintro e u ⟨rfl, hu⟩; rw [hu]; clear hu))
          exact bodyPost_ret (v := .agg #[.int .i64 y, .int .i64 (1 + j), .int .i64 (n - yoff k - moff y j + 1)]) (by simp [results, Tryd.results21, go_sem, *]) rfl ⟨by rw [de.out, ← HJ.out], by (repeat (first | assumption | refine Below.setCell ?_ (by first | (simp; done) | (simp; omega) | omega) _ | apply Below.drew))⟩
end Go.Proofs.YthaajbdppmdhaacDoor
namespace Go.Proofs.YthaajbdppmdhaacDoor
open Go.ChangeShapes Go.WideShapes Go.ChangeAt Go.RowKit Go.Joins
set_option linter.unusedVariables false
set_option linter.unusedSimpArgs false

theorem pair_is {a b : Int} {c d : Bool} (h : a = b) (g : c = d) : Ending.returned (.tuple #[.int .i64 a, .bool c]) = .returned (.tuple #[.int .i64 b, .bool d]) := by rw [h, g]

set_option maxRecDepth 100000 in
set_option maxHeartbeats 1000000 in
theorem rplain_ok (s : ByteArray) (w : World) (hs : s.size ≤ 10) (hd : allD s) :
    Calls Tryd.prog 62 #[.string s] w fun e w' => e = .returned (.tuple #[.int .i64 (pv s.data.toList), .bool true]) ∧ w' = w := by
  have HD : Hid (allD s) := hd
  clear hd
  go_enter Tryd.func62, Tryd.ntmps62
  go_wp2
  go_loopw [4, 5] (fun n i wr => ∃ k : Nat, k ≤ s.size ∧ i = .int .i64 k ∧ n = .int .i64 (pv (s.data.toList.take k)) ∧ wr = w) (fun _ i _ => s.size - (intOf i).toNat)
  case atStart => exact ⟨0, Nat.zero_le _, rfl, rfl, rfl⟩
  case round =>
    obtain ⟨k, hk, rfl, rfl, rfl⟩ := hrel
    have pb := pv_small s k hk (by omega) (fun i h _ => HD.out i h)
    obtain ⟨p1, p2⟩ := pb
    by_cases hlt : k < s.size
    · have cb := cd_t (HD.out k hlt)
      obtain ⟨cb1, cb2⟩ := cb
      have PS : Hid (pv (s.data.toList.take (k + 1)) = pv (s.data.toList.take k) * 10 + (s[k].toNat : Int) - 48) := by
        show pv _ = _
        rw [take_snoc s k hlt, pv_snoc]
      generalize hpv : pv (s.data.toList.take k) = v at *
      go_wp2
      go_roundw
      case rel => exact ⟨k + 1, by omega, by go_num, by rw [PS.out], trivial⟩
      case measure => simp [intOf]; omega
    · have kn : k = s.size := by omega
      have PE : Hid (pv (s.data.toList.take k) = pv s.data.toList) := by
        show pv _ = _
        rw [List.take_of_length_le (by show s.data.size ≤ k; rw [kn]; exact Nat.le_refl _)]
      go_wp2
      go_ret2
      exact ⟨pair_is PE.out rfl, rfl⟩
end Go.Proofs.YthaajbdppmdhaacDoor
namespace Go.Proofs.YthaajbdppmdhaacDoor
open Go.ChangeShapes Go.WideShapes Go.ChangeAt Go.RowKit Go.Joins
set_option linter.unusedVariables false
set_option linter.unusedSimpArgs false

theorem first_cd (s : ByteArray) : ∀ n, n ≤ s.size → (∀ i (h : i < s.size), i < n → cd s[i] = true) ∨ ∃ j, ∃ h : j < s.size, j < n ∧ cd s[j] = false ∧ ∀ i (h : i < s.size), i < j → cd s[i] = true
  | 0, _ => Or.inl fun i h hi => by omega
  | n + 1, hn => by
    rcases first_cd s n (by omega) with h | ⟨j, h, h1, h2, h3⟩
    · cases c : cd s[n] with
      | true =>
        refine Or.inl fun i h' hi => ?_
        by_cases e : i = n
        · subst e; exact c
        · exact h i h' (by omega)
      | false => exact Or.inr ⟨n, by omega, by omega, c, h⟩
    · exact Or.inr ⟨j, h, by omega, h2, h3⟩

set_option maxRecDepth 100000 in
set_option maxHeartbeats 1000000 in
theorem rplain_no (s : ByteArray) (w : World) (hs : s.size ≤ 10) (hd : ¬ allD s) :
    Calls Tryd.prog 62 #[.string s] w fun e w' => e = .returned (.tuple #[.int .i64 0, .bool false]) ∧ w' = w := by
  obtain ⟨j, hj, _, hb, hg⟩ : ∃ j, ∃ h : j < s.size, j < s.size ∧ cd s[j] = false ∧ ∀ i (h : i < s.size), i < j → cd s[i] = true := by
    rcases first_cd s s.size (Nat.le_refl _) with h | h
    · exact absurd (fun i hi => h i hi hi) hd
    · exact h
  have HB : Hid (cd s[j] = false) := hb
  have HG : Hid (∀ i (h : i < s.size), i < j → cd s[i] = true) := hg
  clear hd hb hg
  go_enter Tryd.func62, Tryd.ntmps62
  go_wp2
  go_loopw [4, 5] (fun n i wr => ∃ k : Nat, k ≤ j ∧ i = .int .i64 k ∧ n = .int .i64 (pv (s.data.toList.take k)) ∧ wr = w) (fun _ i _ => s.size - (intOf i).toNat)
  case atStart => exact ⟨0, Nat.zero_le _, rfl, rfl, rfl⟩
  case round =>
    obtain ⟨k, hk, rfl, rfl, rfl⟩ := hrel
    have pb := pv_small s k (by omega) (by omega) (fun i h hi => HG.out i h (by omega))
    obtain ⟨p1, p2⟩ := pb
    have hlt : k < s.size := by omega
    by_cases hkj : k < j
    · have cb := cd_t (HG.out k hlt hkj)
      obtain ⟨cb1, cb2⟩ := cb
      have PS : Hid (pv (s.data.toList.take (k + 1)) = pv (s.data.toList.take k) * 10 + (s[k].toNat : Int) - 48) := by
        show pv _ = _
        rw [take_snoc s k hlt, pv_snoc]
      generalize hpv : pv (s.data.toList.take k) = v at *
      go_wp2
      go_roundw
      case rel => exact ⟨k + 1, by omega, by go_num, by rw [PS.out], trivial⟩
      case measure => simp [intOf]; omega
    · have kn : k = j := by omega
      subst kn
      rcases cd_f HB.out with c | c
      · go_wp2
        go_ret2
        exact ⟨rfl, rfl⟩
      · go_wp2
        go_ret2
        exact ⟨rfl, rfl⟩

theorem ten_piece (k : Nat) (h : k < 10) : (⟨#[48, 49, 50, 51, 52, 53, 54, 55, 56, 57]⟩ : ByteArray).extract k (k + 1) = ⟨#[UInt8.ofNat (48 + k)]⟩ := by
  have hc : k = 0 ∨ k = 1 ∨ k = 2 ∨ k = 3 ∨ k = 4 ∨ k = 5 ∨ k = 6 ∨ k = 7 ∨ k = 8 ∨ k = 9 := by omega
  rcases hc with rfl | rfl | rfl | rfl | rfl | rfl | rfl | rfl | rfl | rfl <;> decide +kernel
theorem str_is {a b : ByteArray} (h : a = b) : Ending.returned (.string a) = .returned (.string b) := by rw [h]
/-- The digits of a number below ten thousand. -/
def dgl (n : Int) : List UInt8 := if n < 10 then [db n] else if n < 100 then [db (n / 10), db (n % 10)] else if n < 1000 then [db (n / 100), db (n / 10 % 10), db (n % 10)] else [db (n / 1000), db (n / 100 % 10), db (n / 10 % 10), db (n % 10)]
theorem dgl_len (n : Int) : 1 ≤ (dgl n).length ∧ (dgl n).length ≤ 4 := by unfold dgl; split <;> (try split) <;> (try split) <;> simp
set_option maxHeartbeats 1000000 in
theorem dig_one (n : Int) (w : World) (h0 : 0 ≤ n) (h1 : n < 10) :
    Calls Tryd.prog 79 #[.int .i64 n] w fun e w' => e = .returned (.string ⟨#[db n]⟩) ∧ w' = w := by
  have E : Hid ((⟨#[48, 49, 50, 51, 52, 53, 54, 55, 56, 57]⟩ : ByteArray).extract n.toNat (n.toNat + 1) = ⟨#[db n]⟩) := ten_piece n.toNat (by omega)
  have hc : n = 0 ∨ n = 1 ∨ n = 2 ∨ n = 3 ∨ n = 4 ∨ n = 5 ∨ n = 6 ∨ n = 7 ∨ n = 8 ∨ n = 9 := by omega
  clear h0 h1
  rcases hc with rfl | rfl | rfl | rfl | rfl | rfl | rfl | rfl | rfl | rfl
  all_goals
    go_enter Tryd.func79, Tryd.ntmps79
    go_wp2
    go_ret
    exact ⟨str_is E.out, rfl⟩
set_option maxHeartbeats 4000000 in
theorem dig_step (n : Int) (r s : ByteArray) (w : World) (h0 : 10 ≤ n) (h1 : n ≤ 100000) (ih : ∀ w, Calls Tryd.prog 79 #[.int .i64 (n / 10)] w fun e w' => e = .returned (.string r) ∧ w' = w) (hr : r.size ≤ 30)
    (hs : Hid (r ++ ⟨#[db (n % 10)]⟩ = s)) :
    Calls Tryd.prog 79 #[.int .i64 n] w fun e w' => e = .returned (.string s) ∧ w' = w := by
  have E : Hid (r ++ (⟨#[48, 49, 50, 51, 52, 53, 54, 55, 56, 57]⟩ : ByteArray).extract (n % 10).toNat ((n % 10).toNat + 1) = s) := by
    show _ = s
    rw [ten_piece (n % 10).toNat (by omega)]
    exact hs.out
  clear hs
  have hc : n % 10 = 0 ∨ n % 10 = 1 ∨ n % 10 = 2 ∨ n % 10 = 3 ∨ n % 10 = 4 ∨ n % 10 = 5 ∨ n % 10 = 6 ∨ n % 10 = 7 ∨ n % 10 = 8 ∨ n % 10 = 9 := by omega
  rcases hc with h | h | h | h | h | h | h | h | h | h
  all_goals
    rw [h] at E
    go_enter Tryd.func79, Tryd.ntmps79
    go_wp2_with (go_at_call 79; refine (ih _).mono ?_; rintro e u ⟨rfl, hu⟩; rw [hu]; clear hu)
    go_ret
    exact ⟨str_is E.out, rfl⟩
theorem ba_eq {a b : ByteArray} (h : a.data.toList = b.data.toList) : a = b := by
  apply ByteArray.ext
  exact Array.toList_inj.1 h
theorem dig_any (n : Int) (w : World) (h0 : 0 ≤ n) (h1 : n < 10000) :
    Calls Tryd.prog 79 #[.int .i64 n] w fun e w' => e = .returned (.string ⟨(dgl n).toArray⟩) ∧ w' = w := by
  have a1 : ∀ n : Int, 0 ≤ n → n < 10 → ∀ w, Calls Tryd.prog 79 #[.int .i64 n] w fun e w' => e = .returned (.string ⟨(dgl n).toArray⟩) ∧ w' = w := fun n h0 h1 w => by
    rw [show dgl n = [db n] from if_pos h1]; exact dig_one n w h0 h1
  have a2 : ∀ n : Int, 0 ≤ n → n < 100 → ∀ w, Calls Tryd.prog 79 #[.int .i64 n] w fun e w' => e = .returned (.string ⟨(dgl n).toArray⟩) ∧ w' = w := fun n h0 h1 w => by
    by_cases c : n < 10
    · exact a1 n h0 c w
    · refine dig_step n _ _ w (by omega) (by omega) (a1 (n / 10) (by omega) (by omega)) (by have := dgl_len (n / 10); show (dgl (n / 10)).toArray.size ≤ 30; simp; omega) ?_
      rw [show dgl (n / 10) = [db (n / 10)] from if_pos (by omega), show dgl n = [db (n / 10), db (n % 10)] from (if_neg c).trans (if_pos h1)]
      exact ba_eq rfl
  have a3 : ∀ n : Int, 0 ≤ n → n < 1000 → ∀ w, Calls Tryd.prog 79 #[.int .i64 n] w fun e w' => e = .returned (.string ⟨(dgl n).toArray⟩) ∧ w' = w := fun n h0 h1 w => by
    by_cases c : n < 100
    · exact a2 n h0 c w
    · refine dig_step n _ _ w (by omega) (by omega) (a2 (n / 10) (by omega) (by omega)) (by have := dgl_len (n / 10); show (dgl (n / 10)).toArray.size ≤ 30; simp; omega) ?_
      rw [show dgl (n / 10) = [db (n / 10 / 10), db (n / 10 % 10)] from (if_neg (by omega)).trans (if_pos (by omega)), show dgl n = [db (n / 100), db (n / 10 % 10), db (n % 10)] from (if_neg (by omega)).trans ((if_neg c).trans (if_pos h1)), show n / 10 / 10 = n / 100 by omega]
      exact ba_eq rfl
  by_cases c : n < 1000
  · exact a3 n h0 c w
  · refine dig_step n _ _ w (by omega) (by omega) (a3 (n / 10) (by omega) (by omega)) (by have := dgl_len (n / 10); show (dgl (n / 10)).toArray.size ≤ 30; simp; omega) ?_
    rw [show dgl (n / 10) = [db (n / 10 / 100), db (n / 10 / 10 % 10), db (n / 10 % 10)] from (if_neg (by omega)).trans ((if_neg (by omega)).trans (if_pos (by omega))), show dgl n = [db (n / 1000), db (n / 100 % 10), db (n / 10 % 10), db (n % 10)] from (if_neg (by omega)).trans ((if_neg (by omega)).trans (if_neg c)), show n / 10 / 100 = n / 1000 by omega, show n / 10 / 10 = n / 100 by omega]
    exact ba_eq rfl
set_option maxHeartbeats 1000000 in
theorem rpad4 (n : Int) (w : World) (h0 : 1000 ≤ n) (h1 : n < 10000) :
    Calls Tryd.prog 52 #[.int .i64 n, .int .i64 4] w fun e w' => e = .returned (.string ⟨(d4 n).toArray⟩) ∧ w' = w := by
  have cD := fun u => dig_any n u (by omega) h1
  rw [show dgl n = d4 n from (if_neg (by omega)).trans ((if_neg (by omega)).trans (if_neg (by omega)))] at cD
  have z : (⟨(d4 n).toArray⟩ : ByteArray).size = 4 := rfl
  generalize (⟨(d4 n).toArray⟩ : ByteArray) = s at *
  go_enter Tryd.func52, Tryd.ntmps52
  go_wp2_with (go_at_call 79; refine (cD _).mono ?_; rintro e u ⟨rfl, hu⟩; rw [hu]; clear hu)
  refine wp_loop_rounds 1 ?_
  rw [rounds_succ]
  go_wp2
  go_ret
  exact ⟨rfl, rfl⟩
set_option maxHeartbeats 1000000 in
theorem rpad2 (n : Int) (w : World) (h0 : 0 ≤ n) (h1 : n < 100) :
    Calls Tryd.prog 52 #[.int .i64 n, .int .i64 2] w fun e w' => e = .returned (.string ⟨(d2 n).toArray⟩) ∧ w' = w := by
  have cD := fun u => dig_any n u (by omega) (by omega)
  by_cases c : n < 10
  · rw [show dgl n = [db n] from if_pos c] at cD
    have z : (⟨([db n]).toArray⟩ : ByteArray).size = 1 := rfl
    have E : Hid ((⟨#[48]⟩ : ByteArray) ++ ⟨([db n]).toArray⟩ = ⟨(d2 n).toArray⟩) := by
      show _ = (⟨(d2 n).toArray⟩ : ByteArray)
      unfold d2
      rw [show n / 10 = 0 by omega, show n % 10 = n by omega]
      exact ba_eq rfl
    have z2 : ((⟨#[48]⟩ : ByteArray) ++ ⟨([db n]).toArray⟩).size = 2 := rfl
    generalize (⟨([db n]).toArray⟩ : ByteArray) = s at *
    go_enter Tryd.func52, Tryd.ntmps52
    go_wp2_with (go_at_call 79; refine (cD _).mono ?_; rintro e u ⟨rfl, hu⟩; rw [hu]; clear hu)
    refine wp_loop_rounds 2 ?_
    rw [rounds_succ]
    go_wp2
    rw [rounds_succ]
    go_wp2
    go_ret
    exact ⟨str_is E.out, rfl⟩
  · rw [show dgl n = d2 n from (if_neg c).trans (if_pos h1)] at cD
    have z : (⟨(d2 n).toArray⟩ : ByteArray).size = 2 := rfl
    generalize (⟨(d2 n).toArray⟩ : ByteArray) = s at *
    go_enter Tryd.func52, Tryd.ntmps52
    go_wp2_with (go_at_call 79; refine (cD _).mono ?_; rintro e u ⟨rfl, hu⟩; rw [hu]; clear hu)
    refine wp_loop_rounds 1 ?_
    rw [rounds_succ]
    go_wp2
    go_ret
    exact ⟨rfl, rfl⟩
set_option maxHeartbeats 1000000 in
theorem rtext_any (y m d : Int) (w : World) (ok : okD y m d = true) :
    Calls Tryd.prog 16 #[.agg #[.int .i64 y, .int .i64 m, .int .i64 d]] w fun e w' => e = .returned (.string (dtext y m d)) ∧ Below w.heap.size w w' := by
  obtain ⟨a1, a2, a3, a4, a5, a6⟩ := okD_t ok
  have ml := mdays_le y m
  have c4 := fun u => rpad4 y u (by omega) (by omega)
  have cm := fun u => rpad2 m u (by omega) (by omega)
  have cd' := fun u => rpad2 d u (by omega) (by omega)
  have E : Hid ((⟨(d4 y).toArray⟩ : ByteArray) ++ ⟨#[45]⟩ ++ ⟨(d2 m).toArray⟩ ++ ⟨#[45]⟩ ++ ⟨(d2 d).toArray⟩ = dtext y m d) := ba_eq rfl
  have z1 : (⟨(d4 y).toArray⟩ : ByteArray).size = 4 := rfl
  have z2 : (⟨(d2 m).toArray⟩ : ByteArray).size = 2 := rfl
  have z3 : (⟨(d2 d).toArray⟩ : ByteArray).size = 2 := rfl
  generalize (⟨(d4 y).toArray⟩ : ByteArray) = s1 at *
  generalize (⟨(d2 m).toArray⟩ : ByteArray) = s2 at *
  generalize (⟨(d2 d).toArray⟩ : ByteArray) = s3 at *
  have mk : Mark 0 := .mk _
  clear ok a1 a2 a3 a4 a5 a6 ml
  go_enter Tryd.func16, Tryd.ntmps16
  go_wp2_with (first | (go_at_call 52; have cq : Mark 0 := mk; refine (c4 _).mono ?_; clear cq mk; have mk : Mark 1 := .mk _; rintro e u ⟨rfl, hu⟩; rw [hu]; clear hu) | (go_at_call 52; have cq : Mark 1 := mk; refine (cm _).mono ?_; clear cq mk; have mk : Mark 2 := .mk _; rintro e u ⟨rfl, hu⟩; rw [hu]; clear hu) | (go_at_call 52; have cq : Mark 2 := mk; refine (cd' _).mono ?_; clear cq mk; have mk : Mark 3 := .mk _; rintro e u ⟨rfl, hu⟩; rw [hu]; clear hu))
  go_ret
  exact ⟨str_is E.out, rbel_al (Below.refl _ _)⟩
end Go.Proofs.YthaajbdppmdhaacDoor
namespace Go.Proofs.YthaajbdppmdhaacDoor
open Go.ChangeShapes Go.WideShapes Go.ChangeAt Go.RowKit Go.Joins
set_option linter.unusedVariables false
set_option linter.unusedSimpArgs false

theorem plain_at (s : ByteArray) (h : s.size ≤ 10) : ∃ (a : Int) (x : Bool), (x = true ↔ allD s) ∧ (x = true → a = pv s.data.toList) ∧ ∀ u, Calls Tryd.prog 62 #[.string s] u fun e w' => e = .returned (.tuple #[.int .i64 a, .bool x]) ∧ w' = u := by
  by_cases c : allD s
  · exact ⟨_, true, ⟨fun _ => c, fun _ => rfl⟩, fun _ => rfl, fun u => rplain_ok s u h c⟩
  · exact ⟨0, false, ⟨fun h => absurd h (by decide), fun h => absurd h c⟩, fun h => absurd h (by decide), fun u => rplain_no s u h c⟩
set_option maxRecDepth 100000 in
set_option maxHeartbeats 2000000 in
theorem rread_len (s : ByteArray) (hs : s.size ≤ 9223372036854775807) (h : ¬ s.size = 10) (w : World) :
    Calls Tryd.prog 25 #[.string s] w fun e w' => e = .returned (.tuple #[.agg #[.int .i64 0, .int .i64 0, .int .i64 0], .int .i64 2]) ∧ Below w.heap.size w w' := by
  have h1 : (((s.size : Nat) : Int) == 10) = false := by simp; omega
  go_enter Tryd.func25, Tryd.ntmps25
  go_wp2
  exact bodyPost_ret (v := _) (by simp [results, Tryd.results25, go_sem, *]) rfl ⟨rfl, by (repeat (first | assumption | apply rbel_al | exact Below.refl _ _ | refine Below.setCell ?_ (by first | (simp; done) | (simp; omega) | omega) _ | apply Below.drew))⟩

set_option maxRecDepth 100000 in
set_option maxHeartbeats 2000000 in
theorem rread_4 (s : ByteArray) (hs : s.size = 10) (h4 : ¬ s[4].toNat = 45) (w : World) :
    Calls Tryd.prog 25 #[.string s] w fun e w' => e = .returned (.tuple #[.agg #[.int .i64 0, .int .i64 0, .int .i64 0], .int .i64 2]) ∧ Below w.heap.size w w' := by
  have h1 : (((s[4].toNat : Nat) : Int) == 45) = false := by simp; omega
  go_enter Tryd.func25, Tryd.ntmps25
  go_wp2
  exact bodyPost_ret (v := _) (by simp [results, Tryd.results25, go_sem, *]) rfl ⟨rfl, by (repeat (first | assumption | apply rbel_al | exact Below.refl _ _ | refine Below.setCell ?_ (by first | (simp; done) | (simp; omega) | omega) _ | apply Below.drew))⟩

set_option maxRecDepth 100000 in
set_option maxHeartbeats 2000000 in
theorem rread_7 (s : ByteArray) (hs : s.size = 10) (h4 : s[4].toNat = 45) (h7 : ¬ s[7].toNat = 45) (w : World) :
    Calls Tryd.prog 25 #[.string s] w fun e w' => e = .returned (.tuple #[.agg #[.int .i64 0, .int .i64 0, .int .i64 0], .int .i64 2]) ∧ Below w.heap.size w w' := by
  have h1 : (((s[7].toNat : Nat) : Int) == 45) = false := by simp; omega
  have h2 : ((s[4].toNat : Nat) : Int) = 45 := by omega
  go_enter Tryd.func25, Tryd.ntmps25
  go_wp2
  exact bodyPost_ret (v := _) (by simp [results, Tryd.results25, go_sem, *]) rfl ⟨rfl, by (repeat (first | assumption | apply rbel_al | exact Below.refl _ _ | refine Below.setCell ?_ (by first | (simp; done) | (simp; omega) | omega) _ | apply Below.drew))⟩

set_option maxRecDepth 100000 in
set_option maxHeartbeats 2000000 in
theorem rread_x (s : ByteArray) (hs : s.size = 10) (h4 : s[4].toNat = 45) (h7 : s[7].toNat = 45) (a b c : Int) (y z : Bool) (cA : ∀ u, Calls Tryd.prog 62 #[.string (s.extract 0 4)] u fun e w' => e = .returned (.tuple #[.int .i64 a, .bool false]) ∧ w' = u) (cB : ∀ u, Calls Tryd.prog 62 #[.string (s.extract 5 7)] u fun e w' => e = .returned (.tuple #[.int .i64 b, .bool y]) ∧ w' = u) (cC : ∀ u, Calls Tryd.prog 62 #[.string (s.extract 8 10)] u fun e w' => e = .returned (.tuple #[.int .i64 c, .bool z]) ∧ w' = u) (w : World) :
    Calls Tryd.prog 25 #[.string s] w fun e w' => e = .returned (.tuple #[.agg #[.int .i64 0, .int .i64 0, .int .i64 0], .int .i64 2]) ∧ Below w.heap.size w w' := by
  have h5 : ((s[4].toNat : Nat) : Int) = 45 := by omega
  have h8 : ((s[7].toNat : Nat) : Int) = 45 := by omega
  have mk : Mark 0 := .mk _
  go_enter Tryd.func25, Tryd.ntmps25
  go_wp2_with (first | (go_at_call 62; have cq : Mark 0 := mk; refine (cA _).mono ?_; clear cq mk; have mk : Mark 1 := .mk _; rintro e u ⟨rfl, hu⟩; rw [hu]; clear hu) | (go_at_call 62; have cq : Mark 1 := mk; refine (cB _).mono ?_; clear cq mk; have mk : Mark 2 := .mk _; rintro e u ⟨rfl, hu⟩; rw [hu]; clear hu) | (go_at_call 62; have cq : Mark 2 := mk; refine (cC _).mono ?_; clear cq mk; have mk : Mark 3 := .mk _; rintro e u ⟨rfl, hu⟩; rw [hu]; clear hu))
  exact bodyPost_ret (v := _) (by simp [results, Tryd.results25, go_sem, *]) rfl ⟨rfl, by (repeat (first | assumption | apply rbel_al | exact Below.refl _ _ | refine Below.setCell ?_ (by first | (simp; done) | (simp; omega) | omega) _ | apply Below.drew))⟩

set_option maxRecDepth 100000 in
set_option maxHeartbeats 2000000 in
theorem rread_y (s : ByteArray) (hs : s.size = 10) (h4 : s[4].toNat = 45) (h7 : s[7].toNat = 45) (a b c : Int) (z : Bool) (cA : ∀ u, Calls Tryd.prog 62 #[.string (s.extract 0 4)] u fun e w' => e = .returned (.tuple #[.int .i64 a, .bool true]) ∧ w' = u) (cB : ∀ u, Calls Tryd.prog 62 #[.string (s.extract 5 7)] u fun e w' => e = .returned (.tuple #[.int .i64 b, .bool false]) ∧ w' = u) (cC : ∀ u, Calls Tryd.prog 62 #[.string (s.extract 8 10)] u fun e w' => e = .returned (.tuple #[.int .i64 c, .bool z]) ∧ w' = u) (w : World) :
    Calls Tryd.prog 25 #[.string s] w fun e w' => e = .returned (.tuple #[.agg #[.int .i64 0, .int .i64 0, .int .i64 0], .int .i64 2]) ∧ Below w.heap.size w w' := by
  have h5 : ((s[4].toNat : Nat) : Int) = 45 := by omega
  have h8 : ((s[7].toNat : Nat) : Int) = 45 := by omega
  have mk : Mark 0 := .mk _
  go_enter Tryd.func25, Tryd.ntmps25
  go_wp2_with (first | (go_at_call 62; have cq : Mark 0 := mk; refine (cA _).mono ?_; clear cq mk; have mk : Mark 1 := .mk _; rintro e u ⟨rfl, hu⟩; rw [hu]; clear hu) | (go_at_call 62; have cq : Mark 1 := mk; refine (cB _).mono ?_; clear cq mk; have mk : Mark 2 := .mk _; rintro e u ⟨rfl, hu⟩; rw [hu]; clear hu) | (go_at_call 62; have cq : Mark 2 := mk; refine (cC _).mono ?_; clear cq mk; have mk : Mark 3 := .mk _; rintro e u ⟨rfl, hu⟩; rw [hu]; clear hu))
  exact bodyPost_ret (v := _) (by simp [results, Tryd.results25, go_sem, *]) rfl ⟨rfl, by (repeat (first | assumption | apply rbel_al | exact Below.refl _ _ | refine Below.setCell ?_ (by first | (simp; done) | (simp; omega) | omega) _ | apply Below.drew))⟩

set_option maxRecDepth 100000 in
set_option maxHeartbeats 2000000 in
theorem rread_z (s : ByteArray) (hs : s.size = 10) (h4 : s[4].toNat = 45) (h7 : s[7].toNat = 45) (a b c : Int) (cA : ∀ u, Calls Tryd.prog 62 #[.string (s.extract 0 4)] u fun e w' => e = .returned (.tuple #[.int .i64 a, .bool true]) ∧ w' = u) (cB : ∀ u, Calls Tryd.prog 62 #[.string (s.extract 5 7)] u fun e w' => e = .returned (.tuple #[.int .i64 b, .bool true]) ∧ w' = u) (cC : ∀ u, Calls Tryd.prog 62 #[.string (s.extract 8 10)] u fun e w' => e = .returned (.tuple #[.int .i64 c, .bool false]) ∧ w' = u) (w : World) :
    Calls Tryd.prog 25 #[.string s] w fun e w' => e = .returned (.tuple #[.agg #[.int .i64 0, .int .i64 0, .int .i64 0], .int .i64 2]) ∧ Below w.heap.size w w' := by
  have h5 : ((s[4].toNat : Nat) : Int) = 45 := by omega
  have h8 : ((s[7].toNat : Nat) : Int) = 45 := by omega
  have mk : Mark 0 := .mk _
  go_enter Tryd.func25, Tryd.ntmps25
  go_wp2_with (first | (go_at_call 62; have cq : Mark 0 := mk; refine (cA _).mono ?_; clear cq mk; have mk : Mark 1 := .mk _; rintro e u ⟨rfl, hu⟩; rw [hu]; clear hu) | (go_at_call 62; have cq : Mark 1 := mk; refine (cB _).mono ?_; clear cq mk; have mk : Mark 2 := .mk _; rintro e u ⟨rfl, hu⟩; rw [hu]; clear hu) | (go_at_call 62; have cq : Mark 2 := mk; refine (cC _).mono ?_; clear cq mk; have mk : Mark 3 := .mk _; rintro e u ⟨rfl, hu⟩; rw [hu]; clear hu))
  exact bodyPost_ret (v := _) (by simp [results, Tryd.results25, go_sem, *]) rfl ⟨rfl, by (repeat (first | assumption | apply rbel_al | exact Below.refl _ _ | refine Below.setCell ?_ (by first | (simp; done) | (simp; omega) | omega) _ | apply Below.drew))⟩

set_option maxRecDepth 100000 in
set_option maxHeartbeats 2000000 in
theorem rread_no (s : ByteArray) (hs : s.size = 10) (h4 : s[4].toNat = 45) (h7 : s[7].toNat = 45) (a b c : Int) (cA : ∀ u, Calls Tryd.prog 62 #[.string (s.extract 0 4)] u fun e w' => e = .returned (.tuple #[.int .i64 a, .bool true]) ∧ w' = u) (cB : ∀ u, Calls Tryd.prog 62 #[.string (s.extract 5 7)] u fun e w' => e = .returned (.tuple #[.int .i64 b, .bool true]) ∧ w' = u) (cC : ∀ u, Calls Tryd.prog 62 #[.string (s.extract 8 10)] u fun e w' => e = .returned (.tuple #[.int .i64 c, .bool true]) ∧ w' = u) (ho : okD a b c = false) (w : World) :
    Calls Tryd.prog 25 #[.string s] w fun e w' => e = .returned (.tuple #[.agg #[.int .i64 0, .int .i64 0, .int .i64 0], .int .i64 1]) ∧ Below w.heap.size w w' := by
  have h5 : ((s[4].toNat : Nat) : Int) = 45 := by omega
  have h8 : ((s[7].toNat : Nat) : Int) = 45 := by omega
  have mk : Mark 0 := .mk _
  have cT := fun u => rdate_any a b c u
  rw [ho] at cT
  go_enter Tryd.func25, Tryd.ntmps25
  go_wp2_with (first | (go_at_call 62; have cq : Mark 0 := mk; refine (cA _).mono ?_; clear cq mk; have mk : Mark 1 := .mk _; rintro e u ⟨rfl, hu⟩; rw [hu]; clear hu) | (go_at_call 62; have cq : Mark 1 := mk; refine (cB _).mono ?_; clear cq mk; have mk : Mark 2 := .mk _; rintro e u ⟨rfl, hu⟩; rw [hu]; clear hu) | (go_at_call 62; have cq : Mark 2 := mk; refine (cC _).mono ?_; clear cq mk; have mk : Mark 3 := .mk _; rintro e u ⟨rfl, hu⟩; rw [hu]; clear hu) | (go_at_call 14; have cq : Mark 3 := mk; refine (cT _).mono ?_; clear cq mk; have mk : Mark 4 := .mk _; rintro e u0 ⟨rfl, hb⟩; have hw : Below w.heap.size w u0 := rbel_on hb (rbel_al (rbel_al (Below.refl _ _))); have PR : Row u0 w.heap.size [.int .i64 0, .int .i64 0, .int .i64 0] := Row.on hb (Row.al (Row.made rfl)); have PD : Row u0 (w.heap.size + 1) [.int .i64 a, .int .i64 b, .int .i64 c] := Row.on hb (Row.made (by simp)); have cR0 := PR.c 0 _ rfl; have cR1 := PR.c 1 _ rfl; have cR2 := PR.c 2 _ rfl; have fR0 := PR.f 0 _ rfl; have fR1 := PR.f 1 _ rfl; have fR2 := PR.f 2 _ rfl; have cD0 := PD.c 0 _ rfl; have cD1 := PD.c 1 _ rfl; have cD2 := PD.c 2 _ rfl; have zR := PR.lt; have zD := PD.lt))
  exact bodyPost_ret (v := _) (by simp [results, Tryd.results25, go_sem, *]) rfl ⟨rfl, by (repeat (first | assumption | apply rbel_al | exact Below.refl _ _ | refine Below.setCell ?_ (by first | (simp; done) | (simp; omega) | omega) _ | apply Below.drew))⟩

set_option maxRecDepth 100000 in
set_option maxHeartbeats 2000000 in
theorem rread_ok (s : ByteArray) (hs : s.size = 10) (h4 : s[4].toNat = 45) (h7 : s[7].toNat = 45) (a b c : Int) (cA : ∀ u, Calls Tryd.prog 62 #[.string (s.extract 0 4)] u fun e w' => e = .returned (.tuple #[.int .i64 a, .bool true]) ∧ w' = u) (cB : ∀ u, Calls Tryd.prog 62 #[.string (s.extract 5 7)] u fun e w' => e = .returned (.tuple #[.int .i64 b, .bool true]) ∧ w' = u) (cC : ∀ u, Calls Tryd.prog 62 #[.string (s.extract 8 10)] u fun e w' => e = .returned (.tuple #[.int .i64 c, .bool true]) ∧ w' = u) (ho : okD a b c = true) (w : World) :
    Calls Tryd.prog 25 #[.string s] w fun e w' => e = .returned (.tuple #[.agg #[.int .i64 a, .int .i64 b, .int .i64 c], .int .i64 0]) ∧ Below w.heap.size w w' := by
  have h5 : ((s[4].toNat : Nat) : Int) = 45 := by omega
  have h8 : ((s[7].toNat : Nat) : Int) = 45 := by omega
  have mk : Mark 0 := .mk _
  have cT := fun u => rdate_any a b c u
  rw [ho] at cT
  go_enter Tryd.func25, Tryd.ntmps25
  go_wp2_with (first | (go_at_call 62; have cq : Mark 0 := mk; refine (cA _).mono ?_; clear cq mk; have mk : Mark 1 := .mk _; rintro e u ⟨rfl, hu⟩; rw [hu]; clear hu) | (go_at_call 62; have cq : Mark 1 := mk; refine (cB _).mono ?_; clear cq mk; have mk : Mark 2 := .mk _; rintro e u ⟨rfl, hu⟩; rw [hu]; clear hu) | (go_at_call 62; have cq : Mark 2 := mk; refine (cC _).mono ?_; clear cq mk; have mk : Mark 3 := .mk _; rintro e u ⟨rfl, hu⟩; rw [hu]; clear hu) | (go_at_call 14; have cq : Mark 3 := mk; refine (cT _).mono ?_; clear cq mk; have mk : Mark 4 := .mk _; rintro e u0 ⟨rfl, hb⟩; have hw : Below w.heap.size w u0 := rbel_on hb (rbel_al (rbel_al (Below.refl _ _))); have PR : Row u0 w.heap.size [.int .i64 0, .int .i64 0, .int .i64 0] := Row.on hb (Row.al (Row.made rfl)); have PD : Row u0 (w.heap.size + 1) [.int .i64 a, .int .i64 b, .int .i64 c] := Row.on hb (Row.made (by simp)); have cR0 := PR.c 0 _ rfl; have cR1 := PR.c 1 _ rfl; have cR2 := PR.c 2 _ rfl; have fR0 := PR.f 0 _ rfl; have fR1 := PR.f 1 _ rfl; have fR2 := PR.f 2 _ rfl; have cD0 := PD.c 0 _ rfl; have cD1 := PD.c 1 _ rfl; have cD2 := PD.c 2 _ rfl; have zR := PR.lt; have zD := PD.lt))
  exact bodyPost_ret (v := _) (by simp [results, Tryd.results25, go_sem, *]) rfl ⟨rfl, by (repeat (first | assumption | apply rbel_al | exact Below.refl _ _ | refine Below.setCell ?_ (by first | (simp; done) | (simp; omega) | omega) _ | apply Below.drew))⟩

theorem rread_any (s : ByteArray) (y m d e : Int) (w : World) (hs : s.size ≤ 9223372036854775807) (hR : RD s y m d e) :
    Calls Tryd.prog 25 #[.string s] w fun x w' => x = .returned (.tuple #[.agg #[.int .i64 y, .int .i64 m, .int .i64 d], .int .i64 e]) ∧ Below w.heap.size w w' := by
  by_cases h : s.size = 10
  · by_cases h4 : s[4].toNat = 45
    · by_cases h7 : s[7].toNat = 45
      · obtain ⟨a, x, x1, x2, cA⟩ := plain_at (s.extract 0 4) (by simp; omega)
        obtain ⟨b, y', y1, y2, cB⟩ := plain_at (s.extract 5 7) (by simp; omega)
        obtain ⟨c, z, z1, z2, cC⟩ := plain_at (s.extract 8 10) (by simp; omega)
        cases x with
        | false =>
          have ns : ¬ Shp s := fun ⟨_, _, _, q, _⟩ => absurd (x1.2 q) (by decide)
          rcases hR with ⟨_, rfl, rfl, rfl, rfl⟩ | ⟨k, _⟩ | ⟨k, _⟩
          · exact rread_x s h h4 h7 a b c y' z cA cB cC w
          · exact absurd k ns
          · exact absurd k ns
        | true =>
          cases y' with
          | false =>
            have ns : ¬ Shp s := fun ⟨_, _, _, _, q, _⟩ => absurd (y1.2 q) (by decide)
            rcases hR with ⟨_, rfl, rfl, rfl, rfl⟩ | ⟨k, _⟩ | ⟨k, _⟩
            · exact rread_y s h h4 h7 a b c z cA cB cC w
            · exact absurd k ns
            · exact absurd k ns
          | true =>
            cases z with
            | false =>
              have ns : ¬ Shp s := fun ⟨_, _, _, _, _, q⟩ => absurd (z1.2 q) (by decide)
              rcases hR with ⟨_, rfl, rfl, rfl, rfl⟩ | ⟨k, _⟩ | ⟨k, _⟩
              · exact rread_z s h h4 h7 a b c cA cB cC w
              · exact absurd k ns
              · exact absurd k ns
            | true =>
              have e1 : a = yr s := x2 rfl
              have e2 : b = mo s := y2 rfl
              have e3 : c = da s := z2 rfl
              subst e1 e2 e3
              have sh : Shp s := ⟨h, h4, h7, x1.1 rfl, y1.1 rfl, z1.1 rfl⟩
              rcases hR with ⟨k, _⟩ | ⟨_, o, rfl, rfl, rfl, rfl⟩ | ⟨_, o, rfl, rfl, rfl, rfl⟩
              · exact absurd sh k
              · exact rread_no s h h4 h7 _ _ _ cA cB cC o w
              · exact rread_ok s h h4 h7 _ _ _ cA cB cC o w
      · have ns : ¬ Shp s := fun ⟨_, _, q, _⟩ => h7 q
        rcases hR with ⟨_, rfl, rfl, rfl, rfl⟩ | ⟨k, _⟩ | ⟨k, _⟩
        · exact rread_7 s h h4 h7 w
        · exact absurd k ns
        · exact absurd k ns
    · have ns : ¬ Shp s := fun ⟨_, q, _⟩ => h4 q
      rcases hR with ⟨_, rfl, rfl, rfl, rfl⟩ | ⟨k, _⟩ | ⟨k, _⟩
      · exact rread_4 s h h4 w
      · exact absurd k ns
      · exact absurd k ns
  · have ns : ¬ Shp s := fun ⟨q, _⟩ => h q
    rcases hR with ⟨_, rfl, rfl, rfl, rfl⟩ | ⟨k, _⟩ | ⟨k, _⟩
    · exact rread_len s hs h w
    · exact absurd k ns
    · exact absurd k ns
end Go.Proofs.YthaajbdppmdhaacDoor
