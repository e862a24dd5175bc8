/- What the document's own reckoning (package noonref1) answers of dates: Date, DayNumber, Last, DateOf. -/
import Derived.Test.YthaajbdppmdhaacDoorCivilRef
namespace Go.Proofs.YthaajbdppmdhaacDoor
open Go.ChangeShapes Go.WideShapes Go.ChangeAt Go.RowKit
set_option linter.unusedVariables false
set_option linter.unusedSimpArgs false

set_option maxHeartbeats 4000000 in
set_option maxRecDepth 100000 in
theorem rdate_any (y m d : Int) (w : World) :
    Calls Tryd.prog 14 #[.agg #[.int .i64 y, .int .i64 m, .int .i64 d]] w fun e w' => e = .returned (.bool (okD y m d)) ∧ Below w.heap.size w w' := by
  by_cases a1 : 1970 ≤ y
  · by_cases a2 : y ≤ 2199
    · by_cases a3 : 1 ≤ m
      · by_cases a4 : m ≤ 12
        · by_cases a5 : 1 ≤ d
          · by_cases a6 : d ≤ mdays y m
            · have T : Hid (okD y m d = true) := okD_mk ⟨a1, a2, a3, a4, a5, a6⟩
              have cD := fun u => rdays_any y m u (by omega) (by omega)
              have t6 : decide (d ≤ mdays y m) = true := decide_eq_true a6
              go_enter Tryd.func14, Tryd.ntmps14
              go_wp2
              go_quiet (first | (go_at_call 23; refine Calls.quiet_of_same (cD _)))
              go_wp2
              go_ret
              exact ⟨by rw [T.out]; simp [t6], rbel_drn (rbel_al (Below.refl _ _))⟩
            · have T : Hid (okD y m d = false) := decide_eq_false (fun h => a6 (by omega))
              have f6 : decide (d ≤ mdays y m) = false := decide_eq_false a6
              have cD := fun u => rdays_any y m u (by omega) (by omega)
              go_enter Tryd.func14, Tryd.ntmps14
              go_wp2
              go_quiet (first | (go_at_call 23; refine Calls.quiet_of_same (cD _)))
              go_wp2
              go_ret
              exact ⟨by rw [T.out]; simp [f6], rbel_drn (rbel_al (Below.refl _ _))⟩
          · have T : Hid (okD y m d = false) := decide_eq_false (fun h => a5 (by omega))
            have f5 : decide (1 ≤ d) = false := decide_eq_false a5
            go_enter Tryd.func14, Tryd.ntmps14
            go_wp2
            go_quiet (fail)
            go_wp2
            go_ret
            exact ⟨by rw [T.out]; rfl, rbel_drn (rbel_al (Below.refl _ _))⟩
        · have T : Hid (okD y m d = false) := decide_eq_false (fun h => a4 (by omega))
          have f4 : decide (m ≤ 12) = false := decide_eq_false a4
          go_enter Tryd.func14, Tryd.ntmps14
          go_wp2
          go_quiet (fail)
          go_wp2
          go_ret
          exact ⟨by rw [T.out]; rfl, rbel_drn (rbel_al (Below.refl _ _))⟩
      · have T : Hid (okD y m d = false) := decide_eq_false (fun h => a3 (by omega))
        have f3 : decide (1 ≤ m) = false := decide_eq_false a3
        go_enter Tryd.func14, Tryd.ntmps14
        go_wp2
        go_quiet (fail)
        go_wp2
        go_ret
        exact ⟨by rw [T.out]; rfl, rbel_drn (rbel_al (Below.refl _ _))⟩
    · have T : Hid (okD y m d = false) := decide_eq_false (fun h => a2 (by omega))
      have f2 : decide (y ≤ 2199) = false := decide_eq_false a2
      go_enter Tryd.func14, Tryd.ntmps14
      go_wp2
      go_quiet (fail)
      go_wp2
      go_ret
      exact ⟨by rw [T.out]; rfl, rbel_drn (rbel_al (Below.refl _ _))⟩
  · have T : Hid (okD y m d = false) := decide_eq_false (fun h => a1 (by omega))
    have f1 : decide (1970 ≤ y) = false := decide_eq_false a1
    go_enter Tryd.func14, Tryd.ntmps14
    go_wp2
    go_quiet (fail)
    go_wp2
    go_ret
    exact ⟨by rw [T.out]; rfl, rbel_drn (rbel_al (Below.refl _ _))⟩

set_option maxHeartbeats 4000000 in
set_option maxRecDepth 100000 in
theorem rnum_any (y m d : Int) (w : World) (ok : okD y m d = true) :
    Calls Tryd.prog 15 #[.agg #[.int .i64 y, .int .i64 m, .int .i64 d]] w fun e w' => e = .returned (.int .i64 (dnum y m d)) ∧ Below w.heap.size w w' := by
  obtain ⟨a1, a2, a3, a4, a5, a6⟩ := okD_t ok
  have cY := fun (k : Nat) (h : k ≤ 230) u => ryear_any (1970 + k) u (by omega) (by omega)
  have cD := fun (k : Nat) u => rdays_any y (1 + k) u (by omega) (by omega)
  have ml := mdays_le y m
  obtain ⟨K, hK⟩ : ∃ K : Nat, y = 1970 + K := ⟨(y - 1970).toNat, by omega⟩
  obtain ⟨J, hJ⟩ : ∃ J : Nat, m = 1 + J := ⟨(m - 1).toNat, by omega⟩
  have DN : Hid (dnum y m d = yoff K + moff y J + d - 1) := by
    show dnum y m d = _
    unfold dnum
    rw [show (y - 1970).toNat = K by omega, show (m - 1).toNat = J by omega]
  have yb : ∀ k : Nat, k ≤ K → 0 ≤ yoff k ∧ yoff k ≤ 84006 := fun k hk => by
    have h1 := yoff_mono 0 k (Nat.zero_le _)
    have h2 := yoff_mono k 230 (by omega)
    rw [yoff_all] at h2
    simp only [yoff] at h1
    omega
  have mb : ∀ j : Nat, j ≤ J → 0 ≤ moff y j ∧ moff y j ≤ 366 := fun j hj => by
    have h1 := moff_mono y 0 j (Nat.zero_le _)
    have h2 := moff_mono y j 12 (by omega)
    rw [moff_year] at h2
    have := ydays_le y
    simp only [moff] at h1
    omega
  have YB : Hid (∀ k : Nat, k ≤ K → 0 ≤ yoff k ∧ yoff k ≤ 84006) := yb
  have MB : Hid (∀ j : Nat, j ≤ J → 0 ≤ moff y j ∧ moff y j ≤ 366) := mb
  have HK : Hid (y = 1970 + K) := hK
  have HJ : Hid (m = 1 + J) := hJ
  clear yb mb ok hK hJ
  have b1 : K ≤ 229 := by have := HK.out; omega
  have b2 : J ≤ 11 := by have := HJ.out; omega
  go_enter Tryd.func15, Tryd.ntmps15
  go_wp2
  go_loopw [3, 4] (fun n i wr => ∃ k : Nat, k ≤ K ∧ i = .int .i64 (1970 + k) ∧ n = .int .i64 (yoff k) ∧ Row wr w.heap.size [.int .i64 y, .int .i64 m, .int .i64 d] ∧ Below w.heap.size w wr) (fun _ i _ => 2300 - (intOf i).toNat)
  case atStart => exact ⟨0, Nat.zero_le _, rfl, rfl, Row.made rfl, rbel_al (Below.refl _ _)⟩
  case round =>
    obtain ⟨k, hk, rfl, rfl, PS, hw⟩ := hrel
    have zz := hw.size
    have c0 := PS.c 0 _ rfl
    have c1 := PS.c 1 _ rfl
    have c2 := PS.c 2 _ rfl
    obtain ⟨yb1, yb2⟩ := YB.out k hk
    by_cases hlt : k < K
    · have h1 : (1970 : Int) + k < y := by have := HK.out; omega
      have YS : Hid (yoff (k + 1) = yoff k + ydays (1970 + k)) := rfl
      have yl := ydays_le (1970 + k)
      obtain ⟨yl1, yl2⟩ := yl
      go_wp2_with (go_at_call 51; refine (cY k (by omega) _).mono ?_; rintro e u ⟨rfl, hu⟩; rw [hu]; clear hu)
      go_roundw
      case rel => exact ⟨k + 1, by omega, by go_num, by rw [YS.out], PS, hw⟩
      case measure => simp [intOf]; omega
    · have kn : k = K := by omega
      subst kn
      clear hlt hk
      have h1 : ¬ ((1970 : Int) + k < y) := by have := HK.out; omega
      go_wp2
      go_loopw [3, 5] (fun n i wr => ∃ j : Nat, j ≤ J ∧ i = .int .i64 (1 + j) ∧ n = .int .i64 (yoff k + moff y j) ∧ Row wr w.heap.size [.int .i64 y, .int .i64 m, .int .i64 d] ∧ Below w.heap.size w wr) (fun _ i _ => 20 - (intOf i).toNat)
      case atStart => exact ⟨0, Nat.zero_le _, rfl, by simp [moff], PS, hw⟩
      case round =>
        clear PS hw zz c0 c1 c2
        obtain ⟨j, hj, rfl, rfl, PS, hw⟩ := hrel
        have zz := hw.size
        have c0 := PS.c 0 _ rfl
        have c1 := PS.c 1 _ rfl
        have c2 := PS.c 2 _ rfl
        obtain ⟨mb1, mb2⟩ := MB.out j hj
        by_cases hlt : j < J
        · have h2 : (1 : Int) + j < m := by have := HJ.out; omega
          have MS : Hid (moff y (j + 1) = moff y j + mdays y (1 + j)) := rfl
          have dl := mdays_le y (1 + j)
          obtain ⟨dl1, dl2⟩ := dl
          go_wp2_with (go_at_call 23; refine (cD j _).mono ?_; rintro e u ⟨rfl, hu⟩; rw [hu]; clear hu)
          go_roundw
          case rel => exact ⟨j + 1, by omega, by go_num, by rw [MS.out, Int.add_assoc], PS, hw⟩
          case measure => simp [intOf]; omega
        · have jn : j = J := by omega
          subst jn
          have h2 : ¬ ((1 : Int) + j < m) := by have := HJ.out; omega
          obtain ⟨ml1, ml2⟩ := ml
          go_wp2
          go_ret
          exact ⟨by rw [DN.out]; rfl, hw⟩

theorem last_is : dnum 2199 12 31 = 84005 := by decide +kernel
set_option maxHeartbeats 1000000 in
theorem rlast_any (w : World) : Calls Tryd.prog 20 #[] w fun e w' => e = .returned (.int .i64 84005) ∧ Below w.heap.size w w' := by
  have cN := fun u => rnum_any 2199 12 31 u (by decide)
  rw [last_is] at cN
  go_enter Tryd.func20, Tryd.ntmps20
  go_wp2_with (go_at_call 15; refine (cN _).mono ?_; rintro e u ⟨rfl, hb⟩)
  go_ret
  exact ⟨rfl, hb⟩

set_option maxHeartbeats 4000000 in
set_option maxRecDepth 100000 in
theorem rof_any (n y m d : Int) (w : World) (ok : okD y m d = true) (hn : dnum y m d = n) :
    Calls Tryd.prog 21 #[.int .i64 n] w fun e w' => e = .returned (.agg #[.int .i64 y, .int .i64 m, .int .i64 d]) ∧ Below w.heap.size w w' := by
  obtain ⟨a1, a2, a3, a4, a5, a6⟩ := okD_t ok
  obtain ⟨d1, d2, d3, d4⟩ := dnum_at ok
  have rg := dnum_range ok
  have cY := fun (k : Nat) (h : k ≤ 230) u => ryear_any (1970 + k) u (by omega) (by omega)
  have cD := fun (k : Nat) u => rdays_any y (1 + k) u (by omega) (by omega)
  have ml := mdays_le y m
  obtain ⟨K, hK⟩ : ∃ K : Nat, y = 1970 + K := ⟨(y - 1970).toNat, by omega⟩
  obtain ⟨J, hJ⟩ : ∃ J : Nat, m = 1 + J := ⟨(m - 1).toNat, by omega⟩
  have DN : Hid (n = yoff K + moff y J + d - 1) := by
    show n = _
    rw [← hn]
    unfold dnum
    rw [show (y - 1970).toNat = K by omega, show (m - 1).toNat = J by omega]
  rw [show (y - 1970).toNat = K by omega] at d1 d2 d3 d4
  rw [show (m - 1).toNat = J by omega] at d3 d4
  rw [hn] at d1 d2 d3 d4 rg
  have YM : Hid (∀ i k, i ≤ k → yoff i ≤ yoff k) := fun i k => yoff_mono i k
  have MM : Hid (∀ i k, i ≤ k → moff y i ≤ moff y k) := fun i k => moff_mono y i k
  have HK : Hid (y = 1970 + K) := hK
  have HJ : Hid (m = 1 + J) := hJ
  have B1 : Hid (yoff K ≤ n ∧ n < yoff (K + 1)) := ⟨d1, d2⟩
  have B2 : Hid (moff y J ≤ n - yoff K ∧ n - yoff K < moff y (J + 1)) := ⟨d3, d4⟩
  have Y0 : Hid (∀ k, 0 ≤ yoff k) := fun k => yoff_mono 0 k (Nat.zero_le _)
  have M0 : Hid (∀ k, 0 ≤ moff y k) := fun k => moff_mono y 0 k (Nat.zero_le _)
  clear ok hK hJ d1 d2 d3 d4 hn
  obtain ⟨r1, r2⟩ := rg
  have b1 : K ≤ 229 := by have := HK.out; omega
  have b2 : J ≤ 11 := by have := HJ.out; omega
  go_enter Tryd.func21, Tryd.ntmps21
  go_wp2
  go_loopw [0] (fun v wr => ∃ k : Nat, k ≤ K ∧ v = .int .i64 (n - yoff k) ∧ Row wr w.heap.size [.int .i64 0, .int .i64 0, .int .i64 0] ∧ Row wr (w.heap.size + 1) [.int .i64 (1970 + k), .int .i64 1, .int .i64 0] ∧ Below w.heap.size w wr) (fun v _ => (intOf v).toNat)
  case atStart => exact ⟨0, Nat.zero_le _, by simp [yoff], Row.al (Row.made rfl), Row.made (by simp), rbel_al (rbel_al (Below.refl _ _))⟩
  case round =>
    obtain ⟨k, hk, rfl, PR, PS, hw⟩ := hrel
    have zz := hw.size
    have cS0 := PS.c 0 _ rfl
    have cS1 := PS.c 1 _ rfl
    have cS2 := PS.c 2 _ rfl
    have fS0 := PS.f 0 _ rfl
    have fS1 := PS.f 1 _ rfl
    have fS2 := PS.f 2 _ rfl
    have zS := PS.lt
    have yl := ydays_le (1970 + k)
    obtain ⟨yl1, yl2⟩ := yl
    have y0 := Y0.out k
    have YS : Hid (yoff (k + 1) = yoff k + ydays (1970 + k)) := rfl
    have mk : Mark 0 := .mk _
    by_cases hlt : k < K
    · have h1 : ydays (1970 + k) ≤ n - yoff k := by have := YM.out (k + 1) K hlt; have := B1.out; have := YS.out; omega
      go_wp2_with (first | (go_at_call 51; have cq : Mark 0 := mk; refine (cY k (by omega) _).mono ?_; clear cq mk; have mk : Mark 1 := .mk _; rintro e u ⟨rfl, hu⟩; rw [hu]; clear hu) | (go_at_call 51; have cq : Mark 1 := mk; refine (cY k (by omega) _).mono ?_; clear cq mk; have mk : Mark 2 := .mk _; rintro e u ⟨rfl, hu⟩; rw [hu]; clear hu))
      go_roundw
      case rel => exact ⟨k + 1, by omega, by rw [YS.out]; congr 1; omega, Row.far (by omega) PR, by rw [show (1970 : Int) + ((k + 1 : Nat) : Int) = 1970 + k + 1 by omega]; exact Row.put 0 PS, rbel_put (by omega) hw⟩
      case measure => simp [intOf]; omega
    · have kn : k = K := by omega
      subst kn
      clear hlt hk
      have h1 : ¬ (ydays (1970 + k) ≤ n - yoff k) := by have := B1.out; have := YS.out; omega
      have cyk := HK.out
      clear YS
      go_wp2_with (first | (go_at_call 51; have cq : Mark 0 := mk; refine (cY k (by omega) _).mono ?_; clear cq mk; have mk : Mark 1 := .mk _; rintro e u ⟨rfl, hu⟩; rw [hu]; clear hu))
      go_loopw [0] (fun v wr => ∃ j : Nat, j ≤ J ∧ v = .int .i64 (n - yoff k - moff y j) ∧ Row wr w.heap.size [.int .i64 0, .int .i64 0, .int .i64 0] ∧ Row wr (w.heap.size + 1) [.int .i64 y, .int .i64 (1 + j), .int .i64 0] ∧ Below w.heap.size w wr) (fun v _ => (intOf v).toNat)
      case atStart => exact ⟨0, Nat.zero_le _, by simp [moff], PR, by rw [cyk]; exact PS, hw⟩
      case round =>
        clear PR PS hw zz cS0 cS1 cS2 fS0 fS1 fS2 zS mk cyk
        obtain ⟨j, hj, rfl, PR, PS, hw⟩ := hrel
        have zz := hw.size
        have cS0 := PS.c 0 _ rfl
        have cS1 := PS.c 1 _ rfl
        have cS2 := PS.c 2 _ rfl
        have fS0 := PS.f 0 _ rfl
        have fS1 := PS.f 1 _ rfl
        have fS2 := PS.f 2 _ rfl
        have zS := PS.lt
        have dl := mdays_le y (1 + j)
        obtain ⟨dl1, dl2⟩ := dl
        have m0 := M0.out j
        have MS : Hid (moff y (j + 1) = moff y j + mdays y (1 + j)) := rfl
        have mk : Mark 0 := .mk _
        by_cases hlt : j < J
        · have h2 : mdays y (1 + j) ≤ n - yoff k - moff y j := by have := MM.out (j + 1) J hlt; have := B2.out; have := MS.out; omega
          go_wp2_with (first | (go_at_call 23; have cq : Mark 0 := mk; refine (cD j _).mono ?_; clear cq mk; have mk : Mark 1 := .mk _; rintro e u ⟨rfl, hu⟩; rw [hu]; clear hu) | (go_at_call 23; have cq : Mark 1 := mk; refine (cD j _).mono ?_; clear cq mk; have mk : Mark 2 := .mk _; rintro e u ⟨rfl, hu⟩; rw [hu]; clear hu))
          go_roundw
          case rel => exact ⟨j + 1, by omega, by rw [MS.out]; congr 1; omega, Row.far (by omega) PR, by rw [show (1 : Int) + ((j + 1 : Nat) : Int) = 1 + j + 1 by omega]; exact Row.put 1 PS, rbel_put (by omega) hw⟩
          case measure => simp [intOf]; omega
        · have jn : j = J := by omega
          subst jn
          clear hlt hj
          have h2 : ¬ (mdays y (1 + j) ≤ n - yoff k - moff y j) := by have := B2.out; have := MS.out; omega
          have jm := HJ.out
          have de : Hid (n - yoff k - moff y j + 1 = d) := by
            show _ = d
            have := DN.out; omega
          have cR0 := PR.c 0 _ rfl
          have cR1 := PR.c 1 _ rfl
          have cR2 := PR.c 2 _ rfl
          have fR0 := PR.f 0 _ rfl
          have fR1 := PR.f 1 _ rfl
          have fR2 := PR.f 2 _ rfl
          have h3 : 0 ≤ n - yoff k - moff y j := by have := B2.out; omega
          clear MS jm
          go_wp2_with (first | (go_at_call 23; have cq : Mark 0 := mk; refine (cD j _).mono ?_; clear cq mk; have mk : Mark 1 := .mk _; rintro e u ⟨rfl, hu⟩; rw [hu]; clear hu))
          exact bodyPost_ret (v := .agg #[.int .i64 y, .int .i64 (1 + j), .int .i64 (n - yoff k - moff y j + 1)]) (by simp [results, Tryd.results21, go_sem, *]) rfl ⟨by rw [de.out, ← HJ.out], by (repeat (first | assumption | refine Below.setCell ?_ (by first | (simp; done) | (simp; omega) | omega) _ | apply Below.drew))⟩
end Go.Proofs.YthaajbdppmdhaacDoor
