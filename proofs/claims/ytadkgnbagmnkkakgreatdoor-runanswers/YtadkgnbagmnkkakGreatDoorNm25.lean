/- What the document's own reckoning (package noonref1) answers of leaps: Long, More, Begin, DayOf. What the document's own reckoning (package noonref1) answers of dates: Leap, Days, YearDays, Date, DayNumber, Last, DateOf. What the document's own reckoning (package noonref1) answers of a day's date: DateOf. What the document's own reckoning (package noonref1) answers of a second's label: Utc. What the document's own reckoning (package noonref1) answers of a date as text: Digits, Pad, DateText. -/
import Derived.Test.YtadkgnbagmnkkakGreatDoorNm03
import Derived.WalkKit
import Derived.ProofKit
import Derived.OpenShut
import Derived.Outline
import Derived.IntWalk
import Derived.Below
import Derived.WalkLawsBesides
import Derived.BigQuiet
import Derived.Test.YtadkgnbagmnkkakGreatDoorNm02
import Derived.Deep.RegionWith
import Derived.Deep.RegionHeld
import Derived.Lib.SmallJoins
namespace Go.Proofs.YtadkgnbagmnkkakGreatDoor
open Go.ChangeShapes Go.WideShapes Go.ChangeAt Go.RowKit
set_option linter.unusedVariables false
set_option linter.unusedSimpArgs false

set_option maxHeartbeats 2000000
theorem lne_b {a b : Int} (h : ¬ a = b) : (a == b) = false := by simpa using h
theorem rlong_row (b off n cap : Nat) (q : Nat → Int × Bool) (d : Int) (w : World) (h20 : n ≤ 20) (hL : Lps q n) (hP : Lsp w b off n q) :
  Calls Tryz.prog 108 #[.slice (some ⟨b, off, none⟩) n cap, .int .i64 d] w fun e w' => e = .returned (.int .i64 (lng q n d)) ∧ w' = w := by
 have LA : Hid (∀ i, i < n → (q i).1 = d → lng q n d = 86400 + sgn (q i).2) := fun i hi e => by
  have := lj_at n hL i hi
  unfold lng; rw [← e, this]
 have LN : Hid ((∀ i, i < n → (q i).1 ≠ d) → lng q n d = 86400) := fun h => by unfold lng; rw [lj_none d n h]; rfl
 clear hL
 go_enter Tryz.func108, Tryz.ntmps108
 go_wp2
 go_loopw [5] (fun i wr => ∃ k : Nat, k ≤ n ∧ i = .int .i64 k ∧ wr = w ∧ ∀ i, i < k → (q i).1 ≠ d) (fun i _ => n - (intOf i).toNat)
 case atStart => exact ⟨0, Nat.zero_le _, rfl, rfl, fun i hi => by omega⟩
 case round =>
  obtain ⟨k, hk, rfl, rfl, hno⟩ := hrel
  have HN : Hid (∀ i, i < k → (q i).1 ≠ d) := hno
  clear hno
  by_cases hlt : k < n
  ·obtain ⟨x0, x1⟩ := hP k hlt
   clear hP
   by_cases c : (q k).1 = d
   ·have R := LA.out k hlt c
    have R : Hid (lng q n d = 86400 + sgn (q k).2) := R
    rw [c] at x0
    cases hb : (q k).2 with
    | true =>
     rw [hb] at x1 R
     clear c
     go_wp2
     go_ret
     exact ⟨by rw [R.out]; rfl, rfl⟩
    | false =>
     rw [hb] at x1 R
     clear c
     go_wp2
     go_ret
     exact ⟨by rw [R.out]; rfl, rfl⟩
   ·have c2 := lne_b c
    go_wp2
    go_roundw
    case rel => exact ⟨k + 1, by omega, by go_num, trivial, fun i hi => by
     by_cases e : i = k
     ·rw [e]; exact c
     ·exact HN.out i (by omega)⟩
    case measure => simp [intOf]; omega
  ·have kn : k = n := by omega
   subst kn
   have R : Hid (lng q k d = 86400) := LN.out HN.out
   go_wp2
   go_ret
   exact ⟨by rw [R.out]; rfl, rfl⟩
theorem rmore_row (b off n cap : Nat) (q : Nat → Int × Bool) (d : Int) (w : World) (h20 : n ≤ 20) (hL : Lps q n) (hP : Lsp w b off n q) :
  Calls Tryz.prog 81 #[.slice (some ⟨b, off, none⟩) n cap, .int .i64 d] w fun e w' => e = .returned (.int .i64 (mor q n d)) ∧ w' = w := by
 have cL : ∀ i, i < n → Calls Tryz.prog 108 #[.slice (some ⟨b, off, none⟩) n cap, .int .i64 (q i).1] w fun e w' => e = .returned (.int .i64 (86400 + sgn (q i).2)) ∧ w' = w := fun i hi => by
  have h := rlong_row b off n cap q (q i).1 w h20 hL hP
  rwa [show lng q n (q i).1 = 86400 + sgn (q i).2 by unfold lng; rw [lj_at n hL i hi]] at h
 clear hL
 go_enter Tryz.func81, Tryz.ntmps81
 go_wp2
 go_loopw [5, 6] (fun v i wr => ∃ k : Nat, k ≤ n ∧ i = .int .i64 k ∧ v = .int .i64 (mor q k d) ∧ wr = w) (fun _ i _ => n - (intOf i).toNat)
 case atStart => exact ⟨0, Nat.zero_le _, rfl, rfl, rfl⟩
 case round =>
  obtain ⟨k, hk, rfl, rfl, rfl⟩ := hrel
  obtain ⟨m1, m2⟩ := mor_le (q := q) k d
  by_cases hlt : k < n
  ·obtain ⟨x0, x1⟩ := hP k hlt
   have cK := cL k hlt
   clear hP cL
   have MS : Hid (mor q (k + 1) d = mor q k d + if (q k).1 < d then sgn (q k).2 else 0) := rfl
   obtain ⟨s1, s2⟩ := sgn_le (q k).2
   by_cases c : (q k).1 < d
   ·have MS : Hid (mor q (k + 1) d = mor q k d + sgn (q k).2) := MS.out.trans (by rw [if_pos c])
    go_wp2_with (go_at_call 108; refine cK.mono ?_; rintro e u ⟨rfl, hu⟩; rw [hu]; clear hu)
    go_roundw
    case rel => exact ⟨k + 1, by omega, by go_num, by rw [MS.out]; congr 1; omega, trivial⟩
    case measure => simp [intOf]; omega
   ·have MS : Hid (mor q (k + 1) d = mor q k d) := MS.out.trans (by rw [if_neg c]; omega)
    go_wp2
    go_roundw
    case rel => exact ⟨k + 1, by omega, by go_num, by rw [MS.out], trivial⟩
    case measure => simp [intOf]; omega
  ·have kn : k = n := by omega
   subst kn
   go_wp2
   go_ret
   exact ⟨rfl, rfl⟩
theorem rmore_none (a : Option Addr) (cap : Nat) (q : Nat → Int × Bool) (d : Int) (w : World) :
  Calls Tryz.prog 81 #[.slice a 0 cap, .int .i64 d] w fun e w' => e = .returned (.int .i64 (mor q 0 d)) ∧ w' = w := by
 go_enter Tryz.func81, Tryz.ntmps81
 go_wp2
 refine wp_loop_rounds 1 ?_
 rw [rounds_succ]
 go_wp2
 go_ret
 exact ⟨rfl, rfl⟩
theorem rmore_any (a : Option Addr) (n cap : Nat) (q : Nat → Int × Bool) (d : Int) (w : World) (h20 : n ≤ 20) (hL : Lps q n) (hH : LHanded w a n q) :
  Calls Tryz.prog 81 #[.slice a n cap, .int .i64 d] w fun e w' => e = .returned (.int .i64 (mor q n d)) ∧ w' = w := by
 rcases hH.2 with rfl | ⟨b, off, rfl, hP⟩
 ·exact rmore_none a cap q d w
 ·exact rmore_row b off n cap q d w h20 hL hP
theorem rbegin_any (a : Option Addr) (n cap : Nat) (q : Nat → Int × Bool) (d : Int) (w : World) (h20 : n ≤ 20) (hL : Lps q n) (hH : LHanded w a n q) (h0 : 0 ≤ d) (h1 : d ≤ 100000) :
  Calls Tryz.prog 49 #[.slice a n cap, .int .i64 d] w fun e w' => e = .returned (.int .i64 (bg q n d)) ∧ w' = w := by
 have cM := rmore_any a n cap q d w h20 hL hH
 have ml := mor_le (q := q) n d
 have B : Hid (bg q n d = 86400 * d + mor q n d) := rfl
 obtain ⟨m1, m2⟩ := ml
 clear hL hH
 go_enter Tryz.func49, Tryz.ntmps49
 go_wp2_with (go_at_call 81; refine cM.mono ?_; rintro e u ⟨rfl, hu⟩; rw [hu]; clear hu)
 go_ret
 exact ⟨by rw [B.out]; rfl, rfl⟩
theorem rday_any (a : Option Addr) (n cap : Nat) (q : Nat → Int × Bool) (x d : Int) (w : World) (h20 : n ≤ 20) (hL : Lps q n) (hH : LHanded w a n q) (h0 : 0 ≤ x) (hd0 : 0 ≤ d) (h1 : d ≤ 84005) (hd : IsDay q n x d) :
  Calls Tryz.prog 48 #[.slice a n cap, .int .i64 x] w fun e w' => e = .returned (.int .i64 d) ∧ w' = w := by
 have cB := fun (k : Int) (k0 : 0 ≤ k) (k1 : k ≤ 100000) => rbegin_any a n cap q k w h20 hL hH k0 k1
 have g := day_ge hL h0 hd
 have B1 : Hid (∀ k, k < d → bg q n (k + 1) ≤ x) := fun k hk => by
  have p := hd.1
  by_cases e : k + 1 = d
  ·rw [e]; exact p
  ·have := bg_lt hL (show k + 1 < d by omega); omega
 have B2 : Hid (x < bg q n (d + 1)) := hd.2
 have q0 : x.tdiv 86401 = x / 86401 := Int.tdiv_eq_ediv_of_nonneg h0
 have q1 : 0 ≤ x / 86401 := by omega
 have xb : x ≤ 9223372036854775807 := by
  have := hd.2
  have := mor_le (q := q) n (d + 1)
  unfold bg at *
  omega
 clear hL hH hd
 go_enter Tryz.func48, Tryz.ntmps48
 go_wp2
 go_loopw [5] (fun i wr => ∃ k : Int, x / 86401 ≤ k ∧ k ≤ d ∧ i = .int .i64 k ∧ wr = w) (fun i _ => (d - intOf i).toNat)
 case atStart => exact ⟨x / 86401, Int.le_refl _, g, rfl, rfl⟩
 case round =>
  obtain ⟨k, hk, hkd, rfl, rfl⟩ := hrel
  have cK := cB (k + 1) (by omega) (by omega)
  by_cases hlt : k < d
  ·have le := B1.out k hlt
   go_wp2_with (go_at_call 49; refine cK.mono ?_; rintro e u ⟨rfl, hu⟩; rw [hu]; clear hu)
   go_roundw
   case rel => exact ⟨k + 1, by omega, by omega, by go_num, trivial⟩
   case measure => simp [intOf]; omega
  ·have kn : k = d := by omega
   subst kn
   have gt : ¬ (bg q n (k + 1) ≤ x) := by have := B2.out; omega
   go_wp2_with (go_at_call 49; refine cK.mono ?_; rintro e u ⟨rfl, hu⟩; rw [hu]; clear hu)
   go_ret
   exact ⟨rfl, rfl⟩
set_option maxHeartbeats 1000000
theorem ne_i {a b : Int} (h : ¬ a = b) : (a == b) = false := by simpa using h
theorem rleap_any (y : Int) (w : World) (h0 : 0 ≤ y) (h1 : y ≤ 100000) :
  Calls Tryz.prog 109 #[.int .i64 y] w fun e w' => e = .returned (.bool (leapB y)) ∧ w' = w := by
 have e1 : y.tmod 400 = y % 400 := Int.tmod_eq_emod_of_nonneg h0
 have e2 : y.tmod 4 = y % 4 := Int.tmod_eq_emod_of_nonneg h0
 have e3 : y.tmod 100 = y % 100 := Int.tmod_eq_emod_of_nonneg h0
 by_cases a : y % 400 = 0
 ·have T : Hid (leapB y = true) := decide_eq_true (Or.inl a)
  go_enter Tryz.func109, Tryz.ntmps109
  go_wp2
  go_ret
  exact ⟨by rw [T.out]; rfl, rfl⟩
 ·have a' := ne_i a
  by_cases b : y % 4 = 0
  ·by_cases c : y % 100 = 0
   ·have T : Hid (leapB y = false) := decide_eq_false (by omega)
    go_enter Tryz.func109, Tryz.ntmps109
    go_wp2
    go_ret
    exact ⟨by rw [T.out]; rfl, rfl⟩
   ·have c' := ne_i c
    have T : Hid (leapB y = true) := decide_eq_true (Or.inr ⟨b, c⟩)
    have c2 : Hid ((y % 100 != 0) = true) := by
     show (y % 100 != 0) = true
     simpa using c
    go_enter Tryz.func109, Tryz.ntmps109
    go_wp2
    go_ret
    exact ⟨by rw [T.out, ← c2.out]; rfl, rfl⟩
  ·have b' := ne_i b
   have T : Hid (leapB y = false) := decide_eq_false (by omega)
   go_enter Tryz.func109, Tryz.ntmps109
   go_wp2
   go_ret
   exact ⟨by rw [T.out]; rfl, rfl⟩
theorem ryear_any (y : Int) (w : World) (h0 : 0 ≤ y) (h1 : y ≤ 100000) :
  Calls Tryz.prog 82 #[.int .i64 y] w fun e w' => e = .returned (.int .i64 (ydays y)) ∧ w' = w := by
 have cL := fun u => rleap_any y u h0 h1
 cases b : leapB y
 all_goals
  have T : Hid (∀ z, leapB y = z → ydays y = if z then 366 else 365) := fun z hz => by unfold ydays; rw [hz]
  replace T := T.out _ b
  rw [b] at cL
  have T : Hid (ydays y = _) := T
  go_enter Tryz.func82, Tryz.ntmps82
  go_wp2_with (go_at_call 109; refine (cL _).mono ?_; rintro e u ⟨rfl, hu⟩; rw [hu]; clear hu)
  go_ret
  exact ⟨by rw [T.out]; rfl, rfl⟩
theorem rdays_any (y m : Int) (w : World) (h0 : 0 ≤ y) (h1 : y ≤ 100000) :
  Calls Tryz.prog 83 #[.int .i64 y, .int .i64 m] w fun e w' => e = .returned (.int .i64 (mdays y m)) ∧ w' = w := by
 have cL := fun u => rleap_any y u h0 h1
 by_cases m2 : m = 2
 ·subst m2
  cases b : leapB y
  all_goals
   have T : Hid (∀ z, leapB y = z → mdays y 2 = if z then 29 else 28) := fun z hz => by unfold mdays; rw [hz]; rfl
   replace T := T.out _ b
   rw [b] at cL
   have T : Hid (mdays y 2 = _) := T
   go_enter Tryz.func83, Tryz.ntmps83
   go_wp2_with (go_at_call 109; refine (cL _).mono ?_; rintro e u ⟨rfl, hu⟩; rw [hu]; clear hu)
   go_ret
   exact ⟨by rw [T.out]; rfl, rfl⟩
 ·have m2' := ne_i m2
  by_cases s : m = 4 ∨ m = 6 ∨ m = 9 ∨ m = 11
  ·have T : Hid (mdays y m = 30) := (if_neg m2).trans (if_pos s)
   rcases s with rfl | rfl | rfl | rfl
   all_goals
    clear m2 m2'
    go_enter Tryz.func83, Tryz.ntmps83
    go_wp2
    go_ret
    exact ⟨by rw [T.out]; rfl, rfl⟩
  ·have T : Hid (mdays y m = 31) := (if_neg m2).trans (if_neg s)
   have n4 := ne_i (show ¬ m = 4 by omega)
   have n6 := ne_i (show ¬ m = 6 by omega)
   have n9 := ne_i (show ¬ m = 9 by omega)
   have n11 := ne_i (show ¬ m = 11 by omega)
   clear s m2
   go_enter Tryz.func83, Tryz.ntmps83
   go_wp2
   go_ret
   exact ⟨by rw [T.out]; rfl, rfl⟩
set_option maxHeartbeats 4000000 in
set_option maxRecDepth 100000 in
theorem rof_any (n y m d : Int) (w : World) (ok : okD y m d = true) (hn : dnum y m d = n) :
  Calls Tryz.prog 50 #[.int .i64 n] w fun e w' => e = .returned (.agg #[.int .i64 y, .int .i64 m, .int .i64 d]) ∧ Below w.heap.size w w' := by
 obtain ⟨a1, a2, a3, a4, a5, a6⟩ := okD_t ok
 obtain ⟨d1, d2, d3, d4⟩ := dnum_at ok
 have rg := dnum_range ok
 have cY := fun (k : Nat) (h : k ≤ 230) u => ryear_any (1970 + k) u (by omega) (by omega)
 have cD := fun (k : Nat) u => rdays_any y (1 + k) u (by omega) (by omega)
 have ml := mdays_le y m
 obtain ⟨K, hK⟩ : ∃ K : Nat, y = 1970 + K := ⟨(y - 1970).toNat, by omega⟩
 obtain ⟨J, hJ⟩ : ∃ J : Nat, m = 1 + J := ⟨(m - 1).toNat, by omega⟩
 have DN : Hid (n = yoff K + moff y J + d - 1) := by
  show n = _
  rw [← hn]
  unfold dnum
  rw [show (y - 1970).toNat = K by omega, show (m - 1).toNat = J by omega]
 rw [show (y - 1970).toNat = K by omega] at d1 d2 d3 d4
 rw [show (m - 1).toNat = J by omega] at d3 d4
 rw [hn] at d1 d2 d3 d4 rg
 have YM : Hid (∀ i k, i ≤ k → yoff i ≤ yoff k) := fun i k => yoff_mono i k
 have MM : Hid (∀ i k, i ≤ k → moff y i ≤ moff y k) := fun i k => moff_mono y i k
 have HK : Hid (y = 1970 + K) := hK
 have HJ : Hid (m = 1 + J) := hJ
 have B1 : Hid (yoff K ≤ n ∧ n < yoff (K + 1)) := ⟨d1, d2⟩
 have B2 : Hid (moff y J ≤ n - yoff K ∧ n - yoff K < moff y (J + 1)) := ⟨d3, d4⟩
 have Y0 : Hid (∀ k, 0 ≤ yoff k) := fun k => yoff_mono 0 k (Nat.zero_le _)
 have M0 : Hid (∀ k, 0 ≤ moff y k) := fun k => moff_mono y 0 k (Nat.zero_le _)
 clear ok hK hJ d1 d2 d3 d4 hn
 obtain ⟨r1, r2⟩ := rg
 have b1 : K ≤ 229 := by have := HK.out; omega
 have b2 : J ≤ 11 := by have := HJ.out; omega
 go_enter Tryz.func50, Tryz.ntmps50
 go_wp2
 go_loopw [0] (fun v wr => ∃ k : Nat, k ≤ K ∧ v = .int .i64 (n - yoff k) ∧ Row wr w.heap.size [.int .i64 0, .int .i64 0, .int .i64 0] ∧ Row wr (w.heap.size + 1) [.int .i64 (1970 + k), .int .i64 1, .int .i64 0] ∧ Below w.heap.size w wr) (fun v _ => (intOf v).toNat)
 case atStart => exact ⟨0, Nat.zero_le _, by simp [yoff], Row.al (Row.made rfl), Row.made (by simp), rbel_al (rbel_al (Below.refl _ _))⟩
 case round =>
  obtain ⟨k, hk, rfl, PR, PS, hw⟩ := hrel
  have zz := hw.size
  have cS0 := PS.c 0 _ rfl
  have cS1 := PS.c 1 _ rfl
  have cS2 := PS.c 2 _ rfl
  have fS0 := PS.f 0 _ rfl
  have fS1 := PS.f 1 _ rfl
  have fS2 := PS.f 2 _ rfl
  have zS := PS.lt
  have yl := ydays_le (1970 + k)
  obtain ⟨yl1, yl2⟩ := yl
  have y0 := Y0.out k
  have YS : Hid (yoff (k + 1) = yoff k + ydays (1970 + k)) := rfl
  have mk : Mark 0 := .mk _
  by_cases hlt : k < K
  ·have h1 : ydays (1970 + k) ≤ n - yoff k := by have := YM.out (k + 1) K hlt; have := B1.out; have := YS.out; omega
   go_wp2_with (first | (go_at_call 82; have cq : Mark 0 := mk; refine (cY k (by omega) _).mono ?_; clear cq mk; have mk : Mark 1 := .mk _; rintro e u ⟨rfl, hu⟩; rw [hu]; clear hu) | (go_at_call 82; have cq : Mark 1 := mk; refine (cY k (by omega) _).mono ?_; clear cq mk; have mk : Mark 2 := .mk _; rintro e u ⟨rfl, hu⟩; rw [hu]; clear hu))
   go_roundw
   case rel => exact ⟨k + 1, by omega, by rw [YS.out]; congr 1; omega, Row.far (by omega) PR, by rw [show (1970 : Int) + ((k + 1 : Nat) : Int) = 1970 + k + 1 by omega]; exact Row.put 0 PS, rbel_put (by omega) hw⟩
   case measure => simp [intOf]; omega
  ·have kn : k = K := by omega
   subst kn
   clear hlt hk
   have h1 : ¬ (ydays (1970 + k) ≤ n - yoff k) := by have := B1.out; have := YS.out; omega
   have cyk := HK.out
   clear YS
   go_wp2_with (first | (go_at_call 82; have cq : Mark 0 := mk; refine (cY k (by omega) _).mono ?_; clear cq mk; have mk : Mark 1 := .mk _; rintro e u ⟨rfl, hu⟩; rw [hu]; clear hu))
   go_loopw [0] (fun v wr => ∃ j : Nat, j ≤ J ∧ v = .int .i64 (n - yoff k - moff y j) ∧ Row wr w.heap.size [.int .i64 0, .int .i64 0, .int .i64 0] ∧ Row wr (w.heap.size + 1) [.int .i64 y, .int .i64 (1 + j), .int .i64 0] ∧ Below w.heap.size w wr) (fun v _ => (intOf v).toNat)
   case atStart => exact ⟨0, Nat.zero_le _, by simp [moff], PR, by rw [cyk]; exact PS, hw⟩
   case round =>
    clear PR PS hw zz cS0 cS1 cS2 fS0 fS1 fS2 zS mk cyk
    obtain ⟨j, hj, rfl, PR, PS, hw⟩ := hrel
    have zz := hw.size
    have cS0 := PS.c 0 _ rfl
    have cS1 := PS.c 1 _ rfl
    have cS2 := PS.c 2 _ rfl
    have fS0 := PS.f 0 _ rfl
    have fS1 := PS.f 1 _ rfl
    have fS2 := PS.f 2 _ rfl
    have zS := PS.lt
    have dl := mdays_le y (1 + j)
    obtain ⟨dl1, dl2⟩ := dl
    have m0 := M0.out j
    have MS : Hid (moff y (j + 1) = moff y j + mdays y (1 + j)) := rfl
    have mk : Mark 0 := .mk _
    by_cases hlt : j < J
    ·have h2 : mdays y (1 + j) ≤ n - yoff k - moff y j := by have := MM.out (j + 1) J hlt; have := B2.out; have := MS.out; omega
     go_wp2_with (first | (go_at_call 83; have cq : Mark 0 := mk; refine (cD j _).mono ?_; clear cq mk; have mk : Mark 1 := .mk _; rintro e u ⟨rfl, hu⟩; rw [hu]; clear hu) | (go_at_call 83; have cq : Mark 1 := mk; refine (cD j _).mono ?_; clear cq mk; have mk : Mark 2 := .mk _; rintro e u ⟨rfl, hu⟩; rw [hu]; clear hu))
     go_roundw
     case rel => exact ⟨j + 1, by omega, by rw [MS.out]; congr 1; omega, Row.far (by omega) PR, by rw [show (1 : Int) + ((j + 1 : Nat) : Int) = 1 + j + 1 by omega]; exact Row.put 1 PS, rbel_put (by omega) hw⟩
     case measure => simp [intOf]; omega
    ·have jn : j = J := by omega
     subst jn
     clear hlt hj
     have h2 : ¬ (mdays y (1 + j) ≤ n - yoff k - moff y j) := by have := B2.out; have := MS.out; omega
     have jm := HJ.out
     have de : Hid (n - yoff k - moff y j + 1 = d) := by
      show _ = d
      have := DN.out; omega
     have cR0 := PR.c 0 _ rfl
     have cR1 := PR.c 1 _ rfl
     have cR2 := PR.c 2 _ rfl
     have fR0 := PR.f 0 _ rfl
     have fR1 := PR.f 1 _ rfl
     have fR2 := PR.f 2 _ rfl
     have h3 : 0 ≤ n - yoff k - moff y j := by have := B2.out; omega
     clear MS jm
     go_wp2_with (first | (go_at_call 83; have cq : Mark 0 := mk; refine (cD j _).mono ?_; clear cq mk; have mk : Mark 1 := .mk _; rintro e u ⟨rfl, hu⟩; rw [hu]; clear hu))
     exact bodyPost_ret (v := .agg #[.int .i64 y, .int .i64 (1 + j), .int .i64 (n - yoff k - moff y j + 1)]) (by simp [results, Tryz.results50, go_sem, *]) rfl ⟨by rw [de.out, ← HJ.out], by (repeat (first | assumption | refine Below.setCell ?_ (by first | (simp; done) | (simp; omega) | omega) _ | apply Below.drew))⟩
set_option maxHeartbeats 2000000 in
theorem rutc_any (a : Option Addr) (n cap : Nat) (q : Nat → Int × Bool) (x D y m d s : Int) (w : World) (h20 : n ≤ 20) (hL : Lps q n) (hH : LHanded w a n q) (h0 : 0 ≤ x) (hD0 : 0 ≤ D) (hD1 : D ≤ 84005) (hD : IsDay q n x D) (ok : okD y m d = true) (hn : dnum y m d = D) (hs : s = x - bg q n D) :
  Calls Tryz.prog 27 #[.slice a n cap, .int .i64 x] w fun e w' => e = .returned (.agg #[.int .i64 y, .int .i64 m, .int .i64 d, .int .i64 (lab s).1, .int .i64 (lab s).2.1, .int .i64 (lab s).2.2]) ∧ Below w.heap.size w w' := by
 have cD := fun u (hu : Below w.heap.size w u) => rday_any a n cap q x D u h20 hL (hH.on hu) h0 hD0 hD1 hD
 have cB := fun u (hu : Below w.heap.size w u) => rbegin_any a n cap q D u h20 hL (hH.on hu) hD0 (by omega)
 have cO := fun u => rof_any D y m d u ok hn
 have pl := hD.place hL
 have ll := lng_le hL D
 have ml := mor_le (q := q) n D
 obtain ⟨p1, p2⟩ := pl
 rw [← hs] at p1 p2
 have bs : bg q n D = x - s := by omega
 have xb : x ≤ 9223372036854775807 := by unfold bg at bs; omega
 rw [bs] at cB
 have s1 : s ≤ 86400 := by omega
 clear hL hH hD hn ok ll ml bs p2 hs
 have e9 : x - (x - s) = s := by omega
 by_cases c : s = 86400
 ·have T : Hid (lab s = (23, 59, 60)) := if_pos c
  subst c
  go_enter Tryz.func27, Tryz.ntmps27
  go_wp2_with (first | (go_at_call 48; refine (cD _ (rbel_al (Below.refl _ _))).mono ?_; rintro e u ⟨rfl, hu⟩; rw [hu]; clear hu) | (go_at_call 49; refine (cB _ (rbel_al (Below.refl _ _))).mono ?_; rintro e u ⟨rfl, hu⟩; rw [hu]; clear hu) | (go_at_call 50; refine (cO _).mono ?_; rintro e u0 ⟨rfl, hb⟩; have hw : Below w.heap.size w u0 := rbel_on hb (rbel_al (Below.refl _ _)); have PR : Row u0 w.heap.size [.int .i64 0, .int .i64 0, .int .i64 0, .int .i64 0, .int .i64 0, .int .i64 0] := Row.on hb (Row.made rfl); have cR0 := PR.c 0 _ rfl; have cR1 := PR.c 1 _ rfl; have cR2 := PR.c 2 _ rfl; have cR3 := PR.c 3 _ rfl; have cR4 := PR.c 4 _ rfl; have cR5 := PR.c 5 _ rfl; have fR0 := PR.f 0 _ rfl; have fR1 := PR.f 1 _ rfl; have fR2 := PR.f 2 _ rfl; have fR3 := PR.f 3 _ rfl; have fR4 := PR.f 4 _ rfl; have fR5 := PR.f 5 _ rfl; have zR := PR.lt))
  exact bodyPost_ret (v := .agg #[.int .i64 y, .int .i64 m, .int .i64 d, .int .i64 23, .int .i64 59, .int .i64 60]) (by simp [results, Tryz.results27, go_sem, *]) rfl ⟨by rw [T.out], by (repeat (first | assumption | refine Below.setCell ?_ (by first | (simp; done) | (simp; omega) | omega) _ | apply Below.drew))⟩
 ·have T : Hid (lab s = (s / 3600, s % 3600 / 60, s % 60)) := if_neg c
  have c2 := lne_b c
  have t1 : s.tdiv 3600 = s / 3600 := Int.tdiv_eq_ediv_of_nonneg p1
  have t2 : s.tmod 3600 = s % 3600 := Int.tmod_eq_emod_of_nonneg p1
  have t3 : s.tmod 60 = s % 60 := Int.tmod_eq_emod_of_nonneg p1
  have t4 : (s % 3600).tdiv 60 = s % 3600 / 60 := Int.tdiv_eq_ediv_of_nonneg (by omega)
  go_enter Tryz.func27, Tryz.ntmps27
  go_wp2_with (first | (go_at_call 48; refine (cD _ (rbel_al (Below.refl _ _))).mono ?_; rintro e u ⟨rfl, hu⟩; rw [hu]; clear hu) | (go_at_call 49; refine (cB _ (rbel_al (Below.refl _ _))).mono ?_; rintro e u ⟨rfl, hu⟩; rw [hu]; clear hu) | (go_at_call 50; refine (cO _).mono ?_; rintro e u0 ⟨rfl, hb⟩; have hw : Below w.heap.size w u0 := rbel_on hb (rbel_al (Below.refl _ _)); have PR : Row u0 w.heap.size [.int .i64 0, .int .i64 0, .int .i64 0, .int .i64 0, .int .i64 0, .int .i64 0] := Row.on hb (Row.made rfl); have cR0 := PR.c 0 _ rfl; have cR1 := PR.c 1 _ rfl; have cR2 := PR.c 2 _ rfl; have cR3 := PR.c 3 _ rfl; have cR4 := PR.c 4 _ rfl; have cR5 := PR.c 5 _ rfl; have fR0 := PR.f 0 _ rfl; have fR1 := PR.f 1 _ rfl; have fR2 := PR.f 2 _ rfl; have fR3 := PR.f 3 _ rfl; have fR4 := PR.f 4 _ rfl; have fR5 := PR.f 5 _ rfl; have zR := PR.lt))
  exact bodyPost_ret (v := .agg #[.int .i64 y, .int .i64 m, .int .i64 d, .int .i64 (s / 3600), .int .i64 (s % 3600 / 60), .int .i64 (s % 60)]) (by simp [results, Tryz.results27, go_sem, *]) rfl ⟨by rw [T.out], by (repeat (first | assumption | refine Below.setCell ?_ (by first | (simp; done) | (simp; omega) | omega) _ | apply Below.drew))⟩
end Go.Proofs.YtadkgnbagmnkkakGreatDoor
namespace Go.Proofs.YtadkgnbagmnkkakGreatDoor
open Go.ChangeShapes Go.WideShapes Go.ChangeAt Go.RowKit Go.Joins
set_option linter.unusedVariables false
set_option linter.unusedSimpArgs false

set_option maxHeartbeats 4000000
theorem ten_piece (k : Nat) (h : k < 10) : (⟨#[48, 49, 50, 51, 52, 53, 54, 55, 56, 57]⟩ : ByteArray).extract k (k + 1) = ⟨#[UInt8.ofNat (48 + k)]⟩ := by
 have hc : k = 0 ∨ k = 1 ∨ k = 2 ∨ k = 3 ∨ k = 4 ∨ k = 5 ∨ k = 6 ∨ k = 7 ∨ k = 8 ∨ k = 9 := by omega
 rcases hc with rfl | rfl | rfl | rfl | rfl | rfl | rfl | rfl | rfl | rfl <;> decide +kernel
theorem str_is {a b : ByteArray} (h : a = b) : Ending.returned (.string a) = .returned (.string b) := by rw [h]
def dgl (n : Int) : List UInt8 := if n < 10 then [db n] else if n < 100 then [db (n / 10), db (n % 10)] else if n < 1000 then [db (n / 100), db (n / 10 % 10), db (n % 10)] else [db (n / 1000), db (n / 100 % 10), db (n / 10 % 10), db (n % 10)]
theorem dgl_len (n : Int) : 1 ≤ (dgl n).length ∧ (dgl n).length ≤ 4 := by unfold dgl; split <;> (try split) <;> (try split) <;> simp
theorem dig_one (n : Int) (w : World) (h0 : 0 ≤ n) (h1 : n < 10) :
  Calls Tryz.prog 10 #[.int .i64 n] w fun e w' => e = .returned (.string ⟨#[db n]⟩) ∧ w' = w := by
 have E : Hid ((⟨#[48, 49, 50, 51, 52, 53, 54, 55, 56, 57]⟩ : ByteArray).extract n.toNat (n.toNat + 1) = ⟨#[db n]⟩) := ten_piece n.toNat (by omega)
 have hc : n = 0 ∨ n = 1 ∨ n = 2 ∨ n = 3 ∨ n = 4 ∨ n = 5 ∨ n = 6 ∨ n = 7 ∨ n = 8 ∨ n = 9 := by omega
 clear h0 h1
 rcases hc with rfl | rfl | rfl | rfl | rfl | rfl | rfl | rfl | rfl | rfl
 all_goals
  go_enter Tryz.func10, Tryz.ntmps10
  go_wp2
  go_ret
  exact ⟨str_is E.out, rfl⟩
theorem dig_step (n : Int) (r s : ByteArray) (w : World) (h0 : 10 ≤ n) (h1 : n ≤ 100000) (ih : ∀ w, Calls Tryz.prog 10 #[.int .i64 (n / 10)] w fun e w' => e = .returned (.string r) ∧ w' = w) (hr : r.size ≤ 30)
  (hs : Hid (r ++ ⟨#[db (n % 10)]⟩ = s)) :
  Calls Tryz.prog 10 #[.int .i64 n] w fun e w' => e = .returned (.string s) ∧ w' = w := by
 have E : Hid (r ++ (⟨#[48, 49, 50, 51, 52, 53, 54, 55, 56, 57]⟩ : ByteArray).extract (n % 10).toNat ((n % 10).toNat + 1) = s) := by
  show _ = s
  rw [ten_piece (n % 10).toNat (by omega)]
  exact hs.out
 clear hs
 have hc : n % 10 = 0 ∨ n % 10 = 1 ∨ n % 10 = 2 ∨ n % 10 = 3 ∨ n % 10 = 4 ∨ n % 10 = 5 ∨ n % 10 = 6 ∨ n % 10 = 7 ∨ n % 10 = 8 ∨ n % 10 = 9 := by omega
 rcases hc with h | h | h | h | h | h | h | h | h | h
 all_goals
  rw [h] at E
  go_enter Tryz.func10, Tryz.ntmps10
  go_wp2_with (go_at_call 10; refine (ih _).mono ?_; rintro e u ⟨rfl, hu⟩; rw [hu]; clear hu)
  go_ret
  exact ⟨str_is E.out, rfl⟩
theorem ba_eq {a b : ByteArray} (h : a.data.toList = b.data.toList) : a = b := by
 apply ByteArray.ext
 exact Array.toList_inj.1 h
theorem dig_any (n : Int) (w : World) (h0 : 0 ≤ n) (h1 : n < 10000) :
  Calls Tryz.prog 10 #[.int .i64 n] w fun e w' => e = .returned (.string ⟨(dgl n).toArray⟩) ∧ w' = w := by
 have a1 : ∀ n : Int, 0 ≤ n → n < 10 → ∀ w, Calls Tryz.prog 10 #[.int .i64 n] w fun e w' => e = .returned (.string ⟨(dgl n).toArray⟩) ∧ w' = w := fun n h0 h1 w => by
  rw [show dgl n = [db n] from if_pos h1]; exact dig_one n w h0 h1
 have a2 : ∀ n : Int, 0 ≤ n → n < 100 → ∀ w, Calls Tryz.prog 10 #[.int .i64 n] w fun e w' => e = .returned (.string ⟨(dgl n).toArray⟩) ∧ w' = w := fun n h0 h1 w => by
  by_cases c : n < 10
  ·exact a1 n h0 c w
  ·refine dig_step n _ _ w (by omega) (by omega) (a1 (n / 10) (by omega) (by omega)) (by have := dgl_len (n / 10); show (dgl (n / 10)).toArray.size ≤ 30; simp; omega) ?_
   rw [show dgl (n / 10) = [db (n / 10)] from if_pos (by omega), show dgl n = [db (n / 10), db (n % 10)] from (if_neg c).trans (if_pos h1)]
   exact ba_eq rfl
 have a3 : ∀ n : Int, 0 ≤ n → n < 1000 → ∀ w, Calls Tryz.prog 10 #[.int .i64 n] w fun e w' => e = .returned (.string ⟨(dgl n).toArray⟩) ∧ w' = w := fun n h0 h1 w => by
  by_cases c : n < 100
  ·exact a2 n h0 c w
  ·refine dig_step n _ _ w (by omega) (by omega) (a2 (n / 10) (by omega) (by omega)) (by have := dgl_len (n / 10); show (dgl (n / 10)).toArray.size ≤ 30; simp; omega) ?_
   rw [show dgl (n / 10) = [db (n / 10 / 10), db (n / 10 % 10)] from (if_neg (by omega)).trans (if_pos (by omega)), show dgl n = [db (n / 100), db (n / 10 % 10), db (n % 10)] from (if_neg (by omega)).trans ((if_neg c).trans (if_pos h1)), show n / 10 / 10 = n / 100 by omega]
   exact ba_eq rfl
 by_cases c : n < 1000
 ·exact a3 n h0 c w
 ·refine dig_step n _ _ w (by omega) (by omega) (a3 (n / 10) (by omega) (by omega)) (by have := dgl_len (n / 10); show (dgl (n / 10)).toArray.size ≤ 30; simp; omega) ?_
  rw [show dgl (n / 10) = [db (n / 10 / 100), db (n / 10 / 10 % 10), db (n / 10 % 10)] from (if_neg (by omega)).trans ((if_neg (by omega)).trans (if_pos (by omega))), show dgl n = [db (n / 1000), db (n / 100 % 10), db (n / 10 % 10), db (n % 10)] from (if_neg (by omega)).trans ((if_neg (by omega)).trans (if_neg c)), show n / 10 / 100 = n / 1000 by omega, show n / 10 / 10 = n / 100 by omega]
  exact ba_eq rfl
theorem rpad4 (n : Int) (w : World) (h0 : 1000 ≤ n) (h1 : n < 10000) :
  Calls Tryz.prog 52 #[.int .i64 n, .int .i64 4] w fun e w' => e = .returned (.string ⟨(d4 n).toArray⟩) ∧ w' = w := by
 have cD := fun u => dig_any n u (by omega) h1
 rw [show dgl n = d4 n from (if_neg (by omega)).trans ((if_neg (by omega)).trans (if_neg (by omega)))] at cD
 have z : (⟨(d4 n).toArray⟩ : ByteArray).size = 4 := rfl
 generalize (⟨(d4 n).toArray⟩ : ByteArray) = s at *
 go_enter Tryz.func52, Tryz.ntmps52
 go_wp2_with (go_at_call 10; refine (cD _).mono ?_; rintro e u ⟨rfl, hu⟩; rw [hu]; clear hu)
 refine wp_loop_rounds 1 ?_
 rw [rounds_succ]
 go_wp2
 go_ret
 exact ⟨rfl, rfl⟩
theorem rpad2 (n : Int) (w : World) (h0 : 0 ≤ n) (h1 : n < 100) :
  Calls Tryz.prog 52 #[.int .i64 n, .int .i64 2] w fun e w' => e = .returned (.string ⟨(d2 n).toArray⟩) ∧ w' = w := by
 have cD := fun u => dig_any n u (by omega) (by omega)
 by_cases c : n < 10
 ·rw [show dgl n = [db n] from if_pos c] at cD
  have z : (⟨([db n]).toArray⟩ : ByteArray).size = 1 := rfl
  have E : Hid ((⟨#[48]⟩ : ByteArray) ++ ⟨([db n]).toArray⟩ = ⟨(d2 n).toArray⟩) := by
   show _ = (⟨(d2 n).toArray⟩ : ByteArray)
   unfold d2
   rw [show n / 10 = 0 by omega, show n % 10 = n by omega]
   exact ba_eq rfl
  have z2 : ((⟨#[48]⟩ : ByteArray) ++ ⟨([db n]).toArray⟩).size = 2 := rfl
  generalize (⟨([db n]).toArray⟩ : ByteArray) = s at *
  go_enter Tryz.func52, Tryz.ntmps52
  go_wp2_with (go_at_call 10; refine (cD _).mono ?_; rintro e u ⟨rfl, hu⟩; rw [hu]; clear hu)
  refine wp_loop_rounds 2 ?_
  rw [rounds_succ]
  go_wp2
  rw [rounds_succ]
  go_wp2
  go_ret
  exact ⟨str_is E.out, rfl⟩
 ·rw [show dgl n = d2 n from (if_neg c).trans (if_pos h1)] at cD
  have z : (⟨(d2 n).toArray⟩ : ByteArray).size = 2 := rfl
  generalize (⟨(d2 n).toArray⟩ : ByteArray) = s at *
  go_enter Tryz.func52, Tryz.ntmps52
  go_wp2_with (go_at_call 10; refine (cD _).mono ?_; rintro e u ⟨rfl, hu⟩; rw [hu]; clear hu)
  refine wp_loop_rounds 1 ?_
  rw [rounds_succ]
  go_wp2
  go_ret
  exact ⟨rfl, rfl⟩
theorem rtext_any (y m d : Int) (w : World) (ok : okD y m d = true) :
  Calls Tryz.prog 51 #[.agg #[.int .i64 y, .int .i64 m, .int .i64 d]] w fun e w' => e = .returned (.string (dtext y m d)) ∧ Below w.heap.size w w' := by
 obtain ⟨a1, a2, a3, a4, a5, a6⟩ := okD_t ok
 have ml := mdays_le y m
 have c4 := fun u => rpad4 y u (by omega) (by omega)
 have cm := fun u => rpad2 m u (by omega) (by omega)
 have cd' := fun u => rpad2 d u (by omega) (by omega)
 have E : Hid ((⟨(d4 y).toArray⟩ : ByteArray) ++ ⟨#[45]⟩ ++ ⟨(d2 m).toArray⟩ ++ ⟨#[45]⟩ ++ ⟨(d2 d).toArray⟩ = dtext y m d) := ba_eq rfl
 have z1 : (⟨(d4 y).toArray⟩ : ByteArray).size = 4 := rfl
 have z2 : (⟨(d2 m).toArray⟩ : ByteArray).size = 2 := rfl
 have z3 : (⟨(d2 d).toArray⟩ : ByteArray).size = 2 := rfl
 generalize (⟨(d4 y).toArray⟩ : ByteArray) = s1 at *
 generalize (⟨(d2 m).toArray⟩ : ByteArray) = s2 at *
 generalize (⟨(d2 d).toArray⟩ : ByteArray) = s3 at *
 have mk : Mark 0 := .mk _
 clear ok a1 a2 a3 a4 a5 a6 ml
 go_enter Tryz.func51, Tryz.ntmps51
 go_wp2_with (first | (go_at_call 52; have cq : Mark 0 := mk; refine (c4 _).mono ?_; clear cq mk; have mk : Mark 1 := .mk _; rintro e u ⟨rfl, hu⟩; rw [hu]; clear hu) | (go_at_call 52; have cq : Mark 1 := mk; refine (cm _).mono ?_; clear cq mk; have mk : Mark 2 := .mk _; rintro e u ⟨rfl, hu⟩; rw [hu]; clear hu) | (go_at_call 52; have cq : Mark 2 := mk; refine (cd' _).mono ?_; clear cq mk; have mk : Mark 3 := .mk _; rintro e u ⟨rfl, hu⟩; rw [hu]; clear hu))
 go_ret
 exact ⟨str_is E.out, rbel_al (Below.refl _ _)⟩
end Go.Proofs.YtadkgnbagmnkkakGreatDoor
