/- What digits.Two and civil.Print answer. -/
import Derived.Test.YtadkgnbagmnkkakGreatDoorNm21
import Derived.Test.YtadkgnbagmnkkakGreatDoorShelf
import Derived.Lib.AppendIntMem
import Derived.Shelf.SlSorted.Search
import Derived.RegionTactic
namespace Go.Proofs.YtadkgnbagmnkkakGreatDoor
open Go.ChangeShapes Go.WideShapes Go.ChangeAt Go.RowKit
set_option linter.unusedVariables false
set_option linter.unusedSimpArgs false

def EnvT (w : World) : Prop := Lib.TabIs Tryz.prog w "internal/strconv.uint64pow10" .u64 Lib.pow10Tab
theorem EnvT.below {w w' : World} (h : EnvT w) (hb : Below w.heap.size w w') : EnvT w' := Lib.tabBelow_of_tabIs h _ hb

theorem dec2 {i : Nat} (h1 : ¬ i < 10) (h2 : i < 100) : Lib.decDigits i = [UInt8.ofNat (48 + i / 10), UInt8.ofNat (48 + i % 10)] := Lib.decDigits_two h1 h2
theorem dec4 {i : Nat} (h1 : 1000 ≤ i) (h2 : i < 10000) : Lib.decDigits i = [UInt8.ofNat (48 + i / 1000), UInt8.ofNat (48 + i / 100 % 10), UInt8.ofNat (48 + i / 10 % 10), UInt8.ofNat (48 + i % 10)] := by
 rw [Lib.decDigits, dif_neg (by omega), Lib.decDigits, dif_neg (by omega), dec2 (by omega) (by omega)]
 rw [show i / 10 / 10 / 10 = i / 1000 by omega, show i / 10 / 10 % 10 = i / 100 % 10 by omega]
 rfl
theorem itoa4 (y : Int) (h1 : 1000 ≤ y) (h2 : y < 10000) : Lib.itoa y = d4 y := by
 obtain ⟨u, rfl⟩ : ∃ u : Nat, y = u := ⟨y.toNat, by omega⟩
 rw [Lib.itoa_nonneg, dec4 (by omega) (by omega)]
 unfold d4 db
 rw [show ((u : Int) / 1000).toNat = u / 1000 by omega, show ((u : Int) / 100 % 10).toNat = u / 100 % 10 by omega, show ((u : Int) / 10 % 10).toNat = u / 10 % 10 by omega, show ((u : Int) % 10).toNat = u % 10 by omega]
theorem itoa2 (n : Int) (h1 : 10 ≤ n) (h2 : n < 100) : Lib.itoa n = d2 n := by
 obtain ⟨u, rfl⟩ : ∃ u : Nat, n = u := ⟨n.toNat, by omega⟩
 rw [Lib.itoa_nonneg, dec2 (by omega) (by omega)]
 unfold d2 db
 rw [show ((u : Int) / 10).toNat = u / 10 by omega, show ((u : Int) % 10).toNat = u % 10 by omega]
theorem itoa1 (n : Int) (h1 : 0 ≤ n) (h2 : n < 10) : [48] ++ Lib.itoa n = d2 n := by
 obtain ⟨u, rfl⟩ : ∃ u : Nat, n = u := ⟨n.toNat, by omega⟩
 rw [Lib.itoa_nonneg, Lib.decDigits_one (by omega)]
 unfold d2 db
 rw [show ((u : Int) / 10).toNat = 0 by omega, show ((u : Int) % 10).toNat = u by omega]
 rfl
theorem itoa_any (n : Int) (w : World) (h0 : 0 ≤ n) (h1 : n ≤ 10000) (he : EnvT w) :
  Calls Tryz.prog 102 #[.int .i64 n] w fun e w' => e = .returned (.string ⟨(Lib.itoa n).toArray⟩) ∧ Below w.heap.size w w' := by
 refine (Tryz.strconv_Itoa n (by omega) (by omega) w he).mono ?_
 rintro e w' ⟨rfl, k, os, rfl⟩
 exact ⟨rfl, below_grown_sl _ _ _ _ (Nat.le_refl _)⟩
theorem ret_s {a b : ByteArray} (h : a = b) : Ending.returned (.string a) = .returned (.string b) := by rw [h]
theorem app_is (a b : List UInt8) : (⟨a.toArray⟩ : ByteArray) ++ ⟨b.toArray⟩ = ⟨(a ++ b).toArray⟩ := by
 apply ByteArray.ext
 rw [ByteArray.data_append]
 simp

set_option maxHeartbeats 400000 in
theorem two_any (n : Int) (w : World) (h0 : 0 ≤ n) (h1 : n < 100) (he : EnvT w) :
  Calls Tryz.prog 133 #[.int .i64 n] w fun e w' => e = .returned (.string ⟨(d2 n).toArray⟩) ∧ Below w.heap.size w w' := by
 have c := itoa_any n w h0 (by omega) he
 by_cases h : n < 10
 ·have E : Hid ((⟨#[48]⟩ : ByteArray) ++ ⟨(Lib.itoa n).toArray⟩ = ⟨(d2 n).toArray⟩) := by
   show _ = _
   rw [← itoa1 n h0 h]; exact app_is [48] _
  have hsz : (⟨(Lib.itoa n).toArray⟩ : ByteArray).size = 1 := by
   have := congrArg List.length (itoa1 n h0 h)
   simp [d2] at this
   show (Lib.itoa n).toArray.size = 1
   simpa using this
  generalize (⟨(Lib.itoa n).toArray⟩ : ByteArray) = t at *
  clear he
  go_enter Tryz.func133, Tryz.ntmps133
  go_wp2_with (go_at_call 102; refine c.mono ?_; rintro e u ⟨rfl, hb⟩)
  go_ret
  exact ⟨ret_s E.out, hb⟩
 ·rw [itoa2 n (by omega) h1] at c
  clear he
  go_enter Tryz.func133, Tryz.ntmps133
  go_wp2_with (go_at_call 102; refine c.mono ?_; rintro e u ⟨rfl, hb⟩)
  go_ret
  exact ⟨rfl, hb⟩

theorem ret_se {a b : ByteArray} (h : a = b) (v : Value) : Ending.returned (.tuple #[.string a, v]) = .returned (.tuple #[.string b, v]) := by rw [h]
set_option maxHeartbeats 2000000 in
theorem print_any (y m d : Int) (w : World) (wy : In64 y) (wm : In64 m) (wd : In64 d) (he : EnvA w) (ht : EnvT w) :
  Calls Tryz.prog 131 #[.agg #[.int .i64 y, .int .i64 m, .int .i64 d]] w fun e w' => e = .returned (.tuple #[.string (if okD y m d = true then dtext y m d else ⟨#[]⟩), errc (eD y m d)]) ∧ Below w.heap.size w w' := by
 have bel : Below w.heap.size w (w.alloc (.cells #[.int .i64 y, .int .i64 m, .int .i64 d] 79)) := rbel_al (Below.refl _ _)
 have c := ccheck_any y m d _ wy wm wd (he.below bel)
 cases o : okD y m d with
 | false =>
  rw [eD_no o, errc_not (by decide)] at c
  rw [eD_no o, errc_not (by decide)]
  clear he ht
  go_enter Tryz.func131, Tryz.ntmps131
  go_wp2_with (go_at_call 168; refine c.mono ?_; rintro e u ⟨rfl, hb⟩; have hw : Below w.heap.size w u := rbel_on hb bel; clear hb)
  go_ret2
  exact ⟨rfl, hw⟩
 | true =>
  obtain ⟨h1, h2, h3, h4, h5, h6⟩ := okD_t o
  obtain ⟨k1, k2⟩ := mdays_le y m
  rw [eD_ok o, errc_zero] at c
  rw [eD_ok o, errc_zero]
  have cY := fun u hu => itoa_any y u (by omega) (by omega) hu
  rw [itoa4 y (by omega) (by omega)] at cY
  have cM := fun u hu => two_any m u (by omega) (by omega) hu
  have cD := fun u hu => two_any d u (by omega) (by omega) hu
  have E : Hid ((⟨(d4 y).toArray⟩ : ByteArray) ++ ⟨#[45]⟩ ++ ⟨(d2 m).toArray⟩ ++ ⟨#[45]⟩ ++ ⟨(d2 d).toArray⟩ = dtext y m d) := by
   show _ = _
   rw [show (⟨#[45]⟩ : ByteArray) = ⟨[45].toArray⟩ from rfl, app_is, app_is, app_is, app_is]; rfl
  have s1 : (⟨(d4 y).toArray⟩ : ByteArray).size = 4 := rfl
  have s2 : (⟨(d2 m).toArray⟩ : ByteArray).size = 2 := rfl
  have s3 : (⟨(d2 d).toArray⟩ : ByteArray).size = 2 := rfl
  generalize (⟨(d4 y).toArray⟩ : ByteArray) = ty at *
  generalize (⟨(d2 m).toArray⟩ : ByteArray) = tm at *
  generalize (⟨(d2 d).toArray⟩ : ByteArray) = td at *
  have HT : Hid (EnvT w) := ht
  clear he ht o h6 k1 k2
  have cnt : Mark 0 := .mk _
  go_enter Tryz.func131, Tryz.ntmps131
  go_wp2_with (go_at_call 168; refine c.mono ?_; rintro e u ⟨rfl, hb⟩; have hw : Below w.heap.size w u := rbel_on hb bel; have PD : Row u w.heap.size [.int .i64 y, .int .i64 m, .int .i64 d] := Row.on hb (Row.made rfl); have cD0 := PD.c 0 _ rfl; have cD1 := PD.c 1 _ rfl; have cD2 := PD.c 2 _ rfl; clear hb)
  go_region_held (fun w' => w'.cell? ⟨w.heap.size, 0, none⟩ = some (.int .i64 y) ∧ w'.cell? ⟨w.heap.size, 1, none⟩ = some (.int .i64 m) ∧ w'.cell? ⟨w.heap.size, 2, none⟩ = some (.int .i64 d)) (go_keep) (first
   | (go_at_call 102; have cq : Mark 0 := cnt; refine (cY _ (HT.out.below (rbel_dr hw))).mono ?_; clear cq cnt; have cnt : Mark 1 := .mk _; rintro e u0 ⟨rfl, hb⟩; have hw0 : Below w.heap.size w u0 := rbel_on hb (rbel_dr hw); have P0 : Row u0 w.heap.size [.int .i64 y, .int .i64 m, .int .i64 d] := Row.on hb (Row.dr PD); have q0 := P0.c 0 _ rfl; have q1 := P0.c 1 _ rfl; have q2 := P0.c 2 _ rfl; clear hb)
   | (go_at_call 133; have cq : Mark 1 := cnt; refine (cM _ (HT.out.below hw0)).mono ?_; clear cq cnt; have cnt : Mark 2 := .mk _; rintro e u1 ⟨rfl, hb⟩; have hw1 : Below w.heap.size w u1 := rbel_on hb hw0; have P1 : Row u1 w.heap.size [.int .i64 y, .int .i64 m, .int .i64 d] := Row.on hb P0; have r0 := P1.c 0 _ rfl; have r1 := P1.c 1 _ rfl; have r2 := P1.c 2 _ rfl; clear hb)
   | (go_at_call 133; have cq : Mark 2 := cnt; refine (cD _ (HT.out.below hw1)).mono ?_; clear cq cnt; have cnt : Mark 3 := .mk _; rintro e u2 ⟨rfl, hb⟩; have hw2 : Below w.heap.size w u2 := rbel_on hb hw1; have P2 : Row u2 w.heap.size [.int .i64 y, .int .i64 m, .int .i64 d] := Row.on hb P1; have t0 := P2.c 0 _ rfl; have t1 := P2.c 1 _ rfl; have t2 := P2.c 2 _ rfl; clear hb))
  all_goals
   go_wp2
   go_ret2
   exact ⟨ret_se E.out _, hw2⟩
end Go.Proofs.YtadkgnbagmnkkakGreatDoor
