/- What civil.Days, Check and Number answer. Steps of what package digits answers. What digits.Two and civil.Print answer. What the closures of civil.Of answer, and how sort.Search finds a place with them. What civil.Of answers of any number. What civil.Of answers of any number. -/
import Derived.Test.YtadkgnbagmnkkakGreatDoorNm20
import Derived.Deep.QuietTactic
import Derived.BigQuiet
import Derived.Test.YtadkgnbagmnkkakGreatDoorNm04
import Derived.Test.YtadkgnbagmnkkakGreatDoorNm02
import Derived.WalkKit
import Derived.ProofKit
import Derived.OpenShut
import Derived.Outline
import Derived.Below
import Derived.IntWalk
import Derived.Deep.Draws
import Derived.WalkLawsBesides
import Derived.Test.YtadkgnbagmnkkakGreatDoorShelf
import Derived.Lib.AppendIntMem
import Derived.Shelf.SlSorted.Search
import Derived.RegionTactic
import Derived.Test.YtadkgnbagmnkkakGreatDoorCivilLay
namespace Go.Proofs.YtadkgnbagmnkkakGreatDoor
open Go.ChangeShapes Go.WideShapes Go.ChangeAt Go.RowKit
set_option linter.unusedVariables false
set_option linter.unusedSimpArgs false

set_option maxHeartbeats 1000000
theorem before_m (y m : Int) (w : World) (h0 : 1970 ≤ y) (h1 : y ≤ 2199) (h2 : 1 ≤ m) (h3 : m ≤ 13) (he : EnvA w) :
  Calls Tryz.prog 166 #[.int .i64 y, .int .i64 m] w fun e w' => e = .returned (.int .i64 (moff y (m - 1).toNat)) ∧ w' = w := by
 obtain ⟨k, rfl⟩ : ∃ k : Nat, m = (k : Int) + 1 := ⟨(m - 1).toNat, by omega⟩
 have := before_any y k w h0 h1 (by omega) he
 rwa [show ((k : Int) + 1 - 1).toNat = k by omega]
theorem mdays_moff (y m : Int) (h2 : 1 ≤ m) : moff y (m + 1 - 1).toNat - moff y (m - 1).toNat = mdays y m := by
 obtain ⟨k, rfl⟩ : ∃ k : Nat, m = (k : Int) + 1 := ⟨(m - 1).toNat, by omega⟩
 rw [show ((k : Int) + 1 + 1 - 1).toNat = k + 1 by omega, show ((k : Int) + 1 - 1).toNat = k by omega]
 show moff y k + mdays y (1 + k) - moff y k = _
 rw [show (1 + (k : Int)) = (k : Int) + 1 by omega]
 omega
theorem ret_ie {a b : Int} (h : a = b) (v : Value) : Ending.returned (.tuple #[.int .i64 a, v]) = .returned (.tuple #[.int .i64 b, v]) := by rw [h]

theorem days_ok (y m : Int) (w : World) (h0 : 1970 ≤ y) (h1 : y ≤ 2199) (h2 : 1 ≤ m) (h3 : m ≤ 12) (he : EnvA w) :
  Calls Tryz.prog 190 #[.int .i64 y, .int .i64 m] w fun e w' => e = .returned (.tuple #[.int .i64 (mdays y m), .nilIface]) ∧ w' = w := by
 have E : Hid (moff y (m + 1 - 1).toNat - moff y (m - 1).toNat = mdays y m) := mdays_moff y m h2
 have c1 := before_m y (m + 1) w h0 h1 (by omega) (by omega) he
 have c2 := before_m y m w h0 h1 (by omega) (by omega) he
 obtain ⟨a1, a2⟩ := moff_in y (m + 1 - 1).toNat (by omega)
 obtain ⟨b1, b2⟩ := moff_in y (m - 1).toNat (by omega)
 generalize moff y (m + 1 - 1).toNat = a at *
 generalize moff y (m - 1).toNat = b at *
 clear he
 have cnt : Mark 0 := .mk _
 go_enter Tryz.func190, Tryz.ntmps190
 go_wp2_with (first | (go_at_call 166; have cq : Mark 0 := cnt; refine c1.mono ?_; clear cq cnt; have cnt : Mark 1 := .mk _; rintro e u ⟨rfl, hu⟩; rw [hu]; clear hu) | (go_at_call 166; have cq : Mark 1 := cnt; refine c2.mono ?_; clear cq cnt; have cnt : Mark 2 := .mk _; rintro e u ⟨rfl, hu⟩; rw [hu]; clear hu))
 go_ret2
 exact ⟨ret_ie E.out _, rfl⟩

theorem days_no (y m : Int) (w : World) (wy : In64 y) (wm : In64 m) (h : ¬ (1970 ≤ y ∧ y ≤ 2199 ∧ 1 ≤ m ∧ m ≤ 12)) :
  Calls Tryz.prog 190 #[.int .i64 y, .int .i64 m] w fun e w' => e = .returned (.tuple #[.int .i64 0, .iface 86 (.int .i64 1)]) ∧ w' = w := by
 by_cases h1 : y < 1970
 ·clear h
  go_enter Tryz.func190, Tryz.ntmps190
  go_wp2
  go_ret2
  exact ⟨rfl, rfl⟩
 ·by_cases h2 : 2199 < y
  ·clear h
   go_enter Tryz.func190, Tryz.ntmps190
   go_wp2
   go_ret2
   exact ⟨rfl, rfl⟩
  ·by_cases h3 : m < 1
   ·clear h
    go_enter Tryz.func190, Tryz.ntmps190
    go_wp2
    go_ret2
    exact ⟨rfl, rfl⟩
   ·have h4 : 12 < m := by omega
    clear h
    go_enter Tryz.func190, Tryz.ntmps190
    go_wp2
    go_ret2
    exact ⟨rfl, rfl⟩

theorem ccheck_any (y m d : Int) (w : World) (wy : In64 y) (wm : In64 m) (wd : In64 d) (he : EnvA w) :
  Calls Tryz.prog 168 #[.agg #[.int .i64 y, .int .i64 m, .int .i64 d]] w fun e w' => e = .returned (errc (eD y m d)) ∧ Below w.heap.size w w' := by
 have bel : Below w.heap.size w (w.alloc (.cells #[.int .i64 y, .int .i64 m, .int .i64 d] 79)) := rbel_al (Below.refl _ _)
 by_cases h : 1970 ≤ y ∧ y ≤ 2199 ∧ 1 ≤ m ∧ m ≤ 12
 ·obtain ⟨h1, h2, h3, h4⟩ := h
  have c := days_ok y m _ h1 h2 h3 h4 (he.below bel)
  obtain ⟨k1, k2⟩ := mdays_le y m
  have E : Hid (eD y m d = if 1 ≤ d ∧ d ≤ mdays y m then 0 else 1) := by
   show _ = _
   unfold eD okD
   by_cases q : 1 ≤ d ∧ d ≤ mdays y m
   ·rw [if_pos q, if_pos (decide_eq_true ⟨h1, h2, h3, h4, q.1, q.2⟩)]
   ·rw [if_neg q, if_neg (fun e => q ((of_decide_eq_true e).2.2.2.2))]
  generalize mdays y m = k at *
  clear he
  by_cases q1 : d < 1
  ·have E2 : Hid (.iface 86 (.int .i64 1) = errc (eD y m d)) := by show _ = _; rw [E.out, if_neg (by omega)]; rfl
   go_enter Tryz.func168, Tryz.ntmps168
   go_wp2_with (go_at_call 190; refine c.mono ?_; rintro e u ⟨rfl, hu⟩; rw [hu]; clear hu)
   go_ret
   exact ⟨congrArg Ending.returned E2.out, bel⟩
  ·by_cases q2 : k < d
   ·have E2 : Hid (.iface 86 (.int .i64 1) = errc (eD y m d)) := by show _ = _; rw [E.out, if_neg (by omega)]; rfl
    go_enter Tryz.func168, Tryz.ntmps168
    go_wp2_with (go_at_call 190; refine c.mono ?_; rintro e u ⟨rfl, hu⟩; rw [hu]; clear hu)
    go_ret
    exact ⟨congrArg Ending.returned E2.out, bel⟩
   ·have E2 : Hid (.nilIface = errc (eD y m d)) := by show _ = _; rw [E.out, if_pos (by omega)]; rfl
    go_enter Tryz.func168, Tryz.ntmps168
    go_wp2_with (go_at_call 190; refine c.mono ?_; rintro e u ⟨rfl, hu⟩; rw [hu]; clear hu)
    go_ret
    exact ⟨congrArg Ending.returned E2.out, bel⟩
 ·have c := days_no y m (w.alloc (.cells #[.int .i64 y, .int .i64 m, .int .i64 d] 79)) wy wm h
  have E2 : Hid (.iface 86 (.int .i64 1) = errc (eD y m d)) := by
   show _ = _
   rw [eD_no (decide_eq_false (fun q => h ⟨q.1, q.2.1, q.2.2.1, q.2.2.2.1⟩))]; rfl
  clear h he
  go_enter Tryz.func168, Tryz.ntmps168
  go_wp2_with (go_at_call 190; refine c.mono ?_; rintro e u ⟨rfl, hu⟩; rw [hu]; clear hu)
  go_ret
  exact ⟨congrArg Ending.returned E2.out, bel⟩

set_option maxHeartbeats 2000000
def EnvT (w : World) : Prop := Lib.TabIs Tryz.prog w "internal/strconv.uint64pow10" .u64 Lib.pow10Tab
theorem EnvT.below {w w' : World} (h : EnvT w) (hb : Below w.heap.size w w') : EnvT w' := Lib.tabBelow_of_tabIs h _ hb

theorem dec2 {i : Nat} (h1 : ¬ i < 10) (h2 : i < 100) : Lib.decDigits i = [UInt8.ofNat (48 + i / 10), UInt8.ofNat (48 + i % 10)] := Lib.decDigits_two h1 h2
theorem dec4 {i : Nat} (h1 : 1000 ≤ i) (h2 : i < 10000) : Lib.decDigits i = [UInt8.ofNat (48 + i / 1000), UInt8.ofNat (48 + i / 100 % 10), UInt8.ofNat (48 + i / 10 % 10), UInt8.ofNat (48 + i % 10)] := by
 rw [Lib.decDigits, dif_neg (by omega), Lib.decDigits, dif_neg (by omega), dec2 (by omega) (by omega)]
 rw [show i / 10 / 10 / 10 = i / 1000 by omega, show i / 10 / 10 % 10 = i / 100 % 10 by omega]
 rfl
theorem itoa4 (y : Int) (h1 : 1000 ≤ y) (h2 : y < 10000) : Lib.itoa y = d4 y := by
 obtain ⟨u, rfl⟩ : ∃ u : Nat, y = u := ⟨y.toNat, by omega⟩
 rw [Lib.itoa_nonneg, dec4 (by omega) (by omega)]
 unfold d4 db
 rw [show ((u : Int) / 1000).toNat = u / 1000 by omega, show ((u : Int) / 100 % 10).toNat = u / 100 % 10 by omega, show ((u : Int) / 10 % 10).toNat = u / 10 % 10 by omega, show ((u : Int) % 10).toNat = u % 10 by omega]
theorem itoa2 (n : Int) (h1 : 10 ≤ n) (h2 : n < 100) : Lib.itoa n = d2 n := by
 obtain ⟨u, rfl⟩ : ∃ u : Nat, n = u := ⟨n.toNat, by omega⟩
 rw [Lib.itoa_nonneg, dec2 (by omega) (by omega)]
 unfold d2 db
 rw [show ((u : Int) / 10).toNat = u / 10 by omega, show ((u : Int) % 10).toNat = u % 10 by omega]
theorem itoa1 (n : Int) (h1 : 0 ≤ n) (h2 : n < 10) : [48] ++ Lib.itoa n = d2 n := by
 obtain ⟨u, rfl⟩ : ∃ u : Nat, n = u := ⟨n.toNat, by omega⟩
 rw [Lib.itoa_nonneg, Lib.decDigits_one (by omega)]
 unfold d2 db
 rw [show ((u : Int) / 10).toNat = 0 by omega, show ((u : Int) % 10).toNat = u by omega]
 rfl
theorem itoa_any (n : Int) (w : World) (h0 : 0 ≤ n) (h1 : n ≤ 10000) (he : EnvT w) :
  Calls Tryz.prog 102 #[.int .i64 n] w fun e w' => e = .returned (.string ⟨(Lib.itoa n).toArray⟩) ∧ Below w.heap.size w w' := by
 refine (Tryz.strconv_Itoa n (by omega) (by omega) w he).mono ?_
 rintro e w' ⟨rfl, k, os, rfl⟩
 exact ⟨rfl, below_grown_sl _ _ _ _ (Nat.le_refl _)⟩
theorem ret_s {a b : ByteArray} (h : a = b) : Ending.returned (.string a) = .returned (.string b) := by rw [h]
theorem app_is (a b : List UInt8) : (⟨a.toArray⟩ : ByteArray) ++ ⟨b.toArray⟩ = ⟨(a ++ b).toArray⟩ := by
 apply ByteArray.ext
 rw [ByteArray.data_append]
 simp

theorem two_any (n : Int) (w : World) (h0 : 0 ≤ n) (h1 : n < 100) (he : EnvT w) :
  Calls Tryz.prog 133 #[.int .i64 n] w fun e w' => e = .returned (.string ⟨(d2 n).toArray⟩) ∧ Below w.heap.size w w' := by
 have c := itoa_any n w h0 (by omega) he
 by_cases h : n < 10
 ·have E : Hid ((⟨#[48]⟩ : ByteArray) ++ ⟨(Lib.itoa n).toArray⟩ = ⟨(d2 n).toArray⟩) := by
   show _ = _
   rw [← itoa1 n h0 h]; exact app_is [48] _
  have hsz : (⟨(Lib.itoa n).toArray⟩ : ByteArray).size = 1 := by
   have := congrArg List.length (itoa1 n h0 h)
   simp [d2] at this
   show (Lib.itoa n).toArray.size = 1
   simpa using this
  generalize (⟨(Lib.itoa n).toArray⟩ : ByteArray) = t at *
  clear he
  go_enter Tryz.func133, Tryz.ntmps133
  go_wp2_with (go_at_call 102; refine c.mono ?_; rintro e u ⟨rfl, hb⟩)
  go_ret
  exact ⟨ret_s E.out, hb⟩
 ·rw [itoa2 n (by omega) h1] at c
  clear he
  go_enter Tryz.func133, Tryz.ntmps133
  go_wp2_with (go_at_call 102; refine c.mono ?_; rintro e u ⟨rfl, hb⟩)
  go_ret
  exact ⟨rfl, hb⟩

theorem ret_se {a b : ByteArray} (h : a = b) (v : Value) : Ending.returned (.tuple #[.string a, v]) = .returned (.tuple #[.string b, v]) := by rw [h]
theorem print_any (y m d : Int) (w : World) (wy : In64 y) (wm : In64 m) (wd : In64 d) (he : EnvA w) (ht : EnvT w) :
  Calls Tryz.prog 131 #[.agg #[.int .i64 y, .int .i64 m, .int .i64 d]] w fun e w' => e = .returned (.tuple #[.string (if okD y m d = true then dtext y m d else ⟨#[]⟩), errc (eD y m d)]) ∧ Below w.heap.size w w' := by
 have bel : Below w.heap.size w (w.alloc (.cells #[.int .i64 y, .int .i64 m, .int .i64 d] 79)) := rbel_al (Below.refl _ _)
 have c := ccheck_any y m d _ wy wm wd (he.below bel)
 cases o : okD y m d with
 | false =>
  rw [eD_no o, errc_not (by decide)] at c
  rw [eD_no o, errc_not (by decide)]
  clear he ht
  go_enter Tryz.func131, Tryz.ntmps131
  go_wp2_with (go_at_call 168; refine c.mono ?_; rintro e u ⟨rfl, hb⟩; have hw : Below w.heap.size w u := rbel_on hb bel; clear hb)
  go_ret2
  exact ⟨rfl, hw⟩
 | true =>
  obtain ⟨h1, h2, h3, h4, h5, h6⟩ := okD_t o
  obtain ⟨k1, k2⟩ := mdays_le y m
  rw [eD_ok o, errc_zero] at c
  rw [eD_ok o, errc_zero]
  have cY := fun u hu => itoa_any y u (by omega) (by omega) hu
  rw [itoa4 y (by omega) (by omega)] at cY
  have cM := fun u hu => two_any m u (by omega) (by omega) hu
  have cD := fun u hu => two_any d u (by omega) (by omega) hu
  have E : Hid ((⟨(d4 y).toArray⟩ : ByteArray) ++ ⟨#[45]⟩ ++ ⟨(d2 m).toArray⟩ ++ ⟨#[45]⟩ ++ ⟨(d2 d).toArray⟩ = dtext y m d) := by
   show _ = _
   rw [show (⟨#[45]⟩ : ByteArray) = ⟨[45].toArray⟩ from rfl, app_is, app_is, app_is, app_is]; rfl
  have s1 : (⟨(d4 y).toArray⟩ : ByteArray).size = 4 := rfl
  have s2 : (⟨(d2 m).toArray⟩ : ByteArray).size = 2 := rfl
  have s3 : (⟨(d2 d).toArray⟩ : ByteArray).size = 2 := rfl
  generalize (⟨(d4 y).toArray⟩ : ByteArray) = ty at *
  generalize (⟨(d2 m).toArray⟩ : ByteArray) = tm at *
  generalize (⟨(d2 d).toArray⟩ : ByteArray) = td at *
  have HT : Hid (EnvT w) := ht
  clear he ht o h6 k1 k2
  have cnt : Mark 0 := .mk _
  go_enter Tryz.func131, Tryz.ntmps131
  go_wp2_with (go_at_call 168; refine c.mono ?_; rintro e u ⟨rfl, hb⟩; have hw : Below w.heap.size w u := rbel_on hb bel; have PD : Row u w.heap.size [.int .i64 y, .int .i64 m, .int .i64 d] := Row.on hb (Row.made rfl); have cD0 := PD.c 0 _ rfl; have cD1 := PD.c 1 _ rfl; have cD2 := PD.c 2 _ rfl; clear hb)
  go_region_held (fun w' => w'.cell? ⟨w.heap.size, 0, none⟩ = some (.int .i64 y) ∧ w'.cell? ⟨w.heap.size, 1, none⟩ = some (.int .i64 m) ∧ w'.cell? ⟨w.heap.size, 2, none⟩ = some (.int .i64 d)) (go_keep) (first
   | (go_at_call 102; have cq : Mark 0 := cnt; refine (cY _ (HT.out.below (rbel_dr hw))).mono ?_; clear cq cnt; have cnt : Mark 1 := .mk _; rintro e u0 ⟨rfl, hb⟩; have hw0 : Below w.heap.size w u0 := rbel_on hb (rbel_dr hw); have P0 : Row u0 w.heap.size [.int .i64 y, .int .i64 m, .int .i64 d] := Row.on hb (Row.dr PD); have q0 := P0.c 0 _ rfl; have q1 := P0.c 1 _ rfl; have q2 := P0.c 2 _ rfl; clear hb)
   | (go_at_call 133; have cq : Mark 1 := cnt; refine (cM _ (HT.out.below hw0)).mono ?_; clear cq cnt; have cnt : Mark 2 := .mk _; rintro e u1 ⟨rfl, hb⟩; have hw1 : Below w.heap.size w u1 := rbel_on hb hw0; have P1 : Row u1 w.heap.size [.int .i64 y, .int .i64 m, .int .i64 d] := Row.on hb P0; have r0 := P1.c 0 _ rfl; have r1 := P1.c 1 _ rfl; have r2 := P1.c 2 _ rfl; clear hb)
   | (go_at_call 133; have cq : Mark 2 := cnt; refine (cD _ (HT.out.below hw1)).mono ?_; clear cq cnt; have cnt : Mark 3 := .mk _; rintro e u2 ⟨rfl, hb⟩; have hw2 : Below w.heap.size w u2 := rbel_on hb hw1; have P2 : Row u2 w.heap.size [.int .i64 y, .int .i64 m, .int .i64 d] := Row.on hb P1; have t0 := P2.c 0 _ rfl; have t1 := P2.c 1 _ rfl; have t2 := P2.c 2 _ rfl; clear hb))
  all_goals
   go_wp2
   go_ret2
   exact ⟨ret_se E.out _, hw2⟩
set_option maxHeartbeats 1000000
theorem count_first (p : Nat → Bool) : ∀ (N k : Nat), k ≤ N → (∀ i, i < k → p i = false) → (∀ i, k ≤ i → i < N → p i = true) → (List.range N).countP (fun i => !p i) = k
 | 0, k, hk, _, _ => by simp; omega
 | N + 1, k, hk, h1, h2 => by
  rw [List.range_succ, List.countP_append]
  by_cases e : k = N + 1
  ·subst e
   rw [count_first p N N (Nat.le_refl _) (fun i hi => h1 i (by omega)) (fun i a b => absurd a (by omega))]
   simp [h1 N (by omega)]
  ·rw [count_first p N k (by omega) h1 (fun i a b => h2 i a (by omega))]
   simp [h2 N (by omega) (by omega)]

theorem search_at (g : Nat) (cb : Array Value) (N k : Nat) (p : Nat → Bool) (w : World) (eg : ∀ args w, (callFunc g args).run Tryz.prog w = .ok (.enter g args) w) (hN : N < 1000) (hk : k ≤ N)
  (hf : ∀ u i, Below w.heap.size w u → i < N → Calls Tryz.prog g (#[.int .i64 i] ++ cb) u fun e w' => e = .returned (.bool (p i)) ∧ ∃ q, w' = u.drewN q)
  (h1 : ∀ i, i < k → p i = false) (h2 : ∀ i, k ≤ i → i < N → p i = true) :
  Calls Tryz.prog 161 #[.int .i64 N, .func (.func g) #[] cb] w fun e w' => e = .returned (.int .i64 k) ∧ Below w.heap.size w w' := by
 have h := Any.sort_Search Tryz.search g cb N p w eg (by omega)
  (fun m os i hi => (hf _ i (below_grown_sl _ w m os (Nat.le_refl _)) hi).mono fun e w' ⟨he, q, hq⟩ => ⟨he, q, #[], by rw [hq, Go.Sort.grow_empty]⟩)
  (fun a b hab hb h => by
   by_cases c : b < k
   ·have := h1 a (by omega); rw [this] at h; cases h
   ·exact h2 b (by omega) hb)
 rw [count_first p N k hk h1 h2] at h
 refine h.mono ?_
 rintro e w' ⟨rfl, q, os, rfl⟩
 exact ⟨rfl, below_grown_sl _ w q os (Nat.le_refl _)⟩

theorem of1_any (n : Int) (i B : Nat) (w : World) (hi : i < 229) (hn : w.cell? ⟨B, 0, none⟩ = some (.int .i64 n)) :
  Calls Tryz.prog 163 (#[.int .i64 i] ++ #[.pointer (some ⟨B, 0, none⟩)]) w fun e w' => e = .returned (.bool (decide (n < yoff (i + 1)))) ∧ ∃ q, w' = w.drewN q := by
 have cN := fun u => newYear_any (1970 + (i : Int) + 1) u (by omega) (by omega)
 rw [show (1970 + (i : Int) + 1 - 1970).toNat = i + 1 by omega] at cN
 generalize yoff (i + 1) = a at *
 have w1 : IntKind.i64.wrap (1970 + (i : Int)) = 1970 + (i : Int) := IntWalk.i64_in _ (by omega)
 have w2 : IntKind.i64.wrap (1970 + (i : Int) + 1) = 1970 + (i : Int) + 1 := IntWalk.i64_in _ (by omega)
 go_enter Tryz.func163, Tryz.ntmps163
 go_wp2
 go_quiet (first | (go_at_call 164; refine Calls.quiet_of_same (cN _)))
 go_wp2
 go_ret
 exact ⟨rfl, _, rfl⟩

theorem of2_any (n y : Int) (i B C : Nat) (w : World) (hi : i < 11) (h1 : 1970 ≤ y) (h2 : y ≤ 2199) (hn : w.cell? ⟨B, 0, none⟩ = some (.int .i64 n)) (hy : w.cell? ⟨C, 0, none⟩ = some (.int .i64 y)) (he : EnvA w) :
  Calls Tryz.prog 165 (#[.int .i64 i] ++ #[.pointer (some ⟨B, 0, none⟩), .pointer (some ⟨C, 0, none⟩)]) w fun e w' => e = .returned (.bool (decide (n < moff y (i + 1)))) ∧ ∃ q, w' = w.drewN q := by
 have cB := fun u (hu : EnvA u) => before_m y ((i : Int) + 2) u h1 h2 (by omega) (by omega) hu
 rw [show ((i : Int) + 2 - 1).toNat = i + 1 by omega] at cB
 generalize moff y (i + 1) = a at *
 have w2 : IntKind.i64.wrap ((i : Int) + 2) = (i : Int) + 2 := IntWalk.i64_in _ (by omega)
 have HE : Hid (EnvA w) := he
 clear he
 go_enter Tryz.func165, Tryz.ntmps165
 go_wp2
 go_quiet (first | (go_at_call 166; refine Calls.quiet_of_same (cB _ (HE.out.drn _))))
 go_wp2
 go_ret
 exact ⟨rfl, _, rfl⟩

theorem of1_enters : ∀ args w, (callFunc 163 args).run Tryz.prog w = .ok (.enter 163 args) w := enters_of Tryz.func163 (by kernel_rfl) rfl
theorem of2_enters : ∀ args w, (callFunc 165 args).run Tryz.prog w = .ok (.enter 165 args) w := enters_of Tryz.func165 (by kernel_rfl) rfl

theorem search_year (n : Int) (k B : Nat) (w : World) (hk : k < 230) (h1 : yoff k ≤ n) (h2 : n < yoff (k + 1)) (hn : w.cell? ⟨B, 0, none⟩ = some (.int .i64 n)) :
  Calls Tryz.prog 161 #[.int .i64 229, .func (.func 163) #[] #[.pointer (some ⟨B, 0, none⟩)]] w fun e w' => e = .returned (.int .i64 k) ∧ Below w.heap.size w w' :=
 search_at 163 _ 229 k (fun i => decide (n < yoff (i + 1))) w of1_enters (by decide) (by omega)
  (fun u i hu hi => of1_any n i B u hi (by rw [hu.cell (World.block_lt_of_cell? _ _ hn)]; exact hn))
  (fun i hi => decide_eq_false (by have := yoff_mono (i + 1) k (by omega); omega))
  (fun i a b => decide_eq_true (by have := yoff_mono (k + 1) (i + 1) (by omega); omega))
theorem search_month (n y : Int) (k B C : Nat) (w : World) (hk : k < 12) (hy1 : 1970 ≤ y) (hy2 : y ≤ 2199) (h1 : moff y k ≤ n) (h2 : n < moff y (k + 1)) (hn : w.cell? ⟨B, 0, none⟩ = some (.int .i64 n)) (hy : w.cell? ⟨C, 0, none⟩ = some (.int .i64 y)) (he : EnvA w) :
  Calls Tryz.prog 161 #[.int .i64 11, .func (.func 165) #[] #[.pointer (some ⟨B, 0, none⟩), .pointer (some ⟨C, 0, none⟩)]] w fun e w' => e = .returned (.int .i64 k) ∧ Below w.heap.size w w' :=
 search_at 165 _ 11 k (fun i => decide (n < moff y (i + 1))) w of2_enters (by decide) (by omega)
  (fun u i hu hi => of2_any n y i B C u hi hy1 hy2 (by rw [hu.cell (World.block_lt_of_cell? _ _ hn)]; exact hn) (by rw [hu.cell (World.block_lt_of_cell? _ _ hy)]; exact hy) (he.below hu))
  (fun i hi => decide_eq_false (by have := moff_mono y (i + 1) k (by omega); omega))
  (fun i a b => decide_eq_true (by have := moff_mono y (k + 1) (i + 1) (by omega); omega))
set_option maxHeartbeats 2000000 in
theorem of_ok (n : Int) (k j : Nat) (w : World) (he : EnvA w) (hk : k < 230) (h1 : yoff k ≤ n) (h2 : n < yoff (k + 1)) (hj : j < 12) (h3 : moff (1970 + k) j ≤ n - yoff k) (h4 : n - yoff k < moff (1970 + k) (j + 1)) :
  Calls Tryz.prog 127 #[.int .i64 n] w fun e w' => e = .returned (.tuple #[.agg #[.int .i64 (1970 + k), .int .i64 (1 + j), .int .i64 (n - yoff k - moff (1970 + k) j + 1)], .nilIface]) ∧ Below w.heap.size w w' := by
 have hmf : ∀ (fn : Go.Fn) (first cap : Array Value) (w : World), (Instr.makeFunc fn first cap).run Tryz.prog w = .ok (.func fn first cap) w := fun _ _ _ _ => rfl
 obtain ⟨a1, a2⟩ := yoff_in k (by omega)
 obtain ⟨b1, b2⟩ := yoff_in (k + 1) (by omega)
 obtain ⟨c1, c2⟩ := moff_in (1970 + k) j (by omega)
 obtain ⟨d1, d2⟩ := moff_in (1970 + k) (j + 1) (by omega)
 have hd : decide (n < 0) = false := decide_eq_false (by omega)
 have hh : decide (84005 < n) = false := decide_eq_false (by omega)
 have cN := fun u => last_any u
 have cY := fun u => newYear_any (1970 + k) u (by omega) (by omega)
 rw [show ((1970 : Int) + k - 1970).toNat = k by omega] at cY
 have cB := fun u (hu : EnvA u) => before_m (1970 + k) (1 + j) u (by omega) (by omega) (by omega) (by omega) hu
 rw [show ((1 : Int) + j - 1).toNat = j by omega] at cB
 have cS := fun B u hB => search_year n k B u hk h1 h2 hB
 have cM := fun B C u hB hC hE => search_month (n - yoff k) (1970 + k) j B C u hj (by omega) (by omega) h3 h4 hB hC hE
 generalize yoff k = a at *
 generalize yoff (k + 1) = b at *
 generalize moff (1970 + k) j = c at *
 generalize moff (1970 + k) (j + 1) = d at *
 have w1 : IntKind.i64.wrap (1970 + (k : Int)) = 1970 + (k : Int) := IntWalk.i64_in _ (by omega)
 have w2 : IntKind.i64.wrap (n - a) = n - a := IntWalk.i64_in _ (by omega)
 have w3 : IntKind.i64.wrap (n - a - c) = n - a - c := IntWalk.i64_in _ (by omega)
 have w4 : IntKind.i64.wrap (n - a - c + 1) = n - a - c + 1 := IntWalk.i64_in _ (by omega)
 have w5 : IntKind.i64.wrap (1 + (j : Int)) = 1 + (j : Int) := IntWalk.i64_in _ (by omega)
 have HE : Hid (EnvA w) := he
 clear he
 have cnt : Mark 0 := .mk _
 go_enter Tryz.func127, Tryz.ntmps127
 go_wp2
 go_quiet (first | (go_at_call 160; refine Calls.quiet_of_same (cN _)))
 go_wp2_with (first | (go_at_call 161; have cq : Mark 0 := cnt; refine (cS w.heap.size _ ((Row.drn (Row.al (Row.made rfl)) : Row _ w.heap.size [.int .i64 n]).c 0 _ rfl)).mono ?_; clear cq cnt; have cnt : Mark 1 := .mk _; rintro e u0 ⟨rfl, hb⟩; have hw : Below w.heap.size w u0 := rbel_on hb (rbel_drn (rbel_al (rbel_al (Below.refl _ _)))); have PN : Row u0 w.heap.size [.int .i64 n] := Row.on hb (Row.drn (Row.al (Row.made rfl))); have PD : Row u0 (w.heap.size + 1) [.int .i64 0, .int .i64 0, .int .i64 0] := Row.on hb (Row.drn (Row.made (by simp))); have cN0 := PN.c 0 _ rfl; have fN0 := PN.f 0 _ rfl; have zN := PN.lt; have zD := PD.lt; clear hb))
 have PN1 : Row (u0.alloc (.cells #[.int .i64 (1970 + (k : Int))] 3)) w.heap.size [.int .i64 n] := Row.al PN
 have PY1 : Row (u0.alloc (.cells #[.int .i64 (1970 + (k : Int))] 3)) u0.heap.size [.int .i64 (1970 + (k : Int))] := Row.made rfl
 have PD1 : Row (u0.alloc (.cells #[.int .i64 (1970 + (k : Int))] 3)) (w.heap.size + 1) [.int .i64 0, .int .i64 0, .int .i64 0] := Row.al PD
 have hw1 : Below w.heap.size w (u0.alloc (.cells #[.int .i64 (1970 + (k : Int))] 3)) := rbel_al hw
 have zY : u0.heap.size < (u0.alloc (.cells #[.int .i64 (1970 + (k : Int))] 3)).heap.size := PY1.lt
 generalize hW : u0.alloc (.cells #[.int .i64 (1970 + (k : Int))] 3) = W1 at *
 clear hW PN PD hw cN0 fN0
 generalize u0.heap.size = Y at *
 have cN1 := PN1.c 0 _ rfl
 have fN1 := PN1.f 0 _ rfl
 have cY1 := PY1.c 0 _ rfl
 have n1 : ¬ (w.heap.size = Y) := by omega
 have n2 : ¬ (Y = w.heap.size) := by omega
 go_region_with (first | (go_at_call 164; refine (cY _).mono ?_; rintro e u1 ⟨rfl, hu⟩; have hw2 : Below w.heap.size w u1 := (by rw [hu]; exact rbel_dr hw1); have PN2 : Row u1 w.heap.size [.int .i64 n] := (by rw [hu]; exact Row.dr PN1); have PY2 : Row u1 Y [.int .i64 (1970 + (k : Int))] := (by rw [hu]; exact Row.dr PY1); have PD2 : Row u1 (w.heap.size + 1) [.int .i64 0, .int .i64 0, .int .i64 0] := (by rw [hu]; exact Row.dr PD1); have cN2 := PN2.c 0 _ rfl; have fN2 := PN2.f 0 _ rfl; have cY2 := PY2.c 0 _ rfl; clear hu))
 all_goals
  have PN3 : Row (u1.setCell ⟨w.heap.size, 0, none⟩ (.int .i64 (n - a))) w.heap.size [.int .i64 (n - a)] := Row.put 0 PN2
  have PY3 : Row (u1.setCell ⟨w.heap.size, 0, none⟩ (.int .i64 (n - a))) Y [.int .i64 (1970 + (k : Int))] := Row.far n1 PY2
  have PD3 : Row (u1.setCell ⟨w.heap.size, 0, none⟩ (.int .i64 (n - a))) (w.heap.size + 1) [.int .i64 0, .int .i64 0, .int .i64 0] := Row.far (by omega) PD2
  have hw3 : Below w.heap.size w (u1.setCell ⟨w.heap.size, 0, none⟩ (.int .i64 (n - a))) := rbel_put (Nat.le_refl _) hw2
  clear PN1 PD1 hw1 PY1 zY cN1 fN1 cY1 hw2 PN2 PY2 PD2 cN2 fN2 cY2
  generalize u1.setCell ⟨w.heap.size, 0, none⟩ (.int .i64 (n - a)) = W3 at *
  have cN3 := PN3.c 0 _ rfl
  have cY3 := PY3.c 0 _ rfl
  go_wp2_with (first | (go_at_call 161; have cq : Mark 1 := cnt; refine (cM w.heap.size Y _ cN3 cY3 (HE.out.below hw3)).mono ?_; clear cq cnt; have cnt : Mark 2 := .mk _; rintro e u2 ⟨rfl, hb⟩; have hw4 : Below w.heap.size w u2 := rbel_on hb hw3; have PN4 := Row.on hb PN3; have PY4 := Row.on hb PY3; have PD4 := Row.on hb PD3; clear hb))
  clear PN3 PY3 PD3 cN3 cY3 hw3
  have cN4 := PN4.c 0 _ rfl
  have cY4 := PY4.c 0 _ rfl
  have cD0 := PD4.c 0 _ rfl
  have cD1 := PD4.c 1 _ rfl
  have cD2 := PD4.c 2 _ rfl
  have fD0 := PD4.f 0 _ rfl
  have fD1 := PD4.f 1 _ rfl
  have fD2 := PD4.f 2 _ rfl
  have n3 : ¬ (w.heap.size + 1 = Y) := by omega
  have n4 : ¬ (Y = w.heap.size + 1) := by omega
  go_region_held (fun w' => w'.cell? ⟨w.heap.size, 0, none⟩ = some (.int .i64 (n - a)) ∧ w'.cell? ⟨Y, 0, none⟩ = some (.int .i64 (1970 + (k : Int)))) (go_keep) (first | (go_at_call 166; refine (cB _ (HE.out.below (rbel_dr hw4))).mono ?_; rintro e u3 ⟨rfl, hu⟩; have hw5 : Below w.heap.size w u3 := (by rw [hu]; exact rbel_dr hw4); have PN5 : Row u3 w.heap.size [.int .i64 (n - a)] := (by rw [hu]; exact Row.dr PN4); have PY5 : Row u3 Y [.int .i64 (1970 + (k : Int))] := (by rw [hu]; exact Row.dr PY4); have PD5 : Row u3 (w.heap.size + 1) [.int .i64 0, .int .i64 0, .int .i64 0] := (by rw [hu]; exact Row.dr PD4); have cN5 := PN5.c 0 _ rfl; have cY5 := PY5.c 0 _ rfl; have g0 := PD5.c 0 _ rfl; have g1 := PD5.c 1 _ rfl; have g2 := PD5.c 2 _ rfl; have f0 := PD5.f 0 _ rfl; have f1 := PD5.f 1 _ rfl; have f2 := PD5.f 2 _ rfl; clear hu))
  all_goals
   go_wp2
   exact bodyPost_ret (v := _) (by simp [results, Tryz.results127, go_sem, *]) rfl ⟨rfl, by (repeat (first | assumption | refine Below.setCell ?_ (by first | (simp; done) | (simp; omega) | omega) _ | apply Below.drew | apply rbel_drn))⟩
end Go.Proofs.YtadkgnbagmnkkakGreatDoor
namespace Go.Proofs.YtadkgnbagmnkkakGreatDoor
open Go.ChangeShapes Go.WideShapes Go.ChangeAt Go.RowKit
set_option linter.unusedVariables false

theorem of_day (n y m d : Int) (w : World) (he : EnvA w) (ok : okD y m d = true) (hd : dnum y m d = n) :
  Calls Tryz.prog 127 #[.int .i64 n] w fun e w' => e = .returned (.tuple #[.agg #[.int .i64 y, .int .i64 m, .int .i64 d], .nilIface]) ∧ Below w.heap.size w w' := by
 obtain ⟨h1, h2, h3, h4, h5, h6⟩ := okD_t ok
 obtain ⟨p1, p2, p3, p4⟩ := dnum_at ok
 rw [hd] at p1 p2 p3 p4
 have ey : (1970 : Int) + ((y - 1970).toNat : Int) = y := by omega
 have em : (1 : Int) + ((m - 1).toNat : Int) = m := by omega
 have k := of_ok n (y - 1970).toNat (m - 1).toNat w he (by omega) p1 p2 (by omega) (by rw [ey]; exact p3) (by rw [ey]; exact p4)
 rw [ey, em] at k
 have ed : n - yoff (y - 1970).toNat - moff y (m - 1).toNat + 1 = d := by rw [← hd]; unfold dnum; omega
 rwa [ed] at k
end Go.Proofs.YtadkgnbagmnkkakGreatDoor
