/- The ways through the law RunBegins. -/
import Derived.Test.YtadkgnbagmnkkakGreatDoorNm08
import Derived.Test.YtadkgnbagmnkkakGreatDoorNm09
import Derived.Test.YtadkgnbagmnkkakGreatDoorNm05
import Derived.Deep.RegionHeld
import Derived.Deep.RegionWith
import Derived.Deep.CutRange
import Derived.Deep.CutBlock
import Derived.Deep.QuietTactic
import Derived.BigQuiet
import Derived.BigRegion
import Derived.IntWalk
namespace Go.Proofs.YtadkgnbagmnkkakGreatDoor.rn
open Go.ChangeShapes Go.WideShapes Go.ChangeAt Go.RowKit Go.Joins
set_option linter.unusedVariables false
set_option linter.unusedSimpArgs false

def BgI (l : List UInt8) (many : Int) (k n : Nat) : Prop := (n : Int) < many ∨ k = 0 ∨ ∃ p, l.take k = p ++ [10]
theorem ext_take (s : ByteArray) (k : Nat) : (s.extract 0 k).data.toList = s.data.toList.take k := by
 rw [← pcB_ex]
 show pcB s.data.toList 0 k = _
 unfold pcB
 rw [List.drop_zero]
theorem ext_pre (r1 r2 : List UInt8) : (⟨(r1 ++ r2).toArray⟩ : ByteArray).extract 0 r1.length = ⟨r1.toArray⟩ := by
 have e := ext_take ⟨(r1 ++ r2).toArray⟩ r1.length
 apply ByteArray.ext
 apply Array.toList_inj.1
 rw [e]
 show (r1 ++ r2).take r1.length = r1
 simp
set_option maxRecDepth 100000 in
set_option maxHeartbeats 40000000 in
theorem all_ways (s : ByteArray) (many : Int) (w : World) (O : RnC w) (hs : s.size ≤ 9223372036854775807) (hm : In64 many) :
  Calls Tryz.prog 4 #[.string s, .int .i64 many] w fun o w' => o = .returned (.bool true) ∧ Below w.heap.size w w' := by
 have cF : Calls Tryz.prog 6 #[.string ⟨#[103, 111, 32, 49, 48, 10, 115, 104, 111, 119, 32, 49, 10, 102, 108, 121, 10, 100, 97, 116, 101, 32, 56, 54, 51, 57, 57, 10]⟩] w fun o w' => o = .returned (.string ⟨factA.toArray⟩) ∧ Below w.heap.size w w' := O.run ⟨#[103, 111, 32, 49, 48, 10, 115, 104, 111, 119, 32, 49, 10, 102, 108, 121, 10, 100, 97, 116, 101, 32, 56, 54, 51, 57, 57, 10]⟩ factA w (by decide) (Below.refl _ _) fact_run
 have tF : ((⟨factA.toArray⟩ : ByteArray).toList == [111, 107, 10, 49, 48, 48, 57, 10, 98, 97, 100, 10, 49, 57, 55, 48, 45, 48, 49, 45, 48, 49, 84, 50, 51, 58, 53, 57, 58, 53, 57, 10]) = true := by rw [toList_data]; decide
 generalize (⟨factA.toArray⟩ : ByteArray) = FA at *
 have cnt : Mark 0 := .mk _
 have sl : s.data.toList.length = s.size := rfl
 by_cases hl : 3000 < s.size
 ·have hl3 : (3000 : Int) < s.size := by omega
  have cR := fun u hu => O.run s _ u hs hu (Or.inl ⟨by rw [sl]; exact hl, rfl⟩)
  have tl : ((⟨([116, 111, 111, 32, 108, 111, 110, 103, 10] : List UInt8).toArray⟩ : ByteArray).toList == [116, 111, 111, 32, 108, 111, 110, 103, 10]) = true := by rw [toList_data]; decide
  generalize (⟨([116, 111, 111, 32, 108, 111, 110, 103, 10] : List UInt8).toArray⟩ : ByteArray) = TL at *
  go_enter Tryz.func4, Tryz.ntmps4
  go_wp2_with (first
   | (go_at_call 6; have cm : Mark 0 := cnt; clear cm cnt; have cnt : Mark 1 := .mk _; refine (cF).mono ?_; rintro o u1 ⟨rfl, hb⟩; have B1 : Hid (Below w.heap.size w u1) := hb; clear hb)
   | (go_at_call 6; have cm : Mark 1 := cnt; clear cm cnt; have cnt : Mark 2 := .mk _; refine (cR _ B1.out).mono ?_; rintro o u2 ⟨rfl, hb⟩; have B2 : Hid (Below w.heap.size w u2) := rbel_on hb B1.out; clear hb))
  go_ret
  exact ⟨rfl, B2.out⟩
 ·have hl3 : ¬ ((3000 : Int) < s.size) := by omega
  obtain ⟨r, hr⟩ := run_some s.data.toList
  have cR := fun u hu => O.run s r u hs hu hr
  have cB := fun (k : Nat) (r1 : List UInt8) (h : RunR (s.data.toList.take k) r1) u hu => O.run (s.extract 0 k) r1 u (by rw [Lib.size_eq, ext_take, List.length_take]; have : s.data.toList.length = s.size := rfl; omega) hu (by rw [ext_take]; exact h)
  have HR : Hid (RunR s.data.toList r) := hr
  clear hr
  go_enter Tryz.func4, Tryz.ntmps4
  go_wp2_with (go_at_call 6; have cm : Mark 0 := cnt; clear cm cnt; have cnt : Mark 1 := .mk _; refine (cF).mono ?_; rintro o u1 ⟨rfl, hb⟩; have B1 : Hid (Below w.heap.size w u1) := hb; clear hb)
  go_loopw [7, 8] (fun vk vn wr => ∃ k n : Nat, k ≤ s.size ∧ n ≤ k ∧ vk = .int .i64 k ∧ vn = .int .i64 n ∧ BgI s.data.toList many k n ∧ Below w.heap.size w wr) (fun vk _ _ => s.size - (intOf vk).toNat)
  case atStart => exact ⟨0, 0, Nat.zero_le _, Nat.le_refl _, rfl, rfl, Or.inr (Or.inl rfl), B1.out⟩
  case round =>
   clear B1
   obtain ⟨k, n, hk, hn, rfl, rfl, hI, hw⟩ := hrel
   have HI : Hid (BgI s.data.toList many k n) := hI
   have HW : Hid (Below w.heap.size w wr) := hw
   clear hI hw
   by_cases hlt : k < s.size ∧ (n : Int) < many
   ·obtain ⟨q1, q2⟩ := hlt
    have q3 : (k : Int) < s.size := by omega
    have eg : s.data.toList[k]'(by rw [sl]; exact q1) = s[k] := rfl
    by_cases e : s[k] = 10
    ·have t1 : ((s[k].toNat : Int) == 10) = true := by rw [e]; rfl
     have t2 : (s[k].toNat : Int) = 10 := by rw [e]; rfl
     have HN : Hid (BgI s.data.toList many (k + 1) (n + 1)) := Or.inr (Or.inr ⟨s.data.toList.take k, by rw [List.take_succ_eq_append_getElem (by rw [sl]; exact q1), eg, e]⟩)
     go_wp2_with (fail)
     go_roundw
     case rel => exact ⟨k + 1, n + 1, by omega, by omega, by go_num, by go_num, HN.out, HW.out⟩
     case measure => simp [intOf]; omega
    ·have t2 : ¬ ((s[k].toNat : Int) = 10) := by
      intro q
      apply e
      apply UInt8.toNat_inj.1
      show s[k].toNat = 10
      omega
     have t1 : ((s[k].toNat : Int) == 10) = false := by simpa using t2
     have HN : Hid (BgI s.data.toList many (k + 1) n) := Or.inl q2
     go_wp2_with (fail)
     go_roundw
     case rel => exact ⟨k + 1, n, by omega, by omega, by go_num, rfl, HN.out, HW.out⟩
     case measure => simp [intOf]; omega
   ·have hE : k = 0 ∨ s.data.toList.length ≤ k ∨ ∃ p, s.data.toList.take k = p ++ [10] := by
     rw [sl]
     rcases HI.out with q | q | q
     ·exact Or.inr (Or.inl (by omega))
     ·exact Or.inl q
     ·exact Or.inr (Or.inr q)
    obtain ⟨r1, r2, h1, er⟩ := run_begin (by rw [sl]; omega) hE HR.out
    have b1 := h1.len
    have b2 := HR.out.len
    have z1 : (⟨r1.toArray⟩ : ByteArray).size = r1.length := by show r1.toArray.size = _; simp
    have z2 : (⟨r.toArray⟩ : ByteArray).size = r.length := by show r.toArray.size = _; simp
    have lr : r1.length ≤ r.length := by rw [er, List.length_append]; omega
    have ex : (⟨r.toArray⟩ : ByteArray).extract 0 (⟨r1.toArray⟩ : ByteArray).size = ⟨r1.toArray⟩ := by rw [z1, er]; exact ext_pre r1 r2
    have cA := cB k r1 h1
    have k3 : (k : Int) ≤ s.size := by omega
    have le3 : (⟨r1.toArray⟩ : ByteArray).size ≤ (⟨r.toArray⟩ : ByteArray).size := by rw [z1, z2]; exact lr
    have le4 : (((⟨r1.toArray⟩ : ByteArray).size : Nat) : Int) ≤ (((⟨r.toArray⟩ : ByteArray).size : Nat) : Int) := by omega
    have s1 : (⟨r1.toArray⟩ : ByteArray).size ≤ 183061 := by rw [z1]; exact b1
    have s2 : (⟨r.toArray⟩ : ByteArray).size ≤ 183061 := by rw [z2]; exact b2
    generalize (⟨r1.toArray⟩ : ByteArray) = RA at *
    generalize (⟨r.toArray⟩ : ByteArray) = RB at *
    clear hE HI er h1 b1 b2 z1 z2 lr cB HR
    by_cases c1 : k < s.size
    ·have c2 : (k : Int) < s.size := by omega
     have c3 : ¬ ((n : Int) < many) := fun q => hlt ⟨c1, q⟩
     clear hlt
     go_wp2_with (first
      | (go_at_call 6; have cm : Mark 1 := cnt; clear cm cnt; have cnt : Mark 2 := .mk _; refine (cA _ HW.out).mono ?_; rintro o u2 ⟨rfl, hb⟩; have B2 : Hid (Below w.heap.size w u2) := rbel_on hb HW.out; clear hb)
      | (go_at_call 6; have cm : Mark 2 := cnt; clear cm cnt; have cnt : Mark 3 := .mk _; refine (cR _ B2.out).mono ?_; rintro o u3 ⟨rfl, hb⟩; have B3 : Hid (Below w.heap.size w u3) := rbel_on hb B2.out; clear hb))
     go_ret
     exact ⟨rfl, B3.out⟩
    ·have c2 : ¬ ((k : Int) < s.size) := by omega
     clear hlt
     go_wp2_with (first
      | (go_at_call 6; have cm : Mark 1 := cnt; clear cm cnt; have cnt : Mark 2 := .mk _; refine (cA _ HW.out).mono ?_; rintro o u2 ⟨rfl, hb⟩; have B2 : Hid (Below w.heap.size w u2) := rbel_on hb HW.out; clear hb)
      | (go_at_call 6; have cm : Mark 2 := cnt; clear cm cnt; have cnt : Mark 3 := .mk _; refine (cR _ B2.out).mono ?_; rintro o u3 ⟨rfl, hb⟩; have B3 : Hid (Below w.heap.size w u3) := rbel_on hb B2.out; clear hb))
     go_ret
     exact ⟨rfl, B3.out⟩
end Go.Proofs.YtadkgnbagmnkkakGreatDoor.rn
