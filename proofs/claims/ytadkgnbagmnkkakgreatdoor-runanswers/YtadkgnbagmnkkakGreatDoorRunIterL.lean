/- Lines of a text, one by one, as strings.Lines hands them: an iterator that keeps what is left in a cell. -/
import Derived.Test.YtadkgnbagmnkkakGreatDoorSeqCap
import Derived.Test.YtadkgnbagmnkkakGreatDoorNm09
import Derived.Test.YtadkgnbagmnkkakGreatDoorNm08
import Derived.Test.YtadkgnbagmnkkakGreatDoorNm06
import Derived.Test.YtadkgnbagmnkkakGreatDoorShelf
import Derived.RangeFuncNested
import Derived.RangeFuncBound
import Derived.RangeFuncCalls
import Derived.RangeFuncLeaves
import Derived.Shelf.Abstract
import Derived.Shelf.RegionOpen
import Derived.WalkKit
import Derived.OwnWalkIn
import Derived.TacticsInMore
import Derived.LoopNIn
import Derived.LoopIn
namespace Go.Proofs.YtadkgnbagmnkkakGreatDoor.rn
open Go.ChangeShapes Go.WideShapes Go.ChangeAt Go.RowKit Go.Shelf
set_option linter.unusedVariables false
set_option linter.unusedSimpArgs false

attribute [local go_sem] Oper.semAt_some

theorem bas_size (x : List UInt8) : (txt x).size = x.length := rfl
def lnV (x : List UInt8) : Array Value := #[.string (txt x)]
theorem linesL_any (s : ByteArray) (u : World) : Calls Tryz.prog 16 #[.string s] u fun o w' => o = .returned (.func (.func 38) #[] #[.pointer (some ⟨u.heap.size, 0, none⟩)]) ∧ w' = u.alloc (.cells #[.string s] 9) := by
 go_enter Tryz.func16, Tryz.ntmps16
 go_wp2
 go_ret
 exact ⟨rfl, rfl⟩
theorem ixb_any (t : List UInt8) (w : World) : Calls Tryz.prog 39 #[.string (txt t), .int .u8 10] w fun e w' => e = .returned (.int .i64 (Lib.indexByte t 10)) ∧ w' = w := by
 have h := Tryz.stringslite_IndexByte (txt t) 10 w
 change Calls Tryz.prog _ _ _ (fun e w' => e = .returned (.int .i64 (Lib.indexByte t 10)) ∧ w' = w) at h
 generalize Lib.indexByte t 10 = r at *
 go_enter Tryz.func39, Tryz.ntmps39
 go_wp2_with (go_at_call 68; refine h.mono ?_; rintro e w' ⟨rfl, rfl⟩)
 go_ret
 exact ⟨rfl, rfl⟩
theorem bas_ext (t : List UInt8) (a b : Nat) : (txt t).extract a b = txt ((t.take b).drop a) := by
 apply ByteArray.ext
 apply Array.toList_inj.1
 rw [ByteArray.data_extract]
 show (t.toArray.extract a b).toList = ((t.take b).drop a).toArray.toList
 rw [Array.toList_extract, List.drop_take]
def leftL (b : Nat) (w : World) : Nat := match w.cell? ⟨b, 0, none⟩ with
 | some (.string s) => s.size
 | _ => 0
theorem leftL_eq {b : Nat} {w : World} {t : List UInt8} (h : w.cell? ⟨b, 0, none⟩ = some (.string (txt t))) : leftL b w = t.length := by unfold leftL; rw [h]; rfl
set_option maxRecDepth 100000 in
set_option maxHeartbeats 4000000 in
theorem linesL_feed (n : Nat) (hn : 2 ≤ n) (b : Nat) (s : List UInt8) (w : World) (hs : s.length ≤ 3000) (hb : Blk w 9 b [.string (txt s)]) :
  Feeds Fence.wide n Tryz.prog 38 #[.pointer (some ⟨b, 0, none⟩)] lnV (fun _ => True) b (linH s) w := by
 intro l J W hlt hW hE hJ hY h0
 have h1 : 1 ≤ n := by omega
 have hbW : Blk W 9 b [.string (txt s)] := hW.trans hb
 refine callsIn_of_wp Tryz.func38 rfl trivial ?_ rfl
 simp only [Tryz.ntmps38, List.size_toArray, List.length_cons, List.length_nil, Nat.reduceAdd, Nat.reduceSub, Array.replicate_succ, Array.replicate_zero, List.push_toArray, List.append_toArray, List.nil_append, List.cons_append]
 gi_wp2
 gi_loopw [] (fun wr => ∃ (pre : List (List UInt8)) (t : List UInt8), Blk wr 9 b [.string (txt t)] ∧ linH s = pre ++ linH t ∧ t.length ≤ 3000 ∧ J pre wr) (fun wr => leftL b wr)
 case atStart =>
  exact ⟨[], s, hbW, rfl, hs, h0⟩
 case round =>
  obtain ⟨pre, t, hbt, hl, ht, hj⟩ := hrel
  have hc := Blk.c hbt 0 _ rfl
  have hf := Blk.f hbt 0
  by_cases tn : t = []
  ·have z : (txt t).size = 0 := by rw [bas_size, tn]; rfl
   gi_wp2
   go_end0
   refine ⟨⟨_, rfl⟩, ?_⟩
   rw [hl, tn, linH_nil, List.append_nil]
   exact hj
  ·have lx := linH_step tn
   have ll := lnR_lt tn
   have z : 0 < (txt t).size := by rw [bas_size]; exact List.length_pos_iff.2 tn
   rw [lx] at hl
   have HL := hl
   clear lx tn
   have hge := Lib.indexByte_ge t 10
   by_cases e : Lib.indexByte t 10 = -1
   ·obtain ⟨e1, e2⟩ := lnH_no e
    rw [e2] at ll
    have cI := fun w => ixb_any t w
    rw [e] at cI
    have BT : Hid (Blk wr 9 b [.string (txt t)]) := hbt
    have HJ : Hid (J pre wr) := hj
    clear hbt hj
    gi_wp2_with (refine ⟨trivial, ?_⟩; gi_at_call 39; refine (callsIn_wide.2 (cI _)).mono ?_; rintro e w' ⟨rfl, hw'⟩; rw [hw']; clear hw' w'; obtain ⟨fn, tmps, assign, body, hy, hR⟩ := hY pre (lnH t) (wr.setCell ⟨b, 0, none⟩ (.string ⟨#[]⟩)) (hJ _ _ _ HJ.out (Keeps.put rfl (Keeps.refl _ _))) ⟨linH (lnR t), by rw [hl]; simp⟩; dsimp only [lnV] at hy; rw [e1] at hy)
    refine hR.mono ?_
    rintro e W3 ⟨rfl, hj3, hz3, hb3⟩
    have hbt3 : Blk W3 9 b [.string ⟨#[]⟩] := hb3.trans (Blk.put 0 BT.out)
    have c3 := Blk.c hbt3 0 _ rfl
    gi_wp2
    go_roundw
    case rel => exact ⟨pre ++ [lnH t], [], hbt3, by rw [HL, e2]; simp, by simp, hj3⟩
    case measure =>
     rw [leftL_eq hc, leftL_eq (t := []) c3]
     exact ll
   ·obtain ⟨o, ho⟩ : ∃ o : Nat, Lib.indexByte t 10 = o := ⟨(Lib.indexByte t 10).toNat, by omega⟩
    obtain ⟨lt, e1, e2⟩ := lnH_yes ho
    have cI := fun w => ixb_any t w
    rw [ho] at cI
    have q0 : o + 1 ≤ (txt t).size := by rw [bas_size]; omega
    have q1 : (o : Int) + 1 ≤ ((txt t).size : Int) := by omega
    have q2 : ((txt t).size : Int) ≤ 3000 := by rw [bas_size]; omega
    gi_wp2_with (refine ⟨trivial, ?_⟩; gi_at_call 39; refine (callsIn_wide.2 (cI _)).mono ?_; rintro e w' ⟨rfl, rfl⟩)
    have E1 : Hid (lnH t = List.take (o + 1) t) := e1
    have E2 : Hid (lnR t = List.drop (o + 1) t) := e2
    clear e1 e2
    gi_region
    have hj2 := hJ _ _ _ hj (Keeps.dr (Keeps.put (S := fun k => k = b) (p := ⟨b, 0, none⟩) (x := .string ((txt t).extract (o + 1) (txt t).size)) rfl (Keeps.refl _ _)))
    have hbt2 : Blk (w'.setCell ⟨b, 0, none⟩ (.string ((txt t).extract (o + 1) (txt t).size))).drew 9 b [.string ((txt t).extract (o + 1) (txt t).size)] := Blk.put 0 hbt
    obtain ⟨fn, tmps, assign, body, hy, hR⟩ := hY pre (lnH t) _ hj2 ⟨linH (lnR t), by rw [hl]; simp⟩
    dsimp only [lnV] at hy
    rw [E1.out, show txt (t.take (o + 1)) = (txt t).extract 0 (o + 1) by rw [bas_ext]; rfl] at hy
    have er : Hid ((txt t).extract (o + 1) (txt t).size = txt (lnR t)) := by show _ = _; rw [bas_ext, bas_size, List.take_length, E2.out]
    gi_wp2
    refine hR.mono ?_
    rintro e W3 ⟨rfl, hj3, hz3, hb3⟩
    have hbt3 := hb3.trans hbt2
    rw [er.out] at hbt3
    have c3 := Blk.c hbt3 0 _ rfl
    gi_wp2
    go_roundw
    case rel => exact ⟨pre ++ [lnH t], lnR t, hbt3, by rw [HL]; simp, by omega, hj3⟩
    case measure =>
     rw [leftL_eq hc, leftL_eq c3]
     exact ll
end Go.Proofs.YtadkgnbagmnkkakGreatDoor.rn
