/- What the document's own reckoning (package noonref1) answers of bounds: Tight. -/
import Derived.Test.YtadkgnbagmnkkakGreatDoorNm06
import Derived.Test.YtadkgnbagmnkkakGreatDoorNm03
import Derived.Test.YtadkgnbagmnkkakGreatDoorNm27
import Derived.Deep.QuietTactic
import Derived.BigQuiet
import Derived.IntWalk
import Derived.Lib.SmallJoins
import Derived.Deep.CutRange
import Derived.BigRegion
namespace Go.Proofs.YtadkgnbagmnkkakGreatDoor
open Go.ChangeShapes Go.WideShapes Go.ChangeAt Go.RowKit Go.Joins
set_option linter.unusedVariables false
set_option linter.unusedSimpArgs false

theorem need_same {U : Tb} {i a b : Nat} {c : Int} (h : need U i a b c = false) : rlx U i a b c = U := by
 unfold need at h
 cases ea : U i a with
 | none => exact rlx_same _ _ _ _ _ (Or.inl ea)
 | some x =>
  rw [ea] at h
  cases eb : U i b with
  | none => rw [eb] at h; cases h
  | some y => rw [eb] at h; exact rlx_same _ _ _ _ _ (Or.inr ⟨x, y, ea, eb, of_decide_eq_false h⟩)
theorem need_upd {U : Tb} {i a b : Nat} {c : Int} (h : need U i a b c = true) : ∃ x, U i a = some x ∧ rlx U i a b c = upd U i b (x + c) := by
 unfold need at h
 cases ea : U i a with
 | none => rw [ea] at h; cases h
 | some x =>
  rw [ea] at h
  refine ⟨x, rfl, ?_⟩
  cases eb : U i b with
  | none => exact rlx_upd _ _ _ _ _ x ea (Or.inl eb)
  | some y => rw [eb] at h; exact rlx_upd _ _ _ _ _ x ea (Or.inr ⟨y, eb, of_decide_eq_true h⟩)
theorem infoInts : (Tryz.prog.info? 27).map (fun i => (i.zero, i.size, i.bytes)) = some (some (.slice none 0 0), 1, 24) := by kernel_rfl
theorem infoBools : (Tryz.prog.info? 127).map (fun i => (i.zero, i.size, i.bytes)) = some (some (.slice none 0 0), 1, 24) := by kernel_rfl
theorem infoInt : (Tryz.prog.info? 3).map (fun i => (i.zero, i.size, i.bytes)) = some (some (.int .i64 0), 1, 8) := by kernel_rfl
theorem infoBool : (Tryz.prog.info? 4).map (fun i => (i.zero, i.size, i.bytes)) = some (some (.bool false), 1, 1) := by kernel_rfl
theorem made_cells (z : Value) (hz : z.cells = #[z]) (n : Nat) : madeCells z.cells (n * 1) = (List.replicate n z).toArray := by
 rw [hz, Nat.mul_one]
 apply Array.ext
 ·simp [madeCells]
 ·intro i h1 h2
  simp [madeCells, Nat.mod_one]
section
variable {W u : World} {e e' : TypeId} {b base n size size' : Nat} {v v' : Value} {vs xs xs' : List Value}
theorem blk_own_ne (h : Blk W e b vs) (o : W.ownsRow base e' size v n xs) (ne : e ≠ e') : some b ≠ v.ownBlock := by
 rcases o.2 with ⟨rfl, _⟩ | ⟨g, cap, cur, rfl, _, hg, _⟩
 ·simp [Value.ownBlock]
 ·intro k
  simp [Value.ownBlock] at k
  subst k
  unfold Blk at h
  rw [h] at hg
  simp at hg
  exact ne hg.2
theorem own_own_ne {n' : Nat} (o : W.ownsRow base e size v n xs) (o' : W.ownsRow base e' size' v' n' xs') (ne : e ≠ e') : v.ownBlock = none ∨ v.ownBlock ≠ v'.ownBlock := by
 rcases o.2 with ⟨rfl, _⟩ | ⟨g, cap, cur, rfl, _, hg, _⟩
 ·exact Or.inl rfl
 ·right
  rcases o'.2 with ⟨rfl, _⟩ | ⟨g', cap', cur', rfl, _, hg', _⟩
  ·simp [Value.ownBlock]
  ·intro k
   simp [Value.ownBlock] at k
   subst k
   rw [hg] at hg'
   simp at hg'
   exact ne hg'.2
end
theorem tb0_rowD (n i : Nat) : rowD tb0 n i = List.replicate n (.int .i64 0) := by
 apply List.ext_getElem?
 intro k
 by_cases hk : k < n
 ·rw [rowD_at _ _ _ _ hk]
  simp only [List.getElem?_replicate, hk, if_true, tb0]
  split <;> rfl
 ·rw [List.getElem?_eq_none (by simp [rowD]; omega), List.getElem?_eq_none (by simp; omega)]
theorem tb0_rowH (n i : Nat) : rowH tb0 n i = (List.replicate n (.bool false)).set i (.bool true) := by
 apply List.ext_getElem?
 intro k
 by_cases hk : k < n
 ·rw [rowH_at _ _ _ _ hk]
  by_cases e : i = k
  ·subst e
   rw [List.getElem?_set_self (by simpa using hk)]
   simp [tb0]
  ·rw [List.getElem?_set_ne e]
   simp [tb0, e, hk]
 ·rw [List.getElem?_eq_none (by simp [rowH]; omega), List.getElem?_eq_none (by simp; omega)]
structure Rws (u : World) (s n k : Nat) (Db Hb : Nat → Nat) : Prop where
 lo : ∀ j, j < k → s ≤ Db j ∧ s ≤ Hb j
 d : ∀ j, j < k → Blk u 3 (Db j) (List.replicate n (.int .i64 0))
 h : ∀ j, j < k → Blk u 4 (Hb j) ((List.replicate n (.bool false)).set j (.bool true))
 upD : ∀ i j, i < j → j < k → Db i < Db j
 upH : ∀ i j, i < j → j < k → Hb i < Hb j
theorem mk_ints (n : Nat) (h6 : n ≤ 6) (W : World) : (Instr.makeSlice 27 (.int .i64 n) (.int .i64 n)).run Tryz.prog W = .ok (.slice (some ⟨W.heap.size, 0, none⟩) n n) (W.alloc (.cells (List.replicate n (.int .i64 0)).toArray 3)) := by
 obtain ⟨i0, hi0, hz0, hz1, hz2⟩ := info_parts infoInt
 have h := run_makeSlice W 27 3 i0 _ Tryz.underlying27 hi0 hz0 .i64 .i64 n n (by omega) (by omega) (by rw [hz1]; simp; omega) (by rw [hz2]; simp; omega) (by omega)
 rw [hz1, Int.toNat_natCast, made_cells _ rfl n] at h
 exact h
theorem mk_bools (n : Nat) (h6 : n ≤ 6) (W : World) : (Instr.makeSlice 127 (.int .i64 n) (.int .i64 n)).run Tryz.prog W = .ok (.slice (some ⟨W.heap.size, 0, none⟩) n n) (W.alloc (.cells (List.replicate n (.bool false)).toArray 4)) := by
 obtain ⟨i0, hi0, hz0, hz1, hz2⟩ := info_parts infoBool
 have h := run_makeSlice W 127 4 i0 _ Tryz.underlying127 hi0 hz0 .i64 .i64 n n (by omega) (by omega) (by rw [hz1]; simp; omega) (by rw [hz2]; simp; omega) (by omega)
 rw [hz1, Int.toNat_natCast, made_cells _ rfl n] at h
 exact h
def TightR (q : Nat → Eg) (n m : Nat) (e : Ending) (w' : World) : Prop :=
 (Neg (Arc q m) n ∧ e = .returned (.tuple #[.slice none 0 0, .slice none 0 0, .bool false])) ∨
 (¬ Neg (Arc q m) n ∧ ∃ (gd cd gh ch : Nat) (Db Hb : Nat → Nat) (S : Tb), e = .returned (.tuple #[.slice (some ⟨gd, 0, none⟩) n cd, .slice (some ⟨gh, 0, none⟩) n ch, .bool true]) ∧ Tab w' gd gh n Db Hb S ∧
  ∀ i k, i < n → (∀ x, S i k = some x → Dst (Arc q m) i k x) ∧ (S i k = none → ∀ r c, ¬ Wk (Arc q m) r i k c))
set_option maxRecDepth 100000 in
set_option maxHeartbeats 8000000 in
theorem rtight_any (n : Nat) (a : Option Addr) (m cap : Nat) (q : Nat → Eg) (w : World) (hE : Egs n q m) (hH : EHanded w a m q) :
  Calls Tryz.prog 79 #[.int .i64 n, .slice a m cap] w fun e w' => TightR q n m e w' ∧ Below w.heap.size w w' := by
 have hP := hH.2
 have h1 : 1 ≤ n := by have := hE.n1; omega
 have h6 : n ≤ 6 := by have := hE.n6; omega
 have h40 := hE.m40
 have HE : Hid (Egs n q m) := hE
 have HP : Hid (m = 0 ∨ ∃ b off : Nat, a = some ⟨b, off, none⟩ ∧ Esp w b off m q) := hP
 clear hE hP hH
 obtain ⟨i0, hi0, hz0, hz1, hz2⟩ := info_parts infoInts
 obtain ⟨j0, hj0, jz0, jz1, jz2⟩ := info_parts infoBools
 go_enter Tryz.func79, Tryz.ntmps79
 go_wp2
 go_loopw [7, 8, 9] (fun d h i wr => ∃ (k : Nat) (Db Hb : Nat → Nat), k ≤ n ∧ i = .int .i64 k ∧
   wr.ownsRow w.heap.size 27 1 d k ((List.range k).map fun j => .slice (some ⟨Db j, 0, none⟩) n n) ∧ wr.ownsRow w.heap.size 127 1 h k ((List.range k).map fun j => .slice (some ⟨Hb j, 0, none⟩) n n) ∧ Rws wr w.heap.size n k Db Hb ∧ Below w.heap.size w wr) (fun _ _ i _ => n - (intOf i).toNat)
 case atStart => exact ⟨0, fun _ => 0, fun _ => 0, Nat.zero_le _, rfl, World.ownsRow_nil _ _ _ _, World.ownsRow_nil _ _ _ _, ⟨fun j hj => by omega, fun j hj => by omega, fun j hj => by omega, fun i j _ hj => by omega, fun i j _ hj => by omega⟩, Below.refl _ _⟩
 case round =>
  obtain ⟨k, Db, Hb, hk, rfl, hO1, hO2, hR, hw⟩ := hrel
  have zw := hw.size
  by_cases hlt : k < n
  ·have hl3 : (k : Int) < n := by omega
   have mI := mk_ints n h6
   have mB := mk_bools n h6
   have cB : ∀ W : World, (W.alloc (.cells (List.replicate n (.bool false)).toArray 4)).cell? ⟨W.heap.size, k, none⟩ = some (.bool false) := fun W => by
    rw [World.cell?_alloc_at _ _ _ _ rfl]; simp [hlt]
   have cB' := cB (wr.alloc (.cells (List.replicate n (.int .i64 0)).toArray 3))
   simp only [World.size_alloc] at cB'
   have fB : ((wr.alloc (.cells (List.replicate n (.int .i64 0)).toArray 3)).alloc (.cells (List.replicate n (.bool false)).toArray 4)).frozen? ⟨wr.heap.size + 1, k, none⟩ = false := World.frozen?_alloc_at _ _ _ _ (by simp)
   go_upto_region 9 with (fail)
   have BD : Blk ((wr.alloc (.cells (Array.replicate n (.int .i64 0)) 3)).alloc (.cells ((Array.replicate n (.bool false)).setIfInBounds k (.bool true)) 4)) 3 wr.heap.size (List.replicate n (.int .i64 0)) := by
    rw [show Array.replicate n (Value.int .i64 0) = (List.replicate n (Value.int .i64 0)).toArray by simp]
    exact Blk.al (Blk.made rfl)
   have BH : Blk ((wr.alloc (.cells (Array.replicate n (.int .i64 0)) 3)).alloc (.cells ((Array.replicate n (.bool false)).setIfInBounds k (.bool true)) 4)) 4 (wr.heap.size + 1) ((List.replicate n (.bool false)).set k (.bool true)) := by
    rw [show (Array.replicate n (Value.bool false)).setIfInBounds k (.bool true) = ((List.replicate n (Value.bool false)).set k (.bool true)).toArray by apply Array.toList_inj.1; simp]
    exact Blk.made (by simp)
   have RW : Rws ((wr.alloc (.cells (Array.replicate n (.int .i64 0)) 3)).alloc (.cells ((Array.replicate n (.bool false)).setIfInBounds k (.bool true)) 4)) w.heap.size n k Db Hb := ⟨hR.lo, fun j hj => (hR.d j hj).al.al, fun j hj => (hR.h j hj).al.al, hR.upD, hR.upH⟩
   have OO1 := (hO1.alloc (.cells (Array.replicate n (.int .i64 0)) 3)).alloc (.cells ((Array.replicate n (.bool false)).setIfInBounds k (.bool true)) 4)
   have OO2 := (hO2.alloc (.cells (Array.replicate n (.int .i64 0)) 3)).alloc (.cells ((Array.replicate n (.bool false)).setIfInBounds k (.bool true)) 4)
   have hw3 : Below w.heap.size w ((wr.alloc (.cells (Array.replicate n (.int .i64 0)) 3)).alloc (.cells ((Array.replicate n (.bool false)).setIfInBounds k (.bool true)) 4)) := rbel_al (rbel_al hw)
   have hDl : ∀ j, j < k → Db j < wr.heap.size := fun j hj => (hR.d j hj).lt
   have hHl : ∀ j, j < k → Hb j < wr.heap.size + 1 := fun j hj => Nat.lt_succ_of_lt (hR.h j hj).lt
   generalize (wr.alloc (.cells (Array.replicate n (.int .i64 0)) 3)).alloc (.cells ((Array.replicate n (.bool false)).setIfInBounds k (.bool true)) 4) = W3 at *
   have HDL : Hid (∀ j, j < k → Db j < wr.heap.size) := hDl
   have HHL : Hid (∀ j, j < k → Hb j < wr.heap.size + 1) := hHl
   clear hR hO1 hO2 hw mI mB cB cB' fB hDl hHl
   generalize wr.heap.size = B at *
   have zw3 := hw3.size
   go_wp2_with (at_builtin; refine wpList_append_own _ rfl _ _ 170 rfl w.heap.size 27 i0 (.slice none 0 0) 1 24 Tryz.underlying170 hi0 hz0 hz1 hz2 rfl (by decide) _ _ _ rfl (OO1.alloc _) ⟨W3.heap.size, 0, none⟩ 1 1 [.slice (some ⟨B, 0, none⟩) n n] rfl rfl ?c1 ?c2 ?c3 ?c4 ?c5 ?_)
   case c1 =>
    intro j u hj
    rw [Addr.add_lit, World.cell?_alloc_at _ _ _ _ (by simp)]
    simpa using hj
   case c2 =>
    intro u hu
    simp at hu
    subst hu
    rfl
   case c3 => unfold maxLen; omega
   case c4 => omega
   case c5 => simp; omega
   intro v7 w1 hN1 hg1 _
   have gl : ∀ t, (W3.alloc (.cells #[.slice (some ⟨B, 0, none⟩) n n] t)).heap.size = W3.heap.size + 1 := fun t => by simp
   have P2 : w1.ownsRow w.heap.size 127 1 u8 k ((List.range k).map fun j => .slice (some ⟨Hb j, 0, none⟩) n n) := (OO2.alloc _).kept hg1 (own_own_ne OO2 OO1 (by decide))
   have QD : Blk w1 3 B (List.replicate n (.int .i64 0)) := Blk.grown hg1 (blk_own_ne BD OO1 (by decide)) BD.al
   have QH : Blk w1 4 (B + 1) ((List.replicate n (.bool false)).set k (.bool true)) := Blk.grown hg1 (blk_own_ne BH OO1 (by decide)) BH.al
   have QR : Rws w1 w.heap.size n k Db Hb := ⟨RW.lo, fun j hj => Blk.grown hg1 (blk_own_ne (RW.d j hj) OO1 (by decide)) (RW.d j hj).al, fun j hj => Blk.grown hg1 (blk_own_ne (RW.h j hj) OO1 (by decide)) (RW.h j hj).al, RW.upD, RW.upH⟩
   have hw4 : Below w.heap.size w w1 := (rbel_al hw3).grown hg1 (by simp; omega) (fun j hj => (OO1.lt j hj).1)
   have zw4 := hw4.size
   clear hg1 OO1 OO2 BD BH RW hw3 gl
   go_wp2_with (at_builtin; refine wpList_append_own _ rfl _ _ 124 rfl w.heap.size 127 j0 (.slice none 0 0) 1 24 Tryz.underlying124 hj0 jz0 jz1 jz2 rfl (by decide) _ _ _ rfl (P2.alloc _) ⟨w1.heap.size, 0, none⟩ 1 1 [.slice (some ⟨B + 1, 0, none⟩) n n] rfl rfl ?c1 ?c2 ?c3 ?c4 ?c5 ?_)
   case c1 =>
    intro j u hj
    rw [Addr.add_lit, World.cell?_alloc_at _ _ _ _ (by simp)]
    simpa using hj
   case c2 =>
    intro u hu
    simp at hu
    subst hu
    rfl
   case c3 => unfold maxLen; omega
   case c4 => omega
   case c5 => simp; omega
   intro v8 w2 hN2 hg2 _
   have N1 : Hid (w2.ownsRow w.heap.size 27 1 v7 (k + 1) ((List.range (k + 1)).map fun j => .slice (some ⟨(fun j => if j = k then B else Db j) j, 0, none⟩) n n)) := by
    show w2.ownsRow _ _ _ _ _ _
    have h := (hN1.alloc _).kept hg2 (own_own_ne hN1 P2 (by decide))
    rw [List.range_succ, List.map_append]
    rw [show (List.range k).map (fun j => Value.slice (some ⟨(fun j => if j = k then B else Db j) j, 0, none⟩) n n) = (List.range k).map (fun j => .slice (some ⟨Db j, 0, none⟩) n n) from List.map_congr_left (fun j hj => by have := List.mem_range.1 hj; simp only; rw [if_neg (by omega)])]
    simpa using h
   have N2 : Hid (w2.ownsRow w.heap.size 127 1 v8 (k + 1) ((List.range (k + 1)).map fun j => .slice (some ⟨(fun j => if j = k then B + 1 else Hb j) j, 0, none⟩) n n)) := by
    show w2.ownsRow _ _ _ _ _ _
    rw [List.range_succ, List.map_append]
    rw [show (List.range k).map (fun j => Value.slice (some ⟨(fun j => if j = k then B + 1 else Hb j) j, 0, none⟩) n n) = (List.range k).map (fun j => .slice (some ⟨Hb j, 0, none⟩) n n) from List.map_congr_left (fun j hj => by have := List.mem_range.1 hj; simp only; rw [if_neg (by omega)])]
    simpa using hN2
   have N3 : Hid (Rws w2 w.heap.size n (k + 1) (fun j => if j = k then B else Db j) (fun j => if j = k then B + 1 else Hb j)) := by
    refine ⟨fun j hj => ?_, fun j hj => ?_, fun j hj => ?_, fun x j hx hj => ?_, fun x j hx hj => ?_⟩
    ·by_cases e : j = k
     ·rw [if_pos e, if_pos e]; exact ⟨by omega, by omega⟩
     ·rw [if_neg e, if_neg e]; exact QR.lo j (by omega)
    ·by_cases e : j = k
     ·subst e; simp only [if_true]; exact Blk.grown hg2 (blk_own_ne QD P2 (by decide)) QD.al
     ·simp only [if_neg e]; exact Blk.grown hg2 (blk_own_ne (QR.d j (by omega)) P2 (by decide)) (QR.d j (by omega)).al
    ·by_cases e : j = k
     ·subst e; simp only [if_true]; exact Blk.grown hg2 (blk_own_ne QH P2 (by decide)) QH.al
     ·simp only [if_neg e]; exact Blk.grown hg2 (blk_own_ne (QR.h j (by omega)) P2 (by decide)) (QR.h j (by omega)).al
    ·rw [if_neg (show ¬ x = k by omega)]
     by_cases e : j = k
     ·rw [if_pos e]; exact HDL.out x (by omega)
     ·rw [if_neg e]; exact QR.upD x j hx (by omega)
    ·rw [if_neg (show ¬ x = k by omega)]
     by_cases e : j = k
     ·rw [if_pos e]; exact HHL.out x (by omega)
     ·rw [if_neg e]; exact QR.upH x j hx (by omega)
   have hw5 : Below w.heap.size w w2 := (rbel_al hw4).grown hg2 (by simp; omega) (fun j hj => (P2.lt j hj).1)
   clear hg2 hN1 hN2 P2 QD QH QR hw4 HDL HHL
   go_wp2
   go_roundw
   case rel => exact ⟨k + 1, _, _, by omega, by go_num, N1.out, N2.out, N3.out, hw5⟩
   case measure => simp [intOf]; omega
  ·have kn : k = n := by omega
   subst kn
   obtain ⟨gd, cd, rfl⟩ : ∃ g c, u7 = .slice (some ⟨g, 0, none⟩) k c := by
    rcases hO1.2 with ⟨_, e⟩ | ⟨g, c, cur, h, _⟩
    ·omega
    ·exact ⟨g, c, h⟩
   obtain ⟨gh, ch, rfl⟩ : ∃ g c, u8 = .slice (some ⟨g, 0, none⟩) k c := by
    rcases hO2.2 with ⟨_, e⟩ | ⟨g, c, cur, h, _⟩
    ·omega
    ·exact ⟨g, c, h⟩
   have TB : Tab wr gd gh k Db Hb tb0 := by
    refine ⟨fun i hi => ?_, fun i hi => ?_, fun i hi => by rw [tb0_rowD]; exact hR.d i hi, fun i hi => by rw [tb0_rowH k i]; exact hR.h i hi, fun i j hi hj ne => ?_, fun i j hi hj ne => ?_, fun i hi => ?_, fun i hi => ?_⟩
    ·rw [hO1.cellAt i (by omega)]; simp [hi]
    ·rw [hO2.cellAt i (by omega)]; simp [hi]
    ·rcases Nat.lt_or_gt_of_ne ne with h | h
     ·exact Nat.ne_of_lt (hR.upD i j h hj)
     ·exact Nat.ne_of_gt (hR.upD j i h hi)
    ·rcases Nat.lt_or_gt_of_ne ne with h | h
     ·exact Nat.ne_of_lt (hR.upH i j h hj)
     ·exact Nat.ne_of_gt (hR.upH j i h hi)
    ·have a1 := blk_own_ne (hR.d i hi) hO1 (by decide)
     have a2 := blk_own_ne (hR.h i hi) hO1 (by decide)
     simp [Value.ownBlock] at a1 a2
     exact ⟨fun e => a1 e.symm, fun e => a2 e.symm⟩
    ·have a1 := blk_own_ne (hR.d i hi) hO2 (by decide)
     have a2 := blk_own_ne (hR.h i hi) hO2 (by decide)
     simp [Value.ownBlock] at a1 a2
     exact ⟨fun e => a1 e.symm, fun e => a2 e.symm⟩
   have ob : Hid (∀ i, i < k → w.heap.size ≤ Db i ∧ w.heap.size ≤ Hb i) := hR.lo
   clear hO1 hO2 hR
   have hl3 : ¬ ((k : Int) < k) := by omega
   go_wp2
   go_loopw [12] (fun x wr => ∃ (r : Nat) (S : Tb), r ≤ 2 * k + 2 ∧ x = .int .i64 r ∧ Tab wr gd gh k Db Hb S ∧ Below w.heap.size w wr ∧ Upto (Arc q m) k r S ∧ Sound (Arc q m) S ∧ Bnd S (480 * (r : Int))) (fun i _ => 2 * k + 2 - (intOf i).toNat)
   case atStart => exact ⟨0, tb0, Nat.zero_le _, rfl, TB, hw, tb0_upto, tb0_sound, tb0_bnd⟩
   case round =>
    clear TB hw zw
    obtain ⟨r, S, hr, rfl, TB, hw, up, so, bn⟩ := hrel
    by_cases hlr : r < 2 * k + 2
    ·have hl4 : (r : Int) < 2 * k + 2 := by omega
     have UP : Hid (Upto (Arc q m) k r S) := up
     have IS : Hid (Inv q k m r 0 0 S S) := Inv.start so bn
     clear up so bn
     go_wp2
     go_loopw [13] (fun x wr => ∃ (i : Nat) (T : Tb), i ≤ k ∧ x = .int .i64 i ∧ Tab wr gd gh k Db Hb T ∧ Below w.heap.size w wr ∧ Inv q k m r i 0 S T) (fun i _ => k - (intOf i).toNat)
     case atStart => exact ⟨0, S, Nat.zero_le _, rfl, TB, hw, IS.out⟩
     case round =>
      clear TB hw IS
      obtain ⟨i, T, hi, rfl, TB, hw, inv⟩ := hrel
      have IV : Hid (Inv q k m r i 0 S T) := inv
      clear inv
      by_cases hli : i < k
      ·have hl5 : (i : Int) < k := by omega
       go_wp2
       go_loopw [14] (fun x wr => ∃ (j : Nat) (U : Tb), j ≤ m ∧ x = .int .i64 j ∧ Tab wr gd gh k Db Hb U ∧ Below w.heap.size w wr ∧ Inv q k m r i j S U) (fun i _ => m - (intOf i).toNat)
       case atStart => exact ⟨0, T, Nat.zero_le _, rfl, TB, hw, IV.out⟩
       case round =>
        clear TB hw IV
        obtain ⟨j, U, hj, rfl, TB, hw, inv⟩ := hrel
        have INV : Hid (Inv q k m r i j S U) := inv
        clear inv
        by_cases hlj : j < m
        ·have hl6 : (j : Int) < m := by omega
         obtain ⟨b, off, rfl, hP⟩ : ∃ b off : Nat, a = some ⟨b, off, none⟩ ∧ Esp w b off m q := by
          rcases HP.out with e | h
          ·omega
          ·exact h
         have HPe : Hid (Esp w b off m q) := hP
         have hbl : b < w.heap.size := World.block_lt_of_cell? _ _ (hP j hlj).1
         obtain ⟨⟨a1, a2, a3, a4⟩, nab, okk⟩ := HE.out.each j hlj
         obtain ⟨o1, o2, o3⟩ := okB_t okk
         obtain ⟨A, eqA⟩ : ∃ A : Nat, (q j).a = A := ⟨(q j).a.toNat, by omega⟩
         obtain ⟨B, eqB⟩ : ∃ B : Nat, (q j).b = B := ⟨(q j).b.toNat, by omega⟩
         have hAk : A < k := by omega
         have hBk : B < k := by omega
         have nAB : ¬ (A = B) := by omega
         have nBA : ¬ (B = A) := by omega
         have hA3 : (A : Int) < k := by omega
         have hB3 : (B : Int) < k := by omega
         obtain ⟨od, oh⟩ := ob.out i hli
         have nb1 : ¬ (b = Db i) := by omega
         have nb2 : ¬ (b = Hb i) := by omega
         have ng1 := TB.apD i hli
         have ng2 := TB.apH i hli
         obtain ⟨n1, n2⟩ := ng1
         obtain ⟨n3, n4⟩ := ng2
         have n5 := TB.ap hli hli
         have n6 : ¬ (Hb i = Db i) := fun e => n5 e.symm
         have n7 : ¬ (Db i = gd) := fun e => n1 e.symm
         have n8 : ¬ (Db i = gh) := fun e => n3 e.symm
         have n9 : ¬ (Hb i = gd) := fun e => n2 e.symm
         have n10 : ¬ (Hb i = gh) := fun e => n4 e.symm
         have nb3 : ¬ (Db i = b) := fun e => nb1 e.symm
         have nb4 : ¬ (Hb i = b) := fun e => nb2 e.symm
         obtain ⟨V, eV⟩ : ∃ V, V = rlx U i A B (q j).hi := ⟨_, rfl⟩
         obtain ⟨X, eX⟩ : ∃ X, X = rlx V i B A (-(q j).lo) := ⟨_, rfl⟩
         have STEP : Hid (Inv q k m r i (j + 1) S X) := by show Inv _ _ _ _ _ _ _ _; rw [eX, eV]; exact INV.out.step HE.out hlj eqA eqB
         have BV : Hid (Bnd V (480 * r + 80 * i + 2 * j + 1)) := by show Bnd _ _; rw [eV]; exact rlx_bnd INV.out.bnd (by omega) (by omega) (by omega) i A B
         clear a1 a2 a3 a4 nab okk hP
         obtain ⟨x0, x1, x2, x3⟩ := (HPe.out.on hw) j hlj
         rw [eqA] at x0
         rw [eqB] at x1
         go_upto_region 22 with (fail)
         clear x0 x1 x2 x3
         go_cut [106] from 50 to 199 (fun c w' => c = .bool (need U i A B (q j).hi) ∧ Tab w' gd gh k Db Hb U ∧ Below w.heap.size w w')
         case first =>
          as_aux_lemma =>
           obtain ⟨x0, x1, x2, x3⟩ := (HPe.out.on hw) j hlj
           rw [eqA] at x0
           rw [eqB] at x1
           have oD := TB.outD i hli
           have oH := TB.outH i hli
           have dA := (TB.inD i hli).c A _ (rowD_at _ _ _ _ hAk)
           have dB := (TB.inD i hli).c B _ (rowD_at _ _ _ _ hBk)
           have bA := (TB.inH i hli).c A _ (rowH_at _ _ _ _ hAk)
           have bB := (TB.inH i hli).c B _ (rowH_at _ _ _ _ hBk)
           have fD := (TB.inD i hli).f B
           have fH := (TB.inH i hli).f B
           have BN := INV.out.bnd
           cases eA : U i A with
           | none =>
            rw [eA] at bA
            have bA' : wr.cell? ⟨Hb i, A, none⟩ = some (.bool false) := bA
            have nd : need U i A B (q j).hi = false := by unfold need; rw [eA]
            go_quiet (fail)
            go_wp2
            go_meet
            case rel => exact ⟨by rw [nd], TB.drn, rbel_drn hw⟩
           | some x =>
            have bx := BN _ _ _ eA
            have wx : IntKind.i64.wrap (x + (q j).hi) = x + (q j).hi := IntWalk.i64_in _ (by omega)
            rw [eA] at bA dA
            have bA' : wr.cell? ⟨Hb i, A, none⟩ = some (.bool true) := bA
            have dA' : wr.cell? ⟨Db i, A, none⟩ = some (.int .i64 x) := dA
            cases eB : U i B with
            | none =>
             rw [eB] at bB dB
             have bB' : wr.cell? ⟨Hb i, B, none⟩ = some (.bool false) := bB
             have dB' : wr.cell? ⟨Db i, B, none⟩ = some (.int .i64 0) := dB
             have nd : need U i A B (q j).hi = true := by unfold need; rw [eA, eB]
             go_quiet (fail)
             go_wp2
             go_meet
             case rel => exact ⟨by rw [nd], TB.drn, rbel_drn hw⟩
            | some y =>
             rw [eB] at bB dB
             have bB' : wr.cell? ⟨Hb i, B, none⟩ = some (.bool true) := bB
             have dB' : wr.cell? ⟨Db i, B, none⟩ = some (.int .i64 y) := dB
             by_cases lt : x + (q j).hi < y
             ·have lt' : decide (x + (q j).hi < y) = true := decide_eq_true lt
              have nd : need U i A B (q j).hi = true := by unfold need; rw [eA, eB]; exact decide_eq_true (by omega)
              go_quiet (fail)
              go_wp2
              go_meet
              case rel => exact ⟨by rw [nd], TB.drn, rbel_drn hw⟩
             ·have lt' : decide (x + (q j).hi < y) = false := decide_eq_false lt
              have nd : need U i A B (q j).hi = false := by unfold need; rw [eA, eB]; exact decide_eq_false (by omega)
              go_quiet (fail)
              go_wp2
              go_meet
              case rel => exact ⟨by rw [nd], TB.drn, rbel_drn hw⟩
         case rest =>
          clear TB hw
          obtain ⟨rfl, TB, hw⟩ := hcut
          go_upto_if 106 with (fail)
          go_cut [] from 50 to 199 (fun w' => Tab w' gd gh k Db Hb V ∧ Below w.heap.size w w')
          case first =>
           as_aux_lemma =>
            obtain ⟨x0, x1, x2, x3⟩ := (HPe.out.on hw) j hlj
            rw [eqA] at x0
            rw [eqB] at x1
            have oD := TB.outD i hli
            have oH := TB.outH i hli
            have dA := (TB.inD i hli).c A _ (rowD_at _ _ _ _ hAk)
            have dB := (TB.inD i hli).c B _ (rowD_at _ _ _ _ hBk)
            have bA := (TB.inH i hli).c A _ (rowH_at _ _ _ _ hAk)
            have bB := (TB.inH i hli).c B _ (rowH_at _ _ _ _ hBk)
            have fD := (TB.inD i hli).f B
            have fH := (TB.inH i hli).f B
            have BN := INV.out.bnd
            have VE : Hid (V = rlx U i A B (q j).hi) := eV
            cases hn : need U i A B (q j).hi with
            | false =>
             as_aux_lemma =>
              have E : Hid (V = U) := VE.out.trans (need_same hn)
              go_wp2
              go_meet
              case rel => exact ⟨by rw [E.out]; exact TB, hw⟩
            | true =>
             as_aux_lemma =>
              obtain ⟨x, eA, hu⟩ := need_upd hn
              have bx := BN _ _ _ eA
              have wx : IntKind.i64.wrap (x + (q j).hi) = x + (q j).hi := IntWalk.i64_in _ (by omega)
              have E : Hid (V = upd U i B (x + (q j).hi)) := VE.out.trans (hu.trans (by congr 1))
              rw [eA] at dA
              have dA' : wc.cell? ⟨Db i, A, none⟩ = some (.int .i64 x) := dA
              obtain ⟨vb, db0⟩ : ∃ v, wc.cell? ⟨Db i, B, none⟩ = some v := ⟨_, dB⟩
              obtain ⟨vh, bb0⟩ : ∃ v, wc.cell? ⟨Hb i, B, none⟩ = some v := ⟨_, bB⟩
              have KS : ∀ (v : Value), (wc.setCell ⟨Db i, B, none⟩ v).cell? ⟨gd, i, none⟩ = some (.slice (some ⟨Db i, 0, none⟩) k k) ∧ (wc.setCell ⟨Db i, B, none⟩ v).cell? ⟨Db i, A, none⟩ = some (.int .i64 x) ∧ (wc.setCell ⟨Db i, B, none⟩ v).cell? ⟨b, off + j * 4 + 3, none⟩ = some (.int .i64 (q j).hi) := fun v => ⟨by rw [World.cell?_setCell_far _ _ _ _ n7]; exact oD, by rw [World.cell?_setCell_other _ _ _ _ (fun e => nBA (by injection e))]; exact dA', by rw [World.cell?_setCell_far _ _ _ _ nb3]; exact x3⟩
              have KS2 : ∀ (v : Value), (wc.drew.setCell ⟨Db i, B, none⟩ v).cell? ⟨gd, i, none⟩ = some (.slice (some ⟨Db i, 0, none⟩) k k) ∧ (wc.drew.setCell ⟨Db i, B, none⟩ v).cell? ⟨Db i, A, none⟩ = some (.int .i64 x) ∧ (wc.drew.setCell ⟨Db i, B, none⟩ v).cell? ⟨b, off + j * 4 + 3, none⟩ = some (.int .i64 (q j).hi) := fun v => ⟨by rw [World.cell?_setCell_far _ _ _ _ n7]; exact oD, by rw [World.cell?_setCell_other _ _ _ _ (fun e => nBA (by injection e))]; exact dA', by rw [World.cell?_setCell_far _ _ _ _ nb3]; exact x3⟩
              go_upto_region 23 with (fail)
              go_region_held (fun w' => w'.cell? ⟨gd, i, none⟩ = some (.slice (some ⟨Db i, 0, none⟩) k k) ∧ w'.cell? ⟨Db i, A, none⟩ = some (.int .i64 x) ∧ w'.cell? ⟨b, off + j * 4 + 3, none⟩ = some (.int .i64 (q j).hi)) (first | exact KS _ | exact KS2 _ | go_keep) (fail)
              all_goals
               go_wp2
               go_meet
               case rel => exact ⟨by rw [E.out]; first | exact TB.put hli _ | exact TB.dr.put hli _ | exact TB.drn.put hli _, by first | exact rbel_put oh (rbel_put od hw) | exact rbel_put oh (rbel_put od (rbel_dr hw)) | exact rbel_put oh (rbel_put od (rbel_drn hw))⟩
          case rest =>
           clear TB hw
           obtain ⟨TB, hw⟩ := hcut
           go_upto_region 25 with (fail)
           go_cut [173] from 50 to 199 (fun c w' => c = .bool (need V i B A (-(q j).lo)) ∧ Tab w' gd gh k Db Hb V ∧ Below w.heap.size w w')
           case first =>
            as_aux_lemma =>
             obtain ⟨x0, x1, x2, x3⟩ := (HPe.out.on hw) j hlj
             rw [eqA] at x0
             rw [eqB] at x1
             have oD := TB.outD i hli
             have oH := TB.outH i hli
             have dA := (TB.inD i hli).c A _ (rowD_at _ _ _ _ hAk)
             have dB := (TB.inD i hli).c B _ (rowD_at _ _ _ _ hBk)
             have bA := (TB.inH i hli).c A _ (rowH_at _ _ _ _ hAk)
             have bB := (TB.inH i hli).c B _ (rowH_at _ _ _ _ hBk)
             have fD := (TB.inD i hli).f A
             have fH := (TB.inH i hli).f A
             have BN := BV.out
             cases eB : V i B with
             | none =>
              rw [eB] at bB
              have bB' : wc.cell? ⟨Hb i, B, none⟩ = some (.bool false) := bB
              have nd : need V i B A (-(q j).lo) = false := by unfold need; rw [eB]
              go_quiet (fail)
              go_wp2
              go_meet
              case rel => exact ⟨by rw [nd], TB.drn, rbel_drn hw⟩
             | some x =>
              have bx := BN _ _ _ eB
              have wx : IntKind.i64.wrap (x - (q j).lo) = x - (q j).lo := IntWalk.i64_in _ (by omega)
              rw [eB] at bB dB
              have bB' : wc.cell? ⟨Hb i, B, none⟩ = some (.bool true) := bB
              have dB' : wc.cell? ⟨Db i, B, none⟩ = some (.int .i64 x) := dB
              cases eA : V i A with
              | none =>
               rw [eA] at bA dA
               have bA' : wc.cell? ⟨Hb i, A, none⟩ = some (.bool false) := bA
               have dA' : wc.cell? ⟨Db i, A, none⟩ = some (.int .i64 0) := dA
               have nd : need V i B A (-(q j).lo) = true := by unfold need; rw [eB, eA]
               go_quiet (fail)
               go_wp2
               go_meet
               case rel => exact ⟨by rw [nd], TB.drn, rbel_drn hw⟩
              | some y =>
               rw [eA] at bA dA
               have bA' : wc.cell? ⟨Hb i, A, none⟩ = some (.bool true) := bA
               have dA' : wc.cell? ⟨Db i, A, none⟩ = some (.int .i64 y) := dA
               by_cases lt : x - (q j).lo < y
               ·have lt' : decide (x - (q j).lo < y) = true := decide_eq_true lt
                have nd : need V i B A (-(q j).lo) = true := by unfold need; rw [eB, eA]; exact decide_eq_true (by omega)
                go_quiet (fail)
                go_wp2
                go_meet
                case rel => exact ⟨by rw [nd], TB.drn, rbel_drn hw⟩
               ·have lt' : decide (x - (q j).lo < y) = false := decide_eq_false lt
                have nd : need V i B A (-(q j).lo) = false := by unfold need; rw [eB, eA]; exact decide_eq_false (by omega)
                go_quiet (fail)
                go_wp2
                go_meet
                case rel => exact ⟨by rw [nd], TB.drn, rbel_drn hw⟩
           case rest =>
            clear TB hw
            obtain ⟨rfl, TB, hw⟩ := hcut
            go_upto_if 173 with (fail)
            obtain ⟨x0, x1, x2, x3⟩ := (HPe.out.on hw) j hlj
            rw [eqA] at x0
            rw [eqB] at x1
            have oD := TB.outD i hli
            have oH := TB.outH i hli
            have dA := (TB.inD i hli).c A _ (rowD_at _ _ _ _ hAk)
            have dB := (TB.inD i hli).c B _ (rowD_at _ _ _ _ hBk)
            have bA := (TB.inH i hli).c A _ (rowH_at _ _ _ _ hAk)
            have bB := (TB.inH i hli).c B _ (rowH_at _ _ _ _ hBk)
            have fD := (TB.inD i hli).f A
            have fH := (TB.inH i hli).f A
            have BN := BV.out
            have VE : Hid (X = rlx V i B A (-(q j).lo)) := eX
            cases hn : need V i B A (-(q j).lo) with
            | false =>
             as_aux_lemma =>
              have E : Hid (X = V) := VE.out.trans (need_same hn)
              go_wp2
              go_roundw
              case rel => exact ⟨j + 1, X, by omega, by go_num, by rw [E.out]; exact TB, hw, STEP.out⟩
              case measure => simp [intOf]; omega
            | true =>
             as_aux_lemma =>
              obtain ⟨x, eB, hu⟩ := need_upd hn
              have bx := BN _ _ _ eB
              have wx : IntKind.i64.wrap (x - (q j).lo) = x - (q j).lo := IntWalk.i64_in _ (by omega)
              have E : Hid (X = upd V i A (x - (q j).lo)) := VE.out.trans (hu.trans (by congr 1))
              rw [eB] at dB
              have dB' : wc.cell? ⟨Db i, B, none⟩ = some (.int .i64 x) := dB
              obtain ⟨vb, db0⟩ : ∃ v, wc.cell? ⟨Db i, A, none⟩ = some v := ⟨_, dA⟩
              obtain ⟨vh, bb0⟩ : ∃ v, wc.cell? ⟨Hb i, A, none⟩ = some v := ⟨_, bA⟩
              have KS : ∀ (v : Value), (wc.setCell ⟨Db i, A, none⟩ v).cell? ⟨gd, i, none⟩ = some (.slice (some ⟨Db i, 0, none⟩) k k) ∧ (wc.setCell ⟨Db i, A, none⟩ v).cell? ⟨Db i, B, none⟩ = some (.int .i64 x) ∧ (wc.setCell ⟨Db i, A, none⟩ v).cell? ⟨b, off + j * 4 + 2, none⟩ = some (.int .i64 (q j).lo) := fun v => ⟨by rw [World.cell?_setCell_far _ _ _ _ n7]; exact oD, by rw [World.cell?_setCell_other _ _ _ _ (fun e => nAB (by injection e))]; exact dB', by rw [World.cell?_setCell_far _ _ _ _ nb3]; exact x2⟩
              have KS2 : ∀ (v : Value), (wc.drew.setCell ⟨Db i, A, none⟩ v).cell? ⟨gd, i, none⟩ = some (.slice (some ⟨Db i, 0, none⟩) k k) ∧ (wc.drew.setCell ⟨Db i, A, none⟩ v).cell? ⟨Db i, B, none⟩ = some (.int .i64 x) ∧ (wc.drew.setCell ⟨Db i, A, none⟩ v).cell? ⟨b, off + j * 4 + 2, none⟩ = some (.int .i64 (q j).lo) := fun v => ⟨by rw [World.cell?_setCell_far _ _ _ _ n7]; exact oD, by rw [World.cell?_setCell_other _ _ _ _ (fun e => nAB (by injection e))]; exact dB', by rw [World.cell?_setCell_far _ _ _ _ nb3]; exact x2⟩
              go_upto_region 26 with (fail)
              go_region_held (fun w' => w'.cell? ⟨gd, i, none⟩ = some (.slice (some ⟨Db i, 0, none⟩) k k) ∧ w'.cell? ⟨Db i, B, none⟩ = some (.int .i64 x) ∧ w'.cell? ⟨b, off + j * 4 + 2, none⟩ = some (.int .i64 (q j).lo)) (first | exact KS _ | exact KS2 _ | go_keep) (fail)
              all_goals
               go_wp2
               go_roundw
               case rel => exact ⟨j + 1, X, by omega, by go_num, by rw [E.out]; first | exact TB.put hli _ | exact TB.dr.put hli _ | exact TB.drn.put hli _, by first | exact rbel_put oh (rbel_put od hw) | exact rbel_put oh (rbel_put od (rbel_dr hw)) | exact rbel_put oh (rbel_put od (rbel_drn hw)), STEP.out⟩
               case measure => simp [intOf]; omega
        ·have jm : j = m := by omega
         have hl6 : ¬ ((j : Int) < m) := by omega
         have NX : Hid (Inv q k m r (i + 1) 0 S U) := by show Inv _ _ _ _ _ _ _ _; have h := INV.out; rw [jm] at h; exact h.next HE.out
         clear INV jm
         go_wp2
         go_roundw
         case rel => exact ⟨i + 1, U, by omega, by go_num, TB, hw, NX.out⟩
         case measure => simp [intOf]; omega
      ·have ik : i = k := by omega
       have hl5 : ¬ ((i : Int) < k) := by omega
       have NX : Hid (Upto (Arc q m) k (r + 1) T ∧ Sound (Arc q m) T ∧ Bnd T (480 * ((r + 1 : Nat) : Int))) := by show _ ∧ _; have h := IV.out; rw [ik] at h; exact h.round HE.out UP.out
       clear IV ik UP
       go_wp2
       go_roundw
       case rel => exact ⟨r + 1, T, by omega, by go_num, TB, hw, NX.out.1, NX.out.2.1, NX.out.2.2⟩
       case measure => simp [intOf]; omega
    ·have hl4 : ¬ ((r : Int) < 2 * k + 2) := by omega
     have NG : Hid (Neg (Arc q m) k ↔ ∃ i x, i < k ∧ S i i = some x ∧ x < 0) := up.neg HE.out.arc (by omega) so
     have LE : Hid (¬ Neg (Arc q m) k → ∀ i k', i < k → (∀ x, S i k' = some x → Dst (Arc q m) i k' x) ∧ (S i k' = none → ∀ r c, ¬ Wk (Arc q m) r i k' c)) := fun hN i k' hi => up.least HE.out.arc hN (by omega) so hi
     clear up so bn
     go_wp2
     go_loopw [17] (fun x wr2 => ∃ i : Nat, i ≤ k ∧ x = .int .i64 i ∧ wr2 = wr ∧ ∀ i' x, i' < i → S i' i' = some x → 0 ≤ x) (fun i _ => k - (intOf i).toNat)
     case atStart => exact ⟨0, Nat.zero_le _, rfl, rfl, fun i' x h => by omega⟩
     case round =>
      obtain ⟨i, hi, rfl, rfl, al⟩ := hrel
      have AL : Hid (∀ i' x, i' < i → S i' i' = some x → 0 ≤ x) := al
      clear al
      by_cases hli : i < k
      ·have hl5 : (i : Int) < k := by omega
       have oD := TB.outD i hli
       have dI := (TB.inD i hli).c i _ (rowD_at _ _ _ _ hli)
       by_cases ng : (S i i).getD 0 < 0
       ·have NN : Hid (Neg (Arc q m) k) := by
         show Neg _ _
         refine NG.out.2 ?_
         cases e : S i i with
         | none => rw [e] at ng; exact absurd ng (by decide)
         | some x => rw [e] at ng; exact ⟨i, x, hli, e, ng⟩
        go_wp2
        exact bodyPost_ret (v := .tuple #[.slice none 0 0, .slice none 0 0, .bool false]) (by simp [results, Tryz.results79, go_sem]) rfl ⟨Or.inl ⟨NN.out, rfl⟩, hw⟩
       ·have AL2 : Hid (∀ i' x, i' < i + 1 → S i' i' = some x → 0 ≤ x) := by
         intro i' x h e
         by_cases e' : i' = i
         ·subst e'
          rw [e] at ng
          exact Int.not_lt.1 ng
         ·exact AL.out i' x (by omega) e
        go_wp2
        go_roundw
        case rel => exact ⟨i + 1, by omega, by go_num, trivial, AL2.out⟩
        case measure => simp [intOf]; omega
      ·have hl5 : ¬ ((i : Int) < k) := by omega
       have ik : i = k := by omega
       have NN : Hid (¬ Neg (Arc q m) k) := by
        show ¬ _
        intro h
        obtain ⟨i', x, a1, a2, a3⟩ := NG.out.1 h
        have := AL.out i' x (by omega) a2
        omega
       clear ik
       go_wp2
       exact bodyPost_ret (v := .tuple #[.slice (some ⟨gd, 0, none⟩) k cd, .slice (some ⟨gh, 0, none⟩) k ch, .bool true]) (by simp [results, Tryz.results79, go_sem]) rfl ⟨Or.inr ⟨NN.out, gd, cd, gh, ch, Db, Hb, S, rfl, TB, LE.out NN.out⟩, hw⟩
end Go.Proofs.YtadkgnbagmnkkakGreatDoor
