/- What bounds' tables are at first. -/
import Derived.Test.YthejaecljkjliaiGreatDoorBoundsPaths
namespace Go.Proofs.YthejaecljkjliaiGreatDoor
open Go.ChangeShapes Go.WideShapes Go.ChangeAt Go.RowKit Go.Joins
set_option linter.unusedVariables false
set_option linter.unusedSimpArgs false

theorem xinfoRows : (Tryz.prog.info? 66).map (fun i => (i.zero, i.size, i.bytes)) = some (some (.slice none 0 0), 1, 24) := by kernel_rfl
theorem xinfoBools : (Tryz.prog.info? 67).map (fun i => (i.zero, i.size, i.bytes)) = some (some (.slice none 0 0), 1, 24) := by kernel_rfl
theorem xinfoSpan : (Tryz.prog.info? 38).map (fun i => (i.zero, i.size, i.bytes)) = some (some (sp 0 0), 2, 16) := by kernel_rfl
theorem xinfoBool : (Tryz.prog.info? 4).map (fun i => (i.zero, i.size, i.bytes)) = some (some (.bool false), 1, 1) := by kernel_rfl
theorem xmade_cells (z : Value) (hz : z.cells = #[z]) (n : Nat) : madeCells z.cells (n * 1) = (List.replicate n z).toArray := by
  rw [hz, Nat.mul_one]
  apply Array.ext
  · simp [madeCells]
  · intro i h1 h2
    simp [madeCells, Nat.mod_one]
theorem xmade_spans (n : Nat) : madeCells (sp 0 0).cells (n * 2) = (List.replicate (n * 2) (.int .i64 0)).toArray := by
  apply Array.ext
  · simp [madeCells]
  · intro i h1 h2
    simp only [madeCells, Array.getElem_ofFn, List.getElem_toArray, List.getElem_replicate]
    have : i % 2 = 0 ∨ i % 2 = 1 := by omega
    simp [Value.cells]
    rcases this with e | e <;> simp [e]
theorem mk_rows (n : Nat) (h6 : n ≤ 6) (W : World) : (Instr.makeSlice 104 (.int .i64 n) (.int .i64 n)).run Tryz.prog W = .ok (.slice (some ⟨W.heap.size, 0, none⟩) n n) (W.alloc (.cells (List.replicate n (.slice none 0 0)).toArray 66)) := by
  obtain ⟨i0, hi0, hz0, hz1, hz2⟩ := info_parts xinfoRows
  have h := run_makeSlice W 104 66 i0 _ Tryz.underlying104 hi0 hz0 .i64 .i64 n n (by omega) (by omega) (by rw [hz1]; simp; omega) (by rw [hz2]; simp; omega) (by omega)
  rw [hz1, Int.toNat_natCast, xmade_cells _ rfl n] at h
  exact h
theorem mk_knowns (n : Nat) (h6 : n ≤ 6) (W : World) : (Instr.makeSlice 105 (.int .i64 n) (.int .i64 n)).run Tryz.prog W = .ok (.slice (some ⟨W.heap.size, 0, none⟩) n n) (W.alloc (.cells (List.replicate n (.slice none 0 0)).toArray 67)) := by
  obtain ⟨i0, hi0, hz0, hz1, hz2⟩ := info_parts xinfoBools
  have h := run_makeSlice W 105 67 i0 _ Tryz.underlying105 hi0 hz0 .i64 .i64 n n (by omega) (by omega) (by rw [hz1]; simp; omega) (by rw [hz2]; simp; omega) (by omega)
  rw [hz1, Int.toNat_natCast, xmade_cells _ rfl n] at h
  exact h
theorem mk_spans (n : Nat) (h6 : n ≤ 6) (W : World) : (Instr.makeSlice 66 (.int .i64 n) (.int .i64 n)).run Tryz.prog W = .ok (.slice (some ⟨W.heap.size, 0, none⟩) n n) (W.alloc (.cells (List.replicate (n * 2) (.int .i64 0)).toArray 38)) := by
  obtain ⟨i0, hi0, hz0, hz1, hz2⟩ := info_parts xinfoSpan
  have h := run_makeSlice W 66 38 i0 _ Tryz.underlying66 hi0 hz0 .i64 .i64 n n (by omega) (by omega) (by rw [hz1]; simp; omega) (by rw [hz2]; simp; omega) (by omega)
  rw [hz1, Int.toNat_natCast, xmade_spans n] at h
  exact h
theorem xmk_bools (n : Nat) (h6 : n ≤ 6) (W : World) : (Instr.makeSlice 67 (.int .i64 n) (.int .i64 n)).run Tryz.prog W = .ok (.slice (some ⟨W.heap.size, 0, none⟩) n n) (W.alloc (.cells (List.replicate n (.bool false)).toArray 4)) := by
  obtain ⟨i0, hi0, hz0, hz1, hz2⟩ := info_parts xinfoBool
  have h := run_makeSlice W 67 4 i0 _ Tryz.underlying67 hi0 hz0 .i64 .i64 n n (by omega) (by omega) (by rw [hz1]; simp; omega) (by rw [hz2]; simp; omega) (by omega)
  rw [hz1, Int.toNat_natCast, xmade_cells _ rfl n] at h
  exact h
/-- Rows, some of which are there. -/
def outp (Sb : Nat → Nat) (n a : Nat) : List Value := (List.range n).map fun i => if i < a then .slice (some ⟨Sb i, 0, none⟩) n n else .slice none 0 0
theorem outp_zero (Sb : Nat → Nat) (n : Nat) : outp Sb n 0 = List.replicate n (.slice none 0 0) := by
  apply List.ext_getElem?
  intro j
  by_cases h : j < n
  · simp [outp, h]
  · rw [List.getElem?_eq_none (by simp [outp]; omega), List.getElem?_eq_none (by simp; omega)]
theorem outp_all (Sb : Nat → Nat) (n : Nat) : outp Sb n n = outs Sb n := by
  unfold outp outs
  apply List.map_congr_left
  intro y hy
  rw [if_pos (List.mem_range.1 hy)]
theorem outp_set (Sb : Nat → Nat) (n a x : Nat) : (outp Sb n a).set a (.slice (some ⟨x, 0, none⟩) n n) = outp (fun i => if i = a then x else Sb i) n (a + 1) := by
  apply List.ext_getElem?
  intro j
  by_cases h : j < n
  · by_cases e : a = j
    · subst e
      rw [List.getElem?_set_self (by simp [outp]; exact h)]
      simp [outp, h]
    · rw [List.getElem?_set_ne e]
      simp only [outp, List.getElem?_map, List.getElem?_range h, Option.map_some]
      have e' : ¬ j = a := fun q => e q.symm
      by_cases c : j < a
      · rw [if_pos c, if_pos (by omega), if_neg e']
      · rw [if_neg c, if_neg (by omega)]
  · rw [List.getElem?_eq_none (by simp [outp]; omega), List.getElem?_eq_none (by simp [outp]; omega)]
theorem outp_at (Sb : Nat → Nat) (n a i : Nat) (h : i < n) : (outp Sb n a)[i]? = some (if i < a then .slice (some ⟨Sb i, 0, none⟩) n n else .slice none 0 0) := by simp [outp, h]
theorem tx0_rowS (n i : Nat) : rowS tx0 n i = List.replicate (n * 2) (.int .i64 0) := by
  refine rowS_ext (fun k hk => ?_) (fun j hj => ?_)
  · have e1 : xLo tx0 i k = 0 := by unfold xLo tx0; split <;> rename_i h <;> first | rfl | (split at h <;> first | (obtain rfl := Option.some.inj h; rfl) | cases h)
    have e2 : xHi tx0 i k = 0 := by unfold xHi tx0; split <;> rename_i h <;> first | rfl | (split at h <;> first | (obtain rfl := Option.some.inj h; rfl) | cases h)
    rw [e1, e2]
    refine ⟨?_, ?_⟩ <;> rw [List.getElem?_replicate, if_pos (by omega)]
  · rw [List.getElem?_eq_none (by simp; omega)]
theorem tx0_rowK (n i : Nat) : rowK tx0 n i = (List.replicate n (.bool false)).set i (.bool true) := by
  apply List.ext_getElem?
  intro k
  by_cases hk : k < n
  · rw [rowK_at _ _ _ _ hk]
    by_cases e : i = k
    · subst e
      rw [List.getElem?_set_self (by simpa using hk)]
      simp [tx0]
    · rw [List.getElem?_set_ne e]
      simp [tx0, e, hk]
  · rw [List.getElem?_eq_none (by simp [rowK]; omega), List.getElem?_eq_none (by simp; omega)]
theorem blk_rep {W : World} {e : TypeId} {b n : Nat} {v : Value} (hb : b = W.heap.size) : Blk (W.alloc (.cells (Array.replicate n v) e)) e b (List.replicate n v) := by
  rw [show Array.replicate n v = (List.replicate n v).toArray by simp]
  exact Blk.made hb
/-- A table while it is made: the first a rows are there. -/
structure Mkx (u : World) (s gs gk n a : Nat) (Sb Kb : Nat → Nat) : Prop where
  outS : Blk u 66 gs (outp Sb n a)
  outK : Blk u 67 gk (outp Kb n a)
  inS : ∀ i, i < a → Blk u 38 (Sb i) (List.replicate (n * 2) (.int .i64 0))
  inK : ∀ i, i < a → Blk u 4 (Kb i) ((List.replicate n (.bool false)).set i (.bool true))
  oneS : ∀ i j, i < a → j < a → i ≠ j → Sb i ≠ Sb j
  oneK : ∀ i j, i < a → j < a → i ≠ j → Kb i ≠ Kb j
  low : s ≤ gs ∧ s ≤ gk ∧ ∀ i, i < a → s ≤ Sb i ∧ s ≤ Kb i
theorem Mkx.done {u : World} {s gs gk n : Nat} {Sb Kb : Nat → Nat} (h : Mkx u s gs gk n n Sb Kb) : Tbx u gs gk n Sb Kb tx0 :=
  ⟨by rw [← outp_all]; exact h.outS, by rw [← outp_all]; exact h.outK, fun i hi => by rw [tx0_rowS]; exact h.inS i hi, fun i hi => by rw [tx0_rowK]; exact h.inK i hi, h.oneS, h.oneK⟩
/-- Behind the first makings. -/
def NwR (n : Nat) (w : World) (p : Value) (w' : World) : Prop := ∃ B gs gk, p = .pointer (some ⟨B, 0, none⟩) ∧ Row w' B [.slice (some ⟨gs, 0, none⟩) n n, .slice (some ⟨gk, 0, none⟩) n n] ∧ Mkx w' (w.heap.size + 1) gs gk n 0 (fun _ => 0) (fun _ => 0) ∧ Row w' w.heap.size [.slice none 0 0, .slice none 0 0] ∧ Below w.heap.size w w' ∧ w.heap.size < B ∧ w.heap.size < gs ∧ w.heap.size < gk ∧ gs ≠ B ∧ gk ≠ B
theorem nwR_mk {n B gs gk : Nat} {w w' : World} (r1 : Row w' B [.slice (some ⟨gs, 0, none⟩) n n, .slice (some ⟨gk, 0, none⟩) n n]) (b1 : Blk w' 66 gs (List.replicate n (.slice none 0 0))) (b2 : Blk w' 67 gk (List.replicate n (.slice none 0 0))) (r2 : Row w' w.heap.size [.slice none 0 0, .slice none 0 0]) (bel : Below w.heap.size w w') (n1 : w.heap.size < B) (n2 : w.heap.size < gs) (n3 : w.heap.size < gk) (n4 : gs ≠ B) (n5 : gk ≠ B) : NwR n w (.pointer (some ⟨B, 0, none⟩)) w' :=
  ⟨B, gs, gk, rfl, r1, ⟨by rw [outp_zero]; exact b1, by rw [outp_zero]; exact b2, fun i hi => by omega, fun i hi => by omega, fun i j hi => by omega, fun i j hi => by omega, by omega, by omega, fun i hi => by omega⟩, r2, bel, n1, n2, n3, n4, n5⟩
/-- Behind two more rows. -/
structure Mk2 (wr w' : World) (gs gk n a x y : Nat) (Sb Kb : Nat → Nat) : Prop where
  outS : Blk w' 66 gs ((outp Sb n a).set a (.slice (some ⟨x, 0, none⟩) n n))
  outK : Blk w' 67 gk ((outp Kb n a).set a (.slice (some ⟨y, 0, none⟩) n n))
  inS : Blk w' 38 x (List.replicate (n * 2) (.int .i64 0))
  inK : Blk w' 4 y (List.replicate n (.bool false))
  old : ∀ e b vs, b ≠ gs → b ≠ gk → Blk wr e b vs → Blk w' e b vs
  new : wr.heap.size ≤ x ∧ wr.heap.size ≤ y
theorem Mk2.done {wr w' : World} {s gs gk n a x y : Nat} {Sb Kb : Nat → Nat} (h : Mk2 wr w' gs gk n a x y Sb Kb) (hM : Mkx wr s gs gk n a Sb Kb) (hs : s ≤ wr.heap.size) : Mkx (w'.setCell ⟨y, a, none⟩ (.bool true)) s gs gk n (a + 1) (fun i => if i = a then x else Sb i) (fun i => if i = a then y else Kb i) := by
  have l1 := hM.outS.lt
  have l2 := hM.outK.lt
  have hn := h.new
  have lS : ∀ i, i < a → Sb i < wr.heap.size := fun i hi => (hM.inS i hi).lt
  have lK : ∀ i, i < a → Kb i < wr.heap.size := fun i hi => (hM.inK i hi).lt
  have sS : ∀ i, i < a → Sb i ≠ gs ∧ Sb i ≠ gk := fun i hi => ⟨(hM.inS i hi).ne hM.outS (by decide), (hM.inS i hi).ne hM.outK (by decide)⟩
  have sK : ∀ i, i < a → Kb i ≠ gs ∧ Kb i ≠ gk := fun i hi => ⟨(hM.inK i hi).ne hM.outS (by decide), (hM.inK i hi).ne hM.outK (by decide)⟩
  refine ⟨?_, ?_, fun i hi => ?_, fun i hi => ?_, fun i j hi hj ne => ?_, fun i j hi hj ne => ?_, hM.low.1, hM.low.2.1, fun i hi => ?_⟩
  · rw [← outp_set]; exact h.outS.far (by omega)
  · rw [← outp_set]; exact h.outK.far (by omega)
  · by_cases e : i = a
    · rw [if_pos e]; exact h.inS.far (h.inS.ne h.inK (by decide))
    · rw [if_neg e]
      have := lS i (by omega)
      exact (h.old _ _ _ (sS i (by omega)).1 (sS i (by omega)).2 (hM.inS i (by omega))).far (by omega)
  · by_cases e : i = a
    · rw [if_pos e, e]; exact h.inK.put a
    · rw [if_neg e]
      have := lK i (by omega)
      exact (h.old _ _ _ (sK i (by omega)).1 (sK i (by omega)).2 (hM.inK i (by omega))).far (by omega)
  · by_cases e : i = a
    · rw [if_pos e, if_neg (by omega)]
      have := lS j (by omega)
      omega
    · rw [if_neg e]
      have := lS i (by omega)
      by_cases e' : j = a
      · rw [if_pos e']; omega
      · rw [if_neg e']; exact hM.oneS i j (by omega) (by omega) ne
  · by_cases e : i = a
    · rw [if_pos e, if_neg (by omega)]
      have := lK j (by omega)
      omega
    · rw [if_neg e]
      have := lK i (by omega)
      by_cases e' : j = a
      · rw [if_pos e']; omega
      · rw [if_neg e']; exact hM.oneK i j (by omega) (by omega) ne
  · by_cases e : i = a
    · rw [if_pos e, if_pos e]; omega
    · rw [if_neg e, if_neg e]; exact hM.low.2.2 i (by omega)
set_option maxRecDepth 100000 in
set_option maxHeartbeats 8000000 in
theorem new_any (n : Nat) (w : World) (h6 : n ≤ 6) :
    Calls Tryz.prog 63 #[.int .i64 n] w fun e w' => ∃ (gs gk : Nat) (Sb Kb : Nat → Nat), e = .returned (tbv gs gk n) ∧ Tbx w' gs gk n Sb Kb tx0 ∧ (w.heap.size ≤ gs ∧ w.heap.size ≤ gk ∧ ∀ i, i < n → w.heap.size ≤ Sb i ∧ w.heap.size ≤ Kb i) ∧ Below w.heap.size w w' := by
  have m1 := mk_rows n h6
  have m2 := mk_knowns n h6
  have m3 := mk_spans n h6
  have m4 := xmk_bools n h6
  go_enter Tryz.func63, Tryz.ntmps63
  go_wp2
  go_upto_region 1 with (fail)
  go_cut [3] from 5 to 34 (fun p w' => NwR n w p w')
  case first =>
    as_aux_lemma =>
      go_region
      all_goals
        go_wp2
        go_meet
        case rel =>
          first
            | exact nwR_mk (gs := w.heap.size + 1) (gk := w.heap.size + 1 + 1) (Row.dr (Row.made (by simp))) (Blk.dr (Blk.al (Blk.al (blk_rep (by simp))))) (Blk.dr (Blk.al (blk_rep (by simp)))) (Row.dr (Row.al (Row.al (Row.al (Row.made (by simp)))))) (rbel_dr (rbel_al (rbel_al (rbel_al (rbel_al (Below.refl _ _)))))) (by omega) (by omega) (by omega) (by omega) (by omega)
            | exact nwR_mk (gs := w.heap.size + 1) (gk := w.heap.size + 1 + 1 + 1) (Row.dr (Row.al (Row.made (by simp)))) (Blk.dr (Blk.al (Blk.al (blk_rep (by simp))))) (Blk.dr (blk_rep (by simp))) (Row.dr (Row.al (Row.al (Row.al (Row.made (by simp)))))) (rbel_dr (rbel_al (rbel_al (rbel_al (rbel_al (Below.refl _ _)))))) (by omega) (by omega) (by omega) (by omega) (by omega)
            | exact nwR_mk (gs := w.heap.size + 1 + 1) (gk := w.heap.size + 1) (Row.dr (Row.made (by simp))) (Blk.dr (Blk.al (blk_rep (by simp)))) (Blk.dr (Blk.al (Blk.al (blk_rep (by simp))))) (Row.dr (Row.al (Row.al (Row.al (Row.made (by simp)))))) (rbel_dr (rbel_al (rbel_al (rbel_al (rbel_al (Below.refl _ _)))))) (by omega) (by omega) (by omega) (by omega) (by omega)
            | exact nwR_mk (gs := w.heap.size + 1 + 1) (gk := w.heap.size + 1 + 1 + 1) (Row.dr (Row.al (Row.al (Row.made (by simp))))) (Blk.dr (Blk.al (blk_rep (by simp)))) (Blk.dr (blk_rep (by simp))) (Row.dr (Row.al (Row.al (Row.al (Row.made (by simp)))))) (rbel_dr (rbel_al (rbel_al (rbel_al (rbel_al (Below.refl _ _)))))) (by omega) (by omega) (by omega) (by omega) (by omega)
            | exact nwR_mk (gs := w.heap.size + 1 + 1 + 1) (gk := w.heap.size + 1) (Row.dr (Row.al (Row.made (by simp)))) (Blk.dr (blk_rep (by simp))) (Blk.dr (Blk.al (Blk.al (blk_rep (by simp))))) (Row.dr (Row.al (Row.al (Row.al (Row.made (by simp)))))) (rbel_dr (rbel_al (rbel_al (rbel_al (rbel_al (Below.refl _ _)))))) (by omega) (by omega) (by omega) (by omega) (by omega)
            | exact nwR_mk (gs := w.heap.size + 1 + 1 + 1) (gk := w.heap.size + 1 + 1) (Row.dr (Row.al (Row.al (Row.made (by simp))))) (Blk.dr (blk_rep (by simp))) (Blk.dr (Blk.al (blk_rep (by simp)))) (Row.dr (Row.al (Row.al (Row.al (Row.made (by simp)))))) (rbel_dr (rbel_al (rbel_al (rbel_al (rbel_al (Below.refl _ _)))))) (by omega) (by omega) (by omega) (by omega) (by omega)
  case rest =>
    obtain ⟨B, gs, gk, rfl, hR, hM, hO, hw, b1, b2, b3, b4, b5⟩ := hcut
    clear m1 m2
    have HM : Hid _ := hM
    have HR : Hid _ := hR
    have HO : Hid _ := hO
    have HW : Hid _ := hw
    clear hM hR hO hw
    go_wp2
    go_loopw [11] (fun i wr => ∃ (a : Nat) (Sb Kb : Nat → Nat), a ≤ n ∧ i = .int .i64 a ∧ Row wr B [.slice (some ⟨gs, 0, none⟩) n n, .slice (some ⟨gk, 0, none⟩) n n] ∧ Mkx wr (w.heap.size + 1) gs gk n a Sb Kb ∧ Row wr w.heap.size [.slice none 0 0, .slice none 0 0] ∧ Below w.heap.size w wr) (fun i _ => n - (intOf i).toNat)
    case atStart => exact ⟨0, _, _, Nat.zero_le _, rfl, HR.out, HM.out, HO.out, HW.out⟩
    case round =>
      clear HM HR HO HW
      obtain ⟨a, Sb, Kb, ha, rfl, hR, hM, hO, hw⟩ := hrel
      have c0 := hR.c 0 _ rfl
      have c1 := hR.c 1 _ rfl
      by_cases hlt : a < n
      · have ha3 : (a : Int) < n := by omega
        have oS := hM.outS.c a _ (outp_at Sb n a a hlt)
        have oK := hM.outK.c a _ (outp_at Kb n a a hlt)
        have fS := hM.outS.f a
        have fK := hM.outK.f a
        have l1 := hM.outS.lt
        have l2 := hM.outK.lt
        have l3 := hR.lt
        have nsk : ¬ (gs = gk) := hM.outS.ne hM.outK (by decide)
        have nks : ¬ (gk = gs) := fun e => nsk e.symm
        have zw := hw.size
        have HM : Hid _ := hM
        have HR : Hid _ := hR
        have HO : Hid _ := hO
        have HW : Hid _ := hw
        clear hM hR hO hw
        go_upto_region 5 with (fail)
        go_cut [] from 14 to 33 (fun w' => ∃ x y, Mk2 wr w' gs gk n a x y Sb Kb ∧ Row w' B [.slice (some ⟨gs, 0, none⟩) n n, .slice (some ⟨gk, 0, none⟩) n n] ∧ Row w' w.heap.size [.slice none 0 0, .slice none 0 0] ∧ Below w.heap.size w w')
        case first =>
          as_aux_lemma =>
            go_region
            all_goals
              go_wp2
              go_meet
              case rel =>
                first
                  | exact ⟨wr.heap.size + 1, wr.heap.size, ⟨((HM.out.outS.put a).far nsk).al.al.dr, ((HM.out.outK.far nks).put a).al.al.dr, Blk.dr (blk_rep (by simp)), Blk.dr (Blk.al (blk_rep (by simp))), fun e b vs h1 h2 h => ((h.far h1).far h2).al.al.dr, by omega, by omega⟩, ((HR.out.far b4).far b5).al.al.dr, ((HO.out.far (by omega)).far (by omega)).al.al.dr, rbel_dr (rbel_al (rbel_al (rbel_put (by omega) (rbel_put (by omega) HW.out))))⟩
                  | exact ⟨wr.heap.size, wr.heap.size + 1, ⟨((HM.out.outS.put a).far nsk).al.al.dr, ((HM.out.outK.far nks).put a).al.al.dr, Blk.dr (Blk.al (blk_rep (by simp))), Blk.dr (blk_rep (by simp)), fun e b vs h1 h2 h => ((h.far h1).far h2).al.al.dr, by omega, by omega⟩, ((HR.out.far b4).far b5).al.al.dr, ((HO.out.far (by omega)).far (by omega)).al.al.dr, rbel_dr (rbel_al (rbel_al (rbel_put (by omega) (rbel_put (by omega) HW.out))))⟩
        case rest =>
          obtain ⟨x, y, h2, hR, hO, hw⟩ := hcut
          clear c0 c1 oS oK fS fK
          have d0 := hR.c 0 _ rfl
          have d1 := hR.c 1 _ rfl
          have e0 := h2.outK.c a (.slice (some ⟨y, 0, none⟩) n n) (List.getElem?_set_self (by simp [outp]; exact hlt))
          have e1 := h2.inK.c a (.bool false) (by simp [hlt])
          have e2 := h2.inK.f a
          obtain ⟨nx, ny⟩ := h2.new
          have HX : Hid _ := h2.done HM.out (by omega)
          have HR2 : Hid _ := hR
          have HO2 : Hid _ := hO
          have HW2 : Hid _ := hw
          have ny1 : ¬ (y = B) := by omega
          have ny2 : ¬ (y = w.heap.size) := by omega
          clear HM HR HO HW h2 hR hO hw
          go_wp2
          go_roundw
          case rel => exact ⟨a + 1, _, _, by omega, by go_num, HR2.out.far ny1, HX.out, HO2.out.far ny2, rbel_put (by omega) HW2.out⟩
          case measure => simp [intOf]; omega
      · have hl3 : ¬ ((a : Int) < n) := by omega
        have e : a = n := by omega
        have HM : Hid (Mkx wr (w.heap.size + 1) gs gk n n Sb Kb) := by show Mkx _ _ _ _ _ _ _ _; rw [e] at hM; exact hM
        clear e
        have o0 := hO.c 0 _ rfl
        have o1 := hO.c 1 _ rfl
        have q0 := hO.f 0 _ rfl
        have q1 := hO.f 1 _ rfl
        have HW : Hid _ := hw
        clear hM hR hO hw
        go_wp2
        have TB := HM.out.done
        have lw := HM.out.low.2.2
        have HF : Hid (Tbx ((wr.setCell ⟨w.heap.size, 0, none⟩ (.slice (some ⟨gs, 0, none⟩) n n)).setCell ⟨w.heap.size, 1, none⟩ (.slice (some ⟨gk, 0, none⟩) n n)) gs gk n Sb Kb tx0) := (TB.far (by omega) (by omega) (fun i hi => by have := lw i hi; omega)).far (by omega) (by omega) (fun i hi => by have := lw i hi; omega)
        have HL : Hid (w.heap.size ≤ gs ∧ w.heap.size ≤ gk ∧ ∀ i, i < n → w.heap.size ≤ Sb i ∧ w.heap.size ≤ Kb i) := ⟨by omega, by omega, fun i hi => by have := lw i hi; omega⟩
        clear TB lw
        refine bodyPost_ret (v := tbv gs gk n) (by simp [results, Tryz.results63, go_sem, *]) rfl ?_
        exact ⟨gs, gk, rfl, Sb, Kb, HF.out, HL.out, rbel_put (Nat.le_refl _) (rbel_put (Nat.le_refl _) HW.out)⟩
end Go.Proofs.YthejaecljkjliaiGreatDoor
