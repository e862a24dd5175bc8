/- What the document's own node (package noonref2) answers: Spans. -/
import Derived.Test.YtmomcaodmdlnpahDoorNodeRefA
import Derived.OwnWalk
import Derived.Deep.CutRange
namespace Go.Proofs.YtmomcaodmdlnpahDoor
open Go.ChangeShapes Go.WideShapes Go.ChangeAt Go.RowKit Go.Joins
set_option linter.unusedVariables false
set_option linter.unusedSimpArgs false

theorem ninfoBool : (Tryd.prog.info? 4).map (fun i => (i.zero, i.size, i.bytes)) = some (some (.bool false), 1, 1) := by kernel_rfl
theorem ninfoSpan : (Tryd.prog.info? 64).map (fun i => (i.zero, i.size, i.bytes)) = some (some (.agg #[.int .i64 0, .int .i64 0]), 2, 16) := by kernel_rfl
theorem nmade_cells (z : Value) (hz : z.cells = #[z]) (n : Nat) : madeCells z.cells (n * 1) = (List.replicate n z).toArray := by
  rw [hz, Nat.mul_one]
  apply Array.ext
  · simp [madeCells]
  · intro i h1 h2
    simp [madeCells, Nat.mod_one]
theorem nmade_spans (n : Nat) : madeCells (sp 0 0).cells (n * 2) = (List.replicate (n * 2) (.int .i64 0)).toArray := by
  apply Array.ext
  · simp [madeCells]
  · intro i h1 h2
    simp only [madeCells, Array.getElem_ofFn, List.getElem_toArray, List.getElem_replicate]
    have : i % 2 = 0 ∨ i % 2 = 1 := by omega
    simp [Value.cells]
    rcases this with e | e <;> simp [e]
theorem nmk_bools (n : Nat) (h6 : n ≤ 6) (W : World) : (Instr.makeSlice 58 (.int .i64 n) (.int .i64 n)).run Tryd.prog W = .ok (.slice (some ⟨W.heap.size, 0, none⟩) n n) (W.alloc (.cells (List.replicate n (.bool false)).toArray 4)) := by
  obtain ⟨i0, hi0, hz0, hz1, hz2⟩ := info_parts ninfoBool
  have h := run_makeSlice W 58 4 i0 _ Tryd.underlying58 hi0 hz0 .i64 .i64 n n (by omega) (by omega) (by rw [hz1]; simp; omega) (by rw [hz2]; simp; omega) (by omega)
  rw [hz1, Int.toNat_natCast, nmade_cells _ rfl n] at h
  exact h
theorem nmk_spans (n : Nat) (h6 : n ≤ 6) (W : World) : (Instr.makeSlice 57 (.int .i64 n) (.int .i64 n)).run Tryd.prog W = .ok (.slice (some ⟨W.heap.size, 0, none⟩) n n) (W.alloc (.cells (List.replicate (n * 2) (.int .i64 0)).toArray 64)) := by
  obtain ⟨i0, hi0, hz0, hz1, hz2⟩ := info_parts ninfoSpan
  have h := run_makeSlice W 57 64 i0 _ Tryd.underlying57 hi0 hz0 .i64 .i64 n n (by omega) (by omega) (by rw [hz1]; simp; omega) (by rw [hz2]; simp; omega) (by omega)
  rw [hz1, Int.toNat_natCast, nmade_spans n] at h
  exact h
/-- The two rows while they are filled. -/
structure StS (u : World) (s i : Nat) (c : Nd) (t : Int) : Prop where
  a : ∀ j, j < c.n → u.cell? ⟨s, j * 2, none⟩ = some (.int .i64 (if j < i then (c.so t j).1 else 0))
  b : ∀ j, j < c.n → u.cell? ⟨s, j * 2 + 1, none⟩ = some (.int .i64 (if j < i then (c.so t j).2 else 0))
  h : ∀ j, j < c.n → u.cell? ⟨s + 1, j, none⟩ = some (.bool (if j < i then c.ho j else decide (j = c.id)))
  fa : ∀ j, u.frozen? ⟨s, j, none⟩ = false
  fh : ∀ j, u.frozen? ⟨s + 1, j, none⟩ = false
section
variable {u u' : World} {s i : Nat} {c : Nd} {t : Int}
theorem StS.block (h1 : u'.heap[s]? = u.heap[s]?) (h2 : u'.heap[s + 1]? = u.heap[s + 1]?) (h : StS u s i c t) : StS u' s i c t := by
  have e1 : ∀ j, u'.cell? ⟨s, j, none⟩ = u.cell? ⟨s, j, none⟩ := fun j => World.cell?_of_block (w := u) (a := ⟨s, j, none⟩) h1
  have e2 : ∀ j, u'.cell? ⟨s + 1, j, none⟩ = u.cell? ⟨s + 1, j, none⟩ := fun j => World.cell?_of_block (w := u) (a := ⟨s + 1, j, none⟩) h2
  exact ⟨fun j hj => by rw [e1]; exact h.a j hj, fun j hj => by rw [e1]; exact h.b j hj, fun j hj => by rw [e2]; exact h.h j hj, fun j => (World.frozen?_of_block (w := u) (a := ⟨s, j, none⟩) h1).trans (h.fa j), fun j => (World.frozen?_of_block (w := u) (a := ⟨s + 1, j, none⟩) h2).trans (h.fh j)⟩
theorem StS.on (h0 : 0 < c.n) (hb : Below u.heap.size u u') (h : StS u s i c t) : StS u' s i c t :=
  h.block (hb.block s (World.block_lt_of_cell? _ _ (h.a 0 h0))) (hb.block (s + 1) (World.block_lt_of_cell? _ _ (h.h 0 h0)))
theorem StS.skip (hh : c.has i = false) (h : StS u s i c t) : StS u s (i + 1) c t := by
  have e : c.so t i = (0, 0) := by unfold Nd.so; rw [hh]; rfl
  have e2 : c.ho i = decide (i = c.id) := by unfold Nd.ho; rw [hh]; rfl
  refine ⟨fun j hj => ?_, fun j hj => ?_, fun j hj => ?_, h.fa, h.fh⟩
  · rw [h.a j hj]
    by_cases q : j = i
    · subst q; rw [if_neg (by omega), if_pos (by omega), e]
    · by_cases r : j < i
      · rw [if_pos r, if_pos (by omega)]
      · rw [if_neg r, if_neg (by omega)]
  · rw [h.b j hj]
    by_cases q : j = i
    · subst q; rw [if_neg (by omega), if_pos (by omega), e]
    · by_cases r : j < i
      · rw [if_pos r, if_pos (by omega)]
      · rw [if_neg r, if_neg (by omega)]
  · rw [h.h j hj]
    by_cases q : j = i
    · subst q; rw [if_neg (by omega), if_pos (by omega), e2]
    · by_cases r : j < i
      · rw [if_pos r, if_pos (by omega)]
      · rw [if_neg r, if_neg (by omega)]
theorem StS.put {lo hi : Int} (hi' : i < c.n) (hs : c.so t i = (lo, hi)) (ho : c.ho i = true) (h : StS u s i c t) : StS (((u.setCell ⟨s, i * 2, none⟩ (.int .i64 lo)).setCell ⟨s, i * 2 + 1, none⟩ (.int .i64 hi)).setCell ⟨s + 1, i, none⟩ (.bool true)) s (i + 1) c t := by
  have c1 := h.a i hi'
  have c2 : (u.setCell ⟨s, i * 2, none⟩ (.int .i64 lo)).cell? ⟨s, i * 2 + 1, none⟩ = some (.int .i64 (if i < i then (c.so t i).2 else 0)) := by rw [cell_put c1, if_neg (by omega)]; exact h.b i hi'
  have c3 : ((u.setCell ⟨s, i * 2, none⟩ (.int .i64 lo)).setCell ⟨s, i * 2 + 1, none⟩ (.int .i64 hi)).cell? ⟨s + 1, i, none⟩ = some (.bool (if i < i then c.ho i else decide (i = c.id))) := by
    rw [World.cell?_setCell_far _ _ _ _ (by simp), World.cell?_setCell_far _ _ _ _ (by simp)]; exact h.h i hi'
  have e1 : ∀ j, (((u.setCell ⟨s, i * 2, none⟩ (.int .i64 lo)).setCell ⟨s, i * 2 + 1, none⟩ (.int .i64 hi)).setCell ⟨s + 1, i, none⟩ (.bool true)).cell? ⟨s, j, none⟩ = if j = i * 2 + 1 then some (.int .i64 hi) else if j = i * 2 then some (.int .i64 lo) else u.cell? ⟨s, j, none⟩ := fun j => by
    rw [World.cell?_setCell_far _ _ _ _ (by simp), cell_put c2, cell_put c1]
  have e2 : ∀ j, (((u.setCell ⟨s, i * 2, none⟩ (.int .i64 lo)).setCell ⟨s, i * 2 + 1, none⟩ (.int .i64 hi)).setCell ⟨s + 1, i, none⟩ (.bool true)).cell? ⟨s + 1, j, none⟩ = if j = i then some (.bool true) else u.cell? ⟨s + 1, j, none⟩ := fun j => by
    rw [cell_put c3]
    by_cases q : j = i
    · rw [if_pos q, if_pos q]
    · rw [if_neg q, if_neg q, World.cell?_setCell_far _ _ _ _ (by simp), World.cell?_setCell_far _ _ _ _ (by simp)]
  refine ⟨fun j hj => ?_, fun j hj => ?_, fun j hj => ?_, fun j => by simp only [World.frozen?_setCell]; exact h.fa j, fun j => by simp only [World.frozen?_setCell]; exact h.fh j⟩
  · rw [e1, if_neg (by omega)]
    by_cases q : j = i
    · subst q; rw [if_pos rfl, if_pos (by omega), hs]
    · rw [if_neg (by omega), h.a j hj]
      by_cases r : j < i
      · rw [if_pos r, if_pos (by omega)]
      · rw [if_neg r, if_neg (by omega)]
  · rw [e1]
    by_cases q : j = i
    · subst q; rw [if_pos rfl, if_pos (by omega), hs]
    · rw [if_neg (by omega), if_neg (by omega), h.b j hj]
      by_cases r : j < i
      · rw [if_pos r, if_pos (by omega)]
      · rw [if_neg r, if_neg (by omega)]
  · rw [e2]
    by_cases q : j = i
    · subst q; rw [if_pos rfl, if_pos (by omega), ho]
    · rw [if_neg q, h.h j hj]
      by_cases r : j < i
      · rw [if_pos r, if_pos (by omega)]
      · rw [if_neg r, if_neg (by omega)]
end
set_option maxRecDepth 100000 in
set_option maxHeartbeats 4000000 in
theorem rnspans_bk (b : Nat) (c : Nd) (t : Int) (u : World) (hR : RN u b c) (hb : c.bk t) :
    Calls Tryd.prog 23 #[.pointer (some ⟨b, 0, none⟩), .int .i64 t] u fun o w' => o = .returned (.tuple #[.slice none 0 0, .slice none 0 0, .int .i64 8]) ∧ Below u.heap.size u w' := by
  have HR : Hid (RN u b c) := hR
  have HB : Hid (c.bk t) := hb
  clear hR hb
  go_enter Tryd.func23, Tryd.ntmps23
  go_wp2_with (go_at_call 43; refine (rback_yes b c t _ HR.out HB.out).mono ?_; rintro o u1 ⟨rfl, hu⟩; rw [hu]; clear hu)
  exact bodyPost_ret (v := .tuple #[.slice none 0 0, .slice none 0 0, .int .i64 8]) (by simp [results, Tryd.results23, go_sem, *]) rfl ⟨rfl, Below.refl _ _⟩
theorem StS.start (u : World) (c : Nd) (t : Int) (hid : c.id < c.n) : StS ((u.alloc (.cells (List.replicate (c.n * 2) (Value.int .i64 0)).toArray 64)).alloc (.cells ((List.replicate c.n (Value.bool false)).set c.id (.bool true)).toArray 4)) u.heap.size 0 c t := by
  have ra : Row ((u.alloc (.cells (List.replicate (c.n * 2) (Value.int .i64 0)).toArray 64)).alloc (.cells ((List.replicate c.n (Value.bool false)).set c.id (.bool true)).toArray 4)) u.heap.size (List.replicate (c.n * 2) (Value.int .i64 0)) := Row.al (Row.made rfl)
  have rb : Row ((u.alloc (.cells (List.replicate (c.n * 2) (Value.int .i64 0)).toArray 64)).alloc (.cells ((List.replicate c.n (Value.bool false)).set c.id (.bool true)).toArray 4)) (u.heap.size + 1) ((List.replicate c.n (Value.bool false)).set c.id (.bool true)) := Row.made (by simp)
  refine ⟨fun j hj => ?_, fun j hj => ?_, fun j hj => ?_, fun j => ?_, fun j => ?_⟩
  · rw [if_neg (by omega)]; exact ra.c _ _ (by rw [List.getElem?_replicate, if_pos (by omega)])
  · rw [if_neg (by omega)]; exact ra.c _ _ (by rw [List.getElem?_replicate, if_pos (by omega)])
  · rw [if_neg (by omega)]
    refine rb.c _ _ ?_
    by_cases q : c.id = j
    · subst q; rw [List.getElem?_set_self (by simp; omega)]; simp
    · rw [List.getElem?_set_ne q, List.getElem?_replicate, if_pos hj, decide_eq_false (fun e => q e.symm)]
  · rw [frozen?_alloc_cells]; exact World.frozen?_alloc_at _ _ _ _ rfl
  · exact World.frozen?_alloc_at _ _ _ _ (by simp)
set_option maxRecDepth 100000 in
set_option maxHeartbeats 8000000 in
theorem rnspans_go (b : Nat) (c : Nd) (t : Int) (u : World) (hR : RN u b c) (hI : c.I) (hb : ¬ c.bk t) :
    Calls Tryd.prog 23 #[.pointer (some ⟨b, 0, none⟩), .int .i64 t] u fun o w' => (∃ e, SpR c t e ∧ ((e = 0 ∧ o = .returned (.tuple #[.slice (some ⟨u.heap.size, 0, none⟩) c.n c.n, .slice (some ⟨u.heap.size + 1, 0, none⟩) c.n c.n, .int .i64 0]) ∧ StS w' u.heap.size c.n c t) ∨ (e ≠ 0 ∧ o = .returned (.tuple #[.slice none 0 0, .slice none 0 0, .int .i64 e])))) ∧ Below u.heap.size u w' := by
  have HR : Hid (RN u b c) := hR
  have HB : Hid (¬ c.bk t) := hb
  have HI : Hid c.I := hI
  have h6 := hI.n6
  have hid := hI.idn
  have m1 := nmk_spans c.n h6
  have m2 := nmk_bools c.n h6
  have c0 := hR.id
  have c1 := hR.n
  have zb := hR.lt
  have hid2 : (c.id : Int) < (c.n : Int) := by omega
  clear hR hb hI
  go_enter Tryd.func23, Tryd.ntmps23
  go_wp2_with (go_at_call 43; refine (rback_no b c t _ HR.out HB.out).mono ?_; rintro o u1 ⟨rfl, hu⟩; rw [hu]; clear hu)
  go_loopw [10] (fun vi wr => ∃ i : Nat, i ≤ c.n ∧ vi = .int .i64 i ∧ StS wr u.heap.size i c t ∧ (∀ j, j < i → c.has j = true → okB (c.alo j t) (c.ahi j t) = true) ∧ RN wr b c ∧ Below u.heap.size u wr) (fun vi _ => c.n - (intOf vi).toNat)
  case atStart =>
    have B0 : Below u.heap.size u ((u.alloc (.cells (List.replicate (c.n * 2) (Value.int .i64 0)).toArray 64)).alloc (.cells ((List.replicate c.n (Value.bool false)).set c.id (.bool true)).toArray 4)) := rbel_al (rbel_al (Below.refl _ _))
    have S0 := StS.start u c t hid
    have a1 : Array.replicate (c.n * 2) (Value.int .i64 0) = (List.replicate (c.n * 2) (Value.int .i64 0)).toArray := by simp
    have a2 : (Array.replicate c.n (Value.bool false)).setIfInBounds c.id (Value.bool true) = ((List.replicate c.n (Value.bool false)).set c.id (.bool true)).toArray := by
      apply Array.ext'
      rw [Array.toList_setIfInBounds, Array.toList_replicate]
    rw [a1, a2]
    exact ⟨0, Nat.zero_le _, rfl, S0, fun j hj => by omega, RN.on B0 HR.out, B0⟩
  case round =>
    clear m1 m2 c0 c1
    obtain ⟨i, hi, rfl, hS, hok, hN, hw⟩ := hrel
    have HS : Hid (StS wr u.heap.size i c t) := hS
    have HO : Hid (∀ j, j < i → c.has j = true → okB (c.alo j t) (c.ahi j t) = true) := hok
    have HN : Hid (RN wr b c) := hN
    have HW : Hid (Below u.heap.size u wr) := hw
    have c1 := hN.n
    have zb2 := hN.lt
    have z1 : u.heap.size + 1 < wr.heap.size := World.block_lt_of_cell? _ _ (hS.h 0 (by omega))
    by_cases hlt : i < c.n
    · have hl3 : (i : Int) < (c.n : Int) := by omega
      have hl6 : (i : Int) < 6 := by omega
      have v4 := hN.has i (by omega)
      clear hS hok hN hw
      cases hh : c.has i with
      | false =>
        rw [hh] at v4
        go_wp2
        go_roundw
        case rel => exact ⟨i + 1, by omega, by go_num, HS.out.skip hh, fun j hj hj2 => by
          by_cases q : j = i
          · subst q; rw [hh] at hj2; cases hj2
          · exact HO.out j (by omega) hj2, HN.out, HW.out⟩
        case measure => simp [intOf]; omega
      | true =>
        rw [hh] at v4
        have cA := rnaged b c i t wr HN.out HI.out HB.out hh
        have e1 : c.so t i = (c.alo i t, c.ahi i t) := by unfold Nd.so; rw [if_pos hh]
        have e2 : c.ho i = true := by unfold Nd.ho; rw [hh]; rfl
        have E1 : Hid (c.so t i = (c.alo i t, c.ahi i t)) := e1
        have E2 : Hid (c.ho i = true) := e2
        cases hB : okB (c.alo i t) (c.ahi i t) with
        | false =>
          have cS := fun w => rspan_any (c.alo i t) (c.ahi i t) w
          rw [hB] at cS
          have NO : Hid (SpR c t 1) := Or.inr (Or.inl ⟨HB.out, ⟨i, hlt, hh, hB⟩, rfl⟩)
          clear e1 e2 E1 E2 hB
          generalize c.alo i t = al at *
          generalize c.ahi i t = ah at *
          go_wp2_with (first
            | (go_at_call 46; refine cA.mono ?_; rintro o u2 ⟨rfl, hb⟩; have B2 : Hid (Below u.heap.size u u2) := rbel_on hb HW.out; clear hb)
            | (go_at_call 47; refine (cS _).mono ?_; rintro o u3 ⟨rfl, hb⟩; have B3 : Hid (Below u.heap.size u u3) := rbel_on hb (rbel_al B2.out); clear hb))
          exact bodyPost_ret (v := .tuple #[.slice none 0 0, .slice none 0 0, .int .i64 1]) (by simp [results, Tryd.results23, go_sem, *]) rfl ⟨⟨1, NO.out, Or.inr ⟨by decide, rfl⟩⟩, B3.out⟩
        | true =>
          have cS := fun w => rspan_any (c.alo i t) (c.ahi i t) w
          rw [hB] at cS
          have HBB : Hid (okB (c.alo i t) (c.ahi i t) = true) := hB
          clear e1 e2 hB
          generalize ea : c.alo i t = al at *
          generalize eh : c.ahi i t = ah at *
          have EA : Hid (c.alo i t = al) := ea
          have EH : Hid (c.ahi i t = ah) := eh
          clear ea eh
          go_wp2_with (first
            | (go_at_call 46; refine cA.mono ?_; rintro o u2 ⟨rfl, hb⟩; have B2 : Hid (Below wr.heap.size wr u2) := hb; clear hb)
            | (go_at_call 47; refine (cS _).mono ?_; rintro o u3 ⟨rfl, hb⟩; have B3 : Hid (Below wr.heap.size wr u3) := rbel_on hb (rbel_al B2.out); have RS : Hid (Row u3 u2.heap.size [.int .i64 al, .int .i64 ah]) := Row.on hb (Row.made rfl); have S3 : Hid (StS u3 u.heap.size i c t) := HS.out.on (by omega) B3.out; have N3 : Hid (RN u3 b c) := RN.on B3.out HN.out; have r0 := RS.out.c 0 _ rfl; have r1 := RS.out.c 1 _ rfl; have g0 := S3.out.a i hlt; have g1 := S3.out.b i hlt; have g2 := S3.out.h i hlt; have k0 := S3.out.fa (i * 2); have k1 := S3.out.fa (i * 2 + 1); have k2 := S3.out.fh i; have z3 : u.heap.size + 1 < u3.heap.size := Nat.lt_of_lt_of_le z1 B3.out.size; have z4 : u2.heap.size < u3.heap.size := RS.out.lt; have z5 : u.heap.size < u3.heap.size := (by omega); have B2s : wr.heap.size ≤ u2.heap.size := B2.out.size; have q1 : ¬ (u2.heap.size = u.heap.size) := (by omega); have q2 : ¬ (u2.heap.size = u.heap.size + 1) := (by omega); clear hb))
          go_roundw
          case rel =>
            have hs : c.so t i = (al, ah) := E1.out
            refine ⟨i + 1, by omega, by go_num, S3.out.put hlt hs E2.out, fun j hj hj2 => ?_, RN.far (by omega) (RN.far (by omega) (RN.far (by omega) N3.out)), rbel_put (by omega) (rbel_put (Nat.le_refl _) (rbel_put (Nat.le_refl _) (rbel_on B3.out HW.out)))⟩
            by_cases q : j = i
            · subst q; rw [EA.out, EH.out]; exact HBB.out
            · exact HO.out j (by omega) hj2
          case measure => simp [intOf]; omega
    · have hl3 : ¬ ((i : Int) < (c.n : Int)) := by omega
      have e' : i = c.n := by omega
      have HE : Hid (i = c.n) := e'
      clear hS hok hN hw e'
      go_wp2
      exact bodyPost_ret (v := .tuple #[.slice (some ⟨u.heap.size, 0, none⟩) c.n c.n, .slice (some ⟨u.heap.size + 1, 0, none⟩) c.n c.n, .int .i64 0]) (by simp [results, Tryd.results23, go_sem, *]) rfl ⟨⟨0, Or.inr (Or.inr ⟨HB.out, fun j hj hj2 => HO.out j (by rw [HE.out]; exact hj) hj2, rfl⟩), Or.inl ⟨rfl, rfl, HE.out ▸ HS.out⟩⟩, HW.out⟩
end Go.Proofs.YtmomcaodmdlnpahDoor
