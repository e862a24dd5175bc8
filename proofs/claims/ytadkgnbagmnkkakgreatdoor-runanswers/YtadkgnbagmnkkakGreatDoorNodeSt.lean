/- Two rows of a call's own: spans, and whether each is known; while they are filled. -/
import Derived.Test.YtadkgnbagmnkkakGreatDoorNm03
import Derived.OwnWalk
import Derived.Deep.CutRange
namespace Go.Proofs.YtadkgnbagmnkkakGreatDoor
open Go.ChangeShapes Go.WideShapes Go.ChangeAt Go.RowKit
set_option linter.unusedVariables false
set_option linter.unusedSimpArgs false

theorem cell_putk {u : World} {b j m : Nat} {x y : Value} (h : u.cell? ⟨b, m, none⟩ = some y) : (u.setCell ⟨b, m, none⟩ x).cell? ⟨b, j, none⟩ = if j = m then some x else u.cell? ⟨b, j, none⟩ := by
 by_cases e : j = m
 ·subst e; rw [if_pos rfl]; exact World.cell?_setCell_same _ _ _ h
 ·rw [if_neg e]; exact World.cell?_setCell_other _ _ _ _ (fun q => e (by injection q with _ q; exact q.symm))
theorem kinfoBool : (Tryz.prog.info? 4).map (fun i => (i.zero, i.size, i.bytes)) = some (some (.bool false), 1, 1) := by kernel_rfl
theorem kinfoSpan : (Tryz.prog.info? 34).map (fun i => (i.zero, i.size, i.bytes)) = some (some (.agg #[.int .i64 0, .int .i64 0]), 2, 16) := by kernel_rfl
theorem kmade_cells (z : Value) (hz : z.cells = #[z]) (n : Nat) : madeCells z.cells (n * 1) = (List.replicate n z).toArray := by
 rw [hz, Nat.mul_one]
 apply Array.ext
 ·simp [madeCells]
 ·intro i h1 h2
  simp [madeCells, Nat.mod_one]
theorem kmade_spans (n : Nat) : madeCells (sp 0 0).cells (n * 2) = (List.replicate (n * 2) (.int .i64 0)).toArray := by
 apply Array.ext
 ·simp [madeCells]
 ·intro i h1 h2
  simp only [madeCells, Array.getElem_ofFn, List.getElem_toArray, List.getElem_replicate]
  have : i % 2 = 0 ∨ i % 2 = 1 := by omega
  simp [Value.cells]
  rcases this with e | e <;> simp [e]
theorem kmk_bools (n : Nat) (h6 : n ≤ 6) (W : World) : (Instr.makeSlice 127 (.int .i64 n) (.int .i64 n)).run Tryz.prog W = .ok (.slice (some ⟨W.heap.size, 0, none⟩) n n) (W.alloc (.cells (List.replicate n (.bool false)).toArray 4)) := by
 obtain ⟨i0, hi0, hz0, hz1, hz2⟩ := info_parts kinfoBool
 have h := run_makeSlice W 127 4 i0 _ Tryz.underlying127 hi0 hz0 .i64 .i64 n n (by omega) (by omega) (by rw [hz1]; simp; omega) (by rw [hz2]; simp; omega) (by omega)
 rw [hz1, Int.toNat_natCast, kmade_cells _ rfl n] at h
 exact h
theorem kmk_spans (n : Nat) (h6 : n ≤ 6) (W : World) : (Instr.makeSlice 128 (.int .i64 n) (.int .i64 n)).run Tryz.prog W = .ok (.slice (some ⟨W.heap.size, 0, none⟩) n n) (W.alloc (.cells (List.replicate (n * 2) (.int .i64 0)).toArray 34)) := by
 obtain ⟨i0, hi0, hz0, hz1, hz2⟩ := info_parts kinfoSpan
 have h := run_makeSlice W 128 34 i0 _ Tryz.underlying128 hi0 hz0 .i64 .i64 n n (by omega) (by omega) (by rw [hz1]; simp; omega) (by rw [hz2]; simp; omega) (by omega)
 rw [hz1, Int.toNat_natCast, kmade_spans n] at h
 exact h
structure StN (u : World) (s g i : Nat) (c : Nd) (t : Int) : Prop where
 a : ∀ j, j < c.n → u.cell? ⟨s, j * 2, none⟩ = some (.int .i64 (if j < i then (c.so t j).1 else 0))
 b : ∀ j, j < c.n → u.cell? ⟨s, j * 2 + 1, none⟩ = some (.int .i64 (if j < i then (c.so t j).2 else 0))
 h : ∀ j, j < c.n → u.cell? ⟨g, j, none⟩ = some (.bool (if j < i then c.ho j else decide (j = c.id)))
 fa : ∀ j, j < c.n * 2 → u.frozen? ⟨s, j, none⟩ = false
 fh : ∀ j, j < c.n → u.frozen? ⟨g, j, none⟩ = false
 ne : s ≠ g
section
variable {u u' : World} {s g i : Nat} {c : Nd} {t : Int}
theorem StN.block (h1 : u'.heap[s]? = u.heap[s]?) (h2 : u'.heap[g]? = u.heap[g]?) (h : StN u s g i c t) : StN u' s g i c t := by
 have e1 : ∀ j, u'.cell? ⟨s, j, none⟩ = u.cell? ⟨s, j, none⟩ := fun j => World.cell?_of_block (w := u) (a := ⟨s, j, none⟩) h1
 have e2 : ∀ j, u'.cell? ⟨g, j, none⟩ = u.cell? ⟨g, j, none⟩ := fun j => World.cell?_of_block (w := u) (a := ⟨g, j, none⟩) h2
 exact ⟨fun j hj => by rw [e1]; exact h.a j hj, fun j hj => by rw [e1]; exact h.b j hj, fun j hj => by rw [e2]; exact h.h j hj, fun j hj => (World.frozen?_of_block (w := u) (a := ⟨s, j, none⟩) h1).trans (h.fa j hj), fun j hj => (World.frozen?_of_block (w := u) (a := ⟨g, j, none⟩) h2).trans (h.fh j hj), h.ne⟩
theorem StN.on (h0 : 0 < c.n) (hb : Below u.heap.size u u') (h : StN u s g i c t) : StN u' s g i c t :=
 h.block (hb.block s (World.block_lt_of_cell? _ _ (h.a 0 h0))) (hb.block (g) (World.block_lt_of_cell? _ _ (h.h 0 h0)))
theorem StN.skip (hh : c.has i = false) (h : StN u s g i c t) : StN u s g (i + 1) c t := by
 have e : c.so t i = (0, 0) := by unfold Nd.so; rw [hh]; rfl
 have e2 : c.ho i = decide (i = c.id) := by unfold Nd.ho; rw [hh]; rfl
 refine ⟨fun j hj => ?_, fun j hj => ?_, fun j hj => ?_, h.fa, h.fh, h.ne⟩
 ·rw [h.a j hj]
  by_cases q : j = i
  ·subst q; rw [if_neg (by omega), if_pos (by omega), e]
  ·by_cases r : j < i
   ·rw [if_pos r, if_pos (by omega)]
   ·rw [if_neg r, if_neg (by omega)]
 ·rw [h.b j hj]
  by_cases q : j = i
  ·subst q; rw [if_neg (by omega), if_pos (by omega), e]
  ·by_cases r : j < i
   ·rw [if_pos r, if_pos (by omega)]
   ·rw [if_neg r, if_neg (by omega)]
 ·rw [h.h j hj]
  by_cases q : j = i
  ·subst q; rw [if_neg (by omega), if_pos (by omega), e2]
  ·by_cases r : j < i
   ·rw [if_pos r, if_pos (by omega)]
   ·rw [if_neg r, if_neg (by omega)]
theorem StN.put {lo hi : Int} (hi' : i < c.n) (hs : c.so t i = (lo, hi)) (ho : c.ho i = true) (h : StN u s g i c t) : StN (((u.setCell ⟨s, i * 2, none⟩ (.int .i64 lo)).setCell ⟨s, i * 2 + 1, none⟩ (.int .i64 hi)).setCell ⟨g, i, none⟩ (.bool true)) s g (i + 1) c t := by
 have c1 := h.a i hi'
 have c2 : (u.setCell ⟨s, i * 2, none⟩ (.int .i64 lo)).cell? ⟨s, i * 2 + 1, none⟩ = some (.int .i64 (if i < i then (c.so t i).2 else 0)) := by rw [cell_putk c1, if_neg (by omega)]; exact h.b i hi'
 have c3 : ((u.setCell ⟨s, i * 2, none⟩ (.int .i64 lo)).setCell ⟨s, i * 2 + 1, none⟩ (.int .i64 hi)).cell? ⟨g, i, none⟩ = some (.bool (if i < i then c.ho i else decide (i = c.id))) := by
  rw [World.cell?_setCell_far _ _ _ _ h.ne, World.cell?_setCell_far _ _ _ _ h.ne]; exact h.h i hi'
 have e1 : ∀ j, (((u.setCell ⟨s, i * 2, none⟩ (.int .i64 lo)).setCell ⟨s, i * 2 + 1, none⟩ (.int .i64 hi)).setCell ⟨g, i, none⟩ (.bool true)).cell? ⟨s, j, none⟩ = if j = i * 2 + 1 then some (.int .i64 hi) else if j = i * 2 then some (.int .i64 lo) else u.cell? ⟨s, j, none⟩ := fun j => by
  rw [World.cell?_setCell_far _ _ _ _ (fun q => h.ne q.symm), cell_putk c2, cell_putk c1]
 have e2 : ∀ j, (((u.setCell ⟨s, i * 2, none⟩ (.int .i64 lo)).setCell ⟨s, i * 2 + 1, none⟩ (.int .i64 hi)).setCell ⟨g, i, none⟩ (.bool true)).cell? ⟨g, j, none⟩ = if j = i then some (.bool true) else u.cell? ⟨g, j, none⟩ := fun j => by
  rw [cell_putk c3]
  by_cases q : j = i
  ·rw [if_pos q, if_pos q]
  ·rw [if_neg q, if_neg q, World.cell?_setCell_far _ _ _ _ h.ne, World.cell?_setCell_far _ _ _ _ h.ne]
 refine ⟨fun j hj => ?_, fun j hj => ?_, fun j hj => ?_, fun j hj => by simp only [World.frozen?_setCell]; exact h.fa j hj, fun j hj => by simp only [World.frozen?_setCell]; exact h.fh j hj, h.ne⟩
 ·rw [e1, if_neg (by omega)]
  by_cases q : j = i
  ·subst q; rw [if_pos rfl, if_pos (by omega), hs]
  ·rw [if_neg (by omega), h.a j hj]
   by_cases r : j < i
   ·rw [if_pos r, if_pos (by omega)]
   ·rw [if_neg r, if_neg (by omega)]
 ·rw [e1]
  by_cases q : j = i
  ·subst q; rw [if_pos rfl, if_pos (by omega), hs]
  ·rw [if_neg (by omega), if_neg (by omega), h.b j hj]
   by_cases r : j < i
   ·rw [if_pos r, if_pos (by omega)]
   ·rw [if_neg r, if_neg (by omega)]
 ·rw [e2]
  by_cases q : j = i
  ·subst q; rw [if_pos rfl, if_pos (by omega), ho]
  ·rw [if_neg q, h.h j hj]
   by_cases r : j < i
   ·rw [if_pos r, if_pos (by omega)]
   ·rw [if_neg r, if_neg (by omega)]
end
theorem StN.start {u : World} {s g : Nat} {c : Nd} {t : Int} (ra : Row u s (List.replicate (c.n * 2) (Value.int .i64 0))) (rb : Row u g ((List.replicate c.n (Value.bool false)).set c.id (.bool true))) (hid : c.id < c.n) (hne : s ≠ g) : StN u s g 0 c t := by
 refine ⟨fun j hj => ?_, fun j hj => ?_, fun j hj => ?_, fun j hj => ?_, fun j hj => ?_, hne⟩
 ·rw [if_neg (by omega)]; exact ra.c _ _ (by rw [List.getElem?_replicate, if_pos (by omega)])
 ·rw [if_neg (by omega)]; exact ra.c _ _ (by rw [List.getElem?_replicate, if_pos (by omega)])
 ·rw [if_neg (by omega)]
  refine rb.c _ _ ?_
  by_cases q : c.id = j
  ·subst q; rw [List.getElem?_set_self (by simp; omega)]; simp
  ·rw [List.getElem?_set_ne q, List.getElem?_replicate, if_pos hj, decide_eq_false (fun e => q e.symm)]
 ·exact ra.f j _ (by rw [List.getElem?_replicate, if_pos hj])
 ·refine rb.f j (if c.id = j then .bool true else .bool false) ?_
  by_cases q : c.id = j
  ·subst q; rw [List.getElem?_set_self (by simp; omega), if_pos rfl]
  ·rw [List.getElem?_set_ne q, List.getElem?_replicate, if_pos hj, if_neg q]
end Go.Proofs.YtadkgnbagmnkkakGreatDoor
