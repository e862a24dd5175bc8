/- The document's own node (package noonref2) in memory; Back, aged. What the document's own node (package noonref2) answers: Spans. -/
import Derived.Test.YtnagdjipmpjaaaiGreatDoorNm03
import Derived.Test.YtnagdjipmpjaaaiGreatDoorRefOff
import Derived.Test.YtnagdjipmpjaaaiGreatDoorRefMeet
import Derived.Lib.SmallJoins
import Derived.Deep.QuietTactic
import Derived.BigQuiet
import Derived.BigRegion
import Derived.OwnWalk
import Derived.Deep.CutRange
namespace Go.Proofs.YtnagdjipmpjaaaiGreatDoor
open Go.ChangeShapes Go.WideShapes Go.ChangeAt Go.RowKit Go.Joins
set_option linter.unusedVariables false
set_option linter.unusedSimpArgs false

/-- The document's node in memory. -/
structure RN (u : World) (b : Nat) (c : Nd) : Prop where
  id : u.cell? ⟨b, 0, none⟩ = some (.int .i64 c.id)
  n : u.cell? ⟨b, 1, none⟩ = some (.int .i64 c.n)
  p : u.cell? ⟨b, 2, none⟩ = some (.int .i64 c.p)
  h : u.cell? ⟨b, 3, none⟩ = some (.int .i64 c.h)
  has : ∀ i, i < 6 → u.cell? ⟨b, 4 + i, none⟩ = some (.bool (c.has i))
  lo : ∀ i, i < 6 → u.cell? ⟨b, 10 + i * 2, none⟩ = some (.int .i64 (c.lo i))
  hi : ∀ i, i < 6 → u.cell? ⟨b, 10 + i * 2 + 1, none⟩ = some (.int .i64 (c.hi i))
  at_ : ∀ i, i < 6 → u.cell? ⟨b, 22 + i, none⟩ = some (.int .i64 (c.at_ i))
  fz : ∀ j, u.frozen? ⟨b, j, none⟩ = false
section
variable {u u' : World} {b : Nat} {c : Nd}
theorem RN.lt (h : RN u b c) : b < u.heap.size := World.block_lt_of_cell? _ _ h.id
theorem RN.block (he : u'.heap[b]? = u.heap[b]?) (h : RN u b c) : RN u' b c := by
  have e : ∀ j, u'.cell? ⟨b, j, none⟩ = u.cell? ⟨b, j, none⟩ := fun j => World.cell?_of_block (w := u) (a := ⟨b, j, none⟩) he
  exact ⟨by rw [e]; exact h.id, by rw [e]; exact h.n, by rw [e]; exact h.p, by rw [e]; exact h.h, fun i hi => by rw [e]; exact h.has i hi, fun i hi => by rw [e]; exact h.lo i hi, fun i hi => by rw [e]; exact h.hi i hi, fun i hi => by rw [e]; exact h.at_ i hi, fun j => (World.frozen?_of_block (w := u) (a := ⟨b, j, none⟩) he).trans (h.fz j)⟩
theorem RN.on (hb : Below u.heap.size u u') (h : RN u b c) : RN u' b c := h.block (hb.block b h.lt)
theorem RN.far {a : Nat} {i : Nat} {x : Value} (hne : b ≠ a) (h : RN u b c) : RN (u.setCell ⟨a, i, none⟩ x) b c := h.block (Deep.blk_setCell_other u ⟨a, i, none⟩ x b hne)
/-- It shows another time. -/
theorem RN.late {t : Int} (h : RN u b c) : RN (u.setCell ⟨b, 3, none⟩ (.int .i64 t)) b { c with h := t } := by
  have o : ∀ j, j ≠ 3 → (u.setCell ⟨b, 3, none⟩ (.int .i64 t)).cell? ⟨b, j, none⟩ = u.cell? ⟨b, j, none⟩ := fun j hj => World.cell?_setCell_other _ _ _ _ (fun q => hj (by injection q with _ q; exact q.symm))
  exact ⟨by rw [o _ (by decide)]; exact h.id, by rw [o _ (by decide)]; exact h.n, by rw [o _ (by decide)]; exact h.p, World.cell?_setCell_same _ _ _ h.h, fun i hi => by rw [o _ (by omega)]; exact h.has i hi, fun i hi => by rw [o _ (by omega)]; exact h.lo i hi, fun i hi => by rw [o _ (by omega)]; exact h.hi i hi, fun i hi => by rw [o _ (by omega)]; exact h.at_ i hi, fun j => by rw [World.frozen?_setCell]; exact h.fz j⟩
theorem cell_put {j m : Nat} {x y : Value} (h : u.cell? ⟨b, m, none⟩ = some y) : (u.setCell ⟨b, m, none⟩ x).cell? ⟨b, j, none⟩ = if j = m then some x else u.cell? ⟨b, j, none⟩ := by
  by_cases e : j = m
  · subst e; rw [if_pos rfl]; exact World.cell?_setCell_same _ _ _ h
  · rw [if_neg e]; exact World.cell?_setCell_other _ _ _ _ (fun q => e (by injection q with _ q; exact q.symm))
theorem RN.p4 {k : Nat} (hk : k < 6) (h : RN u b c) : RN (u.setCell ⟨b, 4 + k, none⟩ (.bool true)) b { c with has := updN c.has k true } := by
  have e : ∀ j, (u.setCell ⟨b, 4 + k, none⟩ (.bool true)).cell? ⟨b, j, none⟩ = if j = 4 + k then some (.bool true) else u.cell? ⟨b, j, none⟩ := fun j => cell_put (h.has k hk)
  refine ⟨by rw [e, if_neg (by omega)]; exact h.id, by rw [e, if_neg (by omega)]; exact h.n, by rw [e, if_neg (by omega)]; exact h.p, by rw [e, if_neg (by omega)]; exact h.h, fun i hi => ?_, fun i hi => by rw [e, if_neg (by omega)]; exact h.lo i hi, fun i hi => by rw [e, if_neg (by omega)]; exact h.hi i hi, fun i hi => by rw [e, if_neg (by omega)]; exact h.at_ i hi, fun j => by rw [World.frozen?_setCell]; exact h.fz j⟩
  show _ = some (Value.bool (updN c.has k true i))
  by_cases q : i = k
  · subst q; rw [updN_at, e, if_pos rfl]
  · rw [updN_ne q, e, if_neg (by omega)]; exact h.has i hi
theorem RN.p10 {k : Nat} {a d : Int} (hk : k < 6) (h : RN u b c) : RN ((u.setCell ⟨b, 10 + k * 2, none⟩ (.int .i64 a)).setCell ⟨b, 10 + k * 2 + 1, none⟩ (.int .i64 d)) b { c with lo := updN c.lo k a, hi := updN c.hi k d } := by
  have h2 : (u.setCell ⟨b, 10 + k * 2, none⟩ (.int .i64 a)).cell? ⟨b, 10 + k * 2 + 1, none⟩ = some (.int .i64 (c.hi k)) := by rw [cell_put (h.lo k hk), if_neg (by omega)]; exact h.hi k hk
  have e : ∀ j, ((u.setCell ⟨b, 10 + k * 2, none⟩ (.int .i64 a)).setCell ⟨b, 10 + k * 2 + 1, none⟩ (.int .i64 d)).cell? ⟨b, j, none⟩ = if j = 10 + k * 2 + 1 then some (.int .i64 d) else if j = 10 + k * 2 then some (.int .i64 a) else u.cell? ⟨b, j, none⟩ := fun j => by rw [cell_put h2, cell_put (h.lo k hk)]
  refine ⟨by rw [e, if_neg (by omega), if_neg (by omega)]; exact h.id, by rw [e, if_neg (by omega), if_neg (by omega)]; exact h.n, by rw [e, if_neg (by omega), if_neg (by omega)]; exact h.p, by rw [e, if_neg (by omega), if_neg (by omega)]; exact h.h, fun i hi => by rw [e, if_neg (by omega), if_neg (by omega)]; exact h.has i hi, fun i hi => ?_, fun i hi => ?_, fun i hi => by rw [e, if_neg (by omega), if_neg (by omega)]; exact h.at_ i hi, fun j => by rw [World.frozen?_setCell, World.frozen?_setCell]; exact h.fz j⟩
  · show _ = some (Value.int .i64 (updN c.lo k a i))
    by_cases q : i = k
    · subst q; rw [updN_at, e, if_neg (by omega), if_pos rfl]
    · rw [updN_ne q, e, if_neg (by omega), if_neg (by omega)]; exact h.lo i hi
  · show _ = some (Value.int .i64 (updN c.hi k d i))
    by_cases q : i = k
    · subst q; rw [updN_at, e, if_pos rfl]
    · rw [updN_ne q, e, if_neg (by omega), if_neg (by omega)]; exact h.hi i hi
theorem RN.p22 {k : Nat} {t : Int} (hk : k < 6) (h : RN u b c) : RN (u.setCell ⟨b, 22 + k, none⟩ (.int .i64 t)) b { c with at_ := updN c.at_ k t } := by
  have e : ∀ j, (u.setCell ⟨b, 22 + k, none⟩ (.int .i64 t)).cell? ⟨b, j, none⟩ = if j = 22 + k then some (.int .i64 t) else u.cell? ⟨b, j, none⟩ := fun j => cell_put (h.at_ k hk)
  refine ⟨by rw [e, if_neg (by omega)]; exact h.id, by rw [e, if_neg (by omega)]; exact h.n, by rw [e, if_neg (by omega)]; exact h.p, by rw [e, if_neg (by omega)]; exact h.h, fun i hi => by rw [e, if_neg (by omega)]; exact h.has i hi, fun i hi => by rw [e, if_neg (by omega)]; exact h.lo i hi, fun i hi => by rw [e, if_neg (by omega)]; exact h.hi i hi, fun i hi => ?_, fun j => by rw [World.frozen?_setCell]; exact h.fz j⟩
  show _ = some (Value.int .i64 (updN c.at_ k t i))
  by_cases q : i = k
  · subst q; rw [updN_at, e, if_pos rfl]
  · rw [updN_ne q, e, if_neg (by omega)]; exact h.at_ i hi
theorem RN.dr (h : RN u b c) : RN u.drew b c := RN.block (u := u) (u' := u.drew) rfl h
end
theorem rback_yes (b : Nat) (c : Nd) (t : Int) (u : World) (hR : RN u b c) (hb : c.bk t) :
    Calls Tryz.prog 56 #[.pointer (some ⟨b, 0, none⟩), .int .i64 t] u fun o w' => o = .returned (.bool true) ∧ w' = u := by
  have c3 := hR.h
  have zb := hR.lt
  have hc : t < 0 ∨ (¬ t < 0 ∧ 1000000000000 < t) ∨ (¬ t < 0 ∧ ¬ 1000000000000 < t ∧ t < c.h) := by unfold Nd.bk at hb; omega
  clear hb hR
  rcases hc with d1 | ⟨d1, d2⟩ | ⟨d1, d2, d3⟩
  all_goals
    go_enter Tryz.func56, Tryz.ntmps56
    go_wp2
    go_ret
    exact ⟨rfl, rfl⟩
theorem rback_no (b : Nat) (c : Nd) (t : Int) (u : World) (hR : RN u b c) (hb : ¬ c.bk t) :
    Calls Tryz.prog 56 #[.pointer (some ⟨b, 0, none⟩), .int .i64 t] u fun o w' => o = .returned (.bool false) ∧ w' = u := by
  have c3 := hR.h
  have zb := hR.lt
  have d1 : ¬ t < 0 := fun h => hb (Or.inl h)
  have d2 : ¬ 1000000000000 < t := fun h => hb (Or.inr (Or.inl h))
  have d3 : ¬ t < c.h := fun h => hb (Or.inr (Or.inr h))
  clear hb hR
  go_enter Tryz.func56, Tryz.ntmps56
  go_wp2
  go_ret
  exact ⟨rfl, rfl⟩
set_option maxRecDepth 100000 in
set_option maxHeartbeats 4000000 in
theorem rnaged (b : Nat) (c : Nd) (k : Nat) (t : Int) (u : World) (hR : RN u b c) (hI : c.I) (hb : ¬ c.bk t) (hk : c.has k = true) :
    Calls Tryz.prog 59 #[.pointer (some ⟨b, 0, none⟩), .int .i64 k, .int .i64 t] u fun o w' => o = .returned (.agg #[.int .i64 (c.alo k t), .int .i64 (c.ahi k t)]) ∧ Below u.heap.size u w' := by
  obtain ⟨s1, s2, s3, s4⟩ := c.sk_b hI hb hk
  obtain ⟨k1, k2, k3, k4, k5⟩ := hI.kn k hk
  have n6 := hI.n6
  have p0 := hI.p0
  have p1 := hI.p1
  have q1 : ¬ t < 0 := fun h => hb (Or.inl h)
  have q2 : ¬ 1000000000000 < t := fun h => hb (Or.inr (Or.inl h))
  have q3 : ¬ t < c.h := fun h => hb (Or.inr (Or.inr h))
  have cS := fun w => rslack (t - c.at_ k) c.p (((t - c.at_ k) * 3 * c.p + 1000000 - 1) / 1000000) w (by unfold rdy; exact decide_eq_true ⟨by omega, by omega, p0, p1⟩) rfl (by unfold Nd.sk at s3; omega) (by unfold Nd.sk at s4; omega)
  obtain ⟨m, em⟩ : ∃ m, m = ((t - c.at_ k) * 3 * c.p + 1000000 - 1) / 1000000 := ⟨_, rfl⟩
  have ea : c.alo k t = c.lo k - (2 + m) := by rw [em]; rfl
  have eh : c.ahi k t = c.hi k + (2 + m) := by rw [em]; rfl
  have es : c.sk k t = 2 + m := by rw [em]; rfl
  rw [← em] at cS
  rw [ea, eh]
  rw [es] at s3 s4
  obtain ⟨o1, o2, o3⟩ := okB_t k3
  have hk6 : k < 6 := by omega
  have c2 := hR.p
  have c10 := hR.lo k hk6
  have c11 := hR.hi k hk6
  have c22 := hR.at_ k hk6
  have zb := hR.lt
  have hki : (k : Int) < 6 := by omega
  have w1 : IntKind.i64.wrap (t - c.at_ k) = t - c.at_ k := IntWalk.i64_in _ (by omega)
  have w2 : IntKind.i64.wrap (c.lo k - (2 + m)) = c.lo k - (2 + m) := IntWalk.i64_in _ (by omega)
  have w3 : IntKind.i64.wrap (c.hi k + (2 + m)) = c.hi k + (2 + m) := IntWalk.i64_in _ (by omega)
  clear hR hI hb hk s1 s2 em ea eh es k3
  generalize c.at_ k = at1 at *
  generalize c.lo k = lo at *
  generalize c.hi k = hi at *
  generalize c.p = p at *
  go_enter Tryz.func59, Tryz.ntmps59
  go_wp2
  go_quiet (first | (go_at_call 93; refine Calls.quiet_of_same (cS _)))
  go_wp2
  go_region
  all_goals
    go_wp2
    exact bodyPost_ret (v := .agg #[.int .i64 (lo - (2 + m)), .int .i64 (hi + (2 + m))]) (by simp [results, Tryz.results59, go_sem, *]) rfl ⟨rfl, rbel_put (Nat.le_refl _) (rbel_put (Nat.le_refl _) (rbel_drn (rbel_al (Below.refl _ _))))⟩
end Go.Proofs.YtnagdjipmpjaaaiGreatDoor
namespace Go.Proofs.YtnagdjipmpjaaaiGreatDoor
open Go.ChangeShapes Go.WideShapes Go.ChangeAt Go.RowKit Go.Joins
set_option linter.unusedVariables false
set_option linter.unusedSimpArgs false

theorem ninfoBool : (Tryz.prog.info? 4).map (fun i => (i.zero, i.size, i.bytes)) = some (some (.bool false), 1, 1) := by kernel_rfl
theorem ninfoSpan : (Tryz.prog.info? 38).map (fun i => (i.zero, i.size, i.bytes)) = some (some (.agg #[.int .i64 0, .int .i64 0]), 2, 16) := by kernel_rfl
theorem nmade_cells (z : Value) (hz : z.cells = #[z]) (n : Nat) : madeCells z.cells (n * 1) = (List.replicate n z).toArray := by
  rw [hz, Nat.mul_one]
  apply Array.ext
  · simp [madeCells]
  · intro i h1 h2
    simp [madeCells, Nat.mod_one]
theorem nmade_spans (n : Nat) : madeCells (sp 0 0).cells (n * 2) = (List.replicate (n * 2) (.int .i64 0)).toArray := by
  apply Array.ext
  · simp [madeCells]
  · intro i h1 h2
    simp only [madeCells, Array.getElem_ofFn, List.getElem_toArray, List.getElem_replicate]
    have : i % 2 = 0 ∨ i % 2 = 1 := by omega
    simp [Value.cells]
    rcases this with e | e <;> simp [e]
theorem nmk_bools (n : Nat) (h6 : n ≤ 6) (W : World) : (Instr.makeSlice 67 (.int .i64 n) (.int .i64 n)).run Tryz.prog W = .ok (.slice (some ⟨W.heap.size, 0, none⟩) n n) (W.alloc (.cells (List.replicate n (.bool false)).toArray 4)) := by
  obtain ⟨i0, hi0, hz0, hz1, hz2⟩ := info_parts ninfoBool
  have h := run_makeSlice W 67 4 i0 _ Tryz.underlying67 hi0 hz0 .i64 .i64 n n (by omega) (by omega) (by rw [hz1]; simp; omega) (by rw [hz2]; simp; omega) (by omega)
  rw [hz1, Int.toNat_natCast, nmade_cells _ rfl n] at h
  exact h
theorem nmk_spans (n : Nat) (h6 : n ≤ 6) (W : World) : (Instr.makeSlice 66 (.int .i64 n) (.int .i64 n)).run Tryz.prog W = .ok (.slice (some ⟨W.heap.size, 0, none⟩) n n) (W.alloc (.cells (List.replicate (n * 2) (.int .i64 0)).toArray 38)) := by
  obtain ⟨i0, hi0, hz0, hz1, hz2⟩ := info_parts ninfoSpan
  have h := run_makeSlice W 66 38 i0 _ Tryz.underlying66 hi0 hz0 .i64 .i64 n n (by omega) (by omega) (by rw [hz1]; simp; omega) (by rw [hz2]; simp; omega) (by omega)
  rw [hz1, Int.toNat_natCast, nmade_spans n] at h
  exact h
/-- The two rows while they are filled. -/
structure StS (u : World) (s i : Nat) (c : Nd) (t : Int) : Prop where
  a : ∀ j, j < c.n → u.cell? ⟨s, j * 2, none⟩ = some (.int .i64 (if j < i then (c.so t j).1 else 0))
  b : ∀ j, j < c.n → u.cell? ⟨s, j * 2 + 1, none⟩ = some (.int .i64 (if j < i then (c.so t j).2 else 0))
  h : ∀ j, j < c.n → u.cell? ⟨s + 1, j, none⟩ = some (.bool (if j < i then c.ho j else decide (j = c.id)))
  fa : ∀ j, u.frozen? ⟨s, j, none⟩ = false
  fh : ∀ j, u.frozen? ⟨s + 1, j, none⟩ = false
section
variable {u u' : World} {s i : Nat} {c : Nd} {t : Int}
theorem StS.block (h1 : u'.heap[s]? = u.heap[s]?) (h2 : u'.heap[s + 1]? = u.heap[s + 1]?) (h : StS u s i c t) : StS u' s i c t := by
  have e1 : ∀ j, u'.cell? ⟨s, j, none⟩ = u.cell? ⟨s, j, none⟩ := fun j => World.cell?_of_block (w := u) (a := ⟨s, j, none⟩) h1
  have e2 : ∀ j, u'.cell? ⟨s + 1, j, none⟩ = u.cell? ⟨s + 1, j, none⟩ := fun j => World.cell?_of_block (w := u) (a := ⟨s + 1, j, none⟩) h2
  exact ⟨fun j hj => by rw [e1]; exact h.a j hj, fun j hj => by rw [e1]; exact h.b j hj, fun j hj => by rw [e2]; exact h.h j hj, fun j => (World.frozen?_of_block (w := u) (a := ⟨s, j, none⟩) h1).trans (h.fa j), fun j => (World.frozen?_of_block (w := u) (a := ⟨s + 1, j, none⟩) h2).trans (h.fh j)⟩
theorem StS.on (h0 : 0 < c.n) (hb : Below u.heap.size u u') (h : StS u s i c t) : StS u' s i c t :=
  h.block (hb.block s (World.block_lt_of_cell? _ _ (h.a 0 h0))) (hb.block (s + 1) (World.block_lt_of_cell? _ _ (h.h 0 h0)))
theorem StS.skip (hh : c.has i = false) (h : StS u s i c t) : StS u s (i + 1) c t := by
  have e : c.so t i = (0, 0) := by unfold Nd.so; rw [hh]; rfl
  have e2 : c.ho i = decide (i = c.id) := by unfold Nd.ho; rw [hh]; rfl
  refine ⟨fun j hj => ?_, fun j hj => ?_, fun j hj => ?_, h.fa, h.fh⟩
  · rw [h.a j hj]
    by_cases q : j = i
    · subst q; rw [if_neg (by omega), if_pos (by omega), e]
    · by_cases r : j < i
      · rw [if_pos r, if_pos (by omega)]
      · rw [if_neg r, if_neg (by omega)]
  · rw [h.b j hj]
    by_cases q : j = i
    · subst q; rw [if_neg (by omega), if_pos (by omega), e]
    · by_cases r : j < i
      · rw [if_pos r, if_pos (by omega)]
      · rw [if_neg r, if_neg (by omega)]
  · rw [h.h j hj]
    by_cases q : j = i
    · subst q; rw [if_neg (by omega), if_pos (by omega), e2]
    · by_cases r : j < i
      · rw [if_pos r, if_pos (by omega)]
      · rw [if_neg r, if_neg (by omega)]
theorem StS.put {lo hi : Int} (hi' : i < c.n) (hs : c.so t i = (lo, hi)) (ho : c.ho i = true) (h : StS u s i c t) : StS (((u.setCell ⟨s, i * 2, none⟩ (.int .i64 lo)).setCell ⟨s, i * 2 + 1, none⟩ (.int .i64 hi)).setCell ⟨s + 1, i, none⟩ (.bool true)) s (i + 1) c t := by
  have c1 := h.a i hi'
  have c2 : (u.setCell ⟨s, i * 2, none⟩ (.int .i64 lo)).cell? ⟨s, i * 2 + 1, none⟩ = some (.int .i64 (if i < i then (c.so t i).2 else 0)) := by rw [cell_put c1, if_neg (by omega)]; exact h.b i hi'
  have c3 : ((u.setCell ⟨s, i * 2, none⟩ (.int .i64 lo)).setCell ⟨s, i * 2 + 1, none⟩ (.int .i64 hi)).cell? ⟨s + 1, i, none⟩ = some (.bool (if i < i then c.ho i else decide (i = c.id))) := by
    rw [World.cell?_setCell_far _ _ _ _ (by simp), World.cell?_setCell_far _ _ _ _ (by simp)]; exact h.h i hi'
  have e1 : ∀ j, (((u.setCell ⟨s, i * 2, none⟩ (.int .i64 lo)).setCell ⟨s, i * 2 + 1, none⟩ (.int .i64 hi)).setCell ⟨s + 1, i, none⟩ (.bool true)).cell? ⟨s, j, none⟩ = if j = i * 2 + 1 then some (.int .i64 hi) else if j = i * 2 then some (.int .i64 lo) else u.cell? ⟨s, j, none⟩ := fun j => by
    rw [World.cell?_setCell_far _ _ _ _ (by simp), cell_put c2, cell_put c1]
  have e2 : ∀ j, (((u.setCell ⟨s, i * 2, none⟩ (.int .i64 lo)).setCell ⟨s, i * 2 + 1, none⟩ (.int .i64 hi)).setCell ⟨s + 1, i, none⟩ (.bool true)).cell? ⟨s + 1, j, none⟩ = if j = i then some (.bool true) else u.cell? ⟨s + 1, j, none⟩ := fun j => by
    rw [cell_put c3]
    by_cases q : j = i
    · rw [if_pos q, if_pos q]
    · rw [if_neg q, if_neg q, World.cell?_setCell_far _ _ _ _ (by simp), World.cell?_setCell_far _ _ _ _ (by simp)]
  refine ⟨fun j hj => ?_, fun j hj => ?_, fun j hj => ?_, fun j => by simp only [World.frozen?_setCell]; exact h.fa j, fun j => by simp only [World.frozen?_setCell]; exact h.fh j⟩
  · rw [e1, if_neg (by omega)]
    by_cases q : j = i
    · subst q; rw [if_pos rfl, if_pos (by omega), hs]
    · rw [if_neg (by omega), h.a j hj]
      by_cases r : j < i
      · rw [if_pos r, if_pos (by omega)]
      · rw [if_neg r, if_neg (by omega)]
  · rw [e1]
    by_cases q : j = i
    · subst q; rw [if_pos rfl, if_pos (by omega), hs]
    · rw [if_neg (by omega), if_neg (by omega), h.b j hj]
      by_cases r : j < i
      · rw [if_pos r, if_pos (by omega)]
      · rw [if_neg r, if_neg (by omega)]
  · rw [e2]
    by_cases q : j = i
    · subst q; rw [if_pos rfl, if_pos (by omega), ho]
    · rw [if_neg q, h.h j hj]
      by_cases r : j < i
      · rw [if_pos r, if_pos (by omega)]
      · rw [if_neg r, if_neg (by omega)]
end
set_option maxRecDepth 100000 in
set_option maxHeartbeats 4000000 in
theorem rnspans_bk (b : Nat) (c : Nd) (t : Int) (u : World) (hR : RN u b c) (hb : c.bk t) :
    Calls Tryz.prog 67 #[.pointer (some ⟨b, 0, none⟩), .int .i64 t] u fun o w' => o = .returned (.tuple #[.slice none 0 0, .slice none 0 0, .int .i64 8]) ∧ Below u.heap.size u w' := by
  have HR : Hid (RN u b c) := hR
  have HB : Hid (c.bk t) := hb
  clear hR hb
  go_enter Tryz.func67, Tryz.ntmps67
  go_wp2_with (go_at_call 56; refine (rback_yes b c t _ HR.out HB.out).mono ?_; rintro o u1 ⟨rfl, hu⟩; rw [hu]; clear hu)
  exact bodyPost_ret (v := .tuple #[.slice none 0 0, .slice none 0 0, .int .i64 8]) (by simp [results, Tryz.results67, go_sem, *]) rfl ⟨rfl, Below.refl _ _⟩
theorem StS.start (u : World) (c : Nd) (t : Int) (hid : c.id < c.n) : StS ((u.alloc (.cells (List.replicate (c.n * 2) (Value.int .i64 0)).toArray 38)).alloc (.cells ((List.replicate c.n (Value.bool false)).set c.id (.bool true)).toArray 4)) u.heap.size 0 c t := by
  have ra : Row ((u.alloc (.cells (List.replicate (c.n * 2) (Value.int .i64 0)).toArray 38)).alloc (.cells ((List.replicate c.n (Value.bool false)).set c.id (.bool true)).toArray 4)) u.heap.size (List.replicate (c.n * 2) (Value.int .i64 0)) := Row.al (Row.made rfl)
  have rb : Row ((u.alloc (.cells (List.replicate (c.n * 2) (Value.int .i64 0)).toArray 38)).alloc (.cells ((List.replicate c.n (Value.bool false)).set c.id (.bool true)).toArray 4)) (u.heap.size + 1) ((List.replicate c.n (Value.bool false)).set c.id (.bool true)) := Row.made (by simp)
  refine ⟨fun j hj => ?_, fun j hj => ?_, fun j hj => ?_, fun j => ?_, fun j => ?_⟩
  · rw [if_neg (by omega)]; exact ra.c _ _ (by rw [List.getElem?_replicate, if_pos (by omega)])
  · rw [if_neg (by omega)]; exact ra.c _ _ (by rw [List.getElem?_replicate, if_pos (by omega)])
  · rw [if_neg (by omega)]
    refine rb.c _ _ ?_
    by_cases q : c.id = j
    · subst q; rw [List.getElem?_set_self (by simp; omega)]; simp
    · rw [List.getElem?_set_ne q, List.getElem?_replicate, if_pos hj, decide_eq_false (fun e => q e.symm)]
  · rw [frozen?_alloc_cells]; exact World.frozen?_alloc_at _ _ _ _ rfl
  · exact World.frozen?_alloc_at _ _ _ _ (by simp)
set_option maxRecDepth 100000 in
set_option maxHeartbeats 8000000 in
theorem rnspans_go (b : Nat) (c : Nd) (t : Int) (u : World) (hR : RN u b c) (hI : c.I) (hb : ¬ c.bk t) :
    Calls Tryz.prog 67 #[.pointer (some ⟨b, 0, none⟩), .int .i64 t] u fun o w' => (∃ e, SpR c t e ∧ ((e = 0 ∧ o = .returned (.tuple #[.slice (some ⟨u.heap.size, 0, none⟩) c.n c.n, .slice (some ⟨u.heap.size + 1, 0, none⟩) c.n c.n, .int .i64 0]) ∧ StS w' u.heap.size c.n c t) ∨ (e ≠ 0 ∧ o = .returned (.tuple #[.slice none 0 0, .slice none 0 0, .int .i64 e])))) ∧ Below u.heap.size u w' := by
  have HR : Hid (RN u b c) := hR
  have HB : Hid (¬ c.bk t) := hb
  have HI : Hid c.I := hI
  have h6 := hI.n6
  have hid := hI.idn
  have m1 := nmk_spans c.n h6
  have m2 := nmk_bools c.n h6
  have c0 := hR.id
  have c1 := hR.n
  have zb := hR.lt
  have hid2 : (c.id : Int) < (c.n : Int) := by omega
  clear hR hb hI
  go_enter Tryz.func67, Tryz.ntmps67
  go_wp2_with (go_at_call 56; refine (rback_no b c t _ HR.out HB.out).mono ?_; rintro o u1 ⟨rfl, hu⟩; rw [hu]; clear hu)
  go_loopw [10] (fun vi wr => ∃ i : Nat, i ≤ c.n ∧ vi = .int .i64 i ∧ StS wr u.heap.size i c t ∧ (∀ j, j < i → c.has j = true → okB (c.alo j t) (c.ahi j t) = true) ∧ RN wr b c ∧ Below u.heap.size u wr) (fun vi _ => c.n - (intOf vi).toNat)
  case atStart =>
    have B0 : Below u.heap.size u ((u.alloc (.cells (List.replicate (c.n * 2) (Value.int .i64 0)).toArray 38)).alloc (.cells ((List.replicate c.n (Value.bool false)).set c.id (.bool true)).toArray 4)) := rbel_al (rbel_al (Below.refl _ _))
    have S0 := StS.start u c t hid
    have a1 : Array.replicate (c.n * 2) (Value.int .i64 0) = (List.replicate (c.n * 2) (Value.int .i64 0)).toArray := by simp
    have a2 : (Array.replicate c.n (Value.bool false)).setIfInBounds c.id (Value.bool true) = ((List.replicate c.n (Value.bool false)).set c.id (.bool true)).toArray := by
      apply Array.ext'
      rw [Array.toList_setIfInBounds, Array.toList_replicate]
    rw [a1, a2]
    exact ⟨0, Nat.zero_le _, rfl, S0, fun j hj => by omega, RN.on B0 HR.out, B0⟩
  case round =>
    clear m1 m2 c0 c1
    obtain ⟨i, hi, rfl, hS, hok, hN, hw⟩ := hrel
    have HS : Hid (StS wr u.heap.size i c t) := hS
    have HO : Hid (∀ j, j < i → c.has j = true → okB (c.alo j t) (c.ahi j t) = true) := hok
    have HN : Hid (RN wr b c) := hN
    have HW : Hid (Below u.heap.size u wr) := hw
    have c1 := hN.n
    have zb2 := hN.lt
    have z1 : u.heap.size + 1 < wr.heap.size := World.block_lt_of_cell? _ _ (hS.h 0 (by omega))
    by_cases hlt : i < c.n
    · have hl3 : (i : Int) < (c.n : Int) := by omega
      have hl6 : (i : Int) < 6 := by omega
      have v4 := hN.has i (by omega)
      clear hS hok hN hw
      cases hh : c.has i with
      | false =>
        rw [hh] at v4
        go_wp2
        go_roundw
        case rel => exact ⟨i + 1, by omega, by go_num, HS.out.skip hh, fun j hj hj2 => by
          by_cases q : j = i
          · subst q; rw [hh] at hj2; cases hj2
          · exact HO.out j (by omega) hj2, HN.out, HW.out⟩
        case measure => simp [intOf]; omega
      | true =>
        rw [hh] at v4
        have cA := rnaged b c i t wr HN.out HI.out HB.out hh
        have e1 : c.so t i = (c.alo i t, c.ahi i t) := by unfold Nd.so; rw [if_pos hh]
        have e2 : c.ho i = true := by unfold Nd.ho; rw [hh]; rfl
        have E1 : Hid (c.so t i = (c.alo i t, c.ahi i t)) := e1
        have E2 : Hid (c.ho i = true) := e2
        cases hB : okB (c.alo i t) (c.ahi i t) with
        | false =>
          have cS := fun w => rspan_any (c.alo i t) (c.ahi i t) w
          rw [hB] at cS
          have NO : Hid (SpR c t 1) := Or.inr (Or.inl ⟨HB.out, ⟨i, hlt, hh, hB⟩, rfl⟩)
          clear e1 e2 E1 E2 hB
          generalize c.alo i t = al at *
          generalize c.ahi i t = ah at *
          go_wp2_with (first
            | (go_at_call 59; refine cA.mono ?_; rintro o u2 ⟨rfl, hb⟩; have B2 : Hid (Below u.heap.size u u2) := rbel_on hb HW.out; clear hb)
            | (go_at_call 102; refine (cS _).mono ?_; rintro o u3 ⟨rfl, hb⟩; have B3 : Hid (Below u.heap.size u u3) := rbel_on hb (rbel_al B2.out); clear hb))
          exact bodyPost_ret (v := .tuple #[.slice none 0 0, .slice none 0 0, .int .i64 1]) (by simp [results, Tryz.results67, go_sem, *]) rfl ⟨⟨1, NO.out, Or.inr ⟨by decide, rfl⟩⟩, B3.out⟩
        | true =>
          have cS := fun w => rspan_any (c.alo i t) (c.ahi i t) w
          rw [hB] at cS
          have HBB : Hid (okB (c.alo i t) (c.ahi i t) = true) := hB
          clear e1 e2 hB
          generalize ea : c.alo i t = al at *
          generalize eh : c.ahi i t = ah at *
          have EA : Hid (c.alo i t = al) := ea
          have EH : Hid (c.ahi i t = ah) := eh
          clear ea eh
          go_wp2_with (first
            | (go_at_call 59; refine cA.mono ?_; rintro o u2 ⟨rfl, hb⟩; have B2 : Hid (Below wr.heap.size wr u2) := hb; clear hb)
            | (go_at_call 102; refine (cS _).mono ?_; rintro o u3 ⟨rfl, hb⟩; have B3 : Hid (Below wr.heap.size wr u3) := rbel_on hb (rbel_al B2.out); have RS : Hid (Row u3 u2.heap.size [.int .i64 al, .int .i64 ah]) := Row.on hb (Row.made rfl); have S3 : Hid (StS u3 u.heap.size i c t) := HS.out.on (by omega) B3.out; have N3 : Hid (RN u3 b c) := RN.on B3.out HN.out; have r0 := RS.out.c 0 _ rfl; have r1 := RS.out.c 1 _ rfl; have g0 := S3.out.a i hlt; have g1 := S3.out.b i hlt; have g2 := S3.out.h i hlt; have k0 := S3.out.fa (i * 2); have k1 := S3.out.fa (i * 2 + 1); have k2 := S3.out.fh i; have z3 : u.heap.size + 1 < u3.heap.size := Nat.lt_of_lt_of_le z1 B3.out.size; have z4 : u2.heap.size < u3.heap.size := RS.out.lt; have z5 : u.heap.size < u3.heap.size := (by omega); have B2s : wr.heap.size ≤ u2.heap.size := B2.out.size; have q1 : ¬ (u2.heap.size = u.heap.size) := (by omega); have q2 : ¬ (u2.heap.size = u.heap.size + 1) := (by omega); clear hb))
          go_roundw
          case rel =>
            have hs : c.so t i = (al, ah) := E1.out
            refine ⟨i + 1, by omega, by go_num, S3.out.put hlt hs E2.out, fun j hj hj2 => ?_, RN.far (by omega) (RN.far (by omega) (RN.far (by omega) N3.out)), rbel_put (by omega) (rbel_put (Nat.le_refl _) (rbel_put (Nat.le_refl _) (rbel_on B3.out HW.out)))⟩
            by_cases q : j = i
            · subst q; rw [EA.out, EH.out]; exact HBB.out
            · exact HO.out j (by omega) hj2
          case measure => simp [intOf]; omega
    · have hl3 : ¬ ((i : Int) < (c.n : Int)) := by omega
      have e' : i = c.n := by omega
      have HE : Hid (i = c.n) := e'
      clear hS hok hN hw e'
      go_wp2
      exact bodyPost_ret (v := .tuple #[.slice (some ⟨u.heap.size, 0, none⟩) c.n c.n, .slice (some ⟨u.heap.size + 1, 0, none⟩) c.n c.n, .int .i64 0]) (by simp [results, Tryz.results67, go_sem, *]) rfl ⟨⟨0, Or.inr (Or.inr ⟨HB.out, fun j hj hj2 => HO.out j (by rw [HE.out]; exact hj) hj2, rfl⟩), Or.inl ⟨rfl, rfl, HE.out ▸ HS.out⟩⟩, HW.out⟩
end Go.Proofs.YtnagdjipmpjaaaiGreatDoor
