/- The document's own node (package noonref2) in memory; Back, aged. -/
import Derived.Test.YtmomcaodmdlnpahDoorNodeDef
import Derived.Test.YtmomcaodmdlnpahDoorRefOff
import Derived.Test.YtmomcaodmdlnpahDoorRefMeet
import Derived.Lib.SmallJoins
import Derived.Deep.QuietTactic
import Derived.BigQuiet
import Derived.BigRegion
namespace Go.Proofs.YtmomcaodmdlnpahDoor
open Go.ChangeShapes Go.WideShapes Go.ChangeAt Go.RowKit Go.Joins
set_option linter.unusedVariables false
set_option linter.unusedSimpArgs false

/-- The document's node in memory. -/
structure RN (u : World) (b : Nat) (c : Nd) : Prop where
  id : u.cell? ⟨b, 0, none⟩ = some (.int .i64 c.id)
  n : u.cell? ⟨b, 1, none⟩ = some (.int .i64 c.n)
  p : u.cell? ⟨b, 2, none⟩ = some (.int .i64 c.p)
  h : u.cell? ⟨b, 3, none⟩ = some (.int .i64 c.h)
  has : ∀ i, i < 6 → u.cell? ⟨b, 4 + i, none⟩ = some (.bool (c.has i))
  lo : ∀ i, i < 6 → u.cell? ⟨b, 10 + i * 2, none⟩ = some (.int .i64 (c.lo i))
  hi : ∀ i, i < 6 → u.cell? ⟨b, 10 + i * 2 + 1, none⟩ = some (.int .i64 (c.hi i))
  at_ : ∀ i, i < 6 → u.cell? ⟨b, 22 + i, none⟩ = some (.int .i64 (c.at_ i))
  fz : ∀ j, u.frozen? ⟨b, j, none⟩ = false
section
variable {u u' : World} {b : Nat} {c : Nd}
theorem RN.lt (h : RN u b c) : b < u.heap.size := World.block_lt_of_cell? _ _ h.id
theorem RN.block (he : u'.heap[b]? = u.heap[b]?) (h : RN u b c) : RN u' b c := by
  have e : ∀ j, u'.cell? ⟨b, j, none⟩ = u.cell? ⟨b, j, none⟩ := fun j => World.cell?_of_block (w := u) (a := ⟨b, j, none⟩) he
  exact ⟨by rw [e]; exact h.id, by rw [e]; exact h.n, by rw [e]; exact h.p, by rw [e]; exact h.h, fun i hi => by rw [e]; exact h.has i hi, fun i hi => by rw [e]; exact h.lo i hi, fun i hi => by rw [e]; exact h.hi i hi, fun i hi => by rw [e]; exact h.at_ i hi, fun j => (World.frozen?_of_block (w := u) (a := ⟨b, j, none⟩) he).trans (h.fz j)⟩
theorem RN.on (hb : Below u.heap.size u u') (h : RN u b c) : RN u' b c := h.block (hb.block b h.lt)
theorem RN.far {a : Nat} {i : Nat} {x : Value} (hne : b ≠ a) (h : RN u b c) : RN (u.setCell ⟨a, i, none⟩ x) b c := h.block (Deep.blk_setCell_other u ⟨a, i, none⟩ x b hne)
/-- It shows another time. -/
theorem RN.late {t : Int} (h : RN u b c) : RN (u.setCell ⟨b, 3, none⟩ (.int .i64 t)) b { c with h := t } := by
  have o : ∀ j, j ≠ 3 → (u.setCell ⟨b, 3, none⟩ (.int .i64 t)).cell? ⟨b, j, none⟩ = u.cell? ⟨b, j, none⟩ := fun j hj => World.cell?_setCell_other _ _ _ _ (fun q => hj (by injection q with _ q; exact q.symm))
  exact ⟨by rw [o _ (by decide)]; exact h.id, by rw [o _ (by decide)]; exact h.n, by rw [o _ (by decide)]; exact h.p, World.cell?_setCell_same _ _ _ h.h, fun i hi => by rw [o _ (by omega)]; exact h.has i hi, fun i hi => by rw [o _ (by omega)]; exact h.lo i hi, fun i hi => by rw [o _ (by omega)]; exact h.hi i hi, fun i hi => by rw [o _ (by omega)]; exact h.at_ i hi, fun j => by rw [World.frozen?_setCell]; exact h.fz j⟩
theorem cell_put {j m : Nat} {x y : Value} (h : u.cell? ⟨b, m, none⟩ = some y) : (u.setCell ⟨b, m, none⟩ x).cell? ⟨b, j, none⟩ = if j = m then some x else u.cell? ⟨b, j, none⟩ := by
  by_cases e : j = m
  · subst e; rw [if_pos rfl]; exact World.cell?_setCell_same _ _ _ h
  · rw [if_neg e]; exact World.cell?_setCell_other _ _ _ _ (fun q => e (by injection q with _ q; exact q.symm))
theorem RN.p4 {k : Nat} (hk : k < 6) (h : RN u b c) : RN (u.setCell ⟨b, 4 + k, none⟩ (.bool true)) b { c with has := updN c.has k true } := by
  have e : ∀ j, (u.setCell ⟨b, 4 + k, none⟩ (.bool true)).cell? ⟨b, j, none⟩ = if j = 4 + k then some (.bool true) else u.cell? ⟨b, j, none⟩ := fun j => cell_put (h.has k hk)
  refine ⟨by rw [e, if_neg (by omega)]; exact h.id, by rw [e, if_neg (by omega)]; exact h.n, by rw [e, if_neg (by omega)]; exact h.p, by rw [e, if_neg (by omega)]; exact h.h, fun i hi => ?_, fun i hi => by rw [e, if_neg (by omega)]; exact h.lo i hi, fun i hi => by rw [e, if_neg (by omega)]; exact h.hi i hi, fun i hi => by rw [e, if_neg (by omega)]; exact h.at_ i hi, fun j => by rw [World.frozen?_setCell]; exact h.fz j⟩
  show _ = some (Value.bool (updN c.has k true i))
  by_cases q : i = k
  · subst q; rw [updN_at, e, if_pos rfl]
  · rw [updN_ne q, e, if_neg (by omega)]; exact h.has i hi
theorem RN.p10 {k : Nat} {a d : Int} (hk : k < 6) (h : RN u b c) : RN ((u.setCell ⟨b, 10 + k * 2, none⟩ (.int .i64 a)).setCell ⟨b, 10 + k * 2 + 1, none⟩ (.int .i64 d)) b { c with lo := updN c.lo k a, hi := updN c.hi k d } := by
  have h2 : (u.setCell ⟨b, 10 + k * 2, none⟩ (.int .i64 a)).cell? ⟨b, 10 + k * 2 + 1, none⟩ = some (.int .i64 (c.hi k)) := by rw [cell_put (h.lo k hk), if_neg (by omega)]; exact h.hi k hk
  have e : ∀ j, ((u.setCell ⟨b, 10 + k * 2, none⟩ (.int .i64 a)).setCell ⟨b, 10 + k * 2 + 1, none⟩ (.int .i64 d)).cell? ⟨b, j, none⟩ = if j = 10 + k * 2 + 1 then some (.int .i64 d) else if j = 10 + k * 2 then some (.int .i64 a) else u.cell? ⟨b, j, none⟩ := fun j => by rw [cell_put h2, cell_put (h.lo k hk)]
  refine ⟨by rw [e, if_neg (by omega), if_neg (by omega)]; exact h.id, by rw [e, if_neg (by omega), if_neg (by omega)]; exact h.n, by rw [e, if_neg (by omega), if_neg (by omega)]; exact h.p, by rw [e, if_neg (by omega), if_neg (by omega)]; exact h.h, fun i hi => by rw [e, if_neg (by omega), if_neg (by omega)]; exact h.has i hi, fun i hi => ?_, fun i hi => ?_, fun i hi => by rw [e, if_neg (by omega), if_neg (by omega)]; exact h.at_ i hi, fun j => by rw [World.frozen?_setCell, World.frozen?_setCell]; exact h.fz j⟩
  · show _ = some (Value.int .i64 (updN c.lo k a i))
    by_cases q : i = k
    · subst q; rw [updN_at, e, if_neg (by omega), if_pos rfl]
    · rw [updN_ne q, e, if_neg (by omega), if_neg (by omega)]; exact h.lo i hi
  · show _ = some (Value.int .i64 (updN c.hi k d i))
    by_cases q : i = k
    · subst q; rw [updN_at, e, if_pos rfl]
    · rw [updN_ne q, e, if_neg (by omega), if_neg (by omega)]; exact h.hi i hi
theorem RN.p22 {k : Nat} {t : Int} (hk : k < 6) (h : RN u b c) : RN (u.setCell ⟨b, 22 + k, none⟩ (.int .i64 t)) b { c with at_ := updN c.at_ k t } := by
  have e : ∀ j, (u.setCell ⟨b, 22 + k, none⟩ (.int .i64 t)).cell? ⟨b, j, none⟩ = if j = 22 + k then some (.int .i64 t) else u.cell? ⟨b, j, none⟩ := fun j => cell_put (h.at_ k hk)
  refine ⟨by rw [e, if_neg (by omega)]; exact h.id, by rw [e, if_neg (by omega)]; exact h.n, by rw [e, if_neg (by omega)]; exact h.p, by rw [e, if_neg (by omega)]; exact h.h, fun i hi => by rw [e, if_neg (by omega)]; exact h.has i hi, fun i hi => by rw [e, if_neg (by omega)]; exact h.lo i hi, fun i hi => by rw [e, if_neg (by omega)]; exact h.hi i hi, fun i hi => ?_, fun j => by rw [World.frozen?_setCell]; exact h.fz j⟩
  show _ = some (Value.int .i64 (updN c.at_ k t i))
  by_cases q : i = k
  · subst q; rw [updN_at, e, if_pos rfl]
  · rw [updN_ne q, e, if_neg (by omega)]; exact h.at_ i hi
theorem RN.dr (h : RN u b c) : RN u.drew b c := RN.block (u := u) (u' := u.drew) rfl h
end
theorem rback_yes (b : Nat) (c : Nd) (t : Int) (u : World) (hR : RN u b c) (hb : c.bk t) :
    Calls Tryd.prog 43 #[.pointer (some ⟨b, 0, none⟩), .int .i64 t] u fun o w' => o = .returned (.bool true) ∧ w' = u := by
  have c3 := hR.h
  have zb := hR.lt
  have hc : t < 0 ∨ (¬ t < 0 ∧ 1000000000000 < t) ∨ (¬ t < 0 ∧ ¬ 1000000000000 < t ∧ t < c.h) := by unfold Nd.bk at hb; omega
  clear hb hR
  rcases hc with d1 | ⟨d1, d2⟩ | ⟨d1, d2, d3⟩
  all_goals
    go_enter Tryd.func43, Tryd.ntmps43
    go_wp2
    go_ret
    exact ⟨rfl, rfl⟩
theorem rback_no (b : Nat) (c : Nd) (t : Int) (u : World) (hR : RN u b c) (hb : ¬ c.bk t) :
    Calls Tryd.prog 43 #[.pointer (some ⟨b, 0, none⟩), .int .i64 t] u fun o w' => o = .returned (.bool false) ∧ w' = u := by
  have c3 := hR.h
  have zb := hR.lt
  have d1 : ¬ t < 0 := fun h => hb (Or.inl h)
  have d2 : ¬ 1000000000000 < t := fun h => hb (Or.inr (Or.inl h))
  have d3 : ¬ t < c.h := fun h => hb (Or.inr (Or.inr h))
  clear hb hR
  go_enter Tryd.func43, Tryd.ntmps43
  go_wp2
  go_ret
  exact ⟨rfl, rfl⟩
set_option maxRecDepth 100000 in
set_option maxHeartbeats 4000000 in
theorem rnaged (b : Nat) (c : Nd) (k : Nat) (t : Int) (u : World) (hR : RN u b c) (hI : c.I) (hb : ¬ c.bk t) (hk : c.has k = true) :
    Calls Tryd.prog 46 #[.pointer (some ⟨b, 0, none⟩), .int .i64 k, .int .i64 t] u fun o w' => o = .returned (.agg #[.int .i64 (c.alo k t), .int .i64 (c.ahi k t)]) ∧ Below u.heap.size u w' := by
  obtain ⟨s1, s2, s3, s4⟩ := c.sk_b hI hb hk
  obtain ⟨k1, k2, k3, k4, k5⟩ := hI.kn k hk
  have n6 := hI.n6
  have p0 := hI.p0
  have p1 := hI.p1
  have q1 : ¬ t < 0 := fun h => hb (Or.inl h)
  have q2 : ¬ 1000000000000 < t := fun h => hb (Or.inr (Or.inl h))
  have q3 : ¬ t < c.h := fun h => hb (Or.inr (Or.inr h))
  have cS := fun w => rslack (t - c.at_ k) c.p (((t - c.at_ k) * 3 * c.p + 1000000 - 1) / 1000000) w (by unfold rdy; exact decide_eq_true ⟨by omega, by omega, p0, p1⟩) rfl (by unfold Nd.sk at s3; omega) (by unfold Nd.sk at s4; omega)
  obtain ⟨m, em⟩ : ∃ m, m = ((t - c.at_ k) * 3 * c.p + 1000000 - 1) / 1000000 := ⟨_, rfl⟩
  have ea : c.alo k t = c.lo k - (2 + m) := by rw [em]; rfl
  have eh : c.ahi k t = c.hi k + (2 + m) := by rw [em]; rfl
  have es : c.sk k t = 2 + m := by rw [em]; rfl
  rw [← em] at cS
  rw [ea, eh]
  rw [es] at s3 s4
  obtain ⟨o1, o2, o3⟩ := okB_t k3
  have hk6 : k < 6 := by omega
  have c2 := hR.p
  have c10 := hR.lo k hk6
  have c11 := hR.hi k hk6
  have c22 := hR.at_ k hk6
  have zb := hR.lt
  have hki : (k : Int) < 6 := by omega
  have w1 : IntKind.i64.wrap (t - c.at_ k) = t - c.at_ k := IntWalk.i64_in _ (by omega)
  have w2 : IntKind.i64.wrap (c.lo k - (2 + m)) = c.lo k - (2 + m) := IntWalk.i64_in _ (by omega)
  have w3 : IntKind.i64.wrap (c.hi k + (2 + m)) = c.hi k + (2 + m) := IntWalk.i64_in _ (by omega)
  clear hR hI hb hk s1 s2 em ea eh es k3
  generalize c.at_ k = at1 at *
  generalize c.lo k = lo at *
  generalize c.hi k = hi at *
  generalize c.p = p at *
  go_enter Tryd.func46, Tryd.ntmps46
  go_wp2
  go_quiet (first | (go_at_call 53; refine Calls.quiet_of_same (cS _)))
  go_wp2
  go_region
  all_goals
    go_wp2
    exact bodyPost_ret (v := .agg #[.int .i64 (lo - (2 + m)), .int .i64 (hi + (2 + m))]) (by simp [results, Tryd.results46, go_sem, *]) rfl ⟨rfl, rbel_put (Nat.le_refl _) (rbel_put (Nat.le_refl _) (rbel_drn (rbel_al (Below.refl _ _))))⟩
end Go.Proofs.YtmomcaodmdlnpahDoor
