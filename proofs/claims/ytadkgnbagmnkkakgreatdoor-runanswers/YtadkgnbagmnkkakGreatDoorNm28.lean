/- The document's own node (package noonref2) in memory; Back, aged. What the document's own node (package noonref2) answers of a letter: refused, or no answer. What the document's own node (package noonref2) answers of a letter: an answer that says nothing. What the document's own node (package noonref2) answers of a letter: an answer of a node of which nothing was known. What the document's own node (package noonref2) answers of a letter: an answer of a node of which something was known, and nothing is in both. What the document's own node (package noonref2) answers of a letter: an answer of a node of which something was known. What the document's own node (package noonref2) answers of any letter. What the document's own node (package noonref2) answers: Spans. The document's own node (package noonref2) at first. -/
import Derived.Test.YtadkgnbagmnkkakGreatDoorNm05
import Derived.Test.YtadkgnbagmnkkakGreatDoorNm26
import Derived.Test.YtadkgnbagmnkkakGreatDoorNm27
import Derived.Lib.SmallJoins
import Derived.Deep.QuietTactic
import Derived.BigQuiet
import Derived.BigRegion
import Derived.OwnWalk
import Derived.Deep.CutRange
namespace Go.Proofs.YtadkgnbagmnkkakGreatDoor
open Go.ChangeShapes Go.WideShapes Go.ChangeAt Go.RowKit Go.Joins
set_option linter.unusedVariables false
set_option linter.unusedSimpArgs false

structure RN (u : World) (b : Nat) (c : Nd) : Prop where
 id : u.cell? ⟨b, 0, none⟩ = some (.int .i64 c.id)
 n : u.cell? ⟨b, 1, none⟩ = some (.int .i64 c.n)
 p : u.cell? ⟨b, 2, none⟩ = some (.int .i64 c.p)
 h : u.cell? ⟨b, 3, none⟩ = some (.int .i64 c.h)
 has : ∀ i, i < 6 → u.cell? ⟨b, 4 + i, none⟩ = some (.bool (c.has i))
 lo : ∀ i, i < 6 → u.cell? ⟨b, 10 + i * 2, none⟩ = some (.int .i64 (c.lo i))
 hi : ∀ i, i < 6 → u.cell? ⟨b, 10 + i * 2 + 1, none⟩ = some (.int .i64 (c.hi i))
 at_ : ∀ i, i < 6 → u.cell? ⟨b, 22 + i, none⟩ = some (.int .i64 (c.at_ i))
 fz : ∀ j, u.frozen? ⟨b, j, none⟩ = false
section
variable {u u' : World} {b : Nat} {c : Nd}
theorem RN.lt (h : RN u b c) : b < u.heap.size := World.block_lt_of_cell? _ _ h.id
theorem RN.block (he : u'.heap[b]? = u.heap[b]?) (h : RN u b c) : RN u' b c := by
 have e : ∀ j, u'.cell? ⟨b, j, none⟩ = u.cell? ⟨b, j, none⟩ := fun j => World.cell?_of_block (w := u) (a := ⟨b, j, none⟩) he
 exact ⟨by rw [e]; exact h.id, by rw [e]; exact h.n, by rw [e]; exact h.p, by rw [e]; exact h.h, fun i hi => by rw [e]; exact h.has i hi, fun i hi => by rw [e]; exact h.lo i hi, fun i hi => by rw [e]; exact h.hi i hi, fun i hi => by rw [e]; exact h.at_ i hi, fun j => (World.frozen?_of_block (w := u) (a := ⟨b, j, none⟩) he).trans (h.fz j)⟩
theorem RN.on (hb : Below u.heap.size u u') (h : RN u b c) : RN u' b c := h.block (hb.block b h.lt)
theorem RN.far {a : Nat} {i : Nat} {x : Value} (hne : b ≠ a) (h : RN u b c) : RN (u.setCell ⟨a, i, none⟩ x) b c := h.block (Deep.blk_setCell_other u ⟨a, i, none⟩ x b hne)
theorem RN.late {t : Int} (h : RN u b c) : RN (u.setCell ⟨b, 3, none⟩ (.int .i64 t)) b { c with h := t } := by
 have o : ∀ j, j ≠ 3 → (u.setCell ⟨b, 3, none⟩ (.int .i64 t)).cell? ⟨b, j, none⟩ = u.cell? ⟨b, j, none⟩ := fun j hj => World.cell?_setCell_other _ _ _ _ (fun q => hj (by injection q with _ q; exact q.symm))
 exact ⟨by rw [o _ (by decide)]; exact h.id, by rw [o _ (by decide)]; exact h.n, by rw [o _ (by decide)]; exact h.p, World.cell?_setCell_same _ _ _ h.h, fun i hi => by rw [o _ (by omega)]; exact h.has i hi, fun i hi => by rw [o _ (by omega)]; exact h.lo i hi, fun i hi => by rw [o _ (by omega)]; exact h.hi i hi, fun i hi => by rw [o _ (by omega)]; exact h.at_ i hi, fun j => by rw [World.frozen?_setCell]; exact h.fz j⟩
theorem cell_put {j m : Nat} {x y : Value} (h : u.cell? ⟨b, m, none⟩ = some y) : (u.setCell ⟨b, m, none⟩ x).cell? ⟨b, j, none⟩ = if j = m then some x else u.cell? ⟨b, j, none⟩ := by
 by_cases e : j = m
 ·subst e; rw [if_pos rfl]; exact World.cell?_setCell_same _ _ _ h
 ·rw [if_neg e]; exact World.cell?_setCell_other _ _ _ _ (fun q => e (by injection q with _ q; exact q.symm))
theorem RN.p4 {k : Nat} (hk : k < 6) (h : RN u b c) : RN (u.setCell ⟨b, 4 + k, none⟩ (.bool true)) b { c with has := updN c.has k true } := by
 have e : ∀ j, (u.setCell ⟨b, 4 + k, none⟩ (.bool true)).cell? ⟨b, j, none⟩ = if j = 4 + k then some (.bool true) else u.cell? ⟨b, j, none⟩ := fun j => cell_put (h.has k hk)
 refine ⟨by rw [e, if_neg (by omega)]; exact h.id, by rw [e, if_neg (by omega)]; exact h.n, by rw [e, if_neg (by omega)]; exact h.p, by rw [e, if_neg (by omega)]; exact h.h, fun i hi => ?_, fun i hi => by rw [e, if_neg (by omega)]; exact h.lo i hi, fun i hi => by rw [e, if_neg (by omega)]; exact h.hi i hi, fun i hi => by rw [e, if_neg (by omega)]; exact h.at_ i hi, fun j => by rw [World.frozen?_setCell]; exact h.fz j⟩
 show _ = some (Value.bool (updN c.has k true i))
 by_cases q : i = k
 ·subst q; rw [updN_at, e, if_pos rfl]
 ·rw [updN_ne q, e, if_neg (by omega)]; exact h.has i hi
theorem RN.p10 {k : Nat} {a d : Int} (hk : k < 6) (h : RN u b c) : RN ((u.setCell ⟨b, 10 + k * 2, none⟩ (.int .i64 a)).setCell ⟨b, 10 + k * 2 + 1, none⟩ (.int .i64 d)) b { c with lo := updN c.lo k a, hi := updN c.hi k d } := by
 have h2 : (u.setCell ⟨b, 10 + k * 2, none⟩ (.int .i64 a)).cell? ⟨b, 10 + k * 2 + 1, none⟩ = some (.int .i64 (c.hi k)) := by rw [cell_put (h.lo k hk), if_neg (by omega)]; exact h.hi k hk
 have e : ∀ j, ((u.setCell ⟨b, 10 + k * 2, none⟩ (.int .i64 a)).setCell ⟨b, 10 + k * 2 + 1, none⟩ (.int .i64 d)).cell? ⟨b, j, none⟩ = if j = 10 + k * 2 + 1 then some (.int .i64 d) else if j = 10 + k * 2 then some (.int .i64 a) else u.cell? ⟨b, j, none⟩ := fun j => by rw [cell_put h2, cell_put (h.lo k hk)]
 refine ⟨by rw [e, if_neg (by omega), if_neg (by omega)]; exact h.id, by rw [e, if_neg (by omega), if_neg (by omega)]; exact h.n, by rw [e, if_neg (by omega), if_neg (by omega)]; exact h.p, by rw [e, if_neg (by omega), if_neg (by omega)]; exact h.h, fun i hi => by rw [e, if_neg (by omega), if_neg (by omega)]; exact h.has i hi, fun i hi => ?_, fun i hi => ?_, fun i hi => by rw [e, if_neg (by omega), if_neg (by omega)]; exact h.at_ i hi, fun j => by rw [World.frozen?_setCell, World.frozen?_setCell]; exact h.fz j⟩
 ·show _ = some (Value.int .i64 (updN c.lo k a i))
  by_cases q : i = k
  ·subst q; rw [updN_at, e, if_neg (by omega), if_pos rfl]
  ·rw [updN_ne q, e, if_neg (by omega), if_neg (by omega)]; exact h.lo i hi
 ·show _ = some (Value.int .i64 (updN c.hi k d i))
  by_cases q : i = k
  ·subst q; rw [updN_at, e, if_pos rfl]
  ·rw [updN_ne q, e, if_neg (by omega), if_neg (by omega)]; exact h.hi i hi
theorem RN.p22 {k : Nat} {t : Int} (hk : k < 6) (h : RN u b c) : RN (u.setCell ⟨b, 22 + k, none⟩ (.int .i64 t)) b { c with at_ := updN c.at_ k t } := by
 have e : ∀ j, (u.setCell ⟨b, 22 + k, none⟩ (.int .i64 t)).cell? ⟨b, j, none⟩ = if j = 22 + k then some (.int .i64 t) else u.cell? ⟨b, j, none⟩ := fun j => cell_put (h.at_ k hk)
 refine ⟨by rw [e, if_neg (by omega)]; exact h.id, by rw [e, if_neg (by omega)]; exact h.n, by rw [e, if_neg (by omega)]; exact h.p, by rw [e, if_neg (by omega)]; exact h.h, fun i hi => by rw [e, if_neg (by omega)]; exact h.has i hi, fun i hi => by rw [e, if_neg (by omega)]; exact h.lo i hi, fun i hi => by rw [e, if_neg (by omega)]; exact h.hi i hi, fun i hi => ?_, fun j => by rw [World.frozen?_setCell]; exact h.fz j⟩
 show _ = some (Value.int .i64 (updN c.at_ k t i))
 by_cases q : i = k
 ·subst q; rw [updN_at, e, if_pos rfl]
 ·rw [updN_ne q, e, if_neg (by omega)]; exact h.at_ i hi
theorem RN.dr (h : RN u b c) : RN u.drew b c := RN.block (u := u) (u' := u.drew) rfl h
end
theorem rback_yes (b : Nat) (c : Nd) (t : Int) (u : World) (hR : RN u b c) (hb : c.bk t) :
  Calls Tryz.prog 74 #[.pointer (some ⟨b, 0, none⟩), .int .i64 t] u fun o w' => o = .returned (.bool true) ∧ w' = u := by
 have c3 := hR.h
 have zb := hR.lt
 have hc : t < 0 ∨ (¬ t < 0 ∧ 1000000000000 < t) ∨ (¬ t < 0 ∧ ¬ 1000000000000 < t ∧ t < c.h) := by unfold Nd.bk at hb; omega
 clear hb hR
 rcases hc with d1 | ⟨d1, d2⟩ | ⟨d1, d2, d3⟩
 all_goals
  go_enter Tryz.func74, Tryz.ntmps74
  go_wp2
  go_ret
  exact ⟨rfl, rfl⟩
theorem rback_no (b : Nat) (c : Nd) (t : Int) (u : World) (hR : RN u b c) (hb : ¬ c.bk t) :
  Calls Tryz.prog 74 #[.pointer (some ⟨b, 0, none⟩), .int .i64 t] u fun o w' => o = .returned (.bool false) ∧ w' = u := by
 have c3 := hR.h
 have zb := hR.lt
 have d1 : ¬ t < 0 := fun h => hb (Or.inl h)
 have d2 : ¬ 1000000000000 < t := fun h => hb (Or.inr (Or.inl h))
 have d3 : ¬ t < c.h := fun h => hb (Or.inr (Or.inr h))
 clear hb hR
 go_enter Tryz.func74, Tryz.ntmps74
 go_wp2
 go_ret
 exact ⟨rfl, rfl⟩
set_option maxRecDepth 100000 in
set_option maxHeartbeats 4000000 in
theorem rnaged (b : Nat) (c : Nd) (k : Nat) (t : Int) (u : World) (hR : RN u b c) (hI : c.I) (hb : ¬ c.bk t) (hk : c.has k = true) :
  Calls Tryz.prog 77 #[.pointer (some ⟨b, 0, none⟩), .int .i64 k, .int .i64 t] u fun o w' => o = .returned (.agg #[.int .i64 (c.alo k t), .int .i64 (c.ahi k t)]) ∧ Below u.heap.size u w' := by
 obtain ⟨s1, s2, s3, s4⟩ := c.sk_b hI hb hk
 obtain ⟨k1, k2, k3, k4, k5⟩ := hI.kn k hk
 have n6 := hI.n6
 have p0 := hI.p0
 have p1 := hI.p1
 have q1 : ¬ t < 0 := fun h => hb (Or.inl h)
 have q2 : ¬ 1000000000000 < t := fun h => hb (Or.inr (Or.inl h))
 have q3 : ¬ t < c.h := fun h => hb (Or.inr (Or.inr h))
 have cS := fun w => rslack (t - c.at_ k) c.p (((t - c.at_ k) * 3 * c.p + 1000000 - 1) / 1000000) w (by unfold rdy; exact decide_eq_true ⟨by omega, by omega, p0, p1⟩) rfl (by unfold Nd.sk at s3; omega) (by unfold Nd.sk at s4; omega)
 obtain ⟨m, em⟩ : ∃ m, m = ((t - c.at_ k) * 3 * c.p + 1000000 - 1) / 1000000 := ⟨_, rfl⟩
 have ea : c.alo k t = c.lo k - (2 + m) := by rw [em]; rfl
 have eh : c.ahi k t = c.hi k + (2 + m) := by rw [em]; rfl
 have es : c.sk k t = 2 + m := by rw [em]; rfl
 rw [← em] at cS
 rw [ea, eh]
 rw [es] at s3 s4
 obtain ⟨o1, o2, o3⟩ := okB_t k3
 have hk6 : k < 6 := by omega
 have c2 := hR.p
 have c10 := hR.lo k hk6
 have c11 := hR.hi k hk6
 have c22 := hR.at_ k hk6
 have zb := hR.lt
 have hki : (k : Int) < 6 := by omega
 have w1 : IntKind.i64.wrap (t - c.at_ k) = t - c.at_ k := IntWalk.i64_in _ (by omega)
 have w2 : IntKind.i64.wrap (c.lo k - (2 + m)) = c.lo k - (2 + m) := IntWalk.i64_in _ (by omega)
 have w3 : IntKind.i64.wrap (c.hi k + (2 + m)) = c.hi k + (2 + m) := IntWalk.i64_in _ (by omega)
 clear hR hI hb hk s1 s2 em ea eh es k3
 generalize c.at_ k = at1 at *
 generalize c.lo k = lo at *
 generalize c.hi k = hi at *
 generalize c.p = p at *
 go_enter Tryz.func77, Tryz.ntmps77
 go_wp2
 go_quiet (first | (go_at_call 104; refine Calls.quiet_of_same (cS _)))
 go_wp2
 go_region
 all_goals
  go_wp2
  exact bodyPost_ret (v := .agg #[.int .i64 (lo - (2 + m)), .int .i64 (hi + (2 + m))]) (by simp [results, Tryz.results77, go_sem, *]) rfl ⟨rfl, rbel_put (Nat.le_refl _) (rbel_put (Nat.le_refl _) (rbel_drn (rbel_al (Below.refl _ _))))⟩
set_option maxHeartbeats 4000000
set_option maxRecDepth 100000
theorem rhear_bk (b : Nat) (c : Nd) (x y t1 t2 t3 t : Int) (u : World) (hR : RN u b c) (hI : c.I) (a : Bool) (hb : c.bk t) :
  Calls Tryz.prog 44 #[.pointer (some ⟨b, 0, none⟩), .agg #[.int .i64 x, .int .i64 y, .bool a, .int .i64 t1, .int .i64 t2, .int .i64 t3], .int .i64 t] u fun o w' => o = .returned (.tuple #[.bool false, .int .i64 8]) ∧ Below u.heap.size u w' := by
 have HR : Hid (RN u b c) := hR
 have zb := hR.lt
 have c0 := hR.id
 have c1 := hR.n
 have HB : Hid (c.bk t) := hb
 clear hR hI hb
 go_enter Tryz.func44, Tryz.ntmps44
 go_wp2_with (go_at_call 74; refine (rback_yes b c t _ (RN.on (rbel_al (Below.refl _ _)) HR.out) HB.out).mono ?_; rintro o u1 ⟨rfl, hu⟩; rw [hu]; clear hu)
 go_ret2
 exact ⟨rfl, by first | exact rbel_drn (rbel_al (Below.refl _ _)) | exact rbel_al (Below.refl _ _)⟩
theorem rhear_b1 (b : Nat) (c : Nd) (x y t1 t2 t3 t : Int) (u : World) (hR : RN u b c) (hI : c.I) (a : Bool) (hb : ¬ c.bk t) (h : y ≠ c.id) :
  Calls Tryz.prog 44 #[.pointer (some ⟨b, 0, none⟩), .agg #[.int .i64 x, .int .i64 y, .bool a, .int .i64 t1, .int .i64 t2, .int .i64 t3], .int .i64 t] u fun o w' => o = .returned (.tuple #[.bool false, .int .i64 3]) ∧ Below u.heap.size u w' := by
 have HR : Hid (RN u b c) := hR
 have zb := hR.lt
 have c0 := hR.id
 have c1 := hR.n
 have HB : Hid (¬ c.bk t) := hb
 clear hR hI hb
 have d1 : (y == (c.id : Int)) = false := by simp; exact h
 go_enter Tryz.func44, Tryz.ntmps44
 go_wp2_with (go_at_call 74; refine (rback_no b c t _ (RN.on (rbel_al (Below.refl _ _)) HR.out) HB.out).mono ?_; rintro o u1 ⟨rfl, hu⟩; rw [hu]; clear hu)
 go_quiet (fail)
 go_wp2
 go_ret2
 exact ⟨rfl, by first | exact rbel_drn (rbel_al (Below.refl _ _)) | exact rbel_al (Below.refl _ _)⟩
theorem rhear_b2 (b : Nat) (c : Nd) (x y t1 t2 t3 t : Int) (u : World) (hR : RN u b c) (hI : c.I) (a : Bool) (hb : ¬ c.bk t) (h0 : y = c.id) (h : x = c.id) :
  Calls Tryz.prog 44 #[.pointer (some ⟨b, 0, none⟩), .agg #[.int .i64 x, .int .i64 y, .bool a, .int .i64 t1, .int .i64 t2, .int .i64 t3], .int .i64 t] u fun o w' => o = .returned (.tuple #[.bool false, .int .i64 3]) ∧ Below u.heap.size u w' := by
 have HR : Hid (RN u b c) := hR
 have zb := hR.lt
 have c0 := hR.id
 have c1 := hR.n
 have HB : Hid (¬ c.bk t) := hb
 clear hR hI hb
 subst h0
 subst h
 go_enter Tryz.func44, Tryz.ntmps44
 go_wp2_with (go_at_call 74; refine (rback_no b c t _ (RN.on (rbel_al (Below.refl _ _)) HR.out) HB.out).mono ?_; rintro o u1 ⟨rfl, hu⟩; rw [hu]; clear hu)
 go_quiet (fail)
 go_wp2
 go_ret2
 exact ⟨rfl, by first | exact rbel_drn (rbel_al (Below.refl _ _)) | exact rbel_al (Below.refl _ _)⟩
theorem rhear_b3 (b : Nat) (c : Nd) (x y t1 t2 t3 t : Int) (u : World) (hR : RN u b c) (hI : c.I) (a : Bool) (hb : ¬ c.bk t) (h0 : y = c.id) (h1 : x ≠ c.id) (h : x < 0) :
  Calls Tryz.prog 44 #[.pointer (some ⟨b, 0, none⟩), .agg #[.int .i64 x, .int .i64 y, .bool a, .int .i64 t1, .int .i64 t2, .int .i64 t3], .int .i64 t] u fun o w' => o = .returned (.tuple #[.bool false, .int .i64 3]) ∧ Below u.heap.size u w' := by
 have HR : Hid (RN u b c) := hR
 have zb := hR.lt
 have c0 := hR.id
 have c1 := hR.n
 have HB : Hid (¬ c.bk t) := hb
 clear hR hI hb
 subst h0
 have d1 : (x == (c.id : Int)) = false := by simp; exact h1
 have d2 : decide (x < 0) = true := decide_eq_true h
 go_enter Tryz.func44, Tryz.ntmps44
 go_wp2_with (go_at_call 74; refine (rback_no b c t _ (RN.on (rbel_al (Below.refl _ _)) HR.out) HB.out).mono ?_; rintro o u1 ⟨rfl, hu⟩; rw [hu]; clear hu)
 go_quiet (fail)
 go_wp2
 go_ret2
 exact ⟨rfl, by first | exact rbel_drn (rbel_al (Below.refl _ _)) | exact rbel_al (Below.refl _ _)⟩
theorem rhear_b4 (b : Nat) (c : Nd) (x y t1 t2 t3 t : Int) (u : World) (hR : RN u b c) (hI : c.I) (a : Bool) (hb : ¬ c.bk t) (h0 : y = c.id) (h1 : x ≠ c.id) (h2 : ¬ x < 0) (h : (c.n : Int) ≤ x) :
  Calls Tryz.prog 44 #[.pointer (some ⟨b, 0, none⟩), .agg #[.int .i64 x, .int .i64 y, .bool a, .int .i64 t1, .int .i64 t2, .int .i64 t3], .int .i64 t] u fun o w' => o = .returned (.tuple #[.bool false, .int .i64 3]) ∧ Below u.heap.size u w' := by
 have HR : Hid (RN u b c) := hR
 have zb := hR.lt
 have c0 := hR.id
 have c1 := hR.n
 have HB : Hid (¬ c.bk t) := hb
 clear hR hI hb
 subst h0
 have d1 : (x == (c.id : Int)) = false := by simp; exact h1
 have d2 : decide (x < 0) = false := decide_eq_false h2
 have d3 : decide ((c.n : Int) ≤ x) = true := decide_eq_true h
 go_enter Tryz.func44, Tryz.ntmps44
 go_wp2_with (go_at_call 74; refine (rback_no b c t _ (RN.on (rbel_al (Below.refl _ _)) HR.out) HB.out).mono ?_; rintro o u1 ⟨rfl, hu⟩; rw [hu]; clear hu)
 go_quiet (fail)
 go_wp2
 go_ret2
 exact ⟨rfl, by first | exact rbel_drn (rbel_al (Below.refl _ _)) | exact rbel_al (Below.refl _ _)⟩
theorem rhear_ask (b : Nat) (c : Nd) (x y t1 t2 t3 t : Int) (u : World) (hR : RN u b c) (hI : c.I) (hb : ¬ c.bk t) (k : Nat) (ex : x = k) (hk : k < c.n) (hne : k ≠ c.id) (h0 : y = c.id) :
  Calls Tryz.prog 44 #[.pointer (some ⟨b, 0, none⟩), .agg #[.int .i64 x, .int .i64 y, .bool false, .int .i64 t1, .int .i64 t2, .int .i64 t3], .int .i64 t] u fun o w' => o = .returned (.tuple #[.bool false, .int .i64 0]) ∧ RN w' b { c with h := t } ∧ Keeps (fun i => i = b) u w' := by
 have HR : Hid (RN u b c) := hR
 have zb := hR.lt
 have c0 := hR.id
 have c1 := hR.n
 have HB : Hid (¬ c.bk t) := hb
 subst h0
 subst ex
 have d1 : ((k : Int) == (c.id : Int)) = false := by simp; omega
 have d2 : decide ((k : Int) < 0) = false := decide_eq_false (by omega)
 have d3 : decide ((c.n : Int) ≤ (k : Int)) = false := decide_eq_false (by omega)
 have c3 := hR.h
 have f3 := hR.fz 3
 clear hR hI hb
 go_enter Tryz.func44, Tryz.ntmps44
 go_wp2_with (go_at_call 74; refine (rback_no b c t _ (RN.on (rbel_al (Below.refl _ _)) HR.out) HB.out).mono ?_; rintro o u1 ⟨rfl, hu⟩; rw [hu]; clear hu)
 go_quiet (fail)
 go_wp2
 go_ret2
 exact ⟨rfl, RN.late (RN.on (rbel_drn (rbel_al (Below.refl _ _))) HR.out), Keeps.put (S := fun i => i = b) rfl (Keeps.of (rbel_drn (rbel_al (Below.refl _ _))))⟩
set_option maxRecDepth 100000 in
set_option maxHeartbeats 4000000 in
theorem rhear_off (b : Nat) (c : Nd) (x y t1 t2 t3 t : Int) (u : World) (hR : RN u b c) (hI : c.I) (hb : ¬ c.bk t) (k : Nat) (ex : x = k) (hk : k < c.n) (hne : k ≠ c.id) (h0 : y = c.id) (e : Int) (he : oE t1 t2 t3 t c.p = e) (hz : e ≠ 0) :
  Calls Tryz.prog 44 #[.pointer (some ⟨b, 0, none⟩), .agg #[.int .i64 x, .int .i64 y, .bool true, .int .i64 t1, .int .i64 t2, .int .i64 t3], .int .i64 t] u fun o w' => o = .returned (.tuple #[.bool false, .int .i64 e]) ∧ Below u.heap.size u w' := by
 have HR : Hid (RN u b c) := hR
 have zb := hR.lt
 have c0 := hR.id
 have c1 := hR.n
 have HB : Hid (¬ c.bk t) := hb
 subst h0
 subst ex
 have d1 : ((k : Int) == (c.id : Int)) = false := by simp; omega
 have d2 : decide ((k : Int) < 0) = false := decide_eq_false (by omega)
 have d3 : decide ((c.n : Int) ≤ (k : Int)) = false := decide_eq_false (by omega)
 have c2 := hR.p
 have kk : k < 6 := by have := hI.n6; omega
 have hki : (k : Int) < 6 := by omega
 have hp := hI.p0
 have n6 := hI.n6
 have cO := fun w => roff_no t1 t2 t3 t c.p w (by rw [he]; exact hz)
 rw [he] at cO
 have z1 : (e != 0) = true := by simp [hz]
 have z2 : (e == 0) = false := by simp [hz]
 clear hR hI hb he hz
 go_enter Tryz.func44, Tryz.ntmps44
 go_wp2_with (go_at_call 74; refine (rback_no b c t _ (RN.on (rbel_al (Below.refl _ _)) HR.out) HB.out).mono ?_; rintro o u1 ⟨rfl, hu⟩; rw [hu]; clear hu)
 go_quiet (fail)
 go_wp2
 have BW : Hid (Below u.heap.size u ((u.alloc (Obj.cells #[.int .i64 (k : Int), .int .i64 (c.id : Int), .bool true, .int .i64 t1, .int .i64 t2, .int .i64 t3] 113)).drewN nq)) := rbel_drn (rbel_al (Below.refl _ _))
 have RX : Hid (Row ((u.alloc (Obj.cells #[.int .i64 (k : Int), .int .i64 (c.id : Int), .bool true, .int .i64 t1, .int .i64 t2, .int .i64 t3] 113)).drewN nq) u.heap.size [.int .i64 (k : Int), .int .i64 (c.id : Int), .bool true, .int .i64 t1, .int .i64 t2, .int .i64 t3]) := Row.drn (Row.made rfl)
 clear c0 c1 c2
 generalize ((u.alloc (Obj.cells #[.int .i64 (k : Int), .int .i64 (c.id : Int), .bool true, .int .i64 t1, .int .i64 t2, .int .i64 t3] 113)).drewN nq) = W at *
 have HW : Hid (RN W b c) := RN.on BW.out HR.out
 have lx : u.heap.size < W.heap.size := RX.out.lt
 have lb : b < W.heap.size := by omega
 have x0 := RX.out.c 0 _ rfl
 have x3 := RX.out.c 3 _ rfl
 have x4 := RX.out.c 4 _ rfl
 have x5 := RX.out.c 5 _ rfl
 have c2 := HW.out.p
 have ne1 : ¬ (W.heap.size = u.heap.size) := by omega
 have ne2 : ¬ (u.heap.size = W.heap.size) := by omega
 have ne3 : ¬ (W.heap.size = b) := by omega
 have ne4 : ¬ (b = W.heap.size) := by omega
 go_region_held (fun w' => w'.cell? ⟨u.heap.size, 3, none⟩ = some (.int .i64 t1) ∧ w'.cell? ⟨u.heap.size, 4, none⟩ = some (.int .i64 t2) ∧ w'.cell? ⟨u.heap.size, 5, none⟩ = some (.int .i64 t3) ∧ w'.cell? ⟨b, 2, none⟩ = some (.int .i64 c.p)) (go_keep) (first
  | (go_at_call 75; refine (cO _).mono ?_; rintro o u1 ⟨rfl, hb⟩; first
   | (have RT1 : Hid (Row u1 W.heap.size [.int .i64 0, .int .i64 0]) := Row.on hb (Row.dr (Row.made (W := W) rfl)); have BX1 : Hid (Below u.heap.size u u1) := rbel_on hb (rbel_dr (rbel_al BW.out)); have RX1 : Hid (Row u1 u.heap.size [.int .i64 (k : Int), .int .i64 (c.id : Int), .bool true, .int .i64 t1, .int .i64 t2, .int .i64 t3]) := Row.on hb (Row.dr (Row.al RX.out)); have HN1 : Hid (RN u1 b c) := RN.on BX1.out HR.out; have j0 := RX1.out.c 0 _ rfl; have j3 := RX1.out.c 3 _ rfl; have j4 := RX1.out.c 4 _ rfl; have j5 := RX1.out.c 5 _ rfl; have j2 := HN1.out.p; have lx1 : u.heap.size < u1.heap.size := RX1.out.lt; clear hb; have t0 := RT1.out.c 0 _ rfl; have t1_ := RT1.out.c 1 _ rfl; have g0 := RT1.out.f 0 _ rfl; have g1 := RT1.out.f 1 _ rfl; have lt1 : W.heap.size < u1.heap.size := RT1.out.lt)
   | (have RT1 : Hid (Row u1 W.heap.size [.int .i64 0, .int .i64 0]) := Row.on hb (Row.made (W := W.drew) rfl); have BX1 : Hid (Below u.heap.size u u1) := rbel_on hb (rbel_al (rbel_dr BW.out)); have RX1 : Hid (Row u1 u.heap.size [.int .i64 (k : Int), .int .i64 (c.id : Int), .bool true, .int .i64 t1, .int .i64 t2, .int .i64 t3]) := Row.on hb (Row.al (Row.dr RX.out)); have HN1 : Hid (RN u1 b c) := RN.on BX1.out HR.out; have j0 := RX1.out.c 0 _ rfl; have j3 := RX1.out.c 3 _ rfl; have j4 := RX1.out.c 4 _ rfl; have j5 := RX1.out.c 5 _ rfl; have j2 := HN1.out.p; have lx1 : u.heap.size < u1.heap.size := RX1.out.lt; clear hb; have t0 := RT1.out.c 0 _ rfl; have t1_ := RT1.out.c 1 _ rfl; have g0 := RT1.out.f 0 _ rfl; have g1 := RT1.out.f 1 _ rfl; have lt1 : W.heap.size < u1.heap.size := RT1.out.lt)
   | (have BX1 : Hid (Below u.heap.size u u1) := rbel_on hb (rbel_dr BW.out); have RX1 : Hid (Row u1 u.heap.size [.int .i64 (k : Int), .int .i64 (c.id : Int), .bool true, .int .i64 t1, .int .i64 t2, .int .i64 t3]) := Row.on hb (Row.dr RX.out); have HN1 : Hid (RN u1 b c) := RN.on BX1.out HR.out; have j0 := RX1.out.c 0 _ rfl; have j3 := RX1.out.c 3 _ rfl; have j4 := RX1.out.c 4 _ rfl; have j5 := RX1.out.c 5 _ rfl; have j2 := HN1.out.p; have lx1 : u.heap.size < u1.heap.size := RX1.out.lt; clear hb)))
 all_goals
  go_wp2
  go_ret2
  exact ⟨rfl, by first | exact rbel_al BX1.out | exact rbel_put (by omega) (rbel_put (by omega) BX1.out) | exact BX1.out⟩
set_option maxRecDepth 100000 in
set_option maxHeartbeats 4000000 in
theorem rhear_new (b : Nat) (c : Nd) (x y t1 t2 t3 t : Int) (u : World) (hR : RN u b c) (hI : c.I) (hb : ¬ c.bk t) (k : Nat) (ex : x = k) (hk : k < c.n) (hne : k ≠ c.id) (h0 : y = c.id) (a1 a2 : Int) (he : oE t1 t2 t3 t c.p = 0) (e1 : t3 - t = a1) (e2 : oH t1 t2 t c.p = a2) (hh : c.has k = false)  :
    Calls Tryz.prog 44 #[.pointer (some ⟨b, 0, none⟩), .agg #[.int .i64 x, .int .i64 y, .bool true, .int .i64 t1, .int .i64 t2, .int .i64 t3], .int .i64 t] u fun o w' => o = .returned (.tuple #[.bool true, .int .i64 0]) ∧ RN w' b (c.kept k t a1 a2) ∧ Keeps (fun i => i = b) u w' := by
  have HR : Hid (RN u b c) := hR
  have zb := hR.lt
  have c0 := hR.id
  have c1 := hR.n
  have HB : Hid (¬ c.bk t) := hb
  subst h0
  subst ex
  have d1 : ((k : Int) == (c.id : Int)) = false := by simp; omega
  have d2 : decide ((k : Int) < 0) = false := decide_eq_false (by omega)
  have d3 : decide ((c.n : Int) ≤ (k : Int)) = false := decide_eq_false (by omega)
  have c2 := hR.p
  have kk : k < 6 := by have := hI.n6; omega
  have hki : (k : Int) < 6 := by omega
  have hp := hI.p0
  have n6 := hI.n6
  have cO := fun w => roff_ok t1 t2 t3 t c.p w he
  rw [e1, e2] at cO
  clear he e1 e2
  clear hR hI hb
  go_enter Tryz.func44, Tryz.ntmps44
  go_wp2_with (go_at_call 74; refine (rback_no b c t _ (RN.on (rbel_al (Below.refl _ _)) HR.out) HB.out).mono ?_; rintro o u1 ⟨rfl, hu⟩; rw [hu]; clear hu)
  go_quiet (fail)
  go_wp2
  have BW : Hid (Below u.heap.size u ((u.alloc (Obj.cells #[.int .i64 (k : Int), .int .i64 (c.id : Int), .bool true, .int .i64 t1, .int .i64 t2, .int .i64 t3] 113)).drewN nq)) := rbel_drn (rbel_al (Below.refl _ _))
  have RX : Hid (Row ((u.alloc (Obj.cells #[.int .i64 (k : Int), .int .i64 (c.id : Int), .bool true, .int .i64 t1, .int .i64 t2, .int .i64 t3] 113)).drewN nq) u.heap.size [.int .i64 (k : Int), .int .i64 (c.id : Int), .bool true, .int .i64 t1, .int .i64 t2, .int .i64 t3]) := Row.drn (Row.made rfl)
  clear c0 c1 c2
  generalize ((u.alloc (Obj.cells #[.int .i64 (k : Int), .int .i64 (c.id : Int), .bool true, .int .i64 t1, .int .i64 t2, .int .i64 t3] 113)).drewN nq) = W at *
  have HW : Hid (RN W b c) := RN.on BW.out HR.out
  have lx : u.heap.size < W.heap.size := RX.out.lt
  have lb : b < W.heap.size := by omega
  have x0 := RX.out.c 0 _ rfl
  have x3 := RX.out.c 3 _ rfl
  have x4 := RX.out.c 4 _ rfl
  have x5 := RX.out.c 5 _ rfl
  have c2 := HW.out.p
  have ne1 : ¬ (W.heap.size = u.heap.size) := by omega
  have ne2 : ¬ (u.heap.size = W.heap.size) := by omega
  have ne3 : ¬ (W.heap.size = b) := by omega
  have ne4 : ¬ (b = W.heap.size) := by omega
  go_region_held (fun w' => w'.cell? ⟨u.heap.size, 3, none⟩ = some (.int .i64 t1) ∧ w'.cell? ⟨u.heap.size, 4, none⟩ = some (.int .i64 t2) ∧ w'.cell? ⟨u.heap.size, 5, none⟩ = some (.int .i64 t3) ∧ w'.cell? ⟨b, 2, none⟩ = some (.int .i64 c.p)) (go_keep) (first
    | (go_at_call 75; refine (cO _).mono ?_; rintro o u1 ⟨rfl, hb⟩; first
      | (have RT1 : Hid (Row u1 W.heap.size [.int .i64 0, .int .i64 0]) := Row.on hb (Row.dr (Row.made (W := W) rfl)); have BX1 : Hid (Below u.heap.size u u1) := rbel_on hb (rbel_dr (rbel_al BW.out)); have RX1 : Hid (Row u1 u.heap.size [.int .i64 (k : Int), .int .i64 (c.id : Int), .bool true, .int .i64 t1, .int .i64 t2, .int .i64 t3]) := Row.on hb (Row.dr (Row.al RX.out)); have HN1 : Hid (RN u1 b c) := RN.on BX1.out HR.out; have j0 := RX1.out.c 0 _ rfl; have j3 := RX1.out.c 3 _ rfl; have j4 := RX1.out.c 4 _ rfl; have j5 := RX1.out.c 5 _ rfl; have j2 := HN1.out.p; have lx1 : u.heap.size < u1.heap.size := RX1.out.lt; clear hb; have t0 := RT1.out.c 0 _ rfl; have t1_ := RT1.out.c 1 _ rfl; have g0 := RT1.out.f 0 _ rfl; have g1 := RT1.out.f 1 _ rfl; have lt1 : W.heap.size < u1.heap.size := RT1.out.lt)
      | (have RT1 : Hid (Row u1 W.heap.size [.int .i64 0, .int .i64 0]) := Row.on hb (Row.made (W := W.drew) rfl); have BX1 : Hid (Below u.heap.size u u1) := rbel_on hb (rbel_al (rbel_dr BW.out)); have RX1 : Hid (Row u1 u.heap.size [.int .i64 (k : Int), .int .i64 (c.id : Int), .bool true, .int .i64 t1, .int .i64 t2, .int .i64 t3]) := Row.on hb (Row.al (Row.dr RX.out)); have HN1 : Hid (RN u1 b c) := RN.on BX1.out HR.out; have j0 := RX1.out.c 0 _ rfl; have j3 := RX1.out.c 3 _ rfl; have j4 := RX1.out.c 4 _ rfl; have j5 := RX1.out.c 5 _ rfl; have j2 := HN1.out.p; have lx1 : u.heap.size < u1.heap.size := RX1.out.lt; clear hb; have t0 := RT1.out.c 0 _ rfl; have t1_ := RT1.out.c 1 _ rfl; have g0 := RT1.out.f 0 _ rfl; have g1 := RT1.out.f 1 _ rfl; have lt1 : W.heap.size < u1.heap.size := RT1.out.lt)
      | (have BX1 : Hid (Below u.heap.size u u1) := rbel_on hb (rbel_dr BW.out); have RX1 : Hid (Row u1 u.heap.size [.int .i64 (k : Int), .int .i64 (c.id : Int), .bool true, .int .i64 t1, .int .i64 t2, .int .i64 t3]) := Row.on hb (Row.dr RX.out); have HN1 : Hid (RN u1 b c) := RN.on BX1.out HR.out; have j0 := RX1.out.c 0 _ rfl; have j3 := RX1.out.c 3 _ rfl; have j4 := RX1.out.c 4 _ rfl; have j5 := RX1.out.c 5 _ rfl; have j2 := HN1.out.p; have lx1 : u.heap.size < u1.heap.size := RX1.out.lt; clear hb)))
  all_goals
    first
      | (have q := RT1.out
         have RT : Hid (Row ((u1.setCell ⟨W.heap.size, 0, none⟩ (.int .i64 a1)).setCell ⟨W.heap.size, 1, none⟩ (.int .i64 a2)) W.heap.size [.int .i64 a1, .int .i64 a2]) := Row.put 1 (Row.put 0 q)
         have BXX : Hid (Below u.heap.size u ((u1.setCell ⟨W.heap.size, 0, none⟩ (.int .i64 a1)).setCell ⟨W.heap.size, 1, none⟩ (.int .i64 a2))) := rbel_put (by omega) (rbel_put (by omega) BX1.out)
         have RXX : Hid (Row ((u1.setCell ⟨W.heap.size, 0, none⟩ (.int .i64 a1)).setCell ⟨W.heap.size, 1, none⟩ (.int .i64 a2)) u.heap.size [.int .i64 (k : Int), .int .i64 (c.id : Int), .bool true, .int .i64 t1, .int .i64 t2, .int .i64 t3]) := Row.far (by omega) (Row.far (by omega) RX1.out)
         have sT : Hid (u.heap.size < W.heap.size) := lx
         clear q RT1 t0 t1_ g0 g1 j0 j3 j4 j5 j2 HN1 RX1 BX1 x0 x3 x4 x5 c2 HW RX BW ne1 ne2 ne3 ne4 lt1 lx1 lx lb
         generalize ((u1.setCell ⟨W.heap.size, 0, none⟩ (.int .i64 a1)).setCell ⟨W.heap.size, 1, none⟩ (.int .i64 a2)) = X at *
         generalize W.heap.size = T at *)
      | (have RT : Hid (Row (u1.alloc (Obj.cells #[.int .i64 a1, .int .i64 a2] 34)) u1.heap.size [.int .i64 a1, .int .i64 a2]) := Row.made rfl
         have BXX : Hid (Below u.heap.size u (u1.alloc (Obj.cells #[.int .i64 a1, .int .i64 a2] 34))) := rbel_al BX1.out
         have RXX : Hid (Row (u1.alloc (Obj.cells #[.int .i64 a1, .int .i64 a2] 34)) u.heap.size [.int .i64 (k : Int), .int .i64 (c.id : Int), .bool true, .int .i64 t1, .int .i64 t2, .int .i64 t3]) := Row.al RX1.out
         have sT : Hid (u.heap.size < u1.heap.size) := lx1
         clear j0 j3 j4 j5 j2 HN1 RX1 BX1 x0 x3 x4 x5 c2 HW RX BW ne1 ne2 ne3 ne4 lx1 lx lb
         generalize (u1.alloc (Obj.cells #[.int .i64 a1, .int .i64 a2] 34)) = X at *
         generalize u1.heap.size = T at *)
    have HX : Hid (RN X b c) := RN.on BXX.out HR.out
    have lb : b < X.heap.size := HX.out.lt
    have lT : T < X.heap.size := RT.out.lt
    have lL : u.heap.size < X.heap.size := RXX.out.lt
    have x0 := RXX.out.c 0 _ rfl
    have v4 := HX.out.has k kk
    rw [hh] at v4
    have v3 := HX.out.h
    have f3 := HX.out.fz 3
    go_wp2
    go_quiet (fail)
    go_wp2
    have HX0 : Hid (RN (X.drewN nq) b c) := RN.on (rbel_drn (Below.refl _ _)) HX.out
    have RT0 : Hid (Row (X.drewN nq) T [.int .i64 a1, .int .i64 a2]) := Row.drn RT.out
    have RL0 : Hid (Row (X.drewN nq) u.heap.size [.int .i64 (k : Int), .int .i64 (c.id : Int), .bool true, .int .i64 t1, .int .i64 t2, .int .i64 t3]) := Row.drn RXX.out
    have BX0 : Hid (Below u.heap.size u (X.drewN nq)) := rbel_drn BXX.out
    have sT' := sT.out
    clear HX RT RXX BXX x0 v4 lb lT lL v3 f3
    have HY : Hid (RN ((X.drewN nq).setCell ⟨b, 3, none⟩ (.int .i64 t)) b { c with h := t }) := RN.late HX0.out
    have RTY : Hid (Row ((X.drewN nq).setCell ⟨b, 3, none⟩ (.int .i64 t)) T [.int .i64 a1, .int .i64 a2]) := Row.far (by omega) RT0.out
    have RLY : Hid (Row ((X.drewN nq).setCell ⟨b, 3, none⟩ (.int .i64 t)) u.heap.size [.int .i64 (k : Int), .int .i64 (c.id : Int), .bool true, .int .i64 t1, .int .i64 t2, .int .i64 t3]) := Row.far (by omega) RL0.out
    have KY : Hid (Keeps (fun i => i = b) u ((X.drewN nq).setCell ⟨b, 3, none⟩ (.int .i64 t))) := Keeps.put (S := fun i => i = b) rfl (Keeps.of BX0.out)
    clear HX0 RT0 RL0 BX0
    generalize ((X.drewN nq).setCell ⟨b, 3, none⟩ (.int .i64 t)) = Y at *
    have lb : b < Y.heap.size := HY.out.lt
    have lT : T < Y.heap.size := RTY.out.lt
    have lL : u.heap.size < Y.heap.size := RLY.out.lt
    have x0 := RLY.out.c 0 _ rfl
    have v4 : Y.cell? ⟨b, 4 + k, none⟩ = some (.bool (c.has k)) := HY.out.has k kk
    have f4 := HY.out.fz (4 + k)
    go_region
    all_goals
      go_wp2
      have HZ : Hid (RN ((Y.setCell ⟨b, 4 + k, none⟩ (.bool true)).drew) b { c with h := t, has := updN c.has k true }) := RN.dr (RN.p4 kk HY.out)
      have RTZ : Hid (Row ((Y.setCell ⟨b, 4 + k, none⟩ (.bool true)).drew) T [.int .i64 a1, .int .i64 a2]) := Row.dr (Row.far (by omega) RTY.out)
      have RLZ : Hid (Row ((Y.setCell ⟨b, 4 + k, none⟩ (.bool true)).drew) u.heap.size [.int .i64 (k : Int), .int .i64 (c.id : Int), .bool true, .int .i64 t1, .int .i64 t2, .int .i64 t3]) := Row.dr (Row.far (by omega) RLY.out)
      have KZ : Hid (Keeps (fun i => i = b) u ((Y.setCell ⟨b, 4 + k, none⟩ (.bool true)).drew)) := Keeps.dr (Keeps.put (S := fun i => i = b) rfl KY.out)
      clear HY RTY RLY KY x0 v4 f4 lb lT lL
      generalize ((Y.setCell ⟨b, 4 + k, none⟩ (.bool true)).drew) = Z at *
      have lb : b < Z.heap.size := HZ.out.lt
      have lT : T < Z.heap.size := RTZ.out.lt
      have lL : u.heap.size < Z.heap.size := RLZ.out.lt
      have x0 := RLZ.out.c 0 _ rfl
      have v10 : Z.cell? ⟨b, 10 + k * 2, none⟩ = some (.int .i64 (c.lo k)) := HZ.out.lo k kk
      have v11 : Z.cell? ⟨b, 10 + k * 2 + 1, none⟩ = some (.int .i64 (c.hi k)) := HZ.out.hi k kk
      have f10 := HZ.out.fz (10 + k * 2)
      have f11 := HZ.out.fz (10 + k * 2 + 1)
      have y0 := RTZ.out.c 0 _ rfl
      have y1 := RTZ.out.c 1 _ rfl
      have nbT : ¬ (b = T) := by omega
      have nTb : ¬ (T = b) := by omega
      go_region
      all_goals
        go_wp2
        have HV : Hid (RN (((Z.setCell ⟨b, 10 + k * 2, none⟩ (.int .i64 a1)).setCell ⟨b, 10 + k * 2 + 1, none⟩ (.int .i64 a2)).drew) b { c with h := t, has := updN c.has k true, lo := updN c.lo k a1, hi := updN c.hi k a2 }) := RN.dr (RN.p10 kk HZ.out)
        have RTV : Hid (Row (((Z.setCell ⟨b, 10 + k * 2, none⟩ (.int .i64 a1)).setCell ⟨b, 10 + k * 2 + 1, none⟩ (.int .i64 a2)).drew) T [.int .i64 a1, .int .i64 a2]) := Row.dr (Row.far (by omega) (Row.far (by omega) RTZ.out))
        have RLV : Hid (Row (((Z.setCell ⟨b, 10 + k * 2, none⟩ (.int .i64 a1)).setCell ⟨b, 10 + k * 2 + 1, none⟩ (.int .i64 a2)).drew) u.heap.size [.int .i64 (k : Int), .int .i64 (c.id : Int), .bool true, .int .i64 t1, .int .i64 t2, .int .i64 t3]) := Row.dr (Row.far (by omega) (Row.far (by omega) RLZ.out))
        have KV : Hid (Keeps (fun i => i = b) u (((Z.setCell ⟨b, 10 + k * 2, none⟩ (.int .i64 a1)).setCell ⟨b, 10 + k * 2 + 1, none⟩ (.int .i64 a2)).drew)) := Keeps.dr (Keeps.put (S := fun i => i = b) rfl (Keeps.put (S := fun i => i = b) rfl KZ.out))
        clear HZ RTZ RLZ KZ x0 v10 v11 f10 f11 y0 y1 nbT nTb lb lT lL
        generalize (((Z.setCell ⟨b, 10 + k * 2, none⟩ (.int .i64 a1)).setCell ⟨b, 10 + k * 2 + 1, none⟩ (.int .i64 a2)).drew) = V at *
        have lb : b < V.heap.size := HV.out.lt
        have lT : T < V.heap.size := RTV.out.lt
        have lL : u.heap.size < V.heap.size := RLV.out.lt
        have x0 := RLV.out.c 0 _ rfl
        have v22 : V.cell? ⟨b, 22 + k, none⟩ = some (.int .i64 (c.at_ k)) := HV.out.at_ k kk
        have f22 := HV.out.fz (22 + k)
        go_region
        all_goals
          go_wp2
          go_ret2
          exact ⟨rfl, RN.dr (RN.p22 kk HV.out), Keeps.dr (Keeps.put (S := fun i => i = b) rfl KV.out)⟩
set_option maxRecDepth 100000 in
set_option maxHeartbeats 4000000 in
theorem rhear_clash (b : Nat) (c : Nd) (x_ y_ t1 t2 t3 t : Int) (u : World) (hR : RN u b c) (hI : c.I) (hb : ¬ c.bk t) (k : Nat) (ex : x_ = k) (hk : k < c.n) (hne : k ≠ c.id) (h0 : y_ = c.id) (a1 a2 : Int) (he : oE t1 t2 t3 t c.p = 0) (e1 : t3 - t = a1) (e2 : oH t1 t2 t c.p = a2) (hh : c.has k = true) (x y : Int) (hx : Hid ((a1 < c.alo k t ∧ x = c.alo k t) ∨ (c.alo k t ≤ a1 ∧ x = a1))) (hy : Hid ((c.ahi k t < a2 ∧ y = c.ahi k t) ∨ (a2 ≤ c.ahi k t ∧ y = a2))) (hc : y < x) :
    Calls Tryz.prog 44 #[.pointer (some ⟨b, 0, none⟩), .agg #[.int .i64 x_, .int .i64 y_, .bool true, .int .i64 t1, .int .i64 t2, .int .i64 t3], .int .i64 t] u fun o w' => o = .returned (.tuple #[.bool false, .int .i64 7]) ∧ Below u.heap.size u w' := by
  have HR : Hid (RN u b c) := hR
  have zb := hR.lt
  have c0 := hR.id
  have c1 := hR.n
  have HB : Hid (¬ c.bk t) := hb
  subst h0
  subst ex
  have d1 : ((k : Int) == (c.id : Int)) = false := by simp; omega
  have d2 : decide ((k : Int) < 0) = false := decide_eq_false (by omega)
  have d3 : decide ((c.n : Int) ≤ (k : Int)) = false := decide_eq_false (by omega)
  have c2 := hR.p
  have kk : k < 6 := by have := hI.n6; omega
  have hki : (k : Int) < 6 := by omega
  have hp := hI.p0
  have n6 := hI.n6
  have cO := fun w => roff_ok t1 t2 t3 t c.p w he
  rw [e1, e2] at cO
  clear he e1 e2
  have dc : decide (x ≤ y) = false := decide_eq_false (by omega)
  have cA := fun (w : World) (hw : Below u.heap.size u w) => rnaged b c k t w (RN.on hw HR.out) hI hb hh
  have cM := fun (w : World) => rmeet_any (c.alo k t) (c.ahi k t) a1 a2 x y w hx hy
  clear hR hI hb hx hy
  generalize c.alo k t = al at *
  generalize c.ahi k t = ah at *
  go_enter Tryz.func44, Tryz.ntmps44
  go_wp2_with (go_at_call 74; refine (rback_no b c t _ (RN.on (rbel_al (Below.refl _ _)) HR.out) HB.out).mono ?_; rintro o u1 ⟨rfl, hu⟩; rw [hu]; clear hu)
  go_quiet (fail)
  go_wp2
  have BW : Hid (Below u.heap.size u ((u.alloc (Obj.cells #[.int .i64 (k : Int), .int .i64 (c.id : Int), .bool true, .int .i64 t1, .int .i64 t2, .int .i64 t3] 113)).drewN nq)) := rbel_drn (rbel_al (Below.refl _ _))
  have RX : Hid (Row ((u.alloc (Obj.cells #[.int .i64 (k : Int), .int .i64 (c.id : Int), .bool true, .int .i64 t1, .int .i64 t2, .int .i64 t3] 113)).drewN nq) u.heap.size [.int .i64 (k : Int), .int .i64 (c.id : Int), .bool true, .int .i64 t1, .int .i64 t2, .int .i64 t3]) := Row.drn (Row.made rfl)
  clear c0 c1 c2
  generalize ((u.alloc (Obj.cells #[.int .i64 (k : Int), .int .i64 (c.id : Int), .bool true, .int .i64 t1, .int .i64 t2, .int .i64 t3] 113)).drewN nq) = W at *
  have HW : Hid (RN W b c) := RN.on BW.out HR.out
  have lx : u.heap.size < W.heap.size := RX.out.lt
  have lb : b < W.heap.size := by omega
  have x0 := RX.out.c 0 _ rfl
  have x3 := RX.out.c 3 _ rfl
  have x4 := RX.out.c 4 _ rfl
  have x5 := RX.out.c 5 _ rfl
  have c2 := HW.out.p
  have ne1 : ¬ (W.heap.size = u.heap.size) := by omega
  have ne2 : ¬ (u.heap.size = W.heap.size) := by omega
  have ne3 : ¬ (W.heap.size = b) := by omega
  have ne4 : ¬ (b = W.heap.size) := by omega
  go_region_held (fun w' => w'.cell? ⟨u.heap.size, 3, none⟩ = some (.int .i64 t1) ∧ w'.cell? ⟨u.heap.size, 4, none⟩ = some (.int .i64 t2) ∧ w'.cell? ⟨u.heap.size, 5, none⟩ = some (.int .i64 t3) ∧ w'.cell? ⟨b, 2, none⟩ = some (.int .i64 c.p)) (go_keep) (first
    | (go_at_call 75; refine (cO _).mono ?_; rintro o u1 ⟨rfl, hb⟩; first
      | (have RT1 : Hid (Row u1 W.heap.size [.int .i64 0, .int .i64 0]) := Row.on hb (Row.dr (Row.made (W := W) rfl)); have BX1 : Hid (Below u.heap.size u u1) := rbel_on hb (rbel_dr (rbel_al BW.out)); have RX1 : Hid (Row u1 u.heap.size [.int .i64 (k : Int), .int .i64 (c.id : Int), .bool true, .int .i64 t1, .int .i64 t2, .int .i64 t3]) := Row.on hb (Row.dr (Row.al RX.out)); have HN1 : Hid (RN u1 b c) := RN.on BX1.out HR.out; have j0 := RX1.out.c 0 _ rfl; have j3 := RX1.out.c 3 _ rfl; have j4 := RX1.out.c 4 _ rfl; have j5 := RX1.out.c 5 _ rfl; have j2 := HN1.out.p; have lx1 : u.heap.size < u1.heap.size := RX1.out.lt; clear hb; have t0 := RT1.out.c 0 _ rfl; have t1_ := RT1.out.c 1 _ rfl; have g0 := RT1.out.f 0 _ rfl; have g1 := RT1.out.f 1 _ rfl; have lt1 : W.heap.size < u1.heap.size := RT1.out.lt)
      | (have RT1 : Hid (Row u1 W.heap.size [.int .i64 0, .int .i64 0]) := Row.on hb (Row.made (W := W.drew) rfl); have BX1 : Hid (Below u.heap.size u u1) := rbel_on hb (rbel_al (rbel_dr BW.out)); have RX1 : Hid (Row u1 u.heap.size [.int .i64 (k : Int), .int .i64 (c.id : Int), .bool true, .int .i64 t1, .int .i64 t2, .int .i64 t3]) := Row.on hb (Row.al (Row.dr RX.out)); have HN1 : Hid (RN u1 b c) := RN.on BX1.out HR.out; have j0 := RX1.out.c 0 _ rfl; have j3 := RX1.out.c 3 _ rfl; have j4 := RX1.out.c 4 _ rfl; have j5 := RX1.out.c 5 _ rfl; have j2 := HN1.out.p; have lx1 : u.heap.size < u1.heap.size := RX1.out.lt; clear hb; have t0 := RT1.out.c 0 _ rfl; have t1_ := RT1.out.c 1 _ rfl; have g0 := RT1.out.f 0 _ rfl; have g1 := RT1.out.f 1 _ rfl; have lt1 : W.heap.size < u1.heap.size := RT1.out.lt)
      | (have BX1 : Hid (Below u.heap.size u u1) := rbel_on hb (rbel_dr BW.out); have RX1 : Hid (Row u1 u.heap.size [.int .i64 (k : Int), .int .i64 (c.id : Int), .bool true, .int .i64 t1, .int .i64 t2, .int .i64 t3]) := Row.on hb (Row.dr RX.out); have HN1 : Hid (RN u1 b c) := RN.on BX1.out HR.out; have j0 := RX1.out.c 0 _ rfl; have j3 := RX1.out.c 3 _ rfl; have j4 := RX1.out.c 4 _ rfl; have j5 := RX1.out.c 5 _ rfl; have j2 := HN1.out.p; have lx1 : u.heap.size < u1.heap.size := RX1.out.lt; clear hb)))
  all_goals
    first
      | (have q := RT1.out
         have RT : Hid (Row ((u1.setCell ⟨W.heap.size, 0, none⟩ (.int .i64 a1)).setCell ⟨W.heap.size, 1, none⟩ (.int .i64 a2)) W.heap.size [.int .i64 a1, .int .i64 a2]) := Row.put 1 (Row.put 0 q)
         have BXX : Hid (Below u.heap.size u ((u1.setCell ⟨W.heap.size, 0, none⟩ (.int .i64 a1)).setCell ⟨W.heap.size, 1, none⟩ (.int .i64 a2))) := rbel_put (by omega) (rbel_put (by omega) BX1.out)
         have RXX : Hid (Row ((u1.setCell ⟨W.heap.size, 0, none⟩ (.int .i64 a1)).setCell ⟨W.heap.size, 1, none⟩ (.int .i64 a2)) u.heap.size [.int .i64 (k : Int), .int .i64 (c.id : Int), .bool true, .int .i64 t1, .int .i64 t2, .int .i64 t3]) := Row.far (by omega) (Row.far (by omega) RX1.out)
         have sT : Hid (u.heap.size < W.heap.size) := lx
         clear q RT1 t0 t1_ g0 g1 j0 j3 j4 j5 j2 HN1 RX1 BX1 x0 x3 x4 x5 c2 HW RX BW ne1 ne2 ne3 ne4 lt1 lx1 lx lb
         generalize ((u1.setCell ⟨W.heap.size, 0, none⟩ (.int .i64 a1)).setCell ⟨W.heap.size, 1, none⟩ (.int .i64 a2)) = X at *
         generalize W.heap.size = T at *)
      | (have RT : Hid (Row (u1.alloc (Obj.cells #[.int .i64 a1, .int .i64 a2] 34)) u1.heap.size [.int .i64 a1, .int .i64 a2]) := Row.made rfl
         have BXX : Hid (Below u.heap.size u (u1.alloc (Obj.cells #[.int .i64 a1, .int .i64 a2] 34))) := rbel_al BX1.out
         have RXX : Hid (Row (u1.alloc (Obj.cells #[.int .i64 a1, .int .i64 a2] 34)) u.heap.size [.int .i64 (k : Int), .int .i64 (c.id : Int), .bool true, .int .i64 t1, .int .i64 t2, .int .i64 t3]) := Row.al RX1.out
         have sT : Hid (u.heap.size < u1.heap.size) := lx1
         clear j0 j3 j4 j5 j2 HN1 RX1 BX1 x0 x3 x4 x5 c2 HW RX BW ne1 ne2 ne3 ne4 lx1 lx lb
         generalize (u1.alloc (Obj.cells #[.int .i64 a1, .int .i64 a2] 34)) = X at *
         generalize u1.heap.size = T at *)
    have HX : Hid (RN X b c) := RN.on BXX.out HR.out
    have lb : b < X.heap.size := HX.out.lt
    have lT : T < X.heap.size := RT.out.lt
    have lL : u.heap.size < X.heap.size := RXX.out.lt
    have x0 := RXX.out.c 0 _ rfl
    have v4 := HX.out.has k kk
    rw [hh] at v4
    have v3 := HX.out.h
    have f3 := HX.out.fz 3
    go_wp2
    go_quiet (fail)
    go_wp2
    have HX0 : Hid (RN (X.drewN nq) b c) := RN.on (rbel_drn (Below.refl _ _)) HX.out
    have RT0 : Hid (Row (X.drewN nq) T [.int .i64 a1, .int .i64 a2]) := Row.drn RT.out
    have RL0 : Hid (Row (X.drewN nq) u.heap.size [.int .i64 (k : Int), .int .i64 (c.id : Int), .bool true, .int .i64 t1, .int .i64 t2, .int .i64 t3]) := Row.drn RXX.out
    have BX0 : Hid (Below u.heap.size u (X.drewN nq)) := rbel_drn BXX.out
    have sT' := sT.out
    clear HX RT RXX BXX x0 v4 lb lT lL v3 f3
    generalize X.drewN nq = X0 at *
    have lb : b < X0.heap.size := HX0.out.lt
    have lT : T < X0.heap.size := RT0.out.lt
    have lL : u.heap.size < X0.heap.size := RL0.out.lt
    have x0 := RL0.out.c 0 _ rfl
    have y0 := RT0.out.c 0 _ rfl
    have y1 := RT0.out.c 1 _ rfl
    have n1 : ¬ (X0.heap.size = T) := by omega
    have n2 : ¬ (X0.heap.size = u.heap.size) := by omega
    have n3 : ¬ (T = X0.heap.size) := by omega
    have n4 : ¬ (u.heap.size = X0.heap.size) := by omega
    go_region_held (fun w' => w'.cell? ⟨u.heap.size, 0, none⟩ = some (.int .i64 (k : Int)) ∧ w'.cell? ⟨T, 0, none⟩ = some (.int .i64 a1) ∧ w'.cell? ⟨T, 1, none⟩ = some (.int .i64 a2)) (go_keep) (first
      | (go_at_call 77; refine (cA _ (by first | exact rbel_dr BX0.out | exact rbel_dr (rbel_al BX0.out) | exact rbel_al (rbel_dr BX0.out))).mono ?_; rintro o u2 ⟨rfl, hb⟩; first
      | (have B2 : Hid (Below u.heap.size u u2) := rbel_on hb (rbel_dr (rbel_al BX0.out)); have RL2 : Hid (Row u2 u.heap.size [.int .i64 (k : Int), .int .i64 (c.id : Int), .bool true, .int .i64 t1, .int .i64 t2, .int .i64 t3]) := Row.on hb (Row.dr (Row.al RL0.out)); have RT2 : Hid (Row u2 T [.int .i64 a1, .int .i64 a2]) := Row.on hb (Row.dr (Row.al RT0.out)); have RQ2 : Hid (Row u2 X0.heap.size [.int .i64 0, .int .i64 0]) := Row.on hb (Row.dr (Row.made rfl)); have q20 := RQ2.out.c 0 _ rfl; have q21 := RQ2.out.c 1 _ rfl; have p20 := RQ2.out.f 0 _ rfl; have p21 := RQ2.out.f 1 _ rfl; have lq2 : X0.heap.size < u2.heap.size := RQ2.out.lt; have j20 := RL2.out.c 0 _ rfl; have k20 := RT2.out.c 0 _ rfl; have k21 := RT2.out.c 1 _ rfl; have ll2 : u.heap.size < u2.heap.size := RL2.out.lt; have lt2 : T < u2.heap.size := RT2.out.lt; clear hb)
      | (have B2 : Hid (Below u.heap.size u u2) := rbel_on hb (rbel_al (rbel_dr BX0.out)); have RL2 : Hid (Row u2 u.heap.size [.int .i64 (k : Int), .int .i64 (c.id : Int), .bool true, .int .i64 t1, .int .i64 t2, .int .i64 t3]) := Row.on hb (Row.al (Row.dr RL0.out)); have RT2 : Hid (Row u2 T [.int .i64 a1, .int .i64 a2]) := Row.on hb (Row.al (Row.dr RT0.out)); have RQ2 : Hid (Row u2 X0.heap.size [.int .i64 0, .int .i64 0]) := Row.on hb (Row.made rfl); have q20 := RQ2.out.c 0 _ rfl; have q21 := RQ2.out.c 1 _ rfl; have p20 := RQ2.out.f 0 _ rfl; have p21 := RQ2.out.f 1 _ rfl; have lq2 : X0.heap.size < u2.heap.size := RQ2.out.lt; have j20 := RL2.out.c 0 _ rfl; have k20 := RT2.out.c 0 _ rfl; have k21 := RT2.out.c 1 _ rfl; have ll2 : u.heap.size < u2.heap.size := RL2.out.lt; have lt2 : T < u2.heap.size := RT2.out.lt; clear hb)
      | (have B2 : Hid (Below u.heap.size u u2) := rbel_on hb (rbel_dr BX0.out); have RL2 : Hid (Row u2 u.heap.size [.int .i64 (k : Int), .int .i64 (c.id : Int), .bool true, .int .i64 t1, .int .i64 t2, .int .i64 t3]) := Row.on hb (Row.dr RL0.out); have RT2 : Hid (Row u2 T [.int .i64 a1, .int .i64 a2]) := Row.on hb (Row.dr RT0.out); have j20 := RL2.out.c 0 _ rfl; have k20 := RT2.out.c 0 _ rfl; have k21 := RT2.out.c 1 _ rfl; have ll2 : u.heap.size < u2.heap.size := RL2.out.lt; have lt2 : T < u2.heap.size := RT2.out.lt; clear hb))
      | (go_at_call 76; refine (cM _).mono ?_; rintro o u3 ⟨rfl, hb⟩; have m1 : ¬ (u2.heap.size = T) := (by omega); have m2 : ¬ (u2.heap.size = u.heap.size) := (by omega); first
      | (have B3 : Hid (Below u.heap.size u u3) := rbel_on hb B2.out; have RL3 : Hid (Row u3 u.heap.size [.int .i64 (k : Int), .int .i64 (c.id : Int), .bool true, .int .i64 t1, .int .i64 t2, .int .i64 t3]) := Row.on hb (RL2.out); have RT3 : Hid (Row u3 T [.int .i64 a1, .int .i64 a2]) := Row.on hb (RT2.out); have RQ3 : Hid (Row u3 X0.heap.size [.int .i64 0, .int .i64 0]) := Row.on hb RQ2.out; have q30 := RQ3.out.c 0 _ rfl; have q31 := RQ3.out.c 1 _ rfl; have p30 := RQ3.out.f 0 _ rfl; have p31 := RQ3.out.f 1 _ rfl; have lq3 : X0.heap.size < u3.heap.size := RQ3.out.lt; have j30 := RL3.out.c 0 _ rfl; have k30 := RT3.out.c 0 _ rfl; have k31 := RT3.out.c 1 _ rfl; have ll3 : u.heap.size < u3.heap.size := RL3.out.lt; have lt3 : T < u3.heap.size := RT3.out.lt; clear hb)
      | (have B3 : Hid (Below u.heap.size u u3) := rbel_on hb (rbel_al B2.out); have RL3 : Hid (Row u3 u.heap.size [.int .i64 (k : Int), .int .i64 (c.id : Int), .bool true, .int .i64 t1, .int .i64 t2, .int .i64 t3]) := Row.on hb (Row.al RL2.out); have RT3 : Hid (Row u3 T [.int .i64 a1, .int .i64 a2]) := Row.on hb (Row.al RT2.out); have RQ3 : Hid (Row u3 u2.heap.size [.int .i64 0, .int .i64 0]) := Row.on hb (Row.made rfl); have q30 := RQ3.out.c 0 _ rfl; have q31 := RQ3.out.c 1 _ rfl; have p30 := RQ3.out.f 0 _ rfl; have p31 := RQ3.out.f 1 _ rfl; have lq3 : u2.heap.size < u3.heap.size := RQ3.out.lt; have j30 := RL3.out.c 0 _ rfl; have k30 := RT3.out.c 0 _ rfl; have k31 := RT3.out.c 1 _ rfl; have ll3 : u.heap.size < u3.heap.size := RL3.out.lt; have lt3 : T < u3.heap.size := RT3.out.lt; clear hb)
      | (have B3 : Hid (Below u.heap.size u u3) := rbel_on hb B2.out; have RL3 : Hid (Row u3 u.heap.size [.int .i64 (k : Int), .int .i64 (c.id : Int), .bool true, .int .i64 t1, .int .i64 t2, .int .i64 t3]) := Row.on hb (RL2.out); have RT3 : Hid (Row u3 T [.int .i64 a1, .int .i64 a2]) := Row.on hb (RT2.out); have j30 := RL3.out.c 0 _ rfl; have k30 := RT3.out.c 0 _ rfl; have k31 := RT3.out.c 1 _ rfl; have ll3 : u.heap.size < u3.heap.size := RL3.out.lt; have lt3 : T < u3.heap.size := RT3.out.lt; clear hb)))
    all_goals
      go_wp2
      go_ret2
      exact ⟨rfl, by first | exact rbel_al B3.out | exact rbel_put (by omega) (rbel_put (by omega) B3.out)⟩
set_option maxRecDepth 100000 in
set_option maxHeartbeats 4000000 in
theorem rhear_meet (b : Nat) (c : Nd) (x_ y_ t1 t2 t3 t : Int) (u : World) (hR : RN u b c) (hI : c.I) (hb : ¬ c.bk t) (k : Nat) (ex : x_ = k) (hk : k < c.n) (hne : k ≠ c.id) (h0 : y_ = c.id) (a1 a2 : Int) (he : oE t1 t2 t3 t c.p = 0) (e1 : t3 - t = a1) (e2 : oH t1 t2 t c.p = a2) (hh : c.has k = true) (x y : Int) (hx : Hid ((a1 < c.alo k t ∧ x = c.alo k t) ∨ (c.alo k t ≤ a1 ∧ x = a1))) (hy : Hid ((c.ahi k t < a2 ∧ y = c.ahi k t) ∨ (a2 ≤ c.ahi k t ∧ y = a2))) (hc : x ≤ y) :
    Calls Tryz.prog 44 #[.pointer (some ⟨b, 0, none⟩), .agg #[.int .i64 x_, .int .i64 y_, .bool true, .int .i64 t1, .int .i64 t2, .int .i64 t3], .int .i64 t] u fun o w' => o = .returned (.tuple #[.bool true, .int .i64 0]) ∧ RN w' b (c.kept k t x y) ∧ Keeps (fun i => i = b) u w' := by
  have HR : Hid (RN u b c) := hR
  have zb := hR.lt
  have c0 := hR.id
  have c1 := hR.n
  have HB : Hid (¬ c.bk t) := hb
  subst h0
  subst ex
  have d1 : ((k : Int) == (c.id : Int)) = false := by simp; omega
  have d2 : decide ((k : Int) < 0) = false := decide_eq_false (by omega)
  have d3 : decide ((c.n : Int) ≤ (k : Int)) = false := decide_eq_false (by omega)
  have c2 := hR.p
  have kk : k < 6 := by have := hI.n6; omega
  have hki : (k : Int) < 6 := by omega
  have hp := hI.p0
  have n6 := hI.n6
  have cO := fun w => roff_ok t1 t2 t3 t c.p w he
  rw [e1, e2] at cO
  clear he e1 e2
  have dc : decide (x ≤ y) = true := decide_eq_true hc
  have cA := fun (w : World) (hw : Below u.heap.size u w) => rnaged b c k t w (RN.on hw HR.out) hI hb hh
  have cM := fun (w : World) => rmeet_any (c.alo k t) (c.ahi k t) a1 a2 x y w hx hy
  clear hR hI hb hx hy
  generalize c.alo k t = al at *
  generalize c.ahi k t = ah at *
  go_enter Tryz.func44, Tryz.ntmps44
  go_wp2_with (go_at_call 74; refine (rback_no b c t _ (RN.on (rbel_al (Below.refl _ _)) HR.out) HB.out).mono ?_; rintro o u1 ⟨rfl, hu⟩; rw [hu]; clear hu)
  go_quiet (fail)
  go_wp2
  have BW : Hid (Below u.heap.size u ((u.alloc (Obj.cells #[.int .i64 (k : Int), .int .i64 (c.id : Int), .bool true, .int .i64 t1, .int .i64 t2, .int .i64 t3] 113)).drewN nq)) := rbel_drn (rbel_al (Below.refl _ _))
  have RX : Hid (Row ((u.alloc (Obj.cells #[.int .i64 (k : Int), .int .i64 (c.id : Int), .bool true, .int .i64 t1, .int .i64 t2, .int .i64 t3] 113)).drewN nq) u.heap.size [.int .i64 (k : Int), .int .i64 (c.id : Int), .bool true, .int .i64 t1, .int .i64 t2, .int .i64 t3]) := Row.drn (Row.made rfl)
  clear c0 c1 c2
  generalize ((u.alloc (Obj.cells #[.int .i64 (k : Int), .int .i64 (c.id : Int), .bool true, .int .i64 t1, .int .i64 t2, .int .i64 t3] 113)).drewN nq) = W at *
  have HW : Hid (RN W b c) := RN.on BW.out HR.out
  have lx : u.heap.size < W.heap.size := RX.out.lt
  have lb : b < W.heap.size := by omega
  have x0 := RX.out.c 0 _ rfl
  have x3 := RX.out.c 3 _ rfl
  have x4 := RX.out.c 4 _ rfl
  have x5 := RX.out.c 5 _ rfl
  have c2 := HW.out.p
  have ne1 : ¬ (W.heap.size = u.heap.size) := by omega
  have ne2 : ¬ (u.heap.size = W.heap.size) := by omega
  have ne3 : ¬ (W.heap.size = b) := by omega
  have ne4 : ¬ (b = W.heap.size) := by omega
  go_region_held (fun w' => w'.cell? ⟨u.heap.size, 3, none⟩ = some (.int .i64 t1) ∧ w'.cell? ⟨u.heap.size, 4, none⟩ = some (.int .i64 t2) ∧ w'.cell? ⟨u.heap.size, 5, none⟩ = some (.int .i64 t3) ∧ w'.cell? ⟨b, 2, none⟩ = some (.int .i64 c.p)) (go_keep) (first
    | (go_at_call 75; refine (cO _).mono ?_; rintro o u1 ⟨rfl, hb⟩; first
      | (have RT1 : Hid (Row u1 W.heap.size [.int .i64 0, .int .i64 0]) := Row.on hb (Row.dr (Row.made (W := W) rfl)); have BX1 : Hid (Below u.heap.size u u1) := rbel_on hb (rbel_dr (rbel_al BW.out)); have RX1 : Hid (Row u1 u.heap.size [.int .i64 (k : Int), .int .i64 (c.id : Int), .bool true, .int .i64 t1, .int .i64 t2, .int .i64 t3]) := Row.on hb (Row.dr (Row.al RX.out)); have HN1 : Hid (RN u1 b c) := RN.on BX1.out HR.out; have j0 := RX1.out.c 0 _ rfl; have j3 := RX1.out.c 3 _ rfl; have j4 := RX1.out.c 4 _ rfl; have j5 := RX1.out.c 5 _ rfl; have j2 := HN1.out.p; have lx1 : u.heap.size < u1.heap.size := RX1.out.lt; clear hb; have t0 := RT1.out.c 0 _ rfl; have t1_ := RT1.out.c 1 _ rfl; have g0 := RT1.out.f 0 _ rfl; have g1 := RT1.out.f 1 _ rfl; have lt1 : W.heap.size < u1.heap.size := RT1.out.lt)
      | (have RT1 : Hid (Row u1 W.heap.size [.int .i64 0, .int .i64 0]) := Row.on hb (Row.made (W := W.drew) rfl); have BX1 : Hid (Below u.heap.size u u1) := rbel_on hb (rbel_al (rbel_dr BW.out)); have RX1 : Hid (Row u1 u.heap.size [.int .i64 (k : Int), .int .i64 (c.id : Int), .bool true, .int .i64 t1, .int .i64 t2, .int .i64 t3]) := Row.on hb (Row.al (Row.dr RX.out)); have HN1 : Hid (RN u1 b c) := RN.on BX1.out HR.out; have j0 := RX1.out.c 0 _ rfl; have j3 := RX1.out.c 3 _ rfl; have j4 := RX1.out.c 4 _ rfl; have j5 := RX1.out.c 5 _ rfl; have j2 := HN1.out.p; have lx1 : u.heap.size < u1.heap.size := RX1.out.lt; clear hb; have t0 := RT1.out.c 0 _ rfl; have t1_ := RT1.out.c 1 _ rfl; have g0 := RT1.out.f 0 _ rfl; have g1 := RT1.out.f 1 _ rfl; have lt1 : W.heap.size < u1.heap.size := RT1.out.lt)
      | (have BX1 : Hid (Below u.heap.size u u1) := rbel_on hb (rbel_dr BW.out); have RX1 : Hid (Row u1 u.heap.size [.int .i64 (k : Int), .int .i64 (c.id : Int), .bool true, .int .i64 t1, .int .i64 t2, .int .i64 t3]) := Row.on hb (Row.dr RX.out); have HN1 : Hid (RN u1 b c) := RN.on BX1.out HR.out; have j0 := RX1.out.c 0 _ rfl; have j3 := RX1.out.c 3 _ rfl; have j4 := RX1.out.c 4 _ rfl; have j5 := RX1.out.c 5 _ rfl; have j2 := HN1.out.p; have lx1 : u.heap.size < u1.heap.size := RX1.out.lt; clear hb)))
  all_goals
    first
      | (have q := RT1.out
         have RT : Hid (Row ((u1.setCell ⟨W.heap.size, 0, none⟩ (.int .i64 a1)).setCell ⟨W.heap.size, 1, none⟩ (.int .i64 a2)) W.heap.size [.int .i64 a1, .int .i64 a2]) := Row.put 1 (Row.put 0 q)
         have BXX : Hid (Below u.heap.size u ((u1.setCell ⟨W.heap.size, 0, none⟩ (.int .i64 a1)).setCell ⟨W.heap.size, 1, none⟩ (.int .i64 a2))) := rbel_put (by omega) (rbel_put (by omega) BX1.out)
         have RXX : Hid (Row ((u1.setCell ⟨W.heap.size, 0, none⟩ (.int .i64 a1)).setCell ⟨W.heap.size, 1, none⟩ (.int .i64 a2)) u.heap.size [.int .i64 (k : Int), .int .i64 (c.id : Int), .bool true, .int .i64 t1, .int .i64 t2, .int .i64 t3]) := Row.far (by omega) (Row.far (by omega) RX1.out)
         have sT : Hid (u.heap.size < W.heap.size) := lx
         clear q RT1 t0 t1_ g0 g1 j0 j3 j4 j5 j2 HN1 RX1 BX1 x0 x3 x4 x5 c2 HW RX BW ne1 ne2 ne3 ne4 lt1 lx1 lx lb
         generalize ((u1.setCell ⟨W.heap.size, 0, none⟩ (.int .i64 a1)).setCell ⟨W.heap.size, 1, none⟩ (.int .i64 a2)) = X at *
         generalize W.heap.size = T at *)
      | (have RT : Hid (Row (u1.alloc (Obj.cells #[.int .i64 a1, .int .i64 a2] 34)) u1.heap.size [.int .i64 a1, .int .i64 a2]) := Row.made rfl
         have BXX : Hid (Below u.heap.size u (u1.alloc (Obj.cells #[.int .i64 a1, .int .i64 a2] 34))) := rbel_al BX1.out
         have RXX : Hid (Row (u1.alloc (Obj.cells #[.int .i64 a1, .int .i64 a2] 34)) u.heap.size [.int .i64 (k : Int), .int .i64 (c.id : Int), .bool true, .int .i64 t1, .int .i64 t2, .int .i64 t3]) := Row.al RX1.out
         have sT : Hid (u.heap.size < u1.heap.size) := lx1
         clear j0 j3 j4 j5 j2 HN1 RX1 BX1 x0 x3 x4 x5 c2 HW RX BW ne1 ne2 ne3 ne4 lx1 lx lb
         generalize (u1.alloc (Obj.cells #[.int .i64 a1, .int .i64 a2] 34)) = X at *
         generalize u1.heap.size = T at *)
    have HX : Hid (RN X b c) := RN.on BXX.out HR.out
    have lb : b < X.heap.size := HX.out.lt
    have lT : T < X.heap.size := RT.out.lt
    have lL : u.heap.size < X.heap.size := RXX.out.lt
    have x0 := RXX.out.c 0 _ rfl
    have v4 := HX.out.has k kk
    rw [hh] at v4
    have v3 := HX.out.h
    have f3 := HX.out.fz 3
    go_wp2
    go_quiet (fail)
    go_wp2
    have HX0 : Hid (RN (X.drewN nq) b c) := RN.on (rbel_drn (Below.refl _ _)) HX.out
    have RT0 : Hid (Row (X.drewN nq) T [.int .i64 a1, .int .i64 a2]) := Row.drn RT.out
    have RL0 : Hid (Row (X.drewN nq) u.heap.size [.int .i64 (k : Int), .int .i64 (c.id : Int), .bool true, .int .i64 t1, .int .i64 t2, .int .i64 t3]) := Row.drn RXX.out
    have BX0 : Hid (Below u.heap.size u (X.drewN nq)) := rbel_drn BXX.out
    have sT' := sT.out
    clear HX RT RXX BXX x0 v4 lb lT lL v3 f3
    generalize X.drewN nq = X0 at *
    have lb : b < X0.heap.size := HX0.out.lt
    have lT : T < X0.heap.size := RT0.out.lt
    have lL : u.heap.size < X0.heap.size := RL0.out.lt
    have x0 := RL0.out.c 0 _ rfl
    have y0 := RT0.out.c 0 _ rfl
    have y1 := RT0.out.c 1 _ rfl
    have n1 : ¬ (X0.heap.size = T) := by omega
    have n2 : ¬ (X0.heap.size = u.heap.size) := by omega
    have n3 : ¬ (T = X0.heap.size) := by omega
    have n4 : ¬ (u.heap.size = X0.heap.size) := by omega
    go_region_held (fun w' => w'.cell? ⟨u.heap.size, 0, none⟩ = some (.int .i64 (k : Int)) ∧ w'.cell? ⟨T, 0, none⟩ = some (.int .i64 a1) ∧ w'.cell? ⟨T, 1, none⟩ = some (.int .i64 a2)) (go_keep) (first
      | (go_at_call 77; refine (cA _ (by first | exact rbel_dr BX0.out | exact rbel_dr (rbel_al BX0.out) | exact rbel_al (rbel_dr BX0.out))).mono ?_; rintro o u2 ⟨rfl, hb⟩; first
      | (have B2 : Hid (Below u.heap.size u u2) := rbel_on hb (rbel_dr (rbel_al BX0.out)); have RL2 : Hid (Row u2 u.heap.size [.int .i64 (k : Int), .int .i64 (c.id : Int), .bool true, .int .i64 t1, .int .i64 t2, .int .i64 t3]) := Row.on hb (Row.dr (Row.al RL0.out)); have RT2 : Hid (Row u2 T [.int .i64 a1, .int .i64 a2]) := Row.on hb (Row.dr (Row.al RT0.out)); have RQ2 : Hid (Row u2 X0.heap.size [.int .i64 0, .int .i64 0]) := Row.on hb (Row.dr (Row.made rfl)); have q20 := RQ2.out.c 0 _ rfl; have q21 := RQ2.out.c 1 _ rfl; have p20 := RQ2.out.f 0 _ rfl; have p21 := RQ2.out.f 1 _ rfl; have lq2 : X0.heap.size < u2.heap.size := RQ2.out.lt; have j20 := RL2.out.c 0 _ rfl; have k20 := RT2.out.c 0 _ rfl; have k21 := RT2.out.c 1 _ rfl; have ll2 : u.heap.size < u2.heap.size := RL2.out.lt; have lt2 : T < u2.heap.size := RT2.out.lt; clear hb)
      | (have B2 : Hid (Below u.heap.size u u2) := rbel_on hb (rbel_al (rbel_dr BX0.out)); have RL2 : Hid (Row u2 u.heap.size [.int .i64 (k : Int), .int .i64 (c.id : Int), .bool true, .int .i64 t1, .int .i64 t2, .int .i64 t3]) := Row.on hb (Row.al (Row.dr RL0.out)); have RT2 : Hid (Row u2 T [.int .i64 a1, .int .i64 a2]) := Row.on hb (Row.al (Row.dr RT0.out)); have RQ2 : Hid (Row u2 X0.heap.size [.int .i64 0, .int .i64 0]) := Row.on hb (Row.made rfl); have q20 := RQ2.out.c 0 _ rfl; have q21 := RQ2.out.c 1 _ rfl; have p20 := RQ2.out.f 0 _ rfl; have p21 := RQ2.out.f 1 _ rfl; have lq2 : X0.heap.size < u2.heap.size := RQ2.out.lt; have j20 := RL2.out.c 0 _ rfl; have k20 := RT2.out.c 0 _ rfl; have k21 := RT2.out.c 1 _ rfl; have ll2 : u.heap.size < u2.heap.size := RL2.out.lt; have lt2 : T < u2.heap.size := RT2.out.lt; clear hb)
      | (have B2 : Hid (Below u.heap.size u u2) := rbel_on hb (rbel_dr BX0.out); have RL2 : Hid (Row u2 u.heap.size [.int .i64 (k : Int), .int .i64 (c.id : Int), .bool true, .int .i64 t1, .int .i64 t2, .int .i64 t3]) := Row.on hb (Row.dr RL0.out); have RT2 : Hid (Row u2 T [.int .i64 a1, .int .i64 a2]) := Row.on hb (Row.dr RT0.out); have j20 := RL2.out.c 0 _ rfl; have k20 := RT2.out.c 0 _ rfl; have k21 := RT2.out.c 1 _ rfl; have ll2 : u.heap.size < u2.heap.size := RL2.out.lt; have lt2 : T < u2.heap.size := RT2.out.lt; clear hb))
      | (go_at_call 76; refine (cM _).mono ?_; rintro o u3 ⟨rfl, hb⟩; have m1 : ¬ (u2.heap.size = T) := (by omega); have m2 : ¬ (u2.heap.size = u.heap.size) := (by omega); first
      | (have B3 : Hid (Below u.heap.size u u3) := rbel_on hb B2.out; have RL3 : Hid (Row u3 u.heap.size [.int .i64 (k : Int), .int .i64 (c.id : Int), .bool true, .int .i64 t1, .int .i64 t2, .int .i64 t3]) := Row.on hb (RL2.out); have RT3 : Hid (Row u3 T [.int .i64 a1, .int .i64 a2]) := Row.on hb (RT2.out); have RQ3 : Hid (Row u3 X0.heap.size [.int .i64 0, .int .i64 0]) := Row.on hb RQ2.out; have q30 := RQ3.out.c 0 _ rfl; have q31 := RQ3.out.c 1 _ rfl; have p30 := RQ3.out.f 0 _ rfl; have p31 := RQ3.out.f 1 _ rfl; have lq3 : X0.heap.size < u3.heap.size := RQ3.out.lt; have j30 := RL3.out.c 0 _ rfl; have k30 := RT3.out.c 0 _ rfl; have k31 := RT3.out.c 1 _ rfl; have ll3 : u.heap.size < u3.heap.size := RL3.out.lt; have lt3 : T < u3.heap.size := RT3.out.lt; clear hb)
      | (have B3 : Hid (Below u.heap.size u u3) := rbel_on hb (rbel_al B2.out); have RL3 : Hid (Row u3 u.heap.size [.int .i64 (k : Int), .int .i64 (c.id : Int), .bool true, .int .i64 t1, .int .i64 t2, .int .i64 t3]) := Row.on hb (Row.al RL2.out); have RT3 : Hid (Row u3 T [.int .i64 a1, .int .i64 a2]) := Row.on hb (Row.al RT2.out); have RQ3 : Hid (Row u3 u2.heap.size [.int .i64 0, .int .i64 0]) := Row.on hb (Row.made rfl); have q30 := RQ3.out.c 0 _ rfl; have q31 := RQ3.out.c 1 _ rfl; have p30 := RQ3.out.f 0 _ rfl; have p31 := RQ3.out.f 1 _ rfl; have lq3 : u2.heap.size < u3.heap.size := RQ3.out.lt; have j30 := RL3.out.c 0 _ rfl; have k30 := RT3.out.c 0 _ rfl; have k31 := RT3.out.c 1 _ rfl; have ll3 : u.heap.size < u3.heap.size := RL3.out.lt; have lt3 : T < u3.heap.size := RT3.out.lt; clear hb)
      | (have B3 : Hid (Below u.heap.size u u3) := rbel_on hb B2.out; have RL3 : Hid (Row u3 u.heap.size [.int .i64 (k : Int), .int .i64 (c.id : Int), .bool true, .int .i64 t1, .int .i64 t2, .int .i64 t3]) := Row.on hb (RL2.out); have RT3 : Hid (Row u3 T [.int .i64 a1, .int .i64 a2]) := Row.on hb (RT2.out); have j30 := RL3.out.c 0 _ rfl; have k30 := RT3.out.c 0 _ rfl; have k31 := RT3.out.c 1 _ rfl; have ll3 : u.heap.size < u3.heap.size := RL3.out.lt; have lt3 : T < u3.heap.size := RT3.out.lt; clear hb)))
    all_goals
      first
        | (have q : Row u3 X0.heap.size [.int .i64 0, .int .i64 0] := RQ3.out
           have R11 : Hid (Row ((u3.setCell ⟨X0.heap.size, 0, none⟩ (.int .i64 x)).setCell ⟨X0.heap.size, 1, none⟩ (.int .i64 y)) X0.heap.size [.int .i64 x, .int .i64 y]) := Row.put 1 (Row.put 0 q)
           have RT4 : Hid (Row ((u3.setCell ⟨X0.heap.size, 0, none⟩ (.int .i64 x)).setCell ⟨X0.heap.size, 1, none⟩ (.int .i64 y)) T [.int .i64 a1, .int .i64 a2]) := Row.far (by omega) (Row.far (by omega) RT3.out)
           have RL4 : Hid (Row ((u3.setCell ⟨X0.heap.size, 0, none⟩ (.int .i64 x)).setCell ⟨X0.heap.size, 1, none⟩ (.int .i64 y)) u.heap.size [.int .i64 (k : Int), .int .i64 (c.id : Int), .bool true, .int .i64 t1, .int .i64 t2, .int .i64 t3]) := Row.far (by omega) (Row.far (by omega) RL3.out)
           have B4 : Hid (Below u.heap.size u ((u3.setCell ⟨X0.heap.size, 0, none⟩ (.int .i64 x)).setCell ⟨X0.heap.size, 1, none⟩ (.int .i64 y))) := rbel_put (by omega) (rbel_put (by omega) B3.out)
           have sQ : Hid (u.heap.size < X0.heap.size ∧ X0.heap.size ≠ T) := ⟨by omega, by omega⟩
           clear n1 n2 n3 n4 x0 y0 y1 lb lT lL HX0 RT0 RL0 BX0 B2 RL2 RT2 j20 k20 k21 ll2 lt2 j30 k30 k31 ll3 lt3 m1 m2 cA cM cO q
           generalize ((u3.setCell ⟨X0.heap.size, 0, none⟩ (.int .i64 x)).setCell ⟨X0.heap.size, 1, none⟩ (.int .i64 y)) = X4 at *
           generalize X0.heap.size = T2 at *)
        | (have q : Row u3 u2.heap.size [.int .i64 0, .int .i64 0] := RQ3.out
           have R11 : Hid (Row ((u3.setCell ⟨u2.heap.size, 0, none⟩ (.int .i64 x)).setCell ⟨u2.heap.size, 1, none⟩ (.int .i64 y)) u2.heap.size [.int .i64 x, .int .i64 y]) := Row.put 1 (Row.put 0 q)
           have RT4 : Hid (Row ((u3.setCell ⟨u2.heap.size, 0, none⟩ (.int .i64 x)).setCell ⟨u2.heap.size, 1, none⟩ (.int .i64 y)) T [.int .i64 a1, .int .i64 a2]) := Row.far (by omega) (Row.far (by omega) RT3.out)
           have RL4 : Hid (Row ((u3.setCell ⟨u2.heap.size, 0, none⟩ (.int .i64 x)).setCell ⟨u2.heap.size, 1, none⟩ (.int .i64 y)) u.heap.size [.int .i64 (k : Int), .int .i64 (c.id : Int), .bool true, .int .i64 t1, .int .i64 t2, .int .i64 t3]) := Row.far (by omega) (Row.far (by omega) RL3.out)
           have B4 : Hid (Below u.heap.size u ((u3.setCell ⟨u2.heap.size, 0, none⟩ (.int .i64 x)).setCell ⟨u2.heap.size, 1, none⟩ (.int .i64 y))) := rbel_put (by omega) (rbel_put (by omega) B3.out)
           have sQ : Hid (u.heap.size < u2.heap.size ∧ u2.heap.size ≠ T) := ⟨by omega, by omega⟩
           clear n1 n2 n3 n4 x0 y0 y1 lb lT lL HX0 RT0 RL0 BX0 B2 RL2 RT2 j20 k20 k21 ll2 lt2 j30 k30 k31 ll3 lt3 m1 m2 cA cM cO q
           generalize ((u3.setCell ⟨u2.heap.size, 0, none⟩ (.int .i64 x)).setCell ⟨u2.heap.size, 1, none⟩ (.int .i64 y)) = X4 at *
           generalize u2.heap.size = T2 at *)
        | (have R11 : Hid (Row (u3.alloc (Obj.cells #[.int .i64 x, .int .i64 y] 34)) u3.heap.size [.int .i64 x, .int .i64 y]) := Row.made rfl
           have RT4 : Hid (Row (u3.alloc (Obj.cells #[.int .i64 x, .int .i64 y] 34)) T [.int .i64 a1, .int .i64 a2]) := Row.al RT3.out
           have RL4 : Hid (Row (u3.alloc (Obj.cells #[.int .i64 x, .int .i64 y] 34)) u.heap.size [.int .i64 (k : Int), .int .i64 (c.id : Int), .bool true, .int .i64 t1, .int .i64 t2, .int .i64 t3]) := Row.al RL3.out
           have B4 : Hid (Below u.heap.size u (u3.alloc (Obj.cells #[.int .i64 x, .int .i64 y] 34))) := rbel_al B3.out
           have sQ : Hid (u.heap.size < u3.heap.size ∧ u3.heap.size ≠ T) := ⟨by omega, by omega⟩
           clear n1 n2 n3 n4 x0 y0 y1 lb lT lL HX0 RT0 RL0 BX0 B2 RL2 RT2 j20 k20 k21 ll2 lt2 j30 k30 k31 ll3 lt3 m1 m2 cA cM cO
           generalize (u3.alloc (Obj.cells #[.int .i64 x, .int .i64 y] 34)) = X4 at *
           generalize u3.heap.size = T2 at *)
      have HX4 : Hid (RN X4 b c) := RN.on B4.out HR.out
      have lb : b < X4.heap.size := HX4.out.lt
      have lT : T < X4.heap.size := RT4.out.lt
      have lT2 : T2 < X4.heap.size := R11.out.lt
      have lL : u.heap.size < X4.heap.size := RL4.out.lt
      have p0 := R11.out.c 0 _ rfl
      have p1 := R11.out.c 1 _ rfl
      have o0 := RT4.out.c 0 _ rfl
      have o1 := RT4.out.c 1 _ rfl
      have g0 := RT4.out.f 0 _ rfl
      have g1 := RT4.out.f 1 _ rfl
      have v3 := HX4.out.h
      have f3 := HX4.out.fz 3
      have nTb : ¬ (T = b) := by omega
      have nbT : ¬ (b = T) := by omega
      go_wp2
      have HX0 : Hid (RN ((X4.setCell ⟨T, 0, none⟩ (.int .i64 x)).setCell ⟨T, 1, none⟩ (.int .i64 y)) b c) := RN.far (by omega) (RN.far (by omega) HX4.out)
      have RT0 : Hid (Row ((X4.setCell ⟨T, 0, none⟩ (.int .i64 x)).setCell ⟨T, 1, none⟩ (.int .i64 y)) T [.int .i64 x, .int .i64 y]) := Row.put 1 (Row.put 0 RT4.out)
      have RL0 : Hid (Row ((X4.setCell ⟨T, 0, none⟩ (.int .i64 x)).setCell ⟨T, 1, none⟩ (.int .i64 y)) u.heap.size [.int .i64 (k : Int), .int .i64 (c.id : Int), .bool true, .int .i64 t1, .int .i64 t2, .int .i64 t3]) := Row.far (by omega) (Row.far (by omega) RL4.out)
      have BX0 : Hid (Below u.heap.size u ((X4.setCell ⟨T, 0, none⟩ (.int .i64 x)).setCell ⟨T, 1, none⟩ (.int .i64 y))) := rbel_put (by omega) (rbel_put (by omega) B4.out)
      clear HX4 RT4 RL4 B4 R11 lb lT lT2 lL p0 p1 o0 o1 g0 g1 v3 f3 nTb nbT sQ
      have HY : Hid (RN (((X4.setCell ⟨T, 0, none⟩ (.int .i64 x)).setCell ⟨T, 1, none⟩ (.int .i64 y)).setCell ⟨b, 3, none⟩ (.int .i64 t)) b { c with h := t }) := RN.late HX0.out
      have RTY : Hid (Row (((X4.setCell ⟨T, 0, none⟩ (.int .i64 x)).setCell ⟨T, 1, none⟩ (.int .i64 y)).setCell ⟨b, 3, none⟩ (.int .i64 t)) T [.int .i64 x, .int .i64 y]) := Row.far (by omega) RT0.out
      have RLY : Hid (Row (((X4.setCell ⟨T, 0, none⟩ (.int .i64 x)).setCell ⟨T, 1, none⟩ (.int .i64 y)).setCell ⟨b, 3, none⟩ (.int .i64 t)) u.heap.size [.int .i64 (k : Int), .int .i64 (c.id : Int), .bool true, .int .i64 t1, .int .i64 t2, .int .i64 t3]) := Row.far (by omega) RL0.out
      have KY : Hid (Keeps (fun i => i = b) u (((X4.setCell ⟨T, 0, none⟩ (.int .i64 x)).setCell ⟨T, 1, none⟩ (.int .i64 y)).setCell ⟨b, 3, none⟩ (.int .i64 t))) := Keeps.put (S := fun i => i = b) rfl (Keeps.of BX0.out)
      clear HX0 RT0 RL0 BX0
      generalize (((X4.setCell ⟨T, 0, none⟩ (.int .i64 x)).setCell ⟨T, 1, none⟩ (.int .i64 y)).setCell ⟨b, 3, none⟩ (.int .i64 t)) = Y at *
      have lb : b < Y.heap.size := HY.out.lt
      have lT : T < Y.heap.size := RTY.out.lt
      have lL : u.heap.size < Y.heap.size := RLY.out.lt
      have x0 := RLY.out.c 0 _ rfl
      have v4 : Y.cell? ⟨b, 4 + k, none⟩ = some (.bool (c.has k)) := HY.out.has k kk
      have f4 := HY.out.fz (4 + k)
      go_region
      all_goals
        go_wp2
        have HZ : Hid (RN ((Y.setCell ⟨b, 4 + k, none⟩ (.bool true)).drew) b { c with h := t, has := updN c.has k true }) := RN.dr (RN.p4 kk HY.out)
        have RTZ : Hid (Row ((Y.setCell ⟨b, 4 + k, none⟩ (.bool true)).drew) T [.int .i64 x, .int .i64 y]) := Row.dr (Row.far (by omega) RTY.out)
        have RLZ : Hid (Row ((Y.setCell ⟨b, 4 + k, none⟩ (.bool true)).drew) u.heap.size [.int .i64 (k : Int), .int .i64 (c.id : Int), .bool true, .int .i64 t1, .int .i64 t2, .int .i64 t3]) := Row.dr (Row.far (by omega) RLY.out)
        have KZ : Hid (Keeps (fun i => i = b) u ((Y.setCell ⟨b, 4 + k, none⟩ (.bool true)).drew)) := Keeps.dr (Keeps.put (S := fun i => i = b) rfl KY.out)
        clear HY RTY RLY KY x0 v4 f4 lb lT lL
        generalize ((Y.setCell ⟨b, 4 + k, none⟩ (.bool true)).drew) = Z at *
        have lb : b < Z.heap.size := HZ.out.lt
        have lT : T < Z.heap.size := RTZ.out.lt
        have lL : u.heap.size < Z.heap.size := RLZ.out.lt
        have x0 := RLZ.out.c 0 _ rfl
        have v10 : Z.cell? ⟨b, 10 + k * 2, none⟩ = some (.int .i64 (c.lo k)) := HZ.out.lo k kk
        have v11 : Z.cell? ⟨b, 10 + k * 2 + 1, none⟩ = some (.int .i64 (c.hi k)) := HZ.out.hi k kk
        have f10 := HZ.out.fz (10 + k * 2)
        have f11 := HZ.out.fz (10 + k * 2 + 1)
        have y0 := RTZ.out.c 0 _ rfl
        have y1 := RTZ.out.c 1 _ rfl
        have nbT : ¬ (b = T) := by omega
        have nTb : ¬ (T = b) := by omega
        go_region
        all_goals
          go_wp2
          have HV : Hid (RN (((Z.setCell ⟨b, 10 + k * 2, none⟩ (.int .i64 x)).setCell ⟨b, 10 + k * 2 + 1, none⟩ (.int .i64 y)).drew) b { c with h := t, has := updN c.has k true, lo := updN c.lo k x, hi := updN c.hi k y }) := RN.dr (RN.p10 kk HZ.out)
          have RTV : Hid (Row (((Z.setCell ⟨b, 10 + k * 2, none⟩ (.int .i64 x)).setCell ⟨b, 10 + k * 2 + 1, none⟩ (.int .i64 y)).drew) T [.int .i64 x, .int .i64 y]) := Row.dr (Row.far (by omega) (Row.far (by omega) RTZ.out))
          have RLV : Hid (Row (((Z.setCell ⟨b, 10 + k * 2, none⟩ (.int .i64 x)).setCell ⟨b, 10 + k * 2 + 1, none⟩ (.int .i64 y)).drew) u.heap.size [.int .i64 (k : Int), .int .i64 (c.id : Int), .bool true, .int .i64 t1, .int .i64 t2, .int .i64 t3]) := Row.dr (Row.far (by omega) (Row.far (by omega) RLZ.out))
          have KV : Hid (Keeps (fun i => i = b) u (((Z.setCell ⟨b, 10 + k * 2, none⟩ (.int .i64 x)).setCell ⟨b, 10 + k * 2 + 1, none⟩ (.int .i64 y)).drew)) := Keeps.dr (Keeps.put (S := fun i => i = b) rfl (Keeps.put (S := fun i => i = b) rfl KZ.out))
          clear HZ RTZ RLZ KZ x0 v10 v11 f10 f11 y0 y1 nbT nTb lb lT lL
          generalize (((Z.setCell ⟨b, 10 + k * 2, none⟩ (.int .i64 x)).setCell ⟨b, 10 + k * 2 + 1, none⟩ (.int .i64 y)).drew) = V at *
          have lb : b < V.heap.size := HV.out.lt
          have lT : T < V.heap.size := RTV.out.lt
          have lL : u.heap.size < V.heap.size := RLV.out.lt
          have x0 := RLV.out.c 0 _ rfl
          have v22 : V.cell? ⟨b, 22 + k, none⟩ = some (.int .i64 (c.at_ k)) := HV.out.at_ k kk
          have f22 := HV.out.fz (22 + k)
          go_region
          all_goals
            go_wp2
            go_ret2
            exact ⟨rfl, RN.dr (RN.p22 kk HV.out), Keeps.dr (Keeps.put (S := fun i => i = b) rfl KV.out)⟩
end Go.Proofs.YtadkgnbagmnkkakGreatDoor
namespace Go.Proofs.YtadkgnbagmnkkakGreatDoor
open Go.ChangeShapes Go.WideShapes Go.ChangeAt Go.RowKit Go.Joins
set_option linter.unusedVariables false

theorem rhear_any (b : Nat) (c c' : Nd) (l : Lt) (t e : Int) (B : Bool) (u : World) (hR : RN u b c) (hI : c.I) (h : HearR c l t c' B e) :
  Calls Tryz.prog 44 #[.pointer (some ⟨b, 0, none⟩), ltv l, .int .i64 t] u fun o w' => o = .returned (.tuple #[.bool B, .int .i64 e]) ∧ RN w' b c' ∧ Keeps (fun i => i = b) u w' := by
 obtain ⟨x, y, an, t1, t2, t3⟩ := l
 have good : ¬ c.bad ⟨x, y, an, t1, t2, t3⟩ → ∃ k : Nat, x = k ∧ k < c.n ∧ k ≠ c.id ∧ y = c.id := fun q => by
  have q1 : ¬ (y ≠ (c.id : Int) ∨ x = c.id ∨ x < 0 ∨ (c.n : Int) ≤ x) := q
  refine ⟨x.toNat, ?_, ?_, ?_, ?_⟩ <;> omega
 rcases h with ⟨a, rfl, rfl, rfl⟩ | ⟨a, q, rfl, rfl, rfl⟩ | ⟨a, q, d, rfl, rfl, rfl⟩ | ⟨a, q, d, f, rfl, rfl, rfl⟩ | ⟨a, q, d, f, g, rfl, rfl, rfl⟩ | ⟨a, q, d, f, g, rfl, rfl, rfl⟩
 ·exact (rhear_bk b c' x y t1 t2 t3 t u hR hI an a).mono fun _ _ ⟨he, hb⟩ => ⟨he, RN.on hb hR, .of hb⟩
 ·have q1 : y ≠ (c'.id : Int) ∨ x = c'.id ∨ x < 0 ∨ (c'.n : Int) ≤ x := q
  by_cases h1 : y = c'.id
  ·by_cases h2 : x = c'.id
   ·exact (rhear_b2 b c' x y t1 t2 t3 t u hR hI an a h1 h2).mono fun _ _ ⟨he, hb⟩ => ⟨he, RN.on hb hR, .of hb⟩
   ·by_cases h3 : x < 0
    ·exact (rhear_b3 b c' x y t1 t2 t3 t u hR hI an a h1 h2 h3).mono fun _ _ ⟨he, hb⟩ => ⟨he, RN.on hb hR, .of hb⟩
    ·exact (rhear_b4 b c' x y t1 t2 t3 t u hR hI an a h1 h2 h3 (by omega)).mono fun _ _ ⟨he, hb⟩ => ⟨he, RN.on hb hR, .of hb⟩
  ·exact (rhear_b1 b c' x y t1 t2 t3 t u hR hI an a h1).mono fun _ _ ⟨he, hb⟩ => ⟨he, RN.on hb hR, .of hb⟩
 ·obtain ⟨k, e1, e2, e3, e4⟩ := good q
  obtain rfl : an = false := d
  exact rhear_ask b c x y t1 t2 t3 t u hR hI a k e1 e2 e3 e4
 ·obtain ⟨k, e1, e2, e3, e4⟩ := good q
  obtain rfl : an = true := d
  exact (rhear_off b c' x y t1 t2 t3 t u hR hI a k e1 e2 e3 e4 _ rfl f).mono fun _ _ ⟨he, hb⟩ => ⟨he, RN.on hb hR, .of hb⟩
 ·obtain ⟨k, e1, e2, e3, e4⟩ := good q
  obtain rfl : an = true := d
  subst e1
  have ek : (k : Int).toNat = k := by omega
  have g' : c'.bHi (k : Int).toNat t (c'.oU ⟨k, y, true, t1, t2, t3⟩ t) < c'.bLo (k : Int).toNat t (Nd.oL ⟨k, y, true, t1, t2, t3⟩ t) := g
  rw [ek] at g'
  cases hh : c'.has k with
  | false =>
   exfalso
   have z := (oE_zero f).2.2.2.2
   unfold Nd.bHi Nd.bLo at g'
   rw [hh] at g'
   simp only [Bool.false_eq_true, if_false] at g'
   have g2 : oH t1 t2 t c'.p < t3 - t := g'
   have z2 : t3 - t ≤ oH t1 t2 t c'.p := z
   omega
  | true =>
   refine (rhear_clash b c' k y t1 t2 t3 t u hR hI a k rfl e2 e3 e4 (t3 - t) (oH t1 t2 t c'.p) f rfl rfl hh (c'.bLo k t (t3 - t)) (c'.bHi k t (oH t1 t2 t c'.p)) ?_ ?_ g').mono fun _ _ ⟨he, hb⟩ => ⟨he, RN.on hb hR, .of hb⟩
   ·show _ ∨ _
    unfold Nd.bLo; rw [if_pos hh]; by_cases r : t3 - t < c'.alo k t
    ·exact Or.inl ⟨r, by rw [if_pos r]⟩
    ·exact Or.inr ⟨by omega, by rw [if_neg r]⟩
   ·show _ ∨ _
    unfold Nd.bHi; rw [if_pos hh]; by_cases r : c'.ahi k t < oH t1 t2 t c'.p
    ·exact Or.inl ⟨r, by rw [if_pos r]⟩
    ·exact Or.inr ⟨by omega, by rw [if_neg r]⟩
 ·obtain ⟨k, e1, e2, e3, e4⟩ := good q
  obtain rfl : an = true := d
  subst e1
  have ek : (k : Int).toNat = k := by omega
  have g' : c.bLo (k : Int).toNat t (t3 - t) ≤ c.bHi (k : Int).toNat t (oH t1 t2 t c.p) := g
  show Calls Tryz.prog 44 _ u fun o w' => o = .returned (.tuple #[.bool true, .int .i64 0]) ∧ RN w' b (c.kept (k : Int).toNat t (c.bLo (k : Int).toNat t (t3 - t)) (c.bHi (k : Int).toNat t (oH t1 t2 t c.p))) ∧ Keeps (fun i => i = b) u w'
  rw [ek] at g' ⊢
  cases hh : c.has k with
  | false =>
   have b1 : c.bLo k t (t3 - t) = t3 - t := by unfold Nd.bLo; rw [hh]; rfl
   have b2 : c.bHi k t (oH t1 t2 t c.p) = oH t1 t2 t c.p := by unfold Nd.bHi; rw [hh]; rfl
   rw [b1, b2]
   exact rhear_new b c k y t1 t2 t3 t u hR hI a k rfl e2 e3 e4 (t3 - t) (oH t1 t2 t c.p) f rfl rfl hh
  | true =>
   refine rhear_meet b c k y t1 t2 t3 t u hR hI a k rfl e2 e3 e4 (t3 - t) (oH t1 t2 t c.p) f rfl rfl hh (c.bLo k t (t3 - t)) (c.bHi k t (oH t1 t2 t c.p)) ?_ ?_ g'
   ·show _ ∨ _
    unfold Nd.bLo; rw [if_pos hh]; by_cases r : t3 - t < c.alo k t
    ·exact Or.inl ⟨r, by rw [if_pos r]⟩
    ·exact Or.inr ⟨by omega, by rw [if_neg r]⟩
   ·show _ ∨ _
    unfold Nd.bHi; rw [if_pos hh]; by_cases r : c.ahi k t < oH t1 t2 t c.p
    ·exact Or.inl ⟨r, by rw [if_pos r]⟩
    ·exact Or.inr ⟨by omega, by rw [if_neg r]⟩
end Go.Proofs.YtadkgnbagmnkkakGreatDoor
namespace Go.Proofs.YtadkgnbagmnkkakGreatDoor
open Go.ChangeShapes Go.WideShapes Go.ChangeAt Go.RowKit Go.Joins
set_option linter.unusedVariables false
set_option linter.unusedSimpArgs false

set_option maxHeartbeats 8000000
set_option maxRecDepth 100000
theorem ninfoBool : (Tryz.prog.info? 4).map (fun i => (i.zero, i.size, i.bytes)) = some (some (.bool false), 1, 1) := by kernel_rfl
theorem ninfoSpan : (Tryz.prog.info? 34).map (fun i => (i.zero, i.size, i.bytes)) = some (some (.agg #[.int .i64 0, .int .i64 0]), 2, 16) := by kernel_rfl
theorem nmade_cells (z : Value) (hz : z.cells = #[z]) (n : Nat) : madeCells z.cells (n * 1) = (List.replicate n z).toArray := by
 rw [hz, Nat.mul_one]
 apply Array.ext
 ·simp [madeCells]
 ·intro i h1 h2
  simp [madeCells, Nat.mod_one]
theorem nmade_spans (n : Nat) : madeCells (sp 0 0).cells (n * 2) = (List.replicate (n * 2) (.int .i64 0)).toArray := by
 apply Array.ext
 ·simp [madeCells]
 ·intro i h1 h2
  simp only [madeCells, Array.getElem_ofFn, List.getElem_toArray, List.getElem_replicate]
  have : i % 2 = 0 ∨ i % 2 = 1 := by omega
  simp [Value.cells]
  rcases this with e | e <;> simp [e]
theorem nmk_bools (n : Nat) (h6 : n ≤ 6) (W : World) : (Instr.makeSlice 127 (.int .i64 n) (.int .i64 n)).run Tryz.prog W = .ok (.slice (some ⟨W.heap.size, 0, none⟩) n n) (W.alloc (.cells (List.replicate n (.bool false)).toArray 4)) := by
 obtain ⟨i0, hi0, hz0, hz1, hz2⟩ := info_parts ninfoBool
 have h := run_makeSlice W 127 4 i0 _ Tryz.underlying127 hi0 hz0 .i64 .i64 n n (by omega) (by omega) (by rw [hz1]; simp; omega) (by rw [hz2]; simp; omega) (by omega)
 rw [hz1, Int.toNat_natCast, nmade_cells _ rfl n] at h
 exact h
theorem nmk_spans (n : Nat) (h6 : n ≤ 6) (W : World) : (Instr.makeSlice 128 (.int .i64 n) (.int .i64 n)).run Tryz.prog W = .ok (.slice (some ⟨W.heap.size, 0, none⟩) n n) (W.alloc (.cells (List.replicate (n * 2) (.int .i64 0)).toArray 34)) := by
 obtain ⟨i0, hi0, hz0, hz1, hz2⟩ := info_parts ninfoSpan
 have h := run_makeSlice W 128 34 i0 _ Tryz.underlying128 hi0 hz0 .i64 .i64 n n (by omega) (by omega) (by rw [hz1]; simp; omega) (by rw [hz2]; simp; omega) (by omega)
 rw [hz1, Int.toNat_natCast, nmade_spans n] at h
 exact h
structure StS (u : World) (s i : Nat) (c : Nd) (t : Int) : Prop where
 a : ∀ j, j < c.n → u.cell? ⟨s, j * 2, none⟩ = some (.int .i64 (if j < i then (c.so t j).1 else 0))
 b : ∀ j, j < c.n → u.cell? ⟨s, j * 2 + 1, none⟩ = some (.int .i64 (if j < i then (c.so t j).2 else 0))
 h : ∀ j, j < c.n → u.cell? ⟨s + 1, j, none⟩ = some (.bool (if j < i then c.ho j else decide (j = c.id)))
 fa : ∀ j, u.frozen? ⟨s, j, none⟩ = false
 fh : ∀ j, u.frozen? ⟨s + 1, j, none⟩ = false
section
variable {u u' : World} {s i : Nat} {c : Nd} {t : Int}
theorem StS.block (h1 : u'.heap[s]? = u.heap[s]?) (h2 : u'.heap[s + 1]? = u.heap[s + 1]?) (h : StS u s i c t) : StS u' s i c t := by
 have e1 : ∀ j, u'.cell? ⟨s, j, none⟩ = u.cell? ⟨s, j, none⟩ := fun j => World.cell?_of_block (w := u) (a := ⟨s, j, none⟩) h1
 have e2 : ∀ j, u'.cell? ⟨s + 1, j, none⟩ = u.cell? ⟨s + 1, j, none⟩ := fun j => World.cell?_of_block (w := u) (a := ⟨s + 1, j, none⟩) h2
 exact ⟨fun j hj => by rw [e1]; exact h.a j hj, fun j hj => by rw [e1]; exact h.b j hj, fun j hj => by rw [e2]; exact h.h j hj, fun j => (World.frozen?_of_block (w := u) (a := ⟨s, j, none⟩) h1).trans (h.fa j), fun j => (World.frozen?_of_block (w := u) (a := ⟨s + 1, j, none⟩) h2).trans (h.fh j)⟩
theorem StS.on (h0 : 0 < c.n) (hb : Below u.heap.size u u') (h : StS u s i c t) : StS u' s i c t :=
 h.block (hb.block s (World.block_lt_of_cell? _ _ (h.a 0 h0))) (hb.block (s + 1) (World.block_lt_of_cell? _ _ (h.h 0 h0)))
theorem StS.skip (hh : c.has i = false) (h : StS u s i c t) : StS u s (i + 1) c t := by
 have e : c.so t i = (0, 0) := by unfold Nd.so; rw [hh]; rfl
 have e2 : c.ho i = decide (i = c.id) := by unfold Nd.ho; rw [hh]; rfl
 refine ⟨fun j hj => ?_, fun j hj => ?_, fun j hj => ?_, h.fa, h.fh⟩
 ·rw [h.a j hj]
  by_cases q : j = i
  ·subst q; rw [if_neg (by omega), if_pos (by omega), e]
  ·by_cases r : j < i
   ·rw [if_pos r, if_pos (by omega)]
   ·rw [if_neg r, if_neg (by omega)]
 ·rw [h.b j hj]
  by_cases q : j = i
  ·subst q; rw [if_neg (by omega), if_pos (by omega), e]
  ·by_cases r : j < i
   ·rw [if_pos r, if_pos (by omega)]
   ·rw [if_neg r, if_neg (by omega)]
 ·rw [h.h j hj]
  by_cases q : j = i
  ·subst q; rw [if_neg (by omega), if_pos (by omega), e2]
  ·by_cases r : j < i
   ·rw [if_pos r, if_pos (by omega)]
   ·rw [if_neg r, if_neg (by omega)]
theorem StS.put {lo hi : Int} (hi' : i < c.n) (hs : c.so t i = (lo, hi)) (ho : c.ho i = true) (h : StS u s i c t) : StS (((u.setCell ⟨s, i * 2, none⟩ (.int .i64 lo)).setCell ⟨s, i * 2 + 1, none⟩ (.int .i64 hi)).setCell ⟨s + 1, i, none⟩ (.bool true)) s (i + 1) c t := by
 have c1 := h.a i hi'
 have c2 : (u.setCell ⟨s, i * 2, none⟩ (.int .i64 lo)).cell? ⟨s, i * 2 + 1, none⟩ = some (.int .i64 (if i < i then (c.so t i).2 else 0)) := by rw [cell_put c1, if_neg (by omega)]; exact h.b i hi'
 have c3 : ((u.setCell ⟨s, i * 2, none⟩ (.int .i64 lo)).setCell ⟨s, i * 2 + 1, none⟩ (.int .i64 hi)).cell? ⟨s + 1, i, none⟩ = some (.bool (if i < i then c.ho i else decide (i = c.id))) := by
  rw [World.cell?_setCell_far _ _ _ _ (by simp), World.cell?_setCell_far _ _ _ _ (by simp)]; exact h.h i hi'
 have e1 : ∀ j, (((u.setCell ⟨s, i * 2, none⟩ (.int .i64 lo)).setCell ⟨s, i * 2 + 1, none⟩ (.int .i64 hi)).setCell ⟨s + 1, i, none⟩ (.bool true)).cell? ⟨s, j, none⟩ = if j = i * 2 + 1 then some (.int .i64 hi) else if j = i * 2 then some (.int .i64 lo) else u.cell? ⟨s, j, none⟩ := fun j => by
  rw [World.cell?_setCell_far _ _ _ _ (by simp), cell_put c2, cell_put c1]
 have e2 : ∀ j, (((u.setCell ⟨s, i * 2, none⟩ (.int .i64 lo)).setCell ⟨s, i * 2 + 1, none⟩ (.int .i64 hi)).setCell ⟨s + 1, i, none⟩ (.bool true)).cell? ⟨s + 1, j, none⟩ = if j = i then some (.bool true) else u.cell? ⟨s + 1, j, none⟩ := fun j => by
  rw [cell_put c3]
  by_cases q : j = i
  ·rw [if_pos q, if_pos q]
  ·rw [if_neg q, if_neg q, World.cell?_setCell_far _ _ _ _ (by simp), World.cell?_setCell_far _ _ _ _ (by simp)]
 refine ⟨fun j hj => ?_, fun j hj => ?_, fun j hj => ?_, fun j => by simp only [World.frozen?_setCell]; exact h.fa j, fun j => by simp only [World.frozen?_setCell]; exact h.fh j⟩
 ·rw [e1, if_neg (by omega)]
  by_cases q : j = i
  ·subst q; rw [if_pos rfl, if_pos (by omega), hs]
  ·rw [if_neg (by omega), h.a j hj]
   by_cases r : j < i
   ·rw [if_pos r, if_pos (by omega)]
   ·rw [if_neg r, if_neg (by omega)]
 ·rw [e1]
  by_cases q : j = i
  ·subst q; rw [if_pos rfl, if_pos (by omega), hs]
  ·rw [if_neg (by omega), if_neg (by omega), h.b j hj]
   by_cases r : j < i
   ·rw [if_pos r, if_pos (by omega)]
   ·rw [if_neg r, if_neg (by omega)]
 ·rw [e2]
  by_cases q : j = i
  ·subst q; rw [if_pos rfl, if_pos (by omega), ho]
  ·rw [if_neg q, h.h j hj]
   by_cases r : j < i
   ·rw [if_pos r, if_pos (by omega)]
   ·rw [if_neg r, if_neg (by omega)]
end
theorem rnspans_bk (b : Nat) (c : Nd) (t : Int) (u : World) (hR : RN u b c) (hb : c.bk t) :
  Calls Tryz.prog 107 #[.pointer (some ⟨b, 0, none⟩), .int .i64 t] u fun o w' => o = .returned (.tuple #[.slice none 0 0, .slice none 0 0, .int .i64 8]) ∧ Below u.heap.size u w' := by
 have HR : Hid (RN u b c) := hR
 have HB : Hid (c.bk t) := hb
 clear hR hb
 go_enter Tryz.func107, Tryz.ntmps107
 go_wp2_with (go_at_call 74; refine (rback_yes b c t _ HR.out HB.out).mono ?_; rintro o u1 ⟨rfl, hu⟩; rw [hu]; clear hu)
 exact bodyPost_ret (v := .tuple #[.slice none 0 0, .slice none 0 0, .int .i64 8]) (by simp [results, Tryz.results107, go_sem, *]) rfl ⟨rfl, Below.refl _ _⟩
theorem StS.start (u : World) (c : Nd) (t : Int) (hid : c.id < c.n) : StS ((u.alloc (.cells (List.replicate (c.n * 2) (Value.int .i64 0)).toArray 34)).alloc (.cells ((List.replicate c.n (Value.bool false)).set c.id (.bool true)).toArray 4)) u.heap.size 0 c t := by
 have ra : Row ((u.alloc (.cells (List.replicate (c.n * 2) (Value.int .i64 0)).toArray 34)).alloc (.cells ((List.replicate c.n (Value.bool false)).set c.id (.bool true)).toArray 4)) u.heap.size (List.replicate (c.n * 2) (Value.int .i64 0)) := Row.al (Row.made rfl)
 have rb : Row ((u.alloc (.cells (List.replicate (c.n * 2) (Value.int .i64 0)).toArray 34)).alloc (.cells ((List.replicate c.n (Value.bool false)).set c.id (.bool true)).toArray 4)) (u.heap.size + 1) ((List.replicate c.n (Value.bool false)).set c.id (.bool true)) := Row.made (by simp)
 refine ⟨fun j hj => ?_, fun j hj => ?_, fun j hj => ?_, fun j => ?_, fun j => ?_⟩
 ·rw [if_neg (by omega)]; exact ra.c _ _ (by rw [List.getElem?_replicate, if_pos (by omega)])
 ·rw [if_neg (by omega)]; exact ra.c _ _ (by rw [List.getElem?_replicate, if_pos (by omega)])
 ·rw [if_neg (by omega)]
  refine rb.c _ _ ?_
  by_cases q : c.id = j
  ·subst q; rw [List.getElem?_set_self (by simp; omega)]; simp
  ·rw [List.getElem?_set_ne q, List.getElem?_replicate, if_pos hj, decide_eq_false (fun e => q e.symm)]
 ·rw [frozen?_alloc_cells]; exact World.frozen?_alloc_at _ _ _ _ rfl
 ·exact World.frozen?_alloc_at _ _ _ _ (by simp)
theorem rnspans_go (b : Nat) (c : Nd) (t : Int) (u : World) (hR : RN u b c) (hI : c.I) (hb : ¬ c.bk t) :
  Calls Tryz.prog 107 #[.pointer (some ⟨b, 0, none⟩), .int .i64 t] u fun o w' => (∃ e, SpR c t e ∧ ((e = 0 ∧ o = .returned (.tuple #[.slice (some ⟨u.heap.size, 0, none⟩) c.n c.n, .slice (some ⟨u.heap.size + 1, 0, none⟩) c.n c.n, .int .i64 0]) ∧ StS w' u.heap.size c.n c t) ∨ (e ≠ 0 ∧ o = .returned (.tuple #[.slice none 0 0, .slice none 0 0, .int .i64 e])))) ∧ Below u.heap.size u w' := by
 have HR : Hid (RN u b c) := hR
 have HB : Hid (¬ c.bk t) := hb
 have HI : Hid c.I := hI
 have h6 := hI.n6
 have hid := hI.idn
 have m1 := nmk_spans c.n h6
 have m2 := nmk_bools c.n h6
 have c0 := hR.id
 have c1 := hR.n
 have zb := hR.lt
 have hid2 : (c.id : Int) < (c.n : Int) := by omega
 clear hR hb hI
 go_enter Tryz.func107, Tryz.ntmps107
 go_wp2_with (go_at_call 74; refine (rback_no b c t _ HR.out HB.out).mono ?_; rintro o u1 ⟨rfl, hu⟩; rw [hu]; clear hu)
 go_loopw [10] (fun vi wr => ∃ i : Nat, i ≤ c.n ∧ vi = .int .i64 i ∧ StS wr u.heap.size i c t ∧ (∀ j, j < i → c.has j = true → okB (c.alo j t) (c.ahi j t) = true) ∧ RN wr b c ∧ Below u.heap.size u wr) (fun vi _ => c.n - (intOf vi).toNat)
 case atStart =>
  have B0 : Below u.heap.size u ((u.alloc (.cells (List.replicate (c.n * 2) (Value.int .i64 0)).toArray 34)).alloc (.cells ((List.replicate c.n (Value.bool false)).set c.id (.bool true)).toArray 4)) := rbel_al (rbel_al (Below.refl _ _))
  have S0 := StS.start u c t hid
  have a1 : Array.replicate (c.n * 2) (Value.int .i64 0) = (List.replicate (c.n * 2) (Value.int .i64 0)).toArray := by simp
  have a2 : (Array.replicate c.n (Value.bool false)).setIfInBounds c.id (Value.bool true) = ((List.replicate c.n (Value.bool false)).set c.id (.bool true)).toArray := by
   apply Array.ext'
   rw [Array.toList_setIfInBounds, Array.toList_replicate]
  rw [a1, a2]
  exact ⟨0, Nat.zero_le _, rfl, S0, fun j hj => by omega, RN.on B0 HR.out, B0⟩
 case round =>
  clear m1 m2 c0 c1
  obtain ⟨i, hi, rfl, hS, hok, hN, hw⟩ := hrel
  have HS : Hid (StS wr u.heap.size i c t) := hS
  have HO : Hid (∀ j, j < i → c.has j = true → okB (c.alo j t) (c.ahi j t) = true) := hok
  have HN : Hid (RN wr b c) := hN
  have HW : Hid (Below u.heap.size u wr) := hw
  have c1 := hN.n
  have zb2 := hN.lt
  have z1 : u.heap.size + 1 < wr.heap.size := World.block_lt_of_cell? _ _ (hS.h 0 (by omega))
  by_cases hlt : i < c.n
  ·have hl3 : (i : Int) < (c.n : Int) := by omega
   have hl6 : (i : Int) < 6 := by omega
   have v4 := hN.has i (by omega)
   clear hS hok hN hw
   cases hh : c.has i with
   | false =>
    rw [hh] at v4
    go_wp2
    go_roundw
    case rel => exact ⟨i + 1, by omega, by go_num, HS.out.skip hh, fun j hj hj2 => by
     by_cases q : j = i
     ·subst q; rw [hh] at hj2; cases hj2
     ·exact HO.out j (by omega) hj2, HN.out, HW.out⟩
    case measure => simp [intOf]; omega
   | true =>
    rw [hh] at v4
    have cA := rnaged b c i t wr HN.out HI.out HB.out hh
    have e1 : c.so t i = (c.alo i t, c.ahi i t) := by unfold Nd.so; rw [if_pos hh]
    have e2 : c.ho i = true := by unfold Nd.ho; rw [hh]; rfl
    have E1 : Hid (c.so t i = (c.alo i t, c.ahi i t)) := e1
    have E2 : Hid (c.ho i = true) := e2
    cases hB : okB (c.alo i t) (c.ahi i t) with
    | false =>
     have cS := fun w => rspan_any (c.alo i t) (c.ahi i t) w
     rw [hB] at cS
     have NO : Hid (SpR c t 1) := Or.inr (Or.inl ⟨HB.out, ⟨i, hlt, hh, hB⟩, rfl⟩)
     clear e1 e2 E1 E2 hB
     generalize c.alo i t = al at *
     generalize c.ahi i t = ah at *
     go_wp2_with (first
      | (go_at_call 77; refine cA.mono ?_; rintro o u2 ⟨rfl, hb⟩; have B2 : Hid (Below u.heap.size u u2) := rbel_on hb HW.out; clear hb)
      | (go_at_call 139; refine (cS _).mono ?_; rintro o u3 ⟨rfl, hb⟩; have B3 : Hid (Below u.heap.size u u3) := rbel_on hb (rbel_al B2.out); clear hb))
     exact bodyPost_ret (v := .tuple #[.slice none 0 0, .slice none 0 0, .int .i64 1]) (by simp [results, Tryz.results107, go_sem, *]) rfl ⟨⟨1, NO.out, Or.inr ⟨by decide, rfl⟩⟩, B3.out⟩
    | true =>
     have cS := fun w => rspan_any (c.alo i t) (c.ahi i t) w
     rw [hB] at cS
     have HBB : Hid (okB (c.alo i t) (c.ahi i t) = true) := hB
     clear e1 e2 hB
     generalize ea : c.alo i t = al at *
     generalize eh : c.ahi i t = ah at *
     have EA : Hid (c.alo i t = al) := ea
     have EH : Hid (c.ahi i t = ah) := eh
     clear ea eh
     go_wp2_with (first
      | (go_at_call 77; refine cA.mono ?_; rintro o u2 ⟨rfl, hb⟩; have B2 : Hid (Below wr.heap.size wr u2) := hb; clear hb)
      | (go_at_call 139; refine (cS _).mono ?_; rintro o u3 ⟨rfl, hb⟩; have B3 : Hid (Below wr.heap.size wr u3) := rbel_on hb (rbel_al B2.out); have RS : Hid (Row u3 u2.heap.size [.int .i64 al, .int .i64 ah]) := Row.on hb (Row.made rfl); have S3 : Hid (StS u3 u.heap.size i c t) := HS.out.on (by omega) B3.out; have N3 : Hid (RN u3 b c) := RN.on B3.out HN.out; have r0 := RS.out.c 0 _ rfl; have r1 := RS.out.c 1 _ rfl; have g0 := S3.out.a i hlt; have g1 := S3.out.b i hlt; have g2 := S3.out.h i hlt; have k0 := S3.out.fa (i * 2); have k1 := S3.out.fa (i * 2 + 1); have k2 := S3.out.fh i; have z3 : u.heap.size + 1 < u3.heap.size := Nat.lt_of_lt_of_le z1 B3.out.size; have z4 : u2.heap.size < u3.heap.size := RS.out.lt; have z5 : u.heap.size < u3.heap.size := (by omega); have B2s : wr.heap.size ≤ u2.heap.size := B2.out.size; have q1 : ¬ (u2.heap.size = u.heap.size) := (by omega); have q2 : ¬ (u2.heap.size = u.heap.size + 1) := (by omega); clear hb))
     go_roundw
     case rel =>
      have hs : c.so t i = (al, ah) := E1.out
      refine ⟨i + 1, by omega, by go_num, S3.out.put hlt hs E2.out, fun j hj hj2 => ?_, RN.far (by omega) (RN.far (by omega) (RN.far (by omega) N3.out)), rbel_put (by omega) (rbel_put (Nat.le_refl _) (rbel_put (Nat.le_refl _) (rbel_on B3.out HW.out)))⟩
      by_cases q : j = i
      ·subst q; rw [EA.out, EH.out]; exact HBB.out
      ·exact HO.out j (by omega) hj2
     case measure => simp [intOf]; omega
  ·have hl3 : ¬ ((i : Int) < (c.n : Int)) := by omega
   have e' : i = c.n := by omega
   have HE : Hid (i = c.n) := e'
   clear hS hok hN hw e'
   go_wp2
   exact bodyPost_ret (v := .tuple #[.slice (some ⟨u.heap.size, 0, none⟩) c.n c.n, .slice (some ⟨u.heap.size + 1, 0, none⟩) c.n c.n, .int .i64 0]) (by simp [results, Tryz.results107, go_sem, *]) rfl ⟨⟨0, Or.inr (Or.inr ⟨HB.out, fun j hj hj2 => HO.out j (by rw [HE.out]; exact hj) hj2, rfl⟩), Or.inl ⟨rfl, rfl, HE.out ▸ HS.out⟩⟩, HW.out⟩
end Go.Proofs.YtadkgnbagmnkkakGreatDoor
namespace Go.Proofs.YtadkgnbagmnkkakGreatDoor
open Go.ChangeShapes Go.WideShapes Go.ChangeAt Go.RowKit
set_option linter.unusedVariables false

theorem RN.first {u : World} {id n : Nat} {p : Int} {t : TypeId} : RN (u.alloc (.cells #[.int .i64 id, .int .i64 n, .int .i64 p, .int .i64 (-1), .bool false, .bool false, .bool false, .bool false, .bool false, .bool false, .int .i64 0, .int .i64 0, .int .i64 0, .int .i64 0, .int .i64 0, .int .i64 0, .int .i64 0, .int .i64 0, .int .i64 0, .int .i64 0, .int .i64 0, .int .i64 0, .int .i64 0, .int .i64 0, .int .i64 0, .int .i64 0, .int .i64 0, .int .i64 0] t)) u.heap.size (Nd.made id n p) := by
 have r : Row (u.alloc (.cells #[.int .i64 id, .int .i64 n, .int .i64 p, .int .i64 (-1), .bool false, .bool false, .bool false, .bool false, .bool false, .bool false, .int .i64 0, .int .i64 0, .int .i64 0, .int .i64 0, .int .i64 0, .int .i64 0, .int .i64 0, .int .i64 0, .int .i64 0, .int .i64 0, .int .i64 0, .int .i64 0, .int .i64 0, .int .i64 0, .int .i64 0, .int .i64 0, .int .i64 0, .int .i64 0] t)) u.heap.size [.int .i64 id, .int .i64 n, .int .i64 p, .int .i64 (-1), .bool false, .bool false, .bool false, .bool false, .bool false, .bool false, .int .i64 0, .int .i64 0, .int .i64 0, .int .i64 0, .int .i64 0, .int .i64 0, .int .i64 0, .int .i64 0, .int .i64 0, .int .i64 0, .int .i64 0, .int .i64 0, .int .i64 0, .int .i64 0, .int .i64 0, .int .i64 0, .int .i64 0, .int .i64 0] := Row.made rfl
 have six : ∀ {i : Nat}, i < 6 → i = 0 ∨ i = 1 ∨ i = 2 ∨ i = 3 ∨ i = 4 ∨ i = 5 := fun h => by omega
 refine ⟨r.c 0 _ rfl, r.c 1 _ rfl, r.c 2 _ rfl, r.c 3 _ rfl, fun i hi => ?_, fun i hi => ?_, fun i hi => ?_, fun i hi => ?_, fun j => World.frozen?_alloc_at _ _ _ _ rfl⟩
 ·rcases six hi with rfl | rfl | rfl | rfl | rfl | rfl
  ·exact r.c 4 _ rfl
  ·exact r.c 5 _ rfl
  ·exact r.c 6 _ rfl
  ·exact r.c 7 _ rfl
  ·exact r.c 8 _ rfl
  ·exact r.c 9 _ rfl
 ·rcases six hi with rfl | rfl | rfl | rfl | rfl | rfl
  ·exact r.c 10 _ rfl
  ·exact r.c 12 _ rfl
  ·exact r.c 14 _ rfl
  ·exact r.c 16 _ rfl
  ·exact r.c 18 _ rfl
  ·exact r.c 20 _ rfl
 ·rcases six hi with rfl | rfl | rfl | rfl | rfl | rfl
  ·exact r.c 11 _ rfl
  ·exact r.c 13 _ rfl
  ·exact r.c 15 _ rfl
  ·exact r.c 17 _ rfl
  ·exact r.c 19 _ rfl
  ·exact r.c 21 _ rfl
 ·rcases six hi with rfl | rfl | rfl | rfl | rfl | rfl
  ·exact r.c 22 _ rfl
  ·exact r.c 23 _ rfl
  ·exact r.c 24 _ rfl
  ·exact r.c 25 _ rfl
  ·exact r.c 26 _ rfl
  ·exact r.c 27 _ rfl
end Go.Proofs.YtadkgnbagmnkkakGreatDoor
