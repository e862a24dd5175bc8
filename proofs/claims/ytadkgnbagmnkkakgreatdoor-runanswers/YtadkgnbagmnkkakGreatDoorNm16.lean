/- Package node, as it landed: New, checkHere, widened. Package node, as it landed: what is kept of one, by now. -/
import Derived.Test.YtadkgnbagmnkkakGreatDoorNodeMem
import Derived.Test.YtadkgnbagmnkkakGreatDoorNm01
import Derived.Lib.SmallJoins
import Derived.Deep.QuietTactic
import Derived.BigQuiet
import Derived.BigRegion
import Derived.IntWalk
namespace Go.Proofs.YtadkgnbagmnkkakGreatDoor
open Go.ChangeShapes Go.WideShapes Go.ChangeAt Go.RowKit Go.Joins Go.Maps
set_option linter.unusedVariables false
set_option linter.unusedSimpArgs false

set_option maxHeartbeats 4000000
set_option maxRecDepth 100000
theorem nnew_ok (id n : Nat) (p : Int) (u : World) (h1 : id < n) (h2 : n ≤ 6) (h3 : 0 ≤ p) (h4 : p ≤ 1000) :
  Calls Tryz.prog 58 #[.int .i64 id, .int .i64 n, .int .i64 p] u fun o w' => ∃ b M, o = .returned (.tuple #[.pointer (some ⟨b, 0, none⟩), .nilIface]) ∧ PN w' b M (Nd.made id n p) ∧ Below u.heap.size u w' ∧ u.heap.size ≤ b ∧ u.heap.size ≤ M := by
 have hmm := @run_makeMap Tryz.prog
 have d1 : ¬ ((n : Int) < 1) := by omega
 have d2 : ¬ (6 < (n : Int)) := by omega
 have d3 : ¬ ((id : Int) < 0) := by omega
 have d4 : ¬ ((n : Int) ≤ (id : Int)) := by omega
 have d5 : ¬ (p < 0) := by omega
 have d6 : ¬ (1000 < p) := by omega
 have HP : Hid (∀ t, PN ((u.alloc (.map #[] 0)).alloc (.cells #[.int .i64 id, .int .i64 n, .int .i64 p, .int .i64 0, .map (some u.heap.size)] t)) (u.heap.size + 1) u.heap.size (Nd.made id n p)) := fun t => by
  refine ⟨?_, by omega, .map [], own_bound ((World.ownsMap_made u Tryz.prog 3 offE).alloc _) (by decide), NkD.made _ _ _⟩
  exact Row.made (vs := nkL (Nd.made id n p) u.heap.size) (by simp)
 go_enter Tryz.func58, Tryz.ntmps58
 go_wp2
 go_ret2
 exact ⟨u.heap.size + 1, rfl, u.heap.size, HP.out _, rbel_al (rbel_al (Below.refl _ _)), by omega, Nat.le_refl _⟩
section
variable {u : World} {b M : Nat} {c : Nd}
theorem chk_bk (h : PN u b M c) (g : c.I) (t : Int) (hb : c.bk t) :
  Calls Tryz.prog 178 #[.pointer (some ⟨b, 0, none⟩), .int .i64 t] u fun o w' => o = .returned (.iface 86 (.int .i64 8)) ∧ w' = u := by
 have q := (hm_bk g).1 hb
 have c3 := h.r.c 3 _ rfl
 clear h g hb
 generalize hm c = H at *
 have q' : t < H ∨ (¬ t < H ∧ 1000000000000 < t) := by omega
 clear q
 rcases q' with d1 | ⟨d1, d2⟩
 all_goals
  go_enter Tryz.func178, Tryz.ntmps178
  go_wp2
  go_ret
  exact ⟨rfl, rfl⟩
theorem chk_no (h : PN u b M c) (g : c.I) (t : Int) (hb : ¬ c.bk t) :
  Calls Tryz.prog 178 #[.pointer (some ⟨b, 0, none⟩), .int .i64 t] u fun o w' => o = .returned .nilIface ∧ w' = u := by
 have q := fun x => hb ((hm_bk g).2 x)
 have c3 := h.r.c 3 _ rfl
 clear h g hb
 generalize hm c = H at *
 have d1 : ¬ (t < H) := fun x => q (Or.inl x)
 have d2 : ¬ (1000000000000 < t) := fun x => q (Or.inr x)
 clear q
 go_enter Tryz.func178, Tryz.ntmps178
 go_wp2
 go_ret
 exact ⟨rfl, rfl⟩
theorem widened_at (p lo hi s t m : Int) (w : World) (c2 : w.cell? ⟨b, 2, none⟩ = some (.int .i64 p)) (s0 : 0 ≤ s) (s1 : s ≤ t) (t1 : t ≤ 1000000000000) (p0 : 0 ≤ p) (p1 : p ≤ 1000)
  (o1 : -1000000000000 ≤ lo) (o2 : lo ≤ hi) (o3 : hi ≤ 1000000000000) (hm : m = ((t - s) * 3 * p + 1000000 - 1) / 1000000) (m0 : 0 ≤ m) (m1 : m ≤ 3000000001) :
  Calls Tryz.prog 197 #[.pointer (some ⟨b, 0, none⟩), .agg #[.int .i64 lo, .int .i64 hi, .int .i64 s], .int .i64 t] w fun o w' => o = .returned (.tuple #[.agg #[.int .i64 (lo - (m + 2)), .int .i64 (hi + (m + 2))], .nilIface]) ∧ Below w.heap.size w w' := by
 have cG := fun u => growT_same (t - s) 3 p u (by unfold rdy; exact decide_eq_true ⟨by omega, by omega, p0, p1⟩) (by decide) (by decide)
 rw [← hm] at cG
 clear hm
 have zb : b < w.heap.size := World.block_lt_of_cell? _ _ c2
 have w1 : IntKind.i64.wrap (t - s) = t - s := IntWalk.i64_in _ (by omega)
 have w2 : IntKind.i64.wrap (m + 2) = m + 2 := IntWalk.i64_in _ (by omega)
 have w3 : IntKind.i64.wrap (lo - (m + 2)) = lo - (m + 2) := IntWalk.i64_in _ (by omega)
 have w4 : IntKind.i64.wrap (hi + (m + 2)) = hi + (m + 2) := IntWalk.i64_in _ (by omega)
 go_enter Tryz.func197, Tryz.ntmps197
 go_wp2
 go_quiet (first | (go_at_call 206; refine Calls.quiet_of_same (cG _)))
 go_wp2
 exact bodyPost_ret (v := .tuple #[.agg #[.int .i64 (lo - (m + 2)), .int .i64 (hi + (m + 2))], .nilIface]) (by simp [results, Tryz.results197, go_sem, *]) rfl ⟨rfl, by first | exact rbel_drn (rbel_al (rbel_al (Below.refl _ _))) | exact rbel_put (Nat.le_succ _) (rbel_put (Nat.le_succ _) (rbel_drn (rbel_al (rbel_al (Below.refl _ _)))))⟩
end
theorem wid_any {c : Nd} {b i : Nat} {t : Int} (g : c.I) (hb : ¬ c.bk t) (hh : c.has i = true) (w : World) (c2 : w.cell? ⟨b, 2, none⟩ = some (.int .i64 c.p)) :
  Calls Tryz.prog 197 #[.pointer (some ⟨b, 0, none⟩), .agg #[.int .i64 (vL c i), .int .i64 (vH c i), .int .i64 (vA c i)], .int .i64 t] w fun o w' => o = .returned (.tuple #[.agg #[.int .i64 (c.alo i t), .int .i64 (c.ahi i t)], .nilIface]) ∧ Below w.heap.size w w' := by
 obtain ⟨k1, k2, k3, k4, k5⟩ := g.kn i hh
 obtain ⟨s1, s2, s3, s4⟩ := Nd.sk_b g hb hh
 obtain ⟨o1, o2, o3⟩ := okB_t k3
 have eL : vL c i = c.lo i := if_pos hh
 have eH : vH c i = c.hi i := if_pos hh
 have eA : vA c i = c.at_ i := if_pos hh
 obtain ⟨m, hm⟩ : ∃ m, m = ((t - c.at_ i) * 3 * c.p + 1000000 - 1) / 1000000 := ⟨_, rfl⟩
 have es : c.sk i t = 2 + m := by rw [hm]; rfl
 have e1 : c.alo i t = c.lo i - (m + 2) := by unfold Nd.alo; omega
 have e2 : c.ahi i t = c.hi i + (m + 2) := by unfold Nd.ahi; omega
 unfold Nd.bk at hb
 rw [eL, eH, eA, e1, e2]
 have := g.h1
 exact widened_at c.p (c.lo i) (c.hi i) (c.at_ i) t m w c2 k4 (by omega) (by omega) g.p0 g.p1 (by omega) (by omega) (by omega) hm (by omega) (by omega)
end Go.Proofs.YtadkgnbagmnkkakGreatDoor
