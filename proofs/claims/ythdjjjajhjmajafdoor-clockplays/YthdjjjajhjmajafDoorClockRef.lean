/- What the document's own clock (package noonref2) answers: Step, aged, Now. -/
import Derived.Test.YthdjjjajhjmajafDoorClockDef
import Derived.Test.YthdjjjajhjmajafDoorRefUp
import Derived.Test.YthdjjjajhjmajafDoorRefMeet
import Derived.Deep.QuietTactic
import Derived.BigQuiet
import Derived.BigRegion
import Derived.IntWalk
namespace Go.Proofs.YthdjjjajhjmajafDoor
open Go.ChangeShapes Go.WideShapes Go.ChangeAt Go.RowKit Go.Joins
set_option linter.unusedVariables false
set_option linter.unusedSimpArgs false

/-- The document's clock in memory. -/
def ckL (c : Ck) : List Value := [.int .i64 c.p, .int .i64 c.h, .bool c.k, .int .i64 c.lo, .int .i64 c.hi, .int .i64 c.s, .bool c.t, .int .i64 c.l]
def RC (u : World) (b : Nat) (c : Ck) : Prop := Blk u 59 b (ckL c)
set_option maxRecDepth 100000 in
set_option maxHeartbeats 4000000 in
theorem rstep_any (b : Nat) (c : Ck) (x : Int) (u : World) (hR : RC u b c) :
    Calls Tryd.prog 26 #[.pointer (some ⟨b, 0, none⟩), .int .i64 x] u fun o w' => o = .returned (.int .i64 (c.stepE x)) ∧ RC w' b (c.stepC x) ∧ Keeps (fun k => k = b) u w' := by
  have HR : Hid (RC u b c) := hR
  have c1 := Blk.c hR 1 _ rfl
  have f1 := Blk.f hR 1
  clear hR
  by_cases hx : x < 0 ∨ 1000000000000 < x
  · have e : c.stepE x = 1 := by unfold Ck.stepE; rw [if_pos hx]
    have ec : c.stepC x = c := by unfold Ck.stepC; rw [if_neg (by rw [e]; decide)]
    rw [e, ec]
    have hx2 : x < 0 ∨ (¬ x < 0 ∧ 1000000000000 < x) := by omega
    clear hx e ec
    rcases hx2 with d1 | ⟨d1, d2⟩
    all_goals
      go_enter Tryd.func26, Tryd.ntmps26
      go_wp2
      go_ret
      exact ⟨rfl, HR.out, Keeps.refl _ _⟩
  · have d1 : ¬ (x < 0) := by omega
    have d2 : ¬ (1000000000000 < x) := by omega
    by_cases hl : x < c.h
    · have e : c.stepE x = 8 := by unfold Ck.stepE; rw [if_neg hx, if_pos hl]
      have ec : c.stepC x = c := by unfold Ck.stepC; rw [if_neg (by rw [e]; decide)]
      rw [e, ec]
      clear hx e ec
      go_enter Tryd.func26, Tryd.ntmps26
      go_wp2
      go_ret
      exact ⟨rfl, HR.out, Keeps.refl _ _⟩
    · have e : c.stepE x = 0 := by unfold Ck.stepE; rw [if_neg hx, if_neg hl]
      have ec : c.stepC x = { c with h := x } := by unfold Ck.stepC; rw [if_pos e]
      rw [e, ec]
      clear hx e ec
      go_enter Tryd.func26, Tryd.ntmps26
      go_wp2
      go_ret
      exact ⟨rfl, Blk.put 1 HR.out, Keeps.put (S := fun k => k = b) rfl (Keeps.refl _ _)⟩
set_option maxRecDepth 100000 in
set_option maxHeartbeats 4000000 in
theorem raged_any (b : Nat) (c : Ck) (u : World) (hR : RC u b c) (hI : c.I) :
    Calls Tryd.prog 45 #[.pointer (some ⟨b, 0, none⟩)] u fun o w' => o = .returned (.agg #[.int .i64 (c.lo - c.n), .int .i64 (c.hi + c.n)]) ∧ Below u.heap.size u w' := by
  have nb := c.n_b hI
  obtain ⟨n1, n2, n3, n4⟩ := nb
  have cU := fun w => rup_same ((c.h - c.s) * 2 * c.p) 1000000 w n1 (by omega) (by decide) (by decide)
  obtain ⟨m, em⟩ : ∃ m, m = ((c.h - c.s) * 2 * c.p + 1000000 - 1) / 1000000 := ⟨_, rfl⟩
  have en : c.n = 1 + m := by rw [em]; rfl
  rw [← em] at cU
  rw [en] at n3 n4
  have c0 := Blk.c hR 0 _ rfl
  have c1 := Blk.c hR 1 _ rfl
  have c3 := Blk.c hR 3 _ rfl
  have c4 := Blk.c hR 4 _ rfl
  have c5 := Blk.c hR 5 _ rfl
  have o := okB_t hI.ok
  obtain ⟨o1, o2, o3⟩ := o
  have q1 := hI.h0
  have q2 := hI.h1
  have q3 := hI.s0
  have q4 := hI.s1
  have zb := Blk.lt hR
  have w1 : IntKind.i64.wrap (c.h - c.s) = c.h - c.s := IntWalk.i64_in _ (by omega)
  have w2 : IntKind.i64.wrap ((c.h - c.s) * 2) = (c.h - c.s) * 2 := IntWalk.i64_in _ (by omega)
  have w3 : IntKind.i64.wrap ((c.h - c.s) * 2 * c.p) = (c.h - c.s) * 2 * c.p := IntWalk.i64_in _ (by omega)
  have w4 : IntKind.i64.wrap (1 + m) = 1 + m := IntWalk.i64_in _ (by omega)
  have w5 : IntKind.i64.wrap (c.lo - (1 + m)) = c.lo - (1 + m) := IntWalk.i64_in _ (by omega)
  have w6 : IntKind.i64.wrap (c.hi + (1 + m)) = c.hi + (1 + m) := IntWalk.i64_in _ (by omega)
  rw [en]
  clear hR hI em en
  generalize c.h = h at *
  generalize c.s = s at *
  generalize c.p = p at *
  generalize c.lo = lo at *
  generalize c.hi = hi at *
  clear c
  go_enter Tryd.func45, Tryd.ntmps45
  go_wp2
  go_quiet (first | (go_at_call 59; refine Calls.quiet_of_same (cU _)))
  go_wp2
  go_region
  all_goals
    go_wp2
    exact bodyPost_ret (v := .agg #[.int .i64 (lo - (1 + m)), .int .i64 (hi + (1 + m))]) (by simp [results, Tryd.results45, go_sem, *]) rfl ⟨rfl, by first | exact rbel_put (by omega) (rbel_put (by omega) (rbel_dr (rbel_drn (rbel_al (Below.refl _ _))))) | exact rbel_dr (rbel_put (by omega) (rbel_put (by omega) (rbel_drn (rbel_al (Below.refl _ _)))))⟩
end Go.Proofs.YthdjjjajhjmajafDoor
