/- What the document's own clock (package noonref2) answers: Point. -/
import Derived.Test.YthdjjjajhjmajafDoorClockRefL
namespace Go.Proofs.YthdjjjajhjmajafDoor
open Go.ChangeShapes Go.WideShapes Go.ChangeAt Go.RowKit Go.Joins
set_option linter.unusedVariables false
set_option linter.unusedSimpArgs false

set_option maxRecDepth 100000 in
set_option maxHeartbeats 4000000 in
theorem rpoint_no (b : Nat) (c : Ck) (u : World) (hR : RC u b c) (hI : c.I) (hn : c.nowE ≠ 0) :
    Calls Tryd.prog 28 #[.pointer (some ⟨b, 0, none⟩)] u fun o w' => o = .returned (.tuple #[.int .i64 0, .int .i64 c.nowE]) ∧ Below u.heap.size u w' := by
  have cN := rnow_any b c u hR hI
  have d1 : (c.nowE != 0) = true := by simp [hn]
  clear hR hI hn
  generalize c.nowE = e at *
  generalize c.nowLo = nl at *
  generalize c.nowHi = nh at *
  go_enter Tryd.func28, Tryd.ntmps28
  go_wp2_with (go_at_call 29; refine cN.mono ?_; rintro o u1 ⟨rfl, hb⟩; have HB : Hid _ := hb; clear hb)
  go_ret2
  exact ⟨rfl, rbel_al HB.out⟩
theorem mid_tdiv (s : Int) : (s.tdiv 2 = s / 2 ∧ ¬ s < 2 * s.tdiv 2) ∨ (s.tdiv 2 = s / 2 + 1 ∧ s < 2 * s.tdiv 2) := by
  by_cases h : 0 ≤ s
  · rw [Int.tdiv_eq_ediv_of_nonneg h]
    left
    omega
  · have e : s.tdiv 2 = -((-s) / 2) := by
      have : s = -(-s) := by omega
      rw [this, Int.neg_tdiv, Int.tdiv_eq_ediv_of_nonneg (by omega)]
      simp
    rw [e]
    omega
set_option maxRecDepth 100000 in
set_option maxHeartbeats 4000000 in
theorem rpoint_k (b : Nat) (c : Ck) (md n : Int) (u : World) (hR : RC u b c) (hI : c.I) (hn : c.nowE = 0) (hm : Hid (md = c.mid)) (ht : (c.t = true ∧ md < c.l ∧ n = c.l) ∨ ((c.t = false ∨ (c.t = true ∧ c.l ≤ md)) ∧ n = md)) :
    Calls Tryd.prog 28 #[.pointer (some ⟨b, 0, none⟩)] u fun o w' => (c.nowHi < n ∧ o = .returned (.tuple #[.int .i64 0, .int .i64 8]) ∧ RC w' b c ∧ Keeps (fun k => k = b) u w') ∨ (n ≤ c.nowHi ∧ o = .returned (.tuple #[.int .i64 n, .int .i64 0]) ∧ RC w' b { c with t := true, l := n } ∧ Keeps (fun k => k = b) u w') := by
  have cN := rnow_any b c u hR hI
  rw [hn] at cN
  have mb := Ck.mid_b hn
  have em : c.mid = (c.nowLo + c.nowHi) / 2 := rfl
  have HR : Hid (RC u b c) := hR
  have zb := Blk.lt hR
  have q1 := hI.l0
  have q2 := hI.l1
  obtain ⟨m1, m2, m3, m4⟩ := mb
  have hm' := hm.out
  rw [← hm'] at m1 m2 em
  clear hR hI hn hm hm'
  generalize c.nowLo = nl at *
  generalize c.nowHi = nh at *
  obtain ⟨S, hS⟩ : ∃ S, S = nl + nh := ⟨_, rfl⟩
  have mt := mid_tdiv S
  rw [← hS] at em
  obtain ⟨Q, hQ⟩ : ∃ Q, Q = S.tdiv 2 := ⟨_, rfl⟩
  have wS : IntKind.i64.wrap (nl + nh) = S := by rw [IntWalk.i64_in _ (by omega)]; exact hS.symm
  have tQ : S.tdiv 2 = Q := hQ.symm
  rw [tQ] at mt
  have mt2 : (Q = md ∧ ¬ S < 2 * Q) ∨ (Q - 1 = md ∧ S < 2 * Q) := by omega
  clear mt hQ hS em
  have wQ : IntKind.i64.wrap Q = Q := IntWalk.i64_in _ (by omega)
  have wQ2 : IntKind.i64.wrap (2 * Q) = 2 * Q := IntWalk.i64_in _ (by omega)
  have wQ1 : IntKind.i64.wrap (Q - 1) = Q - 1 := IntWalk.i64_in _ (by omega)
  have END : nh < n ∨ n ≤ nh := by omega
  rcases mt2 with ⟨rfl, d1⟩ | ⟨dq, d1⟩
  all_goals
    rcases ht with ⟨ct, d2, rfl⟩ | ⟨ct | ⟨ct, d2⟩, rfl⟩
    · rcases END with d3 | d3
      all_goals
        go_enter Tryd.func28, Tryd.ntmps28
        go_wp2_with (go_at_call 29; refine cN.mono ?_; rintro o u1 ⟨rfl, hb⟩; have hR1 := RC.keep hb HR.out; have c6 := Blk.c hR1 6 _ rfl; rw [ct] at c6; have c7 := Blk.c hR1 7 _ rfl; have f6 := Blk.f hR1 6; have f7 := Blk.f hR1 7; have z1 := Blk.lt hR1; have HR1 : Hid (RC u1 b c) := hR1; have HB : Hid _ := hb; clear hb hR1)
        go_ret2
        first
          | exact Or.inl ⟨by omega, rfl, RC.keep (rbel_al (Below.refl _ _)) HR1.out, Keeps.al (Keeps.of HB.out)⟩
          | exact Or.inr ⟨by omega, rfl, Blk.put 7 (Blk.put 6 (RC.keep (rbel_al (Below.refl _ _)) HR1.out)), Keeps.put (S := fun k => k = b) rfl (Keeps.put (S := fun k => k = b) rfl (Keeps.al (Keeps.of HB.out)))⟩
          | exact Or.inr ⟨by omega, rfl, RC.keep (rbel_al (Below.refl _ _)) (Blk.put 7 (Blk.put 6 HR1.out)), Keeps.al (Keeps.put (S := fun k => k = b) rfl (Keeps.put (S := fun k => k = b) rfl (Keeps.of HB.out)))⟩
    · have d3 : ¬ (nh < n) := by omega
      clear END
      go_enter Tryd.func28, Tryd.ntmps28
      go_wp2_with (go_at_call 29; refine cN.mono ?_; rintro o u1 ⟨rfl, hb⟩; have hR1 := RC.keep hb HR.out; have c6 := Blk.c hR1 6 _ rfl; rw [ct] at c6; have c7 := Blk.c hR1 7 _ rfl; have f6 := Blk.f hR1 6; have f7 := Blk.f hR1 7; have z1 := Blk.lt hR1; have HR1 : Hid (RC u1 b c) := hR1; have HB : Hid _ := hb; clear hb hR1)
      go_ret2
      first
        | exact Or.inl ⟨by omega, rfl, RC.keep (rbel_al (Below.refl _ _)) HR1.out, Keeps.al (Keeps.of HB.out)⟩
        | exact Or.inr ⟨by omega, rfl, Blk.put 7 (Blk.put 6 (RC.keep (rbel_al (Below.refl _ _)) HR1.out)), Keeps.put (S := fun k => k = b) rfl (Keeps.put (S := fun k => k = b) rfl (Keeps.al (Keeps.of HB.out)))⟩
        | exact Or.inr ⟨by omega, rfl, RC.keep (rbel_al (Below.refl _ _)) (Blk.put 7 (Blk.put 6 HR1.out)), Keeps.al (Keeps.put (S := fun k => k = b) rfl (Keeps.put (S := fun k => k = b) rfl (Keeps.of HB.out)))⟩
    · have d3 : ¬ (nh < n) := by omega
      clear END
      go_enter Tryd.func28, Tryd.ntmps28
      go_wp2_with (go_at_call 29; refine cN.mono ?_; rintro o u1 ⟨rfl, hb⟩; have hR1 := RC.keep hb HR.out; have c6 := Blk.c hR1 6 _ rfl; rw [ct] at c6; have c7 := Blk.c hR1 7 _ rfl; have f6 := Blk.f hR1 6; have f7 := Blk.f hR1 7; have z1 := Blk.lt hR1; have HR1 : Hid (RC u1 b c) := hR1; have HB : Hid _ := hb; clear hb hR1)
      go_ret2
      first
        | exact Or.inl ⟨by omega, rfl, RC.keep (rbel_al (Below.refl _ _)) HR1.out, Keeps.al (Keeps.of HB.out)⟩
        | exact Or.inr ⟨by omega, rfl, Blk.put 7 (Blk.put 6 (RC.keep (rbel_al (Below.refl _ _)) HR1.out)), Keeps.put (S := fun k => k = b) rfl (Keeps.put (S := fun k => k = b) rfl (Keeps.al (Keeps.of HB.out)))⟩
        | exact Or.inr ⟨by omega, rfl, RC.keep (rbel_al (Below.refl _ _)) (Blk.put 7 (Blk.put 6 HR1.out)), Keeps.al (Keeps.put (S := fun k => k = b) rfl (Keeps.put (S := fun k => k = b) rfl (Keeps.of HB.out)))⟩
end Go.Proofs.YthdjjjajhjmajafDoor
