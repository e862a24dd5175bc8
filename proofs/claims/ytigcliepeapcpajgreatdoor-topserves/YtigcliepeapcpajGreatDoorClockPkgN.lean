/- Package clock, as it landed: Now. -/
import Derived.Test.YtigcliepeapcpajGreatDoorNm16
import Derived.Test.YtigcliepeapcpajGreatDoorNm01
namespace Go.Proofs.YtigcliepeapcpajGreatDoor
open Go.ChangeShapes Go.WideShapes Go.ChangeAt Go.RowKit Go.Joins
set_option linter.unusedVariables false
set_option linter.unusedSimpArgs false

theorem pnow_n (b : Nat) (c : Ck) (u : World) (hR : PC u b c) (hk : c.k = false) :
    Calls Tryz.prog 13 #[.pointer (some ⟨b, 0, none⟩)] u fun o w' => o = .returned (.tuple #[.agg #[.int .i64 0, .int .i64 0], errc 6]) ∧ Below u.heap.size u w' := by
  have c2 := Blk.c hR 2 _ rfl
  rw [hk] at c2
  have zb := Blk.lt hR
  clear hR hk
  go_enter Tryz.func13, Tryz.ntmps13
  go_wp2
  exact bodyPost_ret (v := .tuple #[.agg #[.int .i64 0, .int .i64 0], .iface 71 (.int .i64 6)]) (by simp [results, Tryz.results13, go_sem, *]) rfl ⟨rfl, by first | exact rbel_put (Nat.le_refl _) (rbel_put (Nat.le_refl _) (rbel_al (Below.refl _ _))) | exact rbel_al (Below.refl _ _)⟩
set_option maxRecDepth 100000 in
set_option maxHeartbeats 4000000 in
theorem pnow_k (b : Nat) (c : Ck) (B : Bool) (u : World) (hR : PC u b c) (hI : c.I) (hk : c.k = true) (hB : okB (c.lo - c.n + c.h) (c.hi + c.n + c.h) = B) :
    Calls Tryz.prog 13 #[.pointer (some ⟨b, 0, none⟩)] u fun o w' => o = .returned (.tuple #[.agg #[.int .i64 (if B = true then c.lo - c.n + c.h else 0), .int .i64 (if B = true then c.hi + c.n + c.h else 0)], errc (if B = true then 0 else 1)]) ∧ Below u.heap.size u w' := by
  have nb := c.n_b hI
  obtain ⟨n1, n2, n3, n4⟩ := nb
  have q0 := hI.h0
  have q1 := hI.h1
  have q2 := hI.s0
  have q3 := hI.s1
  have q4 := hI.p0
  have q5 := hI.p1
  have cG := fun w => growT_same (c.h - c.s) 2 c.p w (by unfold rdy; exact decide_eq_true ⟨by omega, by omega, q4, q5⟩) (by decide) (by decide)
  obtain ⟨m, em⟩ : ∃ m, m = ((c.h - c.s) * 2 * c.p + 1000000 - 1) / 1000000 := ⟨_, rfl⟩
  have en : c.n = 1 + m := by rw [em]; rfl
  rw [← em] at cG
  have en' : c.n = m + 1 := by omega
  rw [en'] at n3 n4 hB ⊢
  have c0 := Blk.c hR 0 _ rfl
  have c1 := Blk.c hR 1 _ rfl
  have c2 := Blk.c hR 2 _ rfl
  have c3 := Blk.c hR 3 _ rfl
  have c4 := Blk.c hR 4 _ rfl
  have c5 := Blk.c hR 5 _ rfl
  rw [hk] at c2
  obtain ⟨o1, o2, o3⟩ := okB_t hI.ok
  have zb := Blk.lt hR
  clear hR hI em en en' n1 n2 hk
  generalize c.h = h at *
  generalize c.s = s at *
  generalize c.p = p at *
  generalize c.lo = lo at *
  generalize c.hi = hi at *
  clear c
  have w1 : IntKind.i64.wrap (h - s) = h - s := IntWalk.i64_in _ (by omega)
  have w2 : IntKind.i64.wrap (m + 1) = m + 1 := IntWalk.i64_in _ (by omega)
  have w3 : IntKind.i64.wrap (lo - (m + 1)) = lo - (m + 1) := IntWalk.i64_in _ (by omega)
  have w4 : IntKind.i64.wrap (hi + (m + 1)) = hi + (m + 1) := IntWalk.i64_in _ (by omega)
  have w5 : IntKind.i64.wrap (lo - (m + 1) + h) = lo - (m + 1) + h := IntWalk.i64_in _ (by omega)
  have w6 : IntKind.i64.wrap (hi + (m + 1) + h) = hi + (m + 1) + h := IntWalk.i64_in _ (by omega)
  cases B with
  | true =>
    have cC := fun w => check_ok (lo - (m + 1) + h) (hi + (m + 1) + h) w hB
    simp only [if_true]
    go_enter Tryz.func13, Tryz.ntmps13
    go_wp2
    go_quiet (first | (go_at_call 30; refine Calls.quiet_of_same (cG _)))
    go_wp2
    go_region
    all_goals
      go_wp2_with (go_at_call 28; refine (cC _).mono ?_; rintro o u2 ⟨rfl, hb⟩; have rs : Row u2 (u.heap.size + 1) [.int .i64 (lo - (m + 1) + h), .int .i64 (hi + (m + 1) + h)] := (by first | exact Row.on hb (Row.made (by simp)) | exact Row.on hb (Row.dr (Row.made (by simp)))); have rr : Row u2 u.heap.size [.int .i64 0, .int .i64 0] := (by first | exact Row.on hb (Row.al (Row.drn (Row.made rfl))) | exact Row.on hb (Row.dr (Row.al (Row.drn (Row.made rfl))))); have s0 := rs.c 0 _ rfl; have s1 := rs.c 1 _ rfl; have r0 := rr.c 0 _ rfl; have r1 := rr.c 1 _ rfl; have f0 := rr.f 0 _ rfl; have f1 := rr.f 1 _ rfl; have B2 : Hid (Below u.heap.size u u2) := (by first | exact rbel_on hb (rbel_al (rbel_drn (rbel_al (Below.refl _ _)))) | exact rbel_on hb (rbel_dr (rbel_al (rbel_drn (rbel_al (Below.refl _ _)))))); clear hb rs rr)
      exact bodyPost_ret (v := .tuple #[.agg #[.int .i64 (lo - (m + 1) + h), .int .i64 (hi + (m + 1) + h)], .nilIface]) (by simp [results, Tryz.results13, go_sem, *]) rfl ⟨rfl, rbel_put (Nat.le_refl _) (rbel_put (Nat.le_refl _) B2.out)⟩
  | false =>
    have cC := fun w => check_no (lo - (m + 1) + h) (hi + (m + 1) + h) w hB
    simp only [Bool.false_eq_true, if_false]
    go_enter Tryz.func13, Tryz.ntmps13
    go_wp2
    go_quiet (first | (go_at_call 30; refine Calls.quiet_of_same (cG _)))
    go_wp2
    go_region
    all_goals
      go_wp2_with (go_at_call 28; refine (cC _).mono ?_; rintro o u2 ⟨rfl, hb⟩; have rs : Row u2 (u.heap.size + 1) [.int .i64 (lo - (m + 1) + h), .int .i64 (hi + (m + 1) + h)] := (by first | exact Row.on hb (Row.made (by simp)) | exact Row.on hb (Row.dr (Row.made (by simp)))); have rr : Row u2 u.heap.size [.int .i64 0, .int .i64 0] := (by first | exact Row.on hb (Row.al (Row.drn (Row.made rfl))) | exact Row.on hb (Row.dr (Row.al (Row.drn (Row.made rfl))))); have s0 := rs.c 0 _ rfl; have s1 := rs.c 1 _ rfl; have r0 := rr.c 0 _ rfl; have r1 := rr.c 1 _ rfl; have f0 := rr.f 0 _ rfl; have f1 := rr.f 1 _ rfl; have B2 : Hid (Below u.heap.size u u2) := (by first | exact rbel_on hb (rbel_al (rbel_drn (rbel_al (Below.refl _ _)))) | exact rbel_on hb (rbel_dr (rbel_al (rbel_drn (rbel_al (Below.refl _ _)))))); clear hb rs rr)
      exact bodyPost_ret (v := .tuple #[.agg #[.int .i64 0, .int .i64 0], .iface 71 (.int .i64 1)]) (by simp [results, Tryz.results13, go_sem, *]) rfl ⟨rfl, rbel_put (Nat.le_refl _) (rbel_put (Nat.le_refl _) B2.out)⟩
theorem pnow_any (b : Nat) (c : Ck) (u : World) (hR : PC u b c) (hI : c.I) :
    Calls Tryz.prog 13 #[.pointer (some ⟨b, 0, none⟩)] u fun o w' => o = .returned (.tuple #[.agg #[.int .i64 c.nowLo, .int .i64 c.nowHi], errc c.nowE]) ∧ Below u.heap.size u w' := by
  cases k : c.k with
  | false =>
    have e : c.nowE = 6 := by unfold Ck.nowE; rw [k]; rfl
    have e1 : c.nowLo = 0 := by unfold Ck.nowLo; rw [e]; rfl
    have e2 : c.nowHi = 0 := by unfold Ck.nowHi; rw [e]; rfl
    rw [e1, e2, e]
    exact pnow_n b c u hR k
  | true =>
    have := pnow_k b c _ u hR hI k rfl
    have e : c.nowE = if okB (c.lo - c.n + c.h) (c.hi + c.n + c.h) = true then 0 else 1 := by unfold Ck.nowE; rw [if_pos k]
    have e0 : c.nowE = 0 ↔ okB (c.lo - c.n + c.h) (c.hi + c.n + c.h) = true := by
      rw [e]
      constructor
      · intro h
        apply Classical.byContradiction
        intro q
        rw [if_neg q] at h
        cases h
      · intro h; rw [if_pos h]
    have e1 : c.nowLo = if okB (c.lo - c.n + c.h) (c.hi + c.n + c.h) = true then c.lo - c.n + c.h else 0 := by
      unfold Ck.nowLo
      by_cases q : c.nowE = 0
      · rw [if_pos q, if_pos (e0.1 q)]
      · rw [if_neg q, if_neg (fun h => q (e0.2 h))]
    have e2 : c.nowHi = if okB (c.lo - c.n + c.h) (c.hi + c.n + c.h) = true then c.hi + c.n + c.h else 0 := by
      unfold Ck.nowHi
      by_cases q : c.nowE = 0
      · rw [if_pos q, if_pos (e0.1 q)]
      · rw [if_neg q, if_neg (fun h => q (e0.2 h))]
    rw [e1, e2, e]
    exact this
end Go.Proofs.YtigcliepeapcpajGreatDoor
