/- What the document's own clock (package noonref2) answers: Now. -/
import Derived.Test.YthdjjjajhjmajafDoorClockRef
namespace Go.Proofs.YthdjjjajhjmajafDoor
open Go.ChangeShapes Go.WideShapes Go.ChangeAt Go.RowKit Go.Joins
set_option linter.unusedVariables false
set_option linter.unusedSimpArgs false

set_option maxRecDepth 100000 in
set_option maxHeartbeats 4000000 in
theorem rnow_k (b : Nat) (c : Ck) (B : Bool) (u : World) (hR : RC u b c) (hI : c.I) (hk : c.k = true) (hB : okB (c.lo - c.n + c.h) (c.hi + c.n + c.h) = B) :
    Calls Tryd.prog 29 #[.pointer (some ⟨b, 0, none⟩)] u fun o w' => o = .returned (.tuple #[.agg #[.int .i64 (if B = true then c.lo - c.n + c.h else 0), .int .i64 (if B = true then c.hi + c.n + c.h else 0)], .int .i64 (if B = true then 0 else 1)]) ∧ Below u.heap.size u w' := by
  have nb := c.n_b hI
  obtain ⟨n1, n2, n3, n4⟩ := nb
  clear n1 n2
  have cA := fun w hw => raged_any b c w (Blk.on (u := w) hw hR) hI
  have cS := fun w => rspan_any (c.lo - c.n + c.h) (c.hi + c.n + c.h) w
  rw [hB] at cS
  have c1 := Blk.c hR 1 _ rfl
  have c2 := Blk.c hR 2 _ rfl
  rw [hk] at c2
  obtain ⟨o1, o2, o3⟩ := okB_t hI.ok
  have q1 := hI.h0
  have q2 := hI.h1
  have zb := Blk.lt hR
  have C1 : Hid (u.cell? ⟨b, 1, none⟩ = some (.int .i64 c.h)) := c1
  clear hR hI hB hk
  generalize c.n = n at *
  generalize c.h = h at *
  generalize c.lo = lo at *
  generalize c.hi = hi at *
  clear c
  obtain ⟨L, eL⟩ : ∃ L, L = lo - n := ⟨_, rfl⟩
  obtain ⟨H, eH⟩ : ∃ H, H = hi + n := ⟨_, rfl⟩
  obtain ⟨L2, eL2⟩ : ∃ L2, L2 = lo - n + h := ⟨_, rfl⟩
  obtain ⟨H2, eH2⟩ : ∃ H2, H2 = hi + n + h := ⟨_, rfl⟩
  have w1 : IntKind.i64.wrap (L + h) = L2 := by rw [IntWalk.i64_in _ (by omega)]; omega
  have w2 : IntKind.i64.wrap (H + h) = H2 := by rw [IntWalk.i64_in _ (by omega)]; omega
  rw [← eL, ← eH] at cA
  rw [← eL2, ← eH2] at cS ⊢
  clear eL eH eL2 eH2 o1 o2 o3 q1 q2 n3 n4
  cases B with
  | true =>
    simp only [if_true]
    go_enter Tryd.func29, Tryd.ntmps29
    go_wp2_with (go_at_call 45; refine (cA _ (rbel_al (Below.refl _ _))).mono ?_; rintro o u1 ⟨rfl, hb⟩; have z1 := hb.size; simp at z1; have z2 : u.heap.size < u1.heap.size := (by omega); have zb1 : b < u1.heap.size := (by omega); have d1 : u1.cell? ⟨b, 1, none⟩ = some (.int .i64 h) := (by rw [hb.cell (p := ⟨b, 1, none⟩) (by simp; omega), World.cell?_alloc_lt _ _ _ zb]; exact C1.out); have R1 : Hid (Row u1 u.heap.size [.int .i64 0, .int .i64 0]) := Row.on hb (Row.made (W := u) (vs := [.int .i64 0, .int .i64 0]) rfl); have B1 : Hid (Below u.heap.size u u1) := rbel_on hb (rbel_al (Below.refl _ _)); clear hb z1)
    go_region
    all_goals
      go_wp2
      go_region
      all_goals
        go_wp2_with (go_at_call 43; refine (cS _).mono ?_; rintro o u2 ⟨rfl, hb⟩; have rs := Row.on hb (Row.dr (Row.dr (Row.made (W := u1) (vs := [.int .i64 L2, .int .i64 H2]) rfl))); have rr := Row.on hb (Row.dr (Row.dr (Row.al R1.out))); have s0 := rs.c 0 _ rfl; have s1 := rs.c 1 _ rfl; have r0 := rr.c 0 _ rfl; have r1 := rr.c 1 _ rfl; have f0 := rr.f 0 _ rfl; have f1 := rr.f 1 _ rfl; have B2 : Hid (Below u.heap.size u u2) := rbel_on hb (rbel_dr (rbel_dr (rbel_al B1.out))); clear hb rs rr)
        exact bodyPost_ret (v := .tuple #[.agg #[.int .i64 L2, .int .i64 H2], .int .i64 0]) (by simp [results, Tryd.results29, go_sem, *]) rfl ⟨rfl, rbel_put (Nat.le_refl _) (rbel_put (Nat.le_refl _) B2.out)⟩
  | false =>
    simp only [Bool.false_eq_true, if_false]
    go_enter Tryd.func29, Tryd.ntmps29
    go_wp2_with (go_at_call 45; refine (cA _ (rbel_al (Below.refl _ _))).mono ?_; rintro o u1 ⟨rfl, hb⟩; have z1 := hb.size; simp at z1; have z2 : u.heap.size < u1.heap.size := (by omega); have zb1 : b < u1.heap.size := (by omega); have d1 : u1.cell? ⟨b, 1, none⟩ = some (.int .i64 h) := (by rw [hb.cell (p := ⟨b, 1, none⟩) (by simp; omega), World.cell?_alloc_lt _ _ _ zb]; exact C1.out); have R1 : Hid (Row u1 u.heap.size [.int .i64 0, .int .i64 0]) := Row.on hb (Row.made (W := u) (vs := [.int .i64 0, .int .i64 0]) rfl); have B1 : Hid (Below u.heap.size u u1) := rbel_on hb (rbel_al (Below.refl _ _)); clear hb z1)
    go_region
    all_goals
      go_wp2
      go_region
      all_goals
        go_wp2_with (go_at_call 43; refine (cS _).mono ?_; rintro o u2 ⟨rfl, hb⟩; have rs := Row.on hb (Row.dr (Row.dr (Row.made (W := u1) (vs := [.int .i64 L2, .int .i64 H2]) rfl))); have rr := Row.on hb (Row.dr (Row.dr (Row.al R1.out))); have s0 := rs.c 0 _ rfl; have s1 := rs.c 1 _ rfl; have r0 := rr.c 0 _ rfl; have r1 := rr.c 1 _ rfl; have f0 := rr.f 0 _ rfl; have f1 := rr.f 1 _ rfl; have B2 : Hid (Below u.heap.size u u2) := rbel_on hb (rbel_dr (rbel_dr (rbel_al B1.out))); clear hb rs rr)
        exact bodyPost_ret (v := .tuple #[.agg #[.int .i64 0, .int .i64 0], .int .i64 1]) (by simp [results, Tryd.results29, go_sem, *]) rfl ⟨rfl, rbel_put (Nat.le_refl _) (rbel_put (Nat.le_refl _) B2.out)⟩
set_option maxRecDepth 100000 in
set_option maxHeartbeats 4000000 in
theorem rnow_n (b : Nat) (c : Ck) (u : World) (hR : RC u b c) (hk : c.k = false) :
    Calls Tryd.prog 29 #[.pointer (some ⟨b, 0, none⟩)] u fun o w' => o = .returned (.tuple #[.agg #[.int .i64 0, .int .i64 0], .int .i64 6]) ∧ Below u.heap.size u w' := by
  have c2 := Blk.c hR 2 _ rfl
  rw [hk] at c2
  have zb := Blk.lt hR
  clear hR hk
  go_enter Tryd.func29, Tryd.ntmps29
  go_wp2
  exact bodyPost_ret (v := .tuple #[.agg #[.int .i64 0, .int .i64 0], .int .i64 6]) (by simp [results, Tryd.results29, go_sem, *]) rfl ⟨rfl, rbel_al (Below.refl _ _)⟩
theorem rnow_any (b : Nat) (c : Ck) (u : World) (hR : RC u b c) (hI : c.I) :
    Calls Tryd.prog 29 #[.pointer (some ⟨b, 0, none⟩)] u fun o w' => o = .returned (.tuple #[.agg #[.int .i64 c.nowLo, .int .i64 c.nowHi], .int .i64 c.nowE]) ∧ Below u.heap.size u w' := by
  cases k : c.k with
  | false =>
    have e : c.nowE = 6 := by unfold Ck.nowE; rw [k]; rfl
    have e1 : c.nowLo = 0 := by unfold Ck.nowLo; rw [e]; rfl
    have e2 : c.nowHi = 0 := by unfold Ck.nowHi; rw [e]; rfl
    rw [e1, e2, e]
    exact rnow_n b c u hR k
  | true =>
    have := rnow_k b c _ u hR hI k rfl
    have e : c.nowE = if okB (c.lo - c.n + c.h) (c.hi + c.n + c.h) = true then 0 else 1 := by unfold Ck.nowE; rw [if_pos k]
    have e0 : c.nowE = 0 ↔ okB (c.lo - c.n + c.h) (c.hi + c.n + c.h) = true := by
      rw [e]
      constructor
      · intro h
        apply Classical.byContradiction
        intro q
        rw [if_neg q] at h
        cases h
      · intro h; rw [if_pos h]
    have e1 : c.nowLo = if okB (c.lo - c.n + c.h) (c.hi + c.n + c.h) = true then c.lo - c.n + c.h else 0 := by
      unfold Ck.nowLo
      by_cases q : c.nowE = 0
      · rw [if_pos q, if_pos (e0.1 q)]
      · rw [if_neg q, if_neg (fun h => q (e0.2 h))]
    have e2 : c.nowHi = if okB (c.lo - c.n + c.h) (c.hi + c.n + c.h) = true then c.hi + c.n + c.h else 0 := by
      unfold Ck.nowHi
      by_cases q : c.nowE = 0
      · rw [if_pos q, if_pos (e0.1 q)]
      · rw [if_neg q, if_neg (fun h => q (e0.2 h))]
    rw [e1, e2, e]
    exact this
end Go.Proofs.YthdjjjajhjmajafDoor
