/- What the document's own clock (package noonref2) answers: Learn. -/
import Derived.Test.YthdjjjajhjmajafDoorClockRefN
import Derived.Deep.CutRange
namespace Go.Proofs.YthdjjjajhjmajafDoor
open Go.ChangeShapes Go.WideShapes Go.ChangeAt Go.RowKit Go.Joins
set_option linter.unusedVariables false
set_option linter.unusedSimpArgs false

theorem RC.keep {u w : World} {b : Nat} {c : Ck} (hb : Below u.heap.size u w) (h : RC u b c) : RC w b c := Blk.on hb h
/-- The cells of a clock that learned. -/
theorem rc_learn {u : World} {b : Nat} {c : Ck} {x y : Int} (h : RC u b c) : RC ((((u.setCell ⟨b, 2, none⟩ (.bool true)).setCell ⟨b, 3, none⟩ (.int .i64 x)).setCell ⟨b, 4, none⟩ (.int .i64 y)).setCell ⟨b, 5, none⟩ (.int .i64 c.h)) b { c with k := true, lo := x, hi := y, s := c.h } :=
  Blk.put 5 (Blk.put 4 (Blk.put 3 (Blk.put 2 h)))
set_option maxRecDepth 100000 in
set_option maxHeartbeats 4000000 in
theorem rlearn_out (b : Nat) (c : Ck) (x y : Int) (u : World) (hR : RC u b c) (ho : okB x y = false) :
    Calls Tryd.prog 27 #[.pointer (some ⟨b, 0, none⟩), .agg #[.int .i64 x, .int .i64 y]] u fun o w' => o = .returned (.int .i64 1) ∧ Below u.heap.size u w' := by
  have cS := fun w => rspan_any x y w
  rw [ho] at cS
  clear ho hR
  go_enter Tryd.func27, Tryd.ntmps27
  go_wp2_with (go_at_call 43; refine (cS _).mono ?_; rintro o u2 ⟨rfl, hb⟩; have HB : Hid _ := hb; clear hb)
  go_ret
  exact ⟨rfl, rbel_on HB.out (rbel_al (Below.refl _ _))⟩
set_option maxRecDepth 100000 in
set_option maxHeartbeats 4000000 in
theorem rlearn_new (b : Nat) (c : Ck) (x y : Int) (u : World) (hR : RC u b c) (ho : okB x y = true) (hk : c.k = false) :
    Calls Tryd.prog 27 #[.pointer (some ⟨b, 0, none⟩), .agg #[.int .i64 x, .int .i64 y]] u fun o w' => o = .returned (.int .i64 0) ∧ RC w' b { c with k := true, lo := x, hi := y, s := c.h } ∧ Keeps (fun k => k = b) u w' := by
  have cS := fun w => rspan_any x y w
  rw [ho] at cS
  have HR : Hid (RC u b c) := hR
  have zb := Blk.lt hR
  clear ho hR
  go_enter Tryd.func27, Tryd.ntmps27
  go_wp2_with (go_at_call 43; refine (cS _).mono ?_; rintro o u2 ⟨rfl, hb⟩; have z2 := hb.size; simp at z2; have ne : ¬ (u.heap.size = b) := (by omega); have ne2 : ¬ (b = u.heap.size) := (by omega); have hR2 := RC.keep (rbel_on hb (rbel_al (Below.refl _ _))) HR.out; have c1 := Blk.c hR2 1 _ rfl; have c2 := Blk.c hR2 2 _ rfl; rw [hk] at c2; have c3 := Blk.c hR2 3 _ rfl; have c4 := Blk.c hR2 4 _ rfl; have c5 := Blk.c hR2 5 _ rfl; have f2 := Blk.f hR2 2; have f3 := Blk.f hR2 3; have f4 := Blk.f hR2 4; have f5 := Blk.f hR2 5; have ro := Row.on hb (Row.made (W := u) (vs := [.int .i64 x, .int .i64 y]) rfl); have o0 := ro.c 0 _ rfl; have o1 := ro.c 1 _ rfl; have HR2 : Hid (RC u2 b c) := hR2; have HB : Hid (Below u.heap.size u u2) := rbel_on hb (rbel_al (Below.refl _ _)); clear hb ro hR2 z2)
  go_ret
  exact ⟨rfl, rc_learn HR2.out, Keeps.put (S := fun k => k = b) rfl (Keeps.put (S := fun k => k = b) rfl (Keeps.put (S := fun k => k = b) rfl (Keeps.put (S := fun k => k = b) rfl (Keeps.of HB.out))))⟩
set_option maxRecDepth 100000 in
set_option maxHeartbeats 4000000 in
theorem rlearn_now (b : Nat) (c : Ck) (x y : Int) (u : World) (hR : RC u b c) (hI : c.I) (ho : okB x y = true) (hk : c.k = true) (hn : c.nowE ≠ 0) :
    Calls Tryd.prog 27 #[.pointer (some ⟨b, 0, none⟩), .agg #[.int .i64 x, .int .i64 y]] u fun o w' => o = .returned (.int .i64 c.nowE) ∧ Below u.heap.size u w' := by
  have cS := fun w => rspan_any x y w
  rw [ho] at cS
  have cN := fun w (hw : Below u.heap.size u w) => rnow_any b c w (RC.keep hw hR) hI
  have HR : Hid (RC u b c) := hR
  have zb := Blk.lt hR
  have d1 : (c.nowE != 0) = true := by simp [hn]
  clear ho hR hI hn
  generalize c.nowE = e at *
  generalize c.nowLo = nl at *
  generalize c.nowHi = nh at *
  go_enter Tryd.func27, Tryd.ntmps27
  go_wp2_with (first
    | (go_at_call 43; refine (cS _).mono ?_; rintro o u2 ⟨rfl, hb⟩; have hR2 := RC.keep (rbel_on hb (rbel_al (Below.refl _ _))) HR.out; have c2 := Blk.c hR2 2 _ rfl; rw [hk] at c2; have HB : Hid (Below u.heap.size u u2) := rbel_on hb (rbel_al (Below.refl _ _)); clear hb hR2)
    | (go_at_call 29; refine (cN _ HB.out).mono ?_; rintro o u3 ⟨rfl, hb⟩; have HB3 : Hid (Below u.heap.size u u3) := rbel_on hb HB.out; clear hb))
  go_ret
  exact ⟨rfl, rbel_al HB3.out⟩
set_option maxRecDepth 100000 in
set_option maxHeartbeats 4000000 in
theorem rlearn_both (b : Nat) (c : Ck) (x y : Int) (B : Bool) (u : World) (hR : RC u b c) (hI : c.I) (ho : okB x y = true) (hk : c.k = true) (hn : c.nowE = 0) (hB : decide (c.bLo x ≤ c.bHi y) = B) :
    Calls Tryd.prog 27 #[.pointer (some ⟨b, 0, none⟩), .agg #[.int .i64 x, .int .i64 y]] u fun o w' => o = .returned (.int .i64 (if B = true then 0 else 7)) ∧ RC w' b (if B = true then { c with k := true, lo := c.bLo x, hi := c.bHi y, s := c.h } else c) ∧ Keeps (fun k => k = b) u w' := by
  have cS := fun w => rspan_any x y w
  rw [ho] at cS
  have cN := fun w (hw : Below u.heap.size u w) => rnow_any b c w (RC.keep hw hR) hI
  rw [hn] at cN
  have cA := fun w (hw : Below u.heap.size u w) => raged_any b c w (RC.keep hw hR) hI
  have cM := fun w => rmeet_any (c.lo - c.n) (c.hi + c.n) x y (c.bLo x) (c.bHi y) w (by show _ ∨ _; unfold Ck.bLo; rw [if_pos hk]; by_cases q : x < c.lo - c.n; exact Or.inl ⟨q, by rw [if_pos q]⟩; exact Or.inr ⟨by omega, by rw [if_neg q]⟩) (by show _ ∨ _; unfold Ck.bHi; rw [if_pos hk]; by_cases q : c.hi + c.n < y; exact Or.inl ⟨q, by rw [if_pos q]⟩; exact Or.inr ⟨by omega, by rw [if_neg q]⟩)
  rw [hB] at cM
  have HR : Hid (RC u b c) := hR
  have zb := Blk.lt hR
  clear ho hR hI hn hB
  generalize c.bLo x = bx at *
  generalize c.bHi y = bY at *
  generalize c.lo - c.n = al at *
  generalize c.hi + c.n = ah at *
  generalize c.nowLo = nl at *
  generalize c.nowHi = nh at *
  go_enter Tryd.func27, Tryd.ntmps27
  go_wp2_with (first
    | (go_at_call 43; refine (cS _).mono ?_; rintro o u2 ⟨rfl, hb⟩; have hR2 := RC.keep (rbel_on hb (rbel_al (Below.refl _ _))) HR.out; have c2 := Blk.c hR2 2 _ rfl; rw [hk] at c2; have RO : Hid (Row u2 u.heap.size [.int .i64 x, .int .i64 y]) := Row.on hb (Row.made (W := u) (vs := [.int .i64 x, .int .i64 y]) rfl); have HB : Hid (Below u.heap.size u u2) := rbel_on hb (rbel_al (Below.refl _ _)); clear hb hR2)
    | (go_at_call 29; refine (cN _ HB.out).mono ?_; rintro o u3 ⟨rfl, hb⟩; have HB3 : Hid (Below u.heap.size u u3) := rbel_on hb HB.out; have RO3 : Hid (Row u3 u.heap.size [.int .i64 x, .int .i64 y]) := Row.on hb RO.out; clear hb))
  obtain ⟨W, hW⟩ : ∃ W, W = u3.alloc (.cells #[.int .i64 nl, .int .i64 nh] 46) := ⟨_, rfl⟩
  rw [← hW]
  have PO : Row W u.heap.size [.int .i64 x, .int .i64 y] := by rw [hW]; exact Row.al RO3.out
  have hwW : Below u.heap.size u W := by rw [hW]; exact rbel_al HB3.out
  have k0 := PO.c 0 _ rfl
  have k1 := PO.c 1 _ rfl
  have zW : u.heap.size < W.heap.size := PO.lt
  have nW1 : ¬ (W.heap.size = u.heap.size) := Nat.ne_of_gt zW
  have nW2 : ¬ (u.heap.size = W.heap.size) := Nat.ne_of_lt zW
  clear hW RO RO3 HB HB3 cS cN c2
  go_cut [8, 9] from 10 to 49 (fun v8 v9 w' => ∃ X : Nat, v8 = .pointer (some ⟨X, 0, none⟩) ∧ v9 = .bool B ∧ Row w' X [.int .i64 bx, .int .i64 bY] ∧ Row w' u.heap.size [.int .i64 x, .int .i64 y] ∧ X ≠ u.heap.size ∧ Below u.heap.size u w')
  case first =>
    go_region_held (fun w' => w'.cell? ⟨u.heap.size, 0, none⟩ = some (.int .i64 x) ∧ w'.cell? ⟨u.heap.size, 1, none⟩ = some (.int .i64 y)) (go_keep) (first
      | (go_at_call 45; refine (cA _ (by first | exact rbel_dr hwW | exact rbel_dr (rbel_al hwW) | exact rbel_al (rbel_dr hwW))).mono ?_; rintro r v1 ⟨rfl, hb⟩; have POv1 : Row v1 u.heap.size [.int .i64 x, .int .i64 y] := (by first | exact Row.on hb (Row.dr PO) | exact Row.on hb (Row.dr (Row.al PO)) | exact Row.on hb (Row.al (Row.dr PO))); have hwv1 : Below u.heap.size u v1 := (by first | exact rbel_on hb (rbel_dr hwW) | exact rbel_on hb (rbel_dr (rbel_al hwW)) | exact rbel_on hb (rbel_al (rbel_dr hwW))); have l0 := POv1.c 0 _ rfl; have l1 := POv1.c 1 _ rfl; have zz1 := POv1.lt; have nz1 : ¬ (v1.heap.size = u.heap.size) := Nat.ne_of_gt zz1; have nz2 : ¬ (u.heap.size = v1.heap.size) := Nat.ne_of_lt zz1; (try (have PXv1 : Row v1 W.heap.size [.int .i64 0, .int .i64 0] := (by first | exact Row.on hb (Row.dr (Row.made rfl)) | exact Row.on hb (Row.made rfl)))); clear hb)
      | (go_at_call 44; refine (cM _).mono ?_; rintro r v2 ⟨rfl, hb⟩; have POv2 : Row v2 u.heap.size [.int .i64 x, .int .i64 y] := (by first | exact Row.on hb POv1 | exact Row.on hb (Row.al POv1)); have hwv2 : Below u.heap.size u v2 := (by first | exact rbel_on hb hwv1 | exact rbel_on hb (rbel_al hwv1)); (try (have PXv2 : Row v2 W.heap.size [.int .i64 0, .int .i64 0] := Row.on hb PXv1; have x0 := PXv2.c 0 _ rfl; have x1 := PXv2.c 1 _ rfl; have xf0 := PXv2.f 0 _ rfl; have xf1 := PXv2.f 1 _ rfl)); (try (have PYv2 : Row v2 v1.heap.size [.int .i64 0, .int .i64 0] := Row.on hb (Row.made rfl); have y0 := PYv2.c 0 _ rfl; have y1 := PYv2.c 1 _ rfl; have yf0 := PYv2.f 0 _ rfl; have yf1 := PYv2.f 1 _ rfl)); have m0 := POv2.c 0 _ rfl; have m1 := POv2.c 1 _ rfl; have zz2 := POv2.lt; have nv2 : ¬ (v2.heap.size = u.heap.size) := Nat.ne_of_gt zz2; clear hb))
    · go_wp2
      go_meet
      case rel => exact ⟨v2.heap.size, rfl, rfl, Row.made rfl, Row.al POv2, nv2, rbel_al hwv2⟩
    · go_wp2
      go_meet
      case rel => exact ⟨v1.heap.size, rfl, rfl, Row.put 1 (Row.put 0 PYv2), Row.far nz1 (Row.far nz1 POv2), nz1, rbel_put (Nat.le_of_lt zz1) (rbel_put (Nat.le_of_lt zz1) hwv2)⟩
    · go_wp2
      go_meet
      case rel => exact ⟨W.heap.size, rfl, rfl, Row.put 1 (Row.put 0 PXv2), Row.far nW1 (Row.far nW1 POv2), nW1, rbel_put (Nat.le_of_lt zW) (rbel_put (Nat.le_of_lt zW) hwv2)⟩
  case rest =>
    obtain ⟨X, rfl, rfl, hX, hO, nX, hw⟩ := hcut
    have x0 := hX.c 0 _ rfl
    have x1 := hX.c 1 _ rfl
    have o0 := hO.c 0 _ rfl
    have o1 := hO.c 1 _ rfl
    have g0 := hO.f 0 _ rfl
    have g1 := hO.f 1 _ rfl
    have hR2 := RC.keep hw HR.out
    have HR2 : Hid (RC wc b c) := hR2
    have HW : Hid (Below u.heap.size u wc) := hw
    have c1 := Blk.c hR2 1 _ rfl
    have c2 := Blk.c hR2 2 _ rfl
    have c3 := Blk.c hR2 3 _ rfl
    have c4 := Blk.c hR2 4 _ rfl
    have c5 := Blk.c hR2 5 _ rfl
    have f2 := Blk.f hR2 2
    have f3 := Blk.f hR2 3
    have f4 := Blk.f hR2 4
    have f5 := Blk.f hR2 5
    have ne : ¬ (u.heap.size = b) := by omega
    have ne2 : ¬ (b = u.heap.size) := by omega
    clear hX hO hw hR2 PO hwW k0 k1 zW nW1 nW2 cA cM
    cases B with
    | true =>
      go_wp2
      go_ret
      exact ⟨rfl, rc_learn (Blk.far ne2 (Blk.far ne2 HR2.out)), Keeps.put (S := fun k => k = b) rfl (Keeps.put (S := fun k => k = b) rfl (Keeps.put (S := fun k => k = b) rfl (Keeps.put (S := fun k => k = b) rfl (Keeps.of (rbel_put (Nat.le_refl _) (rbel_put (Nat.le_refl _) HW.out))))))⟩
    | false =>
      go_wp2
      go_ret
      exact ⟨rfl, HR2.out, Keeps.of HW.out⟩
theorem rlearn_any (b : Nat) (c : Ck) (x y : Int) (u : World) (hR : RC u b c) (hI : c.I) :
    Calls Tryd.prog 27 #[.pointer (some ⟨b, 0, none⟩), .agg #[.int .i64 x, .int .i64 y]] u fun o w' => o = .returned (.int .i64 (c.learnE x y)) ∧ RC w' b (c.learnC x y) ∧ Keeps (fun k => k = b) u w' := by
  cases ho : okB x y with
  | false =>
    have e : c.learnE x y = 1 := by unfold Ck.learnE; rw [ho]; rfl
    have ec : c.learnC x y = c := by unfold Ck.learnC; rw [if_neg (by rw [e]; decide)]
    rw [e, ec]
    refine (rlearn_out b c x y u hR ho).mono ?_
    rintro o w' ⟨rfl, hb⟩
    exact ⟨rfl, RC.keep hb hR, Keeps.of hb⟩
  | true =>
    cases hk : c.k with
    | false =>
      have e : c.learnE x y = 0 := by unfold Ck.learnE; rw [if_pos ho, hk]; rfl
      have ec : c.learnC x y = { c with k := true, lo := x, hi := y, s := c.h } := by
        unfold Ck.learnC
        rw [if_pos e]
        unfold Ck.bLo Ck.bHi
        rw [hk]
        rfl
      rw [e, ec]
      exact rlearn_new b c x y u hR ho hk
    | true =>
      by_cases hn : c.nowE = 0
      · have e : c.learnE x y = if decide (c.bLo x ≤ c.bHi y) = true then 0 else 7 := by
          unfold Ck.learnE
          rw [if_pos ho, if_pos hk, if_pos hn]
          simp only [decide_eq_true_eq]
        have ec : c.learnC x y = if decide (c.bLo x ≤ c.bHi y) = true then { c with k := true, lo := c.bLo x, hi := c.bHi y, s := c.h } else c := by
          unfold Ck.learnC
          rw [e]
          cases decide (c.bLo x ≤ c.bHi y) with
          | true => rfl
          | false => rfl
        rw [e, ec]
        exact rlearn_both b c x y _ u hR hI ho hk hn rfl
      · have e : c.learnE x y = c.nowE := by unfold Ck.learnE; rw [if_pos ho, if_pos hk, if_neg hn]
        have ec : c.learnC x y = c := by unfold Ck.learnC; rw [if_neg (by rw [e]; exact hn)]
        rw [e, ec]
        refine (rlearn_now b c x y u hR hI ho hk hn).mono ?_
        rintro o w' ⟨rfl, hb⟩
        exact ⟨rfl, RC.keep hb hR, Keeps.of hb⟩
end Go.Proofs.YthdjjjajhjmajafDoor
