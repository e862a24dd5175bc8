/- What package span's Turn and Add answer, and by them package tree's spanBehind. -/
import Derived.Test.YthejaecljkjliaiGreatDoorNm15
import Derived.Test.YthejaecljkjliaiGreatDoorNm16
namespace Go.Proofs.YthejaecljkjliaiGreatDoor
open Go.ChangeShapes Go.WideShapes Go.ChangeAt Go.RowKit Go.Joins
set_option linter.unusedVariables false
set_option linter.unusedSimpArgs false

set_option maxHeartbeats 4000000 in
theorem turnT (a b : Int) (w : World) (h : okB a b = true) :
    Calls Tryz.prog 80 #[.agg #[.int .i64 a, .int .i64 b]] w fun e w' => e = .returned (.tuple #[.agg #[.int .i64 (-b), .int .i64 (-a)], .nilIface]) ∧ Below w.heap.size w w' := by
  obtain ⟨q1, q2, q3⟩ := okB_t h
  have cC := fun u => check_ok a b u h
  clear h
  go_enter Tryz.func80, Tryz.ntmps80
  go_wp2_with (go_at_call 46; refine (cC _).mono ?_; rintro e u0 ⟨rfl, hb⟩; have HB : Hid _ := hb; have r1 := Row.on hb (Row.al (Row.made (W := w) (vs := [.int .i64 a, .int .i64 b]) rfl)); have r2 := Row.on hb (Row.made (b := w.heap.size + 1) (vs := [.int .i64 0, .int .i64 0]) (by simp)); have a0 := r1.c 0 _ rfl; have a1 := r1.c 1 _ rfl; have b0 := r2.c 0 _ rfl; have b1 := r2.c 1 _ rfl; have f0 := r2.f 0 _ rfl; have f1 := r2.f 1 _ rfl; clear hb r1 r2)
  exact bodyPost_ret (v := .tuple #[.agg #[.int .i64 (-b), .int .i64 (-a)], .nilIface]) (by simp [results, Tryz.results80, go_sem, *]) rfl ⟨rfl, rbel_put (by simp) (rbel_put (by simp) (rbel_on HB.out (rbel_al (rbel_al (Below.refl _ _)))))⟩
/-- A sum, told or refused. -/
def SmT (s1 s2 X Y e : Int) : Prop := (okB s1 s2 = true ∧ X = s1 ∧ Y = s2 ∧ e = 0) ∨ (okB s1 s2 = false ∧ X = 0 ∧ Y = 0 ∧ e = 1)
theorem smT_some (s1 s2 : Int) : ∃ X Y e, SmT s1 s2 X Y e := by
  cases h : okB s1 s2 with
  | true => exact ⟨s1, s2, 0, Or.inl ⟨h, rfl, rfl, rfl⟩⟩
  | false => exact ⟨0, 0, 1, Or.inr ⟨h, rfl, rfl, rfl⟩⟩
theorem addT_any (a b c d X Y e : Int) (w : World) (h1 : okB a b = true) (h2 : okB c d = true) (h : SmT (a + c) (b + d) X Y e) :
    Calls Tryz.prog 79 #[.agg #[.int .i64 a, .int .i64 b], .agg #[.int .i64 c, .int .i64 d]] w fun o w' => o = .returned (.tuple #[.agg #[.int .i64 X, .int .i64 Y], errc e]) ∧ Below w.heap.size w w' := by
  rcases h with ⟨h3, rfl, rfl, rfl⟩ | ⟨h3, rfl, rfl, rfl⟩
  · rw [errc_zero]; exact add_ok a b c d w h1 h2 h3
  · rw [errc_not (by decide)]; exact add_out a b c d w h1 h2 h3
set_option maxRecDepth 100000 in
set_option maxHeartbeats 8000000 in
theorem behind_to (n A B : Nat) (lo hi : Int) (gs cap : Nat) (W : Nat → Int × Int) (X Y e : Int) (w : World) (hA : A < n) (hS : Blk w 38 gs (spR W n)) (o1 : okB (W A).1 (W A).2 = true) (o2 : okB lo hi = true) (h : SmT ((W A).1 + lo) ((W A).2 + hi) X Y e) :
    Calls Tryz.prog 45 #[.agg #[.int .i64 A, .int .i64 B, .int .i64 lo, .int .i64 hi], .int .i64 B, .slice (some ⟨gs, 0, none⟩) n cap] w fun o w' => o = .returned (.tuple #[.agg #[.int .i64 X, .int .i64 Y], errc e]) ∧ Below w.heap.size w w' := by
  have cA := fun u => addT_any (W A).1 (W A).2 lo hi X Y e u o1 o2 h
  have c0 := hS.c _ _ (spR_lo W n A hA)
  have c1 := hS.c _ _ (spR_hi W n A hA)
  have hA3 : (A : Int) < n := by omega
  have z := hS.lt
  clear hS o1 o2 h
  generalize (W A).1 = wl at *
  generalize (W A).2 = wh at *
  generalize errc e = ev at *
  go_enter Tryz.func45, Tryz.ntmps45
  go_wp2
  go_region_with (go_at_call 79; refine (cA _).mono ?_; rintro e u0 ⟨rfl, hb⟩; have HB : Hid _ := hb; have r2 := Row.on hb (Row.dr (Row.made (b := w.heap.size + 1) (W := w.alloc _) (vs := [.int .i64 0, .int .i64 0]) (by simp))); have b0 := r2.c 0 _ rfl; have b1 := r2.c 1 _ rfl; have f0 := r2.f 0 _ rfl; have f1 := r2.f 1 _ rfl; clear hb r2)
  all_goals
    simp [Act.put]
    go_wp2
    exact bodyPost_ret (v := .tuple #[.agg #[.int .i64 X, .int .i64 Y], ev]) (by simp [results, Tryz.results45, go_sem, *]) rfl ⟨rfl, rbel_put (by omega) (rbel_put (by omega) (rbel_on HB.out (rbel_dr (rbel_al (rbel_al (Below.refl _ _))))))⟩
set_option maxRecDepth 100000 in
set_option maxHeartbeats 8000000 in
theorem behind_from (n A B : Nat) (lo hi : Int) (gs cap : Nat) (W : Nat → Int × Int) (X Y e : Int) (w : World) (nab : ¬ A = B) (hB : B < n) (hS : Blk w 38 gs (spR W n)) (o1 : okB (W B).1 (W B).2 = true) (o2 : okB lo hi = true) (h : SmT ((W B).1 + -hi) ((W B).2 + -lo) X Y e) :
    Calls Tryz.prog 45 #[.agg #[.int .i64 A, .int .i64 B, .int .i64 lo, .int .i64 hi], .int .i64 A, .slice (some ⟨gs, 0, none⟩) n cap] w fun o w' => o = .returned (.tuple #[.agg #[.int .i64 X, .int .i64 Y], errc e]) ∧ Below w.heap.size w w' := by
  have o3 : okB (-hi) (-lo) = true := by have := okB_t o2; unfold okB; simp; omega
  have cA := fun u => addT_any (W B).1 (W B).2 (-hi) (-lo) X Y e u o1 o3 h
  have cT := fun u => turnT lo hi u o2
  have HS : Hid (Blk w 38 gs (spR W n)) := hS
  have hB3 : (B : Int) < n := by omega
  have d1 : ((A : Int) == (B : Int)) = false := by simp; omega
  have z := hS.lt
  clear hS o1 o2 o3 h nab
  have eL : Hid (spR_lo W n B hB = spR_lo W n B hB) := rfl
  obtain ⟨wl, hwl⟩ : ∃ x, x = (W B).1 := ⟨_, rfl⟩
  obtain ⟨wh, hwh⟩ : ∃ x, x = (W B).2 := ⟨_, rfl⟩
  have SL : Hid ((spR W n)[B * 2]? = some (.int .i64 wl)) := by show _ = _; rw [hwl]; exact spR_lo W n B hB
  have SH : Hid ((spR W n)[B * 2 + 1]? = some (.int .i64 wh)) := by show _ = _; rw [hwh]; exact spR_hi W n B hB
  rw [← hwl, ← hwh] at cA
  clear hwl hwh eL
  generalize errc e = ev at *
  go_enter Tryz.func45, Tryz.ntmps45
  go_wp2_with (go_at_call 80; refine (cT _).mono ?_; rintro e u0 ⟨rfl, hb⟩; have zz := hb.size; simp at zz; have z0 : w.heap.size < u0.heap.size := (by omega); have z1 : w.heap.size + 1 < u0.heap.size := (by omega); have z2 : gs < u0.heap.size := (by omega); have hS := HS.out.on (rbel_on hb (rbel_al (rbel_al (Below.refl _ _)))); have c0 := hS.c _ _ SL.out; have c1 := hS.c _ _ SH.out; have r1 := Row.on hb (Row.al (Row.made (b := w.heap.size) (W := w) (vs := [.int .i64 A, .int .i64 B, .int .i64 lo, .int .i64 hi]) rfl)); have e1 := r1.c 1 _ rfl; have R2 : Hid (Row u0 (w.heap.size + 1) [.int .i64 0, .int .i64 0]) := Row.on hb (Row.made (b := w.heap.size + 1) (W := w.alloc _) (vs := [.int .i64 0, .int .i64 0]) (by simp)); have HB : Hid (Below w.heap.size w u0) := rbel_on hb (rbel_al (rbel_al (Below.refl _ _))); clear hb hS r1 zz)
  go_region_with (go_at_call 79; refine (cA _).mono ?_; rintro e u1 ⟨rfl, hb⟩; have HB1 : Hid _ := hb; have r2 := Row.on hb (Row.dr (Row.al R2.out)); have b0 := r2.c 0 _ rfl; have b1 := r2.c 1 _ rfl; have f0 := r2.f 0 _ rfl; have f1 := r2.f 1 _ rfl; clear hb r2)
  all_goals
    simp [Act.put]
    go_wp2
    exact bodyPost_ret (v := .tuple #[.agg #[.int .i64 X, .int .i64 Y], ev]) (by simp [results, Tryz.results45, go_sem, *]) rfl ⟨rfl, rbel_put (by omega) (rbel_put (by omega) (rbel_on HB1.out (rbel_dr (rbel_al HB.out))))⟩
end Go.Proofs.YthejaecljkjliaiGreatDoor
