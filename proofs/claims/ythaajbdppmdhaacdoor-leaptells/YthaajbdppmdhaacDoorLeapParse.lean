/- What leap.Parse answers of any text. -/
import Derived.Test.YthaajbdppmdhaacDoorLeapParseA
import Derived.Test.YthaajbdppmdhaacDoorLeapHands2
import Derived.Test.YthaajbdppmdhaacDoorDigitsMathL
import Derived.Test.YthaajbdppmdhaacDoorCivilPkg
import Derived.Deep.CutRange
namespace Go.Proofs.YthaajbdppmdhaacDoor
open Go.ChangeShapes Go.WideShapes Go.ChangeAt Go.RowKit
set_option linter.unusedVariables false
set_option linter.unusedSimpArgs false

set_option maxRecDepth 100000 in
set_option maxHeartbeats 8000000 in
theorem lparse_ok (s : ByteArray) (y m d h i sc e : Int) (w : World) (he : EnvA w) (hN : EnvN w) (hL : LShp s) (o : okD (yr (s.extract 0 10)) (mo (s.extract 0 10)) (da (s.extract 0 10)) = true)
    (hy : Hid ((okH (hr s) (mi s) (se s) = false ∧ e = 1 ∧ y = 0 ∧ m = 0 ∧ d = 0 ∧ h = 0 ∧ i = 0 ∧ sc = 0) ∨ (okH (hr s) (mi s) (se s) = true ∧ e = 0 ∧ y = yr (s.extract 0 10) ∧ m = mo (s.extract 0 10) ∧ d = da (s.extract 0 10) ∧ h = hr s ∧ i = mi s ∧ sc = se s))) :
    Calls Tryd.prog 43 #[.string s] w fun r w' => r = .returned (.tuple #[lbl y m d h i sc, errc e]) ∧ Below w.heap.size w w' := by
  have cF : ∀ u, Calls Tryd.prog 63 #[.string s, .string ⟨#[48, 48, 48, 48, 45, 48, 48, 45, 48, 48, 84, 48, 48, 58, 48, 48, 58, 48, 48]⟩] u fun e w' => e = .returned (.bool true) ∧ Below u.heap.size u w' := fun u => fits_yes s fL u (by decide) ((fits_label s).2 hL)
  obtain ⟨hs, _, _, _, sh, p, q, r⟩ := hL
  have ts : (s.extract 0 10).size = 10 := by rw [ByteArray.size_extract]; omega
  have ts2 : (s.extract 10 19).size = 9 := by rw [ByteArray.size_extract]; omega
  have cP := fun u (hu : Below w.heap.size w u) => parse_any (s.extract 0 10) _ _ _ 0 u (he.below hu) (by rw [ts]; unfold maxLen; omega) (Or.inr (Or.inr ⟨sh, o, rfl, rfl, rfl, rfl⟩))
  rw [errc_zero] at cP
  have e1 : (s.extract 10 19).extract 1 3 = s.extract 11 13 := ex_ex s 10 19 1 3 (by decide)
  have e2 : (s.extract 10 19).extract 4 6 = s.extract 14 16 := ex_ex s 10 19 4 6 (by decide)
  have e3 : (s.extract 10 19).extract 7 9 = s.extract 17 19 := ex_ex s 10 19 7 9 (by decide)
  have cR : ∀ u, Calls Tryd.prog 76 #[.string (s.extract 10 19)] u fun e w' => e = .returned (hms (hr s) (mi s) (se s)) ∧ Below u.heap.size u w' := fun u => by
    have := read_any (s.extract 10 19) u ts2 (by rw [e1]; exact p) (by rw [e2]; exact q) (by rw [e3]; exact r)
    rw [e1, e2, e3] at this
    exact this
  clear e1 e2 e3
  have cK := fun u (hu : Below w.heap.size w u) => hands_any (yr (s.extract 0 10)) (mo (s.extract 0 10)) (da (s.extract 0 10)) (hr s) (mi s) (se s) u (hN.below hu)
  have cL := fun u => label_any (yr (s.extract 0 10)) (mo (s.extract 0 10)) (da (s.extract 0 10)) (hr s) (mi s) (se s) u
  generalize yr (s.extract 0 10) = Y at *
  generalize mo (s.extract 0 10) = M at *
  generalize da (s.extract 0 10) = D at *
  generalize hr s = H at *
  generalize mi s = I at *
  generalize se s = S at *
  clear he hN sh o p q r
  go_enter Tryd.func43, Tryd.ntmps43
  go_upto_region 6 with (first | (go_at_call 63; refine (cF _).mono ?_; rintro r u ⟨rfl, hb⟩; have hw : Below w.heap.size w u := rbel_on hb (rbel_al (Below.refl _ _)); have PZ : Row u w.heap.size [.int .i64 0, .int .i64 0, .int .i64 0, .int .i64 0, .int .i64 0, .int .i64 0] := Row.on hb (Row.made rfl); have zz := PZ.lt; have a0 := PZ.c 0 _ rfl; have a1 := PZ.c 1 _ rfl; have a2 := PZ.c 2 _ rfl; have a3 := PZ.c 3 _ rfl; have a4 := PZ.c 4 _ rfl; have a5 := PZ.c 5 _ rfl; have f0 := PZ.f 0 _ rfl; have f1 := PZ.f 1 _ rfl; have f2 := PZ.f 2 _ rfl; have f3 := PZ.f 3 _ rfl; have f4 := PZ.f 4 _ rfl; have f5 := PZ.f 5 _ rfl; clear hb) | (go_at_call 26; refine (cP _ hw).mono ?_; rintro r u1 ⟨rfl, hb⟩; have hw1 : Below w.heap.size w u1 := rbel_on hb hw; have PZ1 : Row u1 w.heap.size [.int .i64 0, .int .i64 0, .int .i64 0, .int .i64 0, .int .i64 0, .int .i64 0] := Row.on hb PZ; have zz1 := PZ1.lt; have b0 := PZ1.c 0 _ rfl; have b1 := PZ1.c 1 _ rfl; have b2 := PZ1.c 2 _ rfl; have b3 := PZ1.c 3 _ rfl; have b4 := PZ1.c 4 _ rfl; have b5 := PZ1.c 5 _ rfl; have g0 := PZ1.f 0 _ rfl; have g1 := PZ1.f 1 _ rfl; have g2 := PZ1.f 2 _ rfl; have g3 := PZ1.f 3 _ rfl; have g4 := PZ1.f 4 _ rfl; have g5 := PZ1.f 5 _ rfl; clear hb))
  have PZW : Row (u1.alloc (.cells #[.int .i64 Y, .int .i64 M, .int .i64 D] 39)) w.heap.size [.int .i64 0, .int .i64 0, .int .i64 0, .int .i64 0, .int .i64 0, .int .i64 0] := Row.al PZ1
  have PDW : Row (u1.alloc (.cells #[.int .i64 Y, .int .i64 M, .int .i64 D] 39)) u1.heap.size [.int .i64 Y, .int .i64 M, .int .i64 D] := Row.made rfl
  have hwW : Below w.heap.size w (u1.alloc (.cells #[.int .i64 Y, .int .i64 M, .int .i64 D] 39)) := rbel_al hw1
  generalize u1.alloc (.cells #[.int .i64 Y, .int .i64 M, .int .i64 D] 39) = W at *
  generalize u1.heap.size = B at *
  have k0 := PDW.c 0 _ rfl
  have k1 := PDW.c 1 _ rfl
  have k2 := PDW.c 2 _ rfl
  have zW := PZW.lt
  have zB := PDW.lt
  have nB : ¬ (w.heap.size = B) := by omega
  have nW1 : ¬ (W.heap.size = B) := by omega
  have nW2 : ¬ (B = W.heap.size) := by omega
  have nW3 : ¬ (W.heap.size = w.heap.size) := by omega
  have nW4 : ¬ (w.heap.size = W.heap.size) := by omega
  clear PZ PZ1 hw hw1 zz a0 a1 a2 a3 a4 a5 f0 f1 f2 f3 f4 f5 b0 b1 b2 b3 b4 b5 g0 g1 g2 g3 g4 g5 cF cP
  go_cut [6] from 23 (fun p w' => ∃ X : Nat, p = .pointer (some ⟨X, 0, none⟩) ∧ Below w.heap.size w w' ∧ ¬ (w.heap.size = X) ∧ w.heap.size ≤ X ∧ Row w' w.heap.size [.int .i64 0, .int .i64 0, .int .i64 0, .int .i64 0, .int .i64 0, .int .i64 0] ∧ Row w' X [.int .i64 Y, .int .i64 M, .int .i64 D, .int .i64 H, .int .i64 I, .int .i64 S])
  case first =>
    go_region_held (fun w' => w'.cell? ⟨B, 0, none⟩ = some (.int .i64 Y) ∧ w'.cell? ⟨B, 1, none⟩ = some (.int .i64 M) ∧ w'.cell? ⟨B, 2, none⟩ = some (.int .i64 D)) (go_keep) (first | (go_at_call 76; refine (cR _).mono ?_; rintro r v1 ⟨rfl, hb⟩; have PZv1 : Row v1 w.heap.size [.int .i64 0, .int .i64 0, .int .i64 0, .int .i64 0, .int .i64 0, .int .i64 0] := (by first | exact Row.on hb PZW | exact Row.on hb (Row.dr PZW) | exact Row.on hb (Row.al PZW) | exact Row.on hb (Row.dr (Row.al PZW)) | exact Row.on hb (Row.al (Row.dr PZW))); have PDv1 : Row v1 B [.int .i64 Y, .int .i64 M, .int .i64 D] := (by first | exact Row.on hb PDW | exact Row.on hb (Row.dr PDW) | exact Row.on hb (Row.al PDW) | exact Row.on hb (Row.dr (Row.al PDW)) | exact Row.on hb (Row.al (Row.dr PDW))); have hwv1 : Below w.heap.size w v1 := (by first | exact rbel_on hb hwW | exact rbel_on hb (rbel_dr hwW) | exact rbel_on hb (rbel_al hwW) | exact rbel_on hb (rbel_dr (rbel_al hwW)) | exact rbel_on hb (rbel_al (rbel_dr hwW))); have l0 := PDv1.c 0 _ rfl; have l1 := PDv1.c 1 _ rfl; have l2 := PDv1.c 2 _ rfl; have zb1 := PDv1.lt; have zz1 := PZv1.lt; have nb1 : ¬ (v1.heap.size = B) := Nat.ne_of_gt zb1; have nb2 : ¬ (B = v1.heap.size) := Nat.ne_of_lt zb1; have nz1 : ¬ (v1.heap.size = w.heap.size) := Nat.ne_of_gt zz1; have nz2 : ¬ (w.heap.size = v1.heap.size) := Nat.ne_of_lt zz1; (try (have PXv1 : Row v1 W.heap.size [.int .i64 0, .int .i64 0, .int .i64 0, .int .i64 0, .int .i64 0, .int .i64 0] := (by first | exact Row.on hb (Row.dr (Row.made rfl)) | exact Row.on hb (Row.made rfl)); have xc0 := PXv1.c 0 _ rfl; have xf0 := PXv1.f 0 _ rfl; have xc1 := PXv1.c 1 _ rfl; have xf1 := PXv1.f 1 _ rfl; have xc2 := PXv1.c 2 _ rfl; have xf2 := PXv1.f 2 _ rfl; have xc3 := PXv1.c 3 _ rfl; have xf3 := PXv1.f 3 _ rfl; have xc4 := PXv1.c 4 _ rfl; have xf4 := PXv1.f 4 _ rfl; have xc5 := PXv1.c 5 _ rfl; have xf5 := PXv1.f 5 _ rfl))) | (go_at_call 73; refine (cL _).mono ?_; rintro r v2 ⟨rfl, hg⟩; have hb := hg.below; have PZv2 : Row v2 w.heap.size [.int .i64 0, .int .i64 0, .int .i64 0, .int .i64 0, .int .i64 0, .int .i64 0] := (by first | exact Row.on hb PZv1 | exact Row.on hb (Row.dr PZv1) | exact Row.on hb (Row.al PZv1) | exact Row.on hb (Row.dr (Row.al PZv1)) | exact Row.on hb (Row.al (Row.dr PZv1))); have PDv2 : Row v2 B [.int .i64 Y, .int .i64 M, .int .i64 D] := (by first | exact Row.on hb PDv1 | exact Row.on hb (Row.dr PDv1) | exact Row.on hb (Row.al PDv1) | exact Row.on hb (Row.dr (Row.al PDv1)) | exact Row.on hb (Row.al (Row.dr PDv1))); have hwv2 : Below w.heap.size w v2 := (by first | exact rbel_on hb hwv1 | exact rbel_on hb (rbel_dr hwv1) | exact rbel_on hb (rbel_al hwv1) | exact rbel_on hb (rbel_dr (rbel_al hwv1)) | exact rbel_on hb (rbel_al (rbel_dr hwv1))); have m0 := PDv2.c 0 _ rfl; have m1 := PDv2.c 1 _ rfl; have m2 := PDv2.c 2 _ rfl; (try (have PXv2 : Row v2 W.heap.size [.int .i64 0, .int .i64 0, .int .i64 0, .int .i64 0, .int .i64 0, .int .i64 0] := Row.on hb PXv1; have yc0 := PXv2.c 0 _ rfl; have yf0 := PXv2.f 0 _ rfl; have yc1 := PXv2.c 1 _ rfl; have yf1 := PXv2.f 1 _ rfl; have yc2 := PXv2.c 2 _ rfl; have yf2 := PXv2.f 2 _ rfl; have yc3 := PXv2.c 3 _ rfl; have yf3 := PXv2.f 3 _ rfl; have yc4 := PXv2.c 4 _ rfl; have yf4 := PXv2.f 4 _ rfl; have yc5 := PXv2.c 5 _ rfl; have yf5 := PXv2.f 5 _ rfl)); (try (have PYv2 : Row v2 v1.heap.size [.int .i64 0, .int .i64 0, .int .i64 0, .int .i64 0, .int .i64 0, .int .i64 0] := (by first | exact Row.on hb (Row.dr (Row.made rfl)) | exact Row.on hb (Row.made rfl)); have zc0 := PYv2.c 0 _ rfl; have zf0 := PYv2.f 0 _ rfl; have zc1 := PYv2.c 1 _ rfl; have zf1 := PYv2.f 1 _ rfl; have zc2 := PYv2.c 2 _ rfl; have zf2 := PYv2.f 2 _ rfl; have zc3 := PYv2.c 3 _ rfl; have zf3 := PYv2.f 3 _ rfl; have zc4 := PYv2.c 4 _ rfl; have zf4 := PYv2.f 4 _ rfl; have zc5 := PYv2.c 5 _ rfl; have zf5 := PYv2.f 5 _ rfl))))
    · go_wp2
      go_meet
      case rel => exact ⟨v2.heap.size, rfl, rbel_al hwv2, Nat.ne_of_lt PZv2.lt, Nat.le_of_lt PZv2.lt, Row.al PZv2, Row.made rfl⟩
    · go_wp2
      go_meet
      case rel => exact ⟨v1.heap.size, rfl, rbel_put (Nat.le_of_lt zz1) (rbel_put (Nat.le_of_lt zz1) (rbel_put (Nat.le_of_lt zz1) (rbel_put (Nat.le_of_lt zz1) (rbel_put (Nat.le_of_lt zz1) (rbel_put (Nat.le_of_lt zz1) hwv2))))), nz2, Nat.le_of_lt zz1, Row.far nz1 (Row.far nz1 (Row.far nz1 (Row.far nz1 (Row.far nz1 (Row.far nz1 PZv2))))), Row.put 5 (Row.put 4 (Row.put 3 (Row.put 2 (Row.put 1 (Row.put 0 PYv2)))))⟩
    · go_wp2
      go_meet
      case rel => exact ⟨W.heap.size, rfl, rbel_put (Nat.le_of_lt zW) (rbel_put (Nat.le_of_lt zW) (rbel_put (Nat.le_of_lt zW) (rbel_put (Nat.le_of_lt zW) (rbel_put (Nat.le_of_lt zW) (rbel_put (Nat.le_of_lt zW) hwv2))))), nW4, Nat.le_of_lt zW, Row.far nW3 (Row.far nW3 (Row.far nW3 (Row.far nW3 (Row.far nW3 (Row.far nW3 PZv2))))), Row.put 5 (Row.put 4 (Row.put 3 (Row.put 2 (Row.put 1 (Row.put 0 PXv2)))))⟩
  case rest =>
    clear PZW PDW hwW k0 k1 k2 zW zB nB nW1 nW2 nW3 nW4 cR cL
    obtain ⟨X, rfl, hwc, nX, lX, PZc, PXc⟩ := hcut
    have nX2 : ¬ (X = w.heap.size) := fun z => nX z.symm
    have px0 := PXc.c 0 _ rfl; have px1 := PXc.c 1 _ rfl; have px2 := PXc.c 2 _ rfl; have px3 := PXc.c 3 _ rfl; have px4 := PXc.c 4 _ rfl; have px5 := PXc.c 5 _ rfl; have pz0 := PZc.c 0 _ rfl; have pz1 := PZc.c 1 _ rfl; have pz2 := PZc.c 2 _ rfl; have pz3 := PZc.c 3 _ rfl; have pz4 := PZc.c 4 _ rfl; have pz5 := PZc.c 5 _ rfl; have pf0 := PZc.f 0 _ rfl; have pf1 := PZc.f 1 _ rfl; have pf2 := PZc.f 2 _ rfl; have pf3 := PZc.f 3 _ rfl; have pf4 := PZc.f 4 _ rfl; have pf5 := PZc.f 5 _ rfl
    rcases hy.out with ⟨o2, rfl, rfl, rfl, rfl, rfl, rfl, rfl⟩ | ⟨o2, rfl, rfl, rfl, rfl, rfl, rfl, rfl⟩
    · rw [eH_no o2, errc_not (by decide)] at cK
      clear o2 hy
      go_wp2_with (go_at_call 67; refine (cK _ hwc).mono ?_; rintro r v3 ⟨rfl, hb⟩; have hw3 : Below w.heap.size w v3 := rbel_on hb hwc; have QZ := Row.on hb PZc; have QX := Row.on hb PXc; have qz0 := QZ.c 0 _ rfl; have qz1 := QZ.c 1 _ rfl; have qz2 := QZ.c 2 _ rfl; have qz3 := QZ.c 3 _ rfl; have qz4 := QZ.c 4 _ rfl; have qz5 := QZ.c 5 _ rfl; have qf0 := QZ.f 0 _ rfl; have qf1 := QZ.f 1 _ rfl; have qf2 := QZ.f 2 _ rfl; have qf3 := QZ.f 3 _ rfl; have qf4 := QZ.f 4 _ rfl; have qf5 := QZ.f 5 _ rfl; have qx0 := QX.c 0 _ rfl; have qx1 := QX.c 1 _ rfl; have qx2 := QX.c 2 _ rfl; have qx3 := QX.c 3 _ rfl; have qx4 := QX.c 4 _ rfl; have qx5 := QX.c 5 _ rfl; clear hb)
      exact bodyPost_ret (v := .tuple #[lbl 0 0 0 0 0 0, .iface 81 (.int .i64 1)]) (by simp [results, Tryd.results43, go_sem, *]) rfl ⟨rfl, rbel_put (Nat.le_refl _) (rbel_put (Nat.le_refl _) (rbel_put (Nat.le_refl _) (rbel_put (Nat.le_refl _) (rbel_put (Nat.le_refl _) (rbel_put (Nat.le_refl _) hw3)))))⟩
    · rw [eH_ok o2, errc_zero] at cK
      clear o2 hy
      go_wp2_with (go_at_call 67; refine (cK _ hwc).mono ?_; rintro r v3 ⟨rfl, hb⟩; have hw3 : Below w.heap.size w v3 := rbel_on hb hwc; have QZ := Row.on hb PZc; have QX := Row.on hb PXc; have qz0 := QZ.c 0 _ rfl; have qz1 := QZ.c 1 _ rfl; have qz2 := QZ.c 2 _ rfl; have qz3 := QZ.c 3 _ rfl; have qz4 := QZ.c 4 _ rfl; have qz5 := QZ.c 5 _ rfl; have qf0 := QZ.f 0 _ rfl; have qf1 := QZ.f 1 _ rfl; have qf2 := QZ.f 2 _ rfl; have qf3 := QZ.f 3 _ rfl; have qf4 := QZ.f 4 _ rfl; have qf5 := QZ.f 5 _ rfl; have qx0 := QX.c 0 _ rfl; have qx1 := QX.c 1 _ rfl; have qx2 := QX.c 2 _ rfl; have qx3 := QX.c 3 _ rfl; have qx4 := QX.c 4 _ rfl; have qx5 := QX.c 5 _ rfl; clear hb)
      exact bodyPost_ret (v := .tuple #[lbl y m d h i sc, .nilIface]) (by simp [results, Tryd.results43, go_sem, *]) rfl ⟨rfl, rbel_put (Nat.le_refl _) (rbel_put (Nat.le_refl _) (rbel_put (Nat.le_refl _) (rbel_put (Nat.le_refl _) (rbel_put (Nat.le_refl _) (rbel_put (Nat.le_refl _) hw3)))))⟩
theorem lparse_any (t : ByteArray) (y m d h i s e : Int) (w : World) (he : EnvA w) (hN : EnvN w) (hm : t.size ≤ maxLen) (hR : RL t y m d h i s e) :
    Calls Tryd.prog 43 #[.string t] w fun r w' => r = .returned (.tuple #[lbl y m d h i s, errc e]) ∧ Below w.heap.size w w' := by
  rcases hR with ⟨no, rfl, rfl, rfl, rfl, rfl, rfl, rfl⟩ | ⟨sh, o, rfl, rfl, rfl, rfl, rfl, rfl, rfl⟩ | ⟨sh, o, he', hy, hm', hd, hh, hi, hs⟩
  · rw [errc_not (by decide)]
    exact lparse_syn t w hm no
  · cases o1 : okD (yr (t.extract 0 10)) (mo (t.extract 0 10)) (da (t.extract 0 10)) with
    | false =>
      rw [errc_not (by decide)]
      exact lparse_date t w he sh o1
    | true =>
      unfold okT at o
      rw [o1, Bool.true_and] at o
      exact lparse_ok t 0 0 0 0 0 0 1 w he hN sh o1 (Or.inl ⟨o, rfl, rfl, rfl, rfl, rfl, rfl, rfl⟩ : _ ∨ _)
  · unfold okT at o
    obtain ⟨o1, o2⟩ : okD (yr (t.extract 0 10)) (mo (t.extract 0 10)) (da (t.extract 0 10)) = true ∧ okH (hr t) (mi t) (se t) = true := by simpa using o
    exact lparse_ok t y m d h i s e w he hN sh o1 (Or.inr ⟨o2, he', hy, hm', hd, hh, hi, hs⟩ : _ ∨ _)
end Go.Proofs.YthaajbdppmdhaacDoor
