/- What the document's own net (package noonref2) answers: Do, where a letter comes. -/
import Derived.Test.YtnagdjipmpjaaaiGreatDoorNm31
import Derived.Test.YtnagdjipmpjaaaiGreatDoorNm23
import Derived.Lib.SmallJoins
import Derived.Deep.RegionHeld
import Derived.Deep.QuietTactic
import Derived.BigQuiet
import Derived.BigRegion
namespace Go.Proofs.YtnagdjipmpjaaaiGreatDoor
open Go.ChangeShapes Go.WideShapes Go.ChangeAt Go.RowKit Go.Joins
set_option linter.unusedVariables false
set_option linter.unusedSimpArgs false

set_option maxRecDepth 100000 in
set_option maxHeartbeats 8000000 in
theorem rndo_ans {w u : World} {mb sc rc lb lc : Nat} {sa ra : Option Addr} {N : Nn} {v : Value} {nb : Nat → Nat} {wh x y : Int} (hR : RNt w u mb sa sc ra rc N v lb lc nb) (hT : N.T) (S' : Ws) (a j : Nat) (q4 q5 q6 : Int) (hD : DoR N.W wh x y S' (some ⟨a, j, true, q4, q5, q6⟩) 0) (hj : j < N.W.n) (c' : Nd) (hH : HearR (N.nd j) ⟨a, j, true, q4, q5, q6⟩ (S'.rd j) c' true 0) :
    Calls Tryz.prog 10 #[.pointer (some ⟨mb, 0, none⟩), .agg #[.int .i64 wh, .int .i64 x, .int .i64 y]] u fun o w' => ∃ v', o = .returned (.int .i64 0) ∧ RNt w w' mb sa sc ra rc ⟨S', N.p, updN N.nd j c'⟩ v' lb lc nb ∧ KpN u w' mb v v' nb N.W.n := by
  have HR : Hid (RNt w u mb sa sc ra rc N v lb lc nb) := hR
  have zb := hR.m.r.lt
  have NM : Hid (u.heap.size ≠ mb) := (by show u.heap.size ≠ mb; omega)
  have NM1 : Hid (u.heap.size + 1 ≠ mb) := (by show u.heap.size + 1 ≠ mb; omega)
  have NO : Hid (v.ownBlock ≠ some u.heap.size) := fun e => by have := (hR.m.o.lt _ e).2; omega
  have NO1 : Hid (v.ownBlock ≠ some (u.heap.size + 1)) := fun e => by have := (hR.m.o.lt _ e).2; omega
  have HSN : Hid (S'.n = N.W.n) := hD.same.1
  have cD := fun (W : World) (hB : Below u.heap.size u W) => rdo_is (hR.on hB).m hT.g.i hD
  have SI : Hid S'.I := hD.i hT.g.i
  have NI : Hid (N.nd j).I := (hT.kn j hj).i hT.g hj
  have HJ : Hid (j < N.W.n) := hj
  have hji : (j : Int) < N.W.n := by omega
  have HH : Hid (HearR (N.nd j) ⟨a, j, true, q4, q5, q6⟩ (S'.rd j) c' true 0) := hH
  simp only [ltv, Option.getD_some, Option.isSome_some] at cD
  clear hR hT hD hH hj
  go_enter Tryz.func10, Tryz.ntmps10
  go_wp2
  go_region_held (fun w' => w'.cell? ⟨u.heap.size, 0, none⟩ = some (.int .i64 wh) ∧ w'.cell? ⟨u.heap.size, 1, none⟩ = some (.int .i64 x) ∧ w'.cell? ⟨u.heap.size, 2, none⟩ = some (.int .i64 y)) (go_keep) (first
    | (go_at_call 31; first
      | (refine (cD _ (rbel_dr (rbel_al (rbel_al (Below.refl _ _))))).mono ?_; rintro o u1 ⟨v1, rfl, hr, hk⟩; have HB1 : Hid (Below u.heap.size u (((u.alloc (.cells #[.int .i64 wh, .int .i64 x, .int .i64 y] 35)).alloc (.cells #[.int .i64 0, .int .i64 0, .bool false, .int .i64 0, .int .i64 0, .int .i64 0] 98)).drew)) := rbel_dr (rbel_al (rbel_al (Below.refl _ _))); have HK : Hid (Kp (((u.alloc (.cells #[.int .i64 wh, .int .i64 x, .int .i64 y] 35)).alloc (.cells #[.int .i64 0, .int .i64 0, .bool false, .int .i64 0, .int .i64 0, .int .i64 0] 98)).drew) u1 mb v v1) := hk; have HW : Hid (RW [.slice (some ⟨lb, 0, none⟩) N.W.n lc] w u1 mb sa sc ra rc S' v1) := hr; have RJ : Hid (Row u1 u.heap.size [.int .i64 wh, .int .i64 x, .int .i64 y]) := hk.1.row (fun e => e.elim NM.out NO.out) (Row.dr (Row.al (Row.made (W := u) rfl))); have RT1 : Hid (Row u1 (u.heap.size + 1) [.int .i64 0, .int .i64 0, .bool false, .int .i64 0, .int .i64 0, .int .i64 0]) := hk.1.row (fun e => e.elim NM1.out NO1.out) (Row.dr (Row.made (W := (u.alloc (.cells #[.int .i64 wh, .int .i64 x, .int .i64 y] 35))) (b := u.heap.size + 1) (by simp))); have RT0 : Hid (Row (((u.alloc (.cells #[.int .i64 wh, .int .i64 x, .int .i64 y] 35)).alloc (.cells #[.int .i64 0, .int .i64 0, .bool false, .int .i64 0, .int .i64 0, .int .i64 0] 98)).drew) (u.heap.size + 1) [.int .i64 0, .int .i64 0, .bool false, .int .i64 0, .int .i64 0, .int .i64 0]) := Row.dr (Row.made (W := (u.alloc (.cells #[.int .i64 wh, .int .i64 x, .int .i64 y] 35))) (b := u.heap.size + 1) (by simp)); have t0 := RT1.out.c 0 _ rfl; have g0 := RT1.out.f 0 _ rfl; have t1 := RT1.out.c 1 _ rfl; have g1 := RT1.out.f 1 _ rfl; have t2 := RT1.out.c 2 _ rfl; have g2 := RT1.out.f 2 _ rfl; have t3 := RT1.out.c 3 _ rfl; have g3 := RT1.out.f 3 _ rfl; have t4 := RT1.out.c 4 _ rfl; have g4 := RT1.out.f 4 _ rfl; have t5 := RT1.out.c 5 _ rfl; have g5 := RT1.out.f 5 _ rfl; have j0 := RJ.out.c 0 _ rfl; have j1 := RJ.out.c 1 _ rfl; have j2 := RJ.out.c 2 _ rfl; have lx1 : u.heap.size < u1.heap.size := RJ.out.lt; clear hr hk)
      | (refine (cD _ (rbel_al (rbel_dr (rbel_al (Below.refl _ _))))).mono ?_; rintro o u1 ⟨v1, rfl, hr, hk⟩; have HB1 : Hid (Below u.heap.size u ((u.alloc (.cells #[.int .i64 wh, .int .i64 x, .int .i64 y] 35)).drew.alloc (.cells #[.int .i64 0, .int .i64 0, .bool false, .int .i64 0, .int .i64 0, .int .i64 0] 98))) := rbel_al (rbel_dr (rbel_al (Below.refl _ _))); have HK : Hid (Kp ((u.alloc (.cells #[.int .i64 wh, .int .i64 x, .int .i64 y] 35)).drew.alloc (.cells #[.int .i64 0, .int .i64 0, .bool false, .int .i64 0, .int .i64 0, .int .i64 0] 98)) u1 mb v v1) := hk; have HW : Hid (RW [.slice (some ⟨lb, 0, none⟩) N.W.n lc] w u1 mb sa sc ra rc S' v1) := hr; have RJ : Hid (Row u1 u.heap.size [.int .i64 wh, .int .i64 x, .int .i64 y]) := hk.1.row (fun e => e.elim NM.out NO.out) (Row.al (Row.dr (Row.made (W := u) rfl))); have RT1 : Hid (Row u1 (u.heap.size + 1) [.int .i64 0, .int .i64 0, .bool false, .int .i64 0, .int .i64 0, .int .i64 0]) := hk.1.row (fun e => e.elim NM1.out NO1.out) (Row.made (W := (u.alloc (.cells #[.int .i64 wh, .int .i64 x, .int .i64 y] 35)).drew) (b := u.heap.size + 1) (by simp)); have RT0 : Hid (Row ((u.alloc (.cells #[.int .i64 wh, .int .i64 x, .int .i64 y] 35)).drew.alloc (.cells #[.int .i64 0, .int .i64 0, .bool false, .int .i64 0, .int .i64 0, .int .i64 0] 98)) (u.heap.size + 1) [.int .i64 0, .int .i64 0, .bool false, .int .i64 0, .int .i64 0, .int .i64 0]) := Row.made (W := (u.alloc (.cells #[.int .i64 wh, .int .i64 x, .int .i64 y] 35)).drew) (b := u.heap.size + 1) (by simp); have t0 := RT1.out.c 0 _ rfl; have g0 := RT1.out.f 0 _ rfl; have t1 := RT1.out.c 1 _ rfl; have g1 := RT1.out.f 1 _ rfl; have t2 := RT1.out.c 2 _ rfl; have g2 := RT1.out.f 2 _ rfl; have t3 := RT1.out.c 3 _ rfl; have g3 := RT1.out.f 3 _ rfl; have t4 := RT1.out.c 4 _ rfl; have g4 := RT1.out.f 4 _ rfl; have t5 := RT1.out.c 5 _ rfl; have g5 := RT1.out.f 5 _ rfl; have j0 := RJ.out.c 0 _ rfl; have j1 := RJ.out.c 1 _ rfl; have j2 := RJ.out.c 2 _ rfl; have lx1 : u.heap.size < u1.heap.size := RJ.out.lt; clear hr hk)
      | (refine (cD _ (rbel_dr (rbel_al (Below.refl _ _)))).mono ?_; rintro o u1 ⟨v1, rfl, hr, hk⟩; have HB1 : Hid (Below u.heap.size u ((u.alloc (.cells #[.int .i64 wh, .int .i64 x, .int .i64 y] 35)).drew)) := rbel_dr (rbel_al (Below.refl _ _)); have HK : Hid (Kp ((u.alloc (.cells #[.int .i64 wh, .int .i64 x, .int .i64 y] 35)).drew) u1 mb v v1) := hk; have HW : Hid (RW [.slice (some ⟨lb, 0, none⟩) N.W.n lc] w u1 mb sa sc ra rc S' v1) := hr; have RJ : Hid (Row u1 u.heap.size [.int .i64 wh, .int .i64 x, .int .i64 y]) := hk.1.row (fun e => e.elim NM.out NO.out) (Row.dr (Row.made (W := u) rfl)); have j0 := RJ.out.c 0 _ rfl; have j1 := RJ.out.c 1 _ rfl; have j2 := RJ.out.c 2 _ rfl; have lx1 : u.heap.size < u1.heap.size := RJ.out.lt; clear hr hk)))
  all_goals
    first
      | (have q := RT1.out
         have LY : Hid (Lay w u (six u1 (u.heap.size + 1) (.int .i64 (a : Int)) (.int .i64 (j : Int)) (.bool true) (.int .i64 q4) (.int .i64 q5) (.int .i64 q6)) mb sa sc ra rc ⟨S', N.p, N.nd⟩ v v1 lb lc nb (u.heap.size + 1) [.int .i64 (a : Int), .int .i64 (j : Int), .bool true, .int .i64 q4, .int .i64 q5, .int .i64 q6]) := lay_a HR.out HB1.out (by omega) RT0.out HSN.out HW.out HK.out
         unfold six at LY
         clear q RT1 RT0 t0 t1 t2 t3 t4 t5 g0 g1 g2 g3 g4 g5 j0 j1 j2 lx1 HB1 HK HW RJ
         generalize (((((u1.setCell ⟨u.heap.size + 1, 0, none⟩ (.int .i64 (a : Int))).setCell ⟨u.heap.size + 1, 1, none⟩ (.int .i64 (j : Int))).setCell ⟨u.heap.size + 1, 2, none⟩ (.bool true)).setCell ⟨u.heap.size + 1, 3, none⟩ (.int .i64 q4)).setCell ⟨u.heap.size + 1, 4, none⟩ (.int .i64 q5)).setCell ⟨u.heap.size + 1, 5, none⟩ (.int .i64 q6) = X at *
         generalize u.heap.size + 1 = V at *)
      | (have LY : Hid (Lay w u (u1.alloc (.cells #[.int .i64 (a : Int), .int .i64 (j : Int), .bool true, .int .i64 q4, .int .i64 q5, .int .i64 q6] 98)) mb sa sc ra rc ⟨S', N.p, N.nd⟩ v v1 lb lc nb u1.heap.size [.int .i64 (a : Int), .int .i64 (j : Int), .bool true, .int .i64 q4, .int .i64 q5, .int .i64 q6]) := lay_b HR.out HB1.out HSN.out HW.out HK.out _
         clear j0 j1 j2 lx1 HB1 HK HW RJ
         generalize u1.alloc (.cells #[.int .i64 (a : Int), .int .i64 (j : Int), .bool true, .int .i64 q4, .int .i64 q5, .int .i64 q6] 98) = X at *
         generalize u1.heap.size = V at *)
  all_goals
    have kk : Hid (KpN u X mb v v1 nb N.W.n) := (by show KpN u X mb v v1 nb N.W.n; rw [← HSN.out]; exact LY.out.k)
    have G : Hid (RNt w X mb sa sc ra rc ⟨S', N.p, N.nd⟩ v1 lb lc nb) := LY.out.r
    have RV : Hid (Row X V [.int .i64 (a : Int), .int .i64 (j : Int), .bool true, .int .i64 q4, .int .i64 q5, .int .i64 q6]) := LY.out.row
    have NF : Hid (¬ FrN mb v1 lb nb N.W.n V) := (by show ¬ FrN mb v1 lb nb N.W.n V; rw [← HSN.out]; exact LY.out.nf)
    clear LY
    have vc0 := RV.out.c 0 _ rfl
    have vc1 := RV.out.c 1 _ rfl
    have vc2 := RV.out.c 2 _ rfl
    have vc3 := RV.out.c 3 _ rfl
    have vc4 := RV.out.c 4 _ rfl
    have vc5 := RV.out.c 5 _ rfl
    have zV := RV.out.lt
    have zM := G.out.m.r.lt
    go_wp2
    clear vc0 vc1 vc2 vc3 vc4 vc5
    have V1 := RV.out.c 1 _ rfl
    go_region_held (fun w' => w'.cell? ⟨V, 1, none⟩ = some (.int .i64 (j : Int))) (go_keep) (first
      | (go_at_call 18; refine ((G.out.on (rbel_dr (Below.refl _ _))).m.read SI.out (i := j) (by rw [HSN.out]; exact HJ.out)).mono ?_; rintro o y1 ⟨rfl, hb⟩; have G1 : Hid (RNt w y1 mb sa sc ra rc ⟨S', N.p, N.nd⟩ v1 lb lc nb) := (G.out.on (rbel_dr (Below.refl _ _))).on hb; have R1 : Hid (Row y1 V [.int .i64 (a : Int), .int .i64 (j : Int), .bool true, .int .i64 q4, .int .i64 q5, .int .i64 q6]) := Row.on hb (Row.dr RV.out); have K1 : Hid (KpN u y1 mb v v1 nb N.W.n) := kk.out.tr ((KpN.of (N := N) (rbel_dr (Below.refl _ _))).tr (KpN.of (N := N) hb)); have U1 := R1.out.c 1 _ rfl; clear hb))
    all_goals
      go_wp2
      clear V1 U1 G RV kk zV zM
      have m4 := G1.out.m.r.c 4 _ rfl
      simp only [HSN.out] at m4
      have lj := G1.out.l j (by rw [HSN.out]; exact HJ.out)
      have vc0 := R1.out.c 0 _ rfl
      have vc1 := R1.out.c 1 _ rfl
      have vc2 := R1.out.c 2 _ rfl
      have vc3 := R1.out.c 3 _ rfl
      have vc4 := R1.out.c 4 _ rfl
      have vc5 := R1.out.c 5 _ rfl
      have zV := R1.out.lt
      have zM := G1.out.m.r.lt
      have zL := G1.out.lt
      go_region_held (fun w' => w'.cell? ⟨mb, 4, none⟩ = some (.slice (some ⟨lb, 0, none⟩) N.W.n lc) ∧ w'.cell? ⟨lb, j, none⟩ = some (.pointer (some ⟨nb j, 0, none⟩)) ∧ w'.cell? ⟨V, 0, none⟩ = some (.int .i64 (a : Int)) ∧ w'.cell? ⟨V, 1, none⟩ = some (.int .i64 (j : Int)) ∧ w'.cell? ⟨V, 2, none⟩ = some (.bool true) ∧ w'.cell? ⟨V, 3, none⟩ = some (.int .i64 q4) ∧ w'.cell? ⟨V, 4, none⟩ = some (.int .i64 q5) ∧ w'.cell? ⟨V, 5, none⟩ = some (.int .i64 q6)) (go_keep) (first
        | (go_at_call 32; refine (rhear_any (nb j) (N.nd j) c' ⟨a, j, true, q4, q5, q6⟩ (S'.rd j) 0 true _ ((G1.out.on (rbel_dr (Below.refl _ _))).nd j (by rw [HSN.out]; exact HJ.out)) NI.out HH.out).mono ?_; rintro o y2 ⟨rfl, hr, hk⟩; have G2 : Hid (RNt w y2 mb sa sc ra rc ⟨S', N.p, updN N.nd j c'⟩ v1 lb lc nb) := (G1.out.on (rbel_dr (Below.refl _ _))).goN (i := j) (by rw [HSN.out]; exact HJ.out) hr hk; have R2 : Hid (Row y2 V [.int .i64 (a : Int), .int .i64 (j : Int), .bool true, .int .i64 q4, .int .i64 q5, .int .i64 q6]) := hk.row (fun e => NF.out (Or.inr (Or.inr (Or.inr ⟨j, HJ.out, e⟩)))) (Row.dr R1.out); have K2 : Hid (KpN u y2 mb v v1 nb N.W.n) := K1.out.tr ((KpN.of (N := N) (rbel_dr (Below.refl _ _))).tr (KpN.no HJ.out hk)); have e4 := G2.out.m.r.c 4 _ rfl; simp only [HSN.out] at e4; have ej := G2.out.l j (by rw [HSN.out]; exact HJ.out); have r0 := R2.out.c 0 _ rfl; have r1 := R2.out.c 1 _ rfl; have r2 := R2.out.c 2 _ rfl; have r3 := R2.out.c 3 _ rfl; have r4 := R2.out.c 4 _ rfl; have r5 := R2.out.c 5 _ rfl; clear hr hk))
      all_goals
        go_wp2
        go_ret
        first | exact ⟨v1, rfl, G2.out, K2.out⟩ | exact ⟨rfl, v1, G2.out, K2.out⟩
set_option maxRecDepth 100000 in
set_option maxHeartbeats 8000000 in
theorem rndo_ask {w u : World} {mb sc rc lb lc : Nat} {sa ra : Option Addr} {N : Nn} {v : Value} {nb : Nat → Nat} {wh x y : Int} (hR : RNt w u mb sa sc ra rc N v lb lc nb) (hT : N.T) (S' : Ws) (a j : Nat) (q4 q5 q6 : Int) (hD : DoR N.W wh x y S' (some ⟨a, j, false, q4, q5, q6⟩) 0) (hj : j < N.W.n) (c' : Nd) (hH : HearR (N.nd j) ⟨a, j, false, q4, q5, q6⟩ (S'.rd j) c' false 0) (S'' : Ws) (e : Int) (hA : AnR S' ⟨a, j, false, q4, q5, q6⟩ S'' e) :
    Calls Tryz.prog 10 #[.pointer (some ⟨mb, 0, none⟩), .agg #[.int .i64 wh, .int .i64 x, .int .i64 y]] u fun o w' => ∃ v', o = .returned (.int .i64 e) ∧ RNt w w' mb sa sc ra rc ⟨S'', N.p, updN N.nd j c'⟩ v' lb lc nb ∧ KpN u w' mb v v' nb N.W.n := by
  have HA : Hid (AnR S' ⟨a, j, false, q4, q5, q6⟩ S'' e) := hA
  have SN2 : Hid (S''.n = S'.n) := hA.same.1
  clear hA
  have HR : Hid (RNt w u mb sa sc ra rc N v lb lc nb) := hR
  have zb := hR.m.r.lt
  have NM : Hid (u.heap.size ≠ mb) := (by show u.heap.size ≠ mb; omega)
  have NM1 : Hid (u.heap.size + 1 ≠ mb) := (by show u.heap.size + 1 ≠ mb; omega)
  have NO : Hid (v.ownBlock ≠ some u.heap.size) := fun e => by have := (hR.m.o.lt _ e).2; omega
  have NO1 : Hid (v.ownBlock ≠ some (u.heap.size + 1)) := fun e => by have := (hR.m.o.lt _ e).2; omega
  have HSN : Hid (S'.n = N.W.n) := hD.same.1
  have cD := fun (W : World) (hB : Below u.heap.size u W) => rdo_is (hR.on hB).m hT.g.i hD
  have SI : Hid S'.I := hD.i hT.g.i
  have NI : Hid (N.nd j).I := (hT.kn j hj).i hT.g hj
  have HJ : Hid (j < N.W.n) := hj
  have hji : (j : Int) < N.W.n := by omega
  have HH : Hid (HearR (N.nd j) ⟨a, j, false, q4, q5, q6⟩ (S'.rd j) c' false 0) := hH
  simp only [ltv, Option.getD_some, Option.isSome_some] at cD
  clear hR hT hD hH hj
  go_enter Tryz.func10, Tryz.ntmps10
  go_wp2
  go_region_held (fun w' => w'.cell? ⟨u.heap.size, 0, none⟩ = some (.int .i64 wh) ∧ w'.cell? ⟨u.heap.size, 1, none⟩ = some (.int .i64 x) ∧ w'.cell? ⟨u.heap.size, 2, none⟩ = some (.int .i64 y)) (go_keep) (first
    | (go_at_call 31; first
      | (refine (cD _ (rbel_dr (rbel_al (rbel_al (Below.refl _ _))))).mono ?_; rintro o u1 ⟨v1, rfl, hr, hk⟩; have HB1 : Hid (Below u.heap.size u (((u.alloc (.cells #[.int .i64 wh, .int .i64 x, .int .i64 y] 35)).alloc (.cells #[.int .i64 0, .int .i64 0, .bool false, .int .i64 0, .int .i64 0, .int .i64 0] 98)).drew)) := rbel_dr (rbel_al (rbel_al (Below.refl _ _))); have HK : Hid (Kp (((u.alloc (.cells #[.int .i64 wh, .int .i64 x, .int .i64 y] 35)).alloc (.cells #[.int .i64 0, .int .i64 0, .bool false, .int .i64 0, .int .i64 0, .int .i64 0] 98)).drew) u1 mb v v1) := hk; have HW : Hid (RW [.slice (some ⟨lb, 0, none⟩) N.W.n lc] w u1 mb sa sc ra rc S' v1) := hr; have RJ : Hid (Row u1 u.heap.size [.int .i64 wh, .int .i64 x, .int .i64 y]) := hk.1.row (fun e => e.elim NM.out NO.out) (Row.dr (Row.al (Row.made (W := u) rfl))); have RT1 : Hid (Row u1 (u.heap.size + 1) [.int .i64 0, .int .i64 0, .bool false, .int .i64 0, .int .i64 0, .int .i64 0]) := hk.1.row (fun e => e.elim NM1.out NO1.out) (Row.dr (Row.made (W := (u.alloc (.cells #[.int .i64 wh, .int .i64 x, .int .i64 y] 35))) (b := u.heap.size + 1) (by simp))); have RT0 : Hid (Row (((u.alloc (.cells #[.int .i64 wh, .int .i64 x, .int .i64 y] 35)).alloc (.cells #[.int .i64 0, .int .i64 0, .bool false, .int .i64 0, .int .i64 0, .int .i64 0] 98)).drew) (u.heap.size + 1) [.int .i64 0, .int .i64 0, .bool false, .int .i64 0, .int .i64 0, .int .i64 0]) := Row.dr (Row.made (W := (u.alloc (.cells #[.int .i64 wh, .int .i64 x, .int .i64 y] 35))) (b := u.heap.size + 1) (by simp)); have t0 := RT1.out.c 0 _ rfl; have g0 := RT1.out.f 0 _ rfl; have t1 := RT1.out.c 1 _ rfl; have g1 := RT1.out.f 1 _ rfl; have t2 := RT1.out.c 2 _ rfl; have g2 := RT1.out.f 2 _ rfl; have t3 := RT1.out.c 3 _ rfl; have g3 := RT1.out.f 3 _ rfl; have t4 := RT1.out.c 4 _ rfl; have g4 := RT1.out.f 4 _ rfl; have t5 := RT1.out.c 5 _ rfl; have g5 := RT1.out.f 5 _ rfl; have j0 := RJ.out.c 0 _ rfl; have j1 := RJ.out.c 1 _ rfl; have j2 := RJ.out.c 2 _ rfl; have lx1 : u.heap.size < u1.heap.size := RJ.out.lt; clear hr hk)
      | (refine (cD _ (rbel_al (rbel_dr (rbel_al (Below.refl _ _))))).mono ?_; rintro o u1 ⟨v1, rfl, hr, hk⟩; have HB1 : Hid (Below u.heap.size u ((u.alloc (.cells #[.int .i64 wh, .int .i64 x, .int .i64 y] 35)).drew.alloc (.cells #[.int .i64 0, .int .i64 0, .bool false, .int .i64 0, .int .i64 0, .int .i64 0] 98))) := rbel_al (rbel_dr (rbel_al (Below.refl _ _))); have HK : Hid (Kp ((u.alloc (.cells #[.int .i64 wh, .int .i64 x, .int .i64 y] 35)).drew.alloc (.cells #[.int .i64 0, .int .i64 0, .bool false, .int .i64 0, .int .i64 0, .int .i64 0] 98)) u1 mb v v1) := hk; have HW : Hid (RW [.slice (some ⟨lb, 0, none⟩) N.W.n lc] w u1 mb sa sc ra rc S' v1) := hr; have RJ : Hid (Row u1 u.heap.size [.int .i64 wh, .int .i64 x, .int .i64 y]) := hk.1.row (fun e => e.elim NM.out NO.out) (Row.al (Row.dr (Row.made (W := u) rfl))); have RT1 : Hid (Row u1 (u.heap.size + 1) [.int .i64 0, .int .i64 0, .bool false, .int .i64 0, .int .i64 0, .int .i64 0]) := hk.1.row (fun e => e.elim NM1.out NO1.out) (Row.made (W := (u.alloc (.cells #[.int .i64 wh, .int .i64 x, .int .i64 y] 35)).drew) (b := u.heap.size + 1) (by simp)); have RT0 : Hid (Row ((u.alloc (.cells #[.int .i64 wh, .int .i64 x, .int .i64 y] 35)).drew.alloc (.cells #[.int .i64 0, .int .i64 0, .bool false, .int .i64 0, .int .i64 0, .int .i64 0] 98)) (u.heap.size + 1) [.int .i64 0, .int .i64 0, .bool false, .int .i64 0, .int .i64 0, .int .i64 0]) := Row.made (W := (u.alloc (.cells #[.int .i64 wh, .int .i64 x, .int .i64 y] 35)).drew) (b := u.heap.size + 1) (by simp); have t0 := RT1.out.c 0 _ rfl; have g0 := RT1.out.f 0 _ rfl; have t1 := RT1.out.c 1 _ rfl; have g1 := RT1.out.f 1 _ rfl; have t2 := RT1.out.c 2 _ rfl; have g2 := RT1.out.f 2 _ rfl; have t3 := RT1.out.c 3 _ rfl; have g3 := RT1.out.f 3 _ rfl; have t4 := RT1.out.c 4 _ rfl; have g4 := RT1.out.f 4 _ rfl; have t5 := RT1.out.c 5 _ rfl; have g5 := RT1.out.f 5 _ rfl; have j0 := RJ.out.c 0 _ rfl; have j1 := RJ.out.c 1 _ rfl; have j2 := RJ.out.c 2 _ rfl; have lx1 : u.heap.size < u1.heap.size := RJ.out.lt; clear hr hk)
      | (refine (cD _ (rbel_dr (rbel_al (Below.refl _ _)))).mono ?_; rintro o u1 ⟨v1, rfl, hr, hk⟩; have HB1 : Hid (Below u.heap.size u ((u.alloc (.cells #[.int .i64 wh, .int .i64 x, .int .i64 y] 35)).drew)) := rbel_dr (rbel_al (Below.refl _ _)); have HK : Hid (Kp ((u.alloc (.cells #[.int .i64 wh, .int .i64 x, .int .i64 y] 35)).drew) u1 mb v v1) := hk; have HW : Hid (RW [.slice (some ⟨lb, 0, none⟩) N.W.n lc] w u1 mb sa sc ra rc S' v1) := hr; have RJ : Hid (Row u1 u.heap.size [.int .i64 wh, .int .i64 x, .int .i64 y]) := hk.1.row (fun e => e.elim NM.out NO.out) (Row.dr (Row.made (W := u) rfl)); have j0 := RJ.out.c 0 _ rfl; have j1 := RJ.out.c 1 _ rfl; have j2 := RJ.out.c 2 _ rfl; have lx1 : u.heap.size < u1.heap.size := RJ.out.lt; clear hr hk)))
  all_goals
    first
      | (have q := RT1.out
         have LY : Hid (Lay w u (six u1 (u.heap.size + 1) (.int .i64 (a : Int)) (.int .i64 (j : Int)) (.bool false) (.int .i64 q4) (.int .i64 q5) (.int .i64 q6)) mb sa sc ra rc ⟨S', N.p, N.nd⟩ v v1 lb lc nb (u.heap.size + 1) [.int .i64 (a : Int), .int .i64 (j : Int), .bool false, .int .i64 q4, .int .i64 q5, .int .i64 q6]) := lay_a HR.out HB1.out (by omega) RT0.out HSN.out HW.out HK.out
         unfold six at LY
         clear q RT1 RT0 t0 t1 t2 t3 t4 t5 g0 g1 g2 g3 g4 g5 j0 j1 j2 lx1 HB1 HK HW RJ
         generalize (((((u1.setCell ⟨u.heap.size + 1, 0, none⟩ (.int .i64 (a : Int))).setCell ⟨u.heap.size + 1, 1, none⟩ (.int .i64 (j : Int))).setCell ⟨u.heap.size + 1, 2, none⟩ (.bool false)).setCell ⟨u.heap.size + 1, 3, none⟩ (.int .i64 q4)).setCell ⟨u.heap.size + 1, 4, none⟩ (.int .i64 q5)).setCell ⟨u.heap.size + 1, 5, none⟩ (.int .i64 q6) = X at *
         generalize u.heap.size + 1 = V at *)
      | (have LY : Hid (Lay w u (u1.alloc (.cells #[.int .i64 (a : Int), .int .i64 (j : Int), .bool false, .int .i64 q4, .int .i64 q5, .int .i64 q6] 98)) mb sa sc ra rc ⟨S', N.p, N.nd⟩ v v1 lb lc nb u1.heap.size [.int .i64 (a : Int), .int .i64 (j : Int), .bool false, .int .i64 q4, .int .i64 q5, .int .i64 q6]) := lay_b HR.out HB1.out HSN.out HW.out HK.out _
         clear j0 j1 j2 lx1 HB1 HK HW RJ
         generalize u1.alloc (.cells #[.int .i64 (a : Int), .int .i64 (j : Int), .bool false, .int .i64 q4, .int .i64 q5, .int .i64 q6] 98) = X at *
         generalize u1.heap.size = V at *)
  all_goals
    have kk : Hid (KpN u X mb v v1 nb N.W.n) := (by show KpN u X mb v v1 nb N.W.n; rw [← HSN.out]; exact LY.out.k)
    have G : Hid (RNt w X mb sa sc ra rc ⟨S', N.p, N.nd⟩ v1 lb lc nb) := LY.out.r
    have RV : Hid (Row X V [.int .i64 (a : Int), .int .i64 (j : Int), .bool false, .int .i64 q4, .int .i64 q5, .int .i64 q6]) := LY.out.row
    have NF : Hid (¬ FrN mb v1 lb nb N.W.n V) := (by show ¬ FrN mb v1 lb nb N.W.n V; rw [← HSN.out]; exact LY.out.nf)
    clear LY
    have vc0 := RV.out.c 0 _ rfl
    have vc1 := RV.out.c 1 _ rfl
    have vc2 := RV.out.c 2 _ rfl
    have vc3 := RV.out.c 3 _ rfl
    have vc4 := RV.out.c 4 _ rfl
    have vc5 := RV.out.c 5 _ rfl
    have zV := RV.out.lt
    have zM := G.out.m.r.lt
    go_wp2
    clear vc0 vc1 vc2 vc3 vc4 vc5
    have V1 := RV.out.c 1 _ rfl
    go_region_held (fun w' => w'.cell? ⟨V, 1, none⟩ = some (.int .i64 (j : Int))) (go_keep) (first
      | (go_at_call 18; refine ((G.out.on (rbel_dr (Below.refl _ _))).m.read SI.out (i := j) (by rw [HSN.out]; exact HJ.out)).mono ?_; rintro o y1 ⟨rfl, hb⟩; have G1 : Hid (RNt w y1 mb sa sc ra rc ⟨S', N.p, N.nd⟩ v1 lb lc nb) := (G.out.on (rbel_dr (Below.refl _ _))).on hb; have R1 : Hid (Row y1 V [.int .i64 (a : Int), .int .i64 (j : Int), .bool false, .int .i64 q4, .int .i64 q5, .int .i64 q6]) := Row.on hb (Row.dr RV.out); have K1 : Hid (KpN u y1 mb v v1 nb N.W.n) := kk.out.tr ((KpN.of (N := N) (rbel_dr (Below.refl _ _))).tr (KpN.of (N := N) hb)); have U1 := R1.out.c 1 _ rfl; clear hb))
    all_goals
      go_wp2
      clear V1 U1 G RV kk zV zM
      have m4 := G1.out.m.r.c 4 _ rfl
      simp only [HSN.out] at m4
      have lj := G1.out.l j (by rw [HSN.out]; exact HJ.out)
      have vc0 := R1.out.c 0 _ rfl
      have vc1 := R1.out.c 1 _ rfl
      have vc2 := R1.out.c 2 _ rfl
      have vc3 := R1.out.c 3 _ rfl
      have vc4 := R1.out.c 4 _ rfl
      have vc5 := R1.out.c 5 _ rfl
      have zV := R1.out.lt
      have zM := G1.out.m.r.lt
      have zL := G1.out.lt
      go_region_held (fun w' => w'.cell? ⟨mb, 4, none⟩ = some (.slice (some ⟨lb, 0, none⟩) N.W.n lc) ∧ w'.cell? ⟨lb, j, none⟩ = some (.pointer (some ⟨nb j, 0, none⟩)) ∧ w'.cell? ⟨V, 0, none⟩ = some (.int .i64 (a : Int)) ∧ w'.cell? ⟨V, 1, none⟩ = some (.int .i64 (j : Int)) ∧ w'.cell? ⟨V, 2, none⟩ = some (.bool false) ∧ w'.cell? ⟨V, 3, none⟩ = some (.int .i64 q4) ∧ w'.cell? ⟨V, 4, none⟩ = some (.int .i64 q5) ∧ w'.cell? ⟨V, 5, none⟩ = some (.int .i64 q6)) (go_keep) (first
        | (go_at_call 32; refine (rhear_any (nb j) (N.nd j) c' ⟨a, j, false, q4, q5, q6⟩ (S'.rd j) 0 false _ ((G1.out.on (rbel_dr (Below.refl _ _))).nd j (by rw [HSN.out]; exact HJ.out)) NI.out HH.out).mono ?_; rintro o y2 ⟨rfl, hr, hk⟩; have G2 : Hid (RNt w y2 mb sa sc ra rc ⟨S', N.p, updN N.nd j c'⟩ v1 lb lc nb) := (G1.out.on (rbel_dr (Below.refl _ _))).goN (i := j) (by rw [HSN.out]; exact HJ.out) hr hk; have R2 : Hid (Row y2 V [.int .i64 (a : Int), .int .i64 (j : Int), .bool false, .int .i64 q4, .int .i64 q5, .int .i64 q6]) := hk.row (fun e => NF.out (Or.inr (Or.inr (Or.inr ⟨j, HJ.out, e⟩)))) (Row.dr R1.out); have K2 : Hid (KpN u y2 mb v v1 nb N.W.n) := K1.out.tr ((KpN.of (N := N) (rbel_dr (Below.refl _ _))).tr (KpN.no HJ.out hk)); have e4 := G2.out.m.r.c 4 _ rfl; simp only [HSN.out] at e4; have ej := G2.out.l j (by rw [HSN.out]; exact HJ.out); have r0 := R2.out.c 0 _ rfl; have r1 := R2.out.c 1 _ rfl; have r2 := R2.out.c 2 _ rfl; have r3 := R2.out.c 3 _ rfl; have r4 := R2.out.c 4 _ rfl; have r5 := R2.out.c 5 _ rfl; clear hr hk))
      all_goals
        go_wp2
        clear m4 lj e4 ej zV zM zL
        clear vc0 vc1 vc2 vc3 vc4 vc5
        have zV := R2.out.lt
        have zM := G2.out.m.r.lt
        go_region_held (fun w' => w'.cell? ⟨V, 0, none⟩ = some (.int .i64 (a : Int)) ∧ w'.cell? ⟨V, 1, none⟩ = some (.int .i64 (j : Int)) ∧ w'.cell? ⟨V, 2, none⟩ = some (.bool false) ∧ w'.cell? ⟨V, 3, none⟩ = some (.int .i64 q4) ∧ w'.cell? ⟨V, 4, none⟩ = some (.int .i64 q5) ∧ w'.cell? ⟨V, 5, none⟩ = some (.int .i64 q6)) (go_keep) (first
          | (go_at_call 33; refine (ran_at (G2.out.on (rbel_dr (Below.refl _ _))).m SI.out HA.out).mono ?_; rintro o y3 ⟨v3, rfl, hr, hk⟩; have G3 : Hid (RNt w y3 mb sa sc ra rc ⟨S'', N.p, updN N.nd j c'⟩ v3 lb lc nb) := (G2.out.on (rbel_dr (Below.refl _ _))).goW hr hk SN2.out; have K3 : Hid (KpN u y3 mb v v3 nb N.W.n) := K2.out.tr ((KpN.of (N := N) (rbel_dr (Below.refl _ _))).tr (KpN.wo hk)); have R3 : Hid (Row y3 V [.int .i64 (a : Int), .int .i64 (j : Int), .bool false, .int .i64 q4, .int .i64 q5, .int .i64 q6]) := hk.1.row (fun e => NF.out (e.elim Or.inl (fun q => Or.inr (Or.inl q)))) (Row.dr R2.out); have s0 := R3.out.c 0 _ rfl; have s1 := R3.out.c 1 _ rfl; have s2 := R3.out.c 2 _ rfl; have s3 := R3.out.c 3 _ rfl; have s4 := R3.out.c 4 _ rfl; have s5 := R3.out.c 5 _ rfl; clear hr hk))
        all_goals
          go_wp2
          go_ret
          first | exact ⟨v3, rfl, G3.out, K3.out⟩ | exact ⟨rfl, v3, G3.out, K3.out⟩
theorem rndo_at {w u : World} {mb sc rc lb lc : Nat} {sa ra : Option Addr} {N N' : Nn} {v : Value} {nb : Nat → Nat} {wh x y e : Int} (hR : RNt w u mb sa sc ra rc N v lb lc nb) (hT : N.T) (h : NDoR N wh x y N' e) :
    Calls Tryz.prog 10 #[.pointer (some ⟨mb, 0, none⟩), .agg #[.int .i64 wh, .int .i64 x, .int .i64 y]] u fun o w' => ∃ v', o = .returned (.int .i64 e) ∧ RNt w w' mb sa sc ra rc N' v' lb lc nb ∧ KpN u w' mb v v' nb N.W.n := by
  obtain ⟨S', r, e1, hD, q⟩ := h
  rcases q with ⟨rfl, rfl, rfl⟩ | ⟨⟨q1, q2, q3, q4, q5, q6⟩, c', rfl, rfl, hl, hh, q⟩
  · exact rndo_none hR hT S' e hD
  · obtain ⟨a, j, h1, h2, h3, h4, _⟩ := hl
    have e1 : q1 = a := h1
    have e2 : q2 = j := h2
    subst e1
    subst e2
    have hj : j < N.W.n := by rw [← hD.same.1]; exact h4
    simp only [Int.toNat_natCast] at hh q
    rcases q with ⟨rfl, rfl, rfl⟩ | ⟨rfl, S'', hA, rfl⟩
    · exact rndo_ans hR hT S' a j q4 q5 q6 hD hj c' hh
    · exact rndo_ask hR hT S' a j q4 q5 q6 hD hj c' hh S'' e hA
end Go.Proofs.YtnagdjipmpjaaaiGreatDoor
