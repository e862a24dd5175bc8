/- The ways through the law ClockHolds. -/
import Derived.Test.YthdjjjajhjmajafDoorClockHoldsA
import Derived.Test.YthdjjjajhjmajafDoorClockRow
import Derived.Test.YthdjjjajhjmajafDoorSpanHasC
import Derived.Deep.CutRange
import Derived.Deep.CutBlock
namespace Go.Proofs.YthdjjjajhjmajafDoor.clockHolds
open Go.ChangeShapes Go.WideShapes Go.ChangeAt Go.RowKit Go.Joins Go.Proofs.YthdjjjajhjmajafDoor.told
set_option linter.unusedVariables false
set_option linter.unusedSimpArgs false

/-- A clock that lies in its block, while the law goes on. -/
structure Hs (w : World) (C : Cp w) (u : World) (P : Nat) (p r b T : Int) (c : Ck) : Prop where
  rr : C.R u P c
  d : Hd p r b T c
  hw : Below w.heap.size w u
  lp : w.heap.size ≤ P
section
variable {w u u' : World} {C : Cp w} {P : Nat} {p r b T T' : Int} {c c' : Ck}
theorem Hs.on (hb : Below u.heap.size u u') (h : Hs w C u P p r b T c) : Hs w C u' P p r b T c := ⟨C.keep h.rr hb, h.d, rbel_on hb h.hw, h.lp⟩
theorem Hs.put {V i : Nat} {x : Value} (h : Hs w C u P p r b T c) (h1 : P ≠ V) (h3 : w.heap.size ≤ V) : Hs w C (u.setCell ⟨V, i, none⟩ x) P p r b T c := ⟨C.put h.rr h1, h.d, rbel_put h3 h.hw, h.lp⟩
theorem Hs.go (h : Hs w C u P p r b T c) (hR : C.R u' P c') (hd : Hd p r b T' c') (hK : Keeps (fun k => k = P) u u') : Hs w C u' P p r b T' c' := ⟨hR, hd, kbel (B := 0) h.lp hK h.hw, h.lp⟩
end
set_option maxRecDepth 100000 in
set_option maxHeartbeats 8000000 in
theorem all_ways (p r b : Int) (a : Option Addr) (n cap : Nat) (ga : Nat → Option Addr) (k cc : Nat → Nat) (z : Nat → Nat → Int) (w : World) (he : EnvE w) (C : CpP w) (wp : In64 p) (wr : In64 r) (wb : In64 b) (hH : RHanded w a n ga k cc z) :
    Calls Tryd.prog 5 #[.int .i64 p, .int .i64 r, .int .i64 b, .slice a n cap] w fun o w' => o = .returned (.bool true) ∧ Below w.heap.size w w' := by
  have cN := C.new 100 w (Below.refl _ _) (by decide) (by decide)
  have cS : Hid (∀ (Q : Nat) (u : World), Below w.heap.size w u → w.heap.size ≤ Q → C.R u Q (Ck.made 100) → Calls Tryd.prog 20 #[.pointer (some ⟨Q, 0, none⟩), .int .i64 1000] u fun o w' => o = .returned .nilIface ∧ C.R w' Q k1 ∧ Keeps (fun k => k = Q) u w') := fun Q u hu hQ hR => by
    have := C.step Q _ 1000 u hu hQ hR (Ck.made_i (by decide) (by decide)) (by decide)
    rwa [k1_step.1, k1_step.2, errc_zero] at this
  have cL : Hid (∀ (Q : Nat) (u : World), Below w.heap.size w u → w.heap.size ≤ Q → C.R u Q k1 → Calls Tryd.prog 21 #[.pointer (some ⟨Q, 0, none⟩), .agg #[.int .i64 5, .int .i64 7]] u fun o w' => o = .returned .nilIface ∧ C.R w' Q k2 ∧ Keeps (fun k => k = Q) u w') := fun Q u hu hQ hR => by
    have i1 := Ck.step_i (Ck.made_i (p := 100) (by decide) (by decide)) 1000
    rw [k1_step.2] at i1
    have := C.learn Q _ 5 7 u hu hQ hR i1 (by decide) (by decide)
    rwa [k2_learn.1, k2_learn.2, errc_zero] at this
  have cW : Hid (∀ (Q : Nat) (u : World), Below w.heap.size w u → w.heap.size ≤ Q → C.R u Q k2 → Calls Tryd.prog 22 #[.pointer (some ⟨Q, 0, none⟩)] u fun o w' => o = .returned (.tuple #[.agg #[.int .i64 1004, .int .i64 1008], .nilIface]) ∧ Keeps (fun k => k = Q) u w') := fun Q u hu hQ hR => by
    have i1 := Ck.step_i (Ck.made_i (p := 100) (by decide) (by decide)) 1000
    rw [k1_step.2] at i1
    have i2 := Ck.learn_i i1 5 7
    rw [k2_learn.2] at i2
    have := C.now Q _ u hu hQ hR i2
    rw [k2_now.1, k2_now.2.1, k2_now.2.2, errc_zero] at this
    refine this.mono ?_
    rintro o w' ⟨rfl, _, hK⟩
    exact ⟨rfl, hK⟩
  have HE : Hid (EnvE w) := he
  have HH : Hid (RHanded w a n ga k cc z) := hH
  have WP : Hid (In64 p ∧ In64 r ∧ In64 b) := ⟨wp, wr, wb⟩
  clear he hH wp wr wb
  go_enter Tryd.func5, Tryd.ntmps5
  go_upto_region 7 with (first
    | (go_at_call 19; refine cN.mono ?_; rintro o u0 ⟨Q, rfl, hl, hR, hb⟩; have HB : Hid (Below w.heap.size w u0) := hb; have HR : Hid (C.R u0 Q (Ck.made 100)) := hR; have HL : Hid (w.heap.size ≤ Q) := hl; clear hb hR hl)
    | (go_at_call 20; refine (cS.out Q _ HB.out HL.out HR.out).mono ?_; rintro o u1 ⟨rfl, hR, hK⟩; have HB1 : Hid (Below w.heap.size w u1) := kbel (B := 0) HL.out hK HB.out; have HR1 : Hid (C.R u1 Q k1) := hR; clear hK hR)
    | (go_at_call 21; refine (cL.out Q _ HB1.out HL.out HR1.out).mono ?_; rintro o u2 ⟨rfl, hR, hK⟩; have HB2 : Hid (Below w.heap.size w u2) := kbel (B := 0) HL.out hK HB1.out; have HR2 : Hid (C.R u2 Q k2) := hR; clear hK hR)
    | (go_at_call 22; refine (cW.out Q _ HB2.out HL.out HR2.out).mono ?_; rintro o u3 ⟨rfl, hK⟩; have HB3 : Hid (Below w.heap.size w u3) := kbel (B := 0) HL.out hK HB2.out; clear hK))
  obtain ⟨W, hW⟩ : ∃ W, W = u3.alloc (.cells #[.int .i64 1004, .int .i64 1008] 46) := ⟨_, rfl⟩
  rw [← hW]
  have HW : Hid (Below w.heap.size w W) := by show Below _ _ _; rw [hW]; exact rbel_al HB3.out
  clear hW HB HR HL HB1 HR1 HB2 HR2 HB3 cN cS cL cW
  by_cases hg : 0 ≤ p ∧ p ≤ 1000 ∧ -p ≤ r ∧ r ≤ p ∧ 0 ≤ b ∧ b ≤ 1000000
  · obtain ⟨p0, p1, r0, r1, b0, b1⟩ := hg
    have d1 : ¬ (p < 0) := by omega
    have d2 : ¬ (1000 < p) := by omega
    have d3 : ¬ (r < -p) := by omega
    have d4 : ¬ (p < r) := by omega
    have d5 : ¬ (b < 0) := by omega
    have d6 : ¬ (1000000 < b) := by omega
    have wn : IntKind.i64.wrap (-p) = -p := IntWalk.i64_in _ (by omega)
    have HP : Hid (∀ T, 0 ≤ T → T ≤ 60000000 → HdP p r b T) := fun T t0 t1 => ⟨p0, p1, r0, r1, b0, b1, t0, t1⟩
    have cN := C.new p W HW.out p0 p1
    go_wp2_with (go_at_call 19; refine cN.mono ?_; rintro o u0 ⟨Q, rfl, hl, hR, hb⟩; have S0 : Hid (Hs w C.toCp u0 Q p r b 0 (Ck.made p)) := ⟨hR, Hd.made (HP.out 0 (by decide) (by decide)), rbel_on hb HW.out, Nat.le_trans HW.out.size hl⟩; clear hb hR hl)
    clear cN HW d1 d2 d3 d4 d5 d6 wn
    go_loopw [14, 15, 16, 17, 18] (fun vt vl vis vle vi wr => ∃ (i : Nat) (T : Int) (c : Ck), i ≤ n ∧ i ≤ 60 ∧ 0 ≤ T ∧ T ≤ 1000000 * i ∧ vi = .int .i64 i ∧ vt = .int .i64 T ∧ vl = .int .i64 c.l ∧ vis = .bool c.t ∧ vle = .bool c.k ∧ Hs w C.toCp wr Q p r b T c) (fun _ _ _ _ vi _ => 60 - (intOf vi).toNat)
    case atStart => exact ⟨0, 0, _, Nat.zero_le _, by omega, by omega, by omega, rfl, rfl, rfl, rfl, rfl, S0.out⟩
    case round =>
      clear S0
      obtain ⟨i, T, c, hin, hi60, T0, T1, rfl, rfl, rfl, rfl, rfl, hS⟩ := hrel
      have HS : Hid (Hs w C.toCp wr Q p r b T c) := hS
      by_cases hlt : i < n
      · have hl3 : (i : Int) < n := by omega
        by_cases hl60 : i < 60
        · have hl4 : (i : Int) < 60 := by omega
          obtain ⟨B, off, rfl, hZ⟩ : ∃ b off : Nat, a = some ⟨b, off, none⟩ ∧ ∀ i, i < n → w.cell? ⟨b, off + i, none⟩ = some (.slice (ga i) (k i) (cc i)) ∧ NHanded w (ga i) (k i) (z i) ∧ ∀ j, j < k i → In64 (z i j) := by
            rcases HH.out.2 with e | h
            · omega
            · exact h
          obtain ⟨z1, z2, z3⟩ := hZ i hlt
          have s0 : wr.cell? ⟨B, off + i, none⟩ = some (.slice (ga i) (k i) (cc i)) := by rw [hS.hw.cell (World.block_lt_of_cell? _ _ z1)]; exact z1
          have HZ2 : Hid (NHanded w (ga i) (k i) (z i)) := z2
          have HZ3 : Hid (∀ j, j < k i → In64 (z i j)) := z3
          have HZ1 : Hid (w.cell? ⟨B, off + i, none⟩ = some (.slice (ga i) (k i) (cc i))) := z1
          have kb := z2.1
          have zw : Hid (w.heap.size ≤ wr.heap.size ∧ Q < wr.heap.size) := ⟨hS.hw.size, C.lt hS.rr⟩
          clear hS hZ z1 z2 z3 HH
          generalize ga i = gi at *
          generalize k i = ki at *
          generalize cc i = ci at *
          generalize z i = zi at *
          go_upto_block 2 with (fail)
          obtain ⟨V, eV⟩ : ∃ V, V = wr.heap.size := ⟨_, rfl⟩
          rw [← eV]
          have EV : Hid (V = wr.heap.size) := eV
          have nV : Hid (Q ≠ V ∧ w.heap.size ≤ V) := by have := zw.out; show _ ∧ _; omega
          clear eV
          go_cut [20] from 106 to 127 (fun vj w' => ∃ v0 v1 v2 : Int, In64 v0 ∧ In64 v1 ∧ In64 v2 ∧ Row w' V [.int .i64 v0, .int .i64 v1, .int .i64 v2] ∧ Hs w C.toCp w' Q p r b T c)
          case first =>
            go_wp2
            go_loopw [20] (fun vj wr' => ∃ j : Nat, j ≤ ki ∧ j ≤ 3 ∧ vj = .int .i64 j ∧ Row wr' V [.int .i64 (vT zi j 0), .int .i64 (vT zi j 1), .int .i64 (vT zi j 2)] ∧ Hs w C.toCp wr' Q p r b T c) (fun vj _ => 3 - (intOf vj).toNat)
            case atStart => exact ⟨0, Nat.zero_le _, by omega, rfl, by rw [EV.out]; exact Row.made rfl, HS.out.on (rbel_al (Below.refl _ _))⟩
            case round =>
              clear HS s0 EV zw
              obtain ⟨j, hjk, hj3, rfl, hV, hS⟩ := hrel
              have s0 : wr.cell? ⟨B, off + i, none⟩ = some (.slice gi ki ci) := by rw [hS.hw.cell (World.block_lt_of_cell? _ _ HZ1.out)]; exact HZ1.out
              have HS : Hid (Hs w C.toCp wr Q p r b T c) := hS
              have HV : Hid (Row wr V [.int .i64 (vT zi j 0), .int .i64 (vT zi j 1), .int .i64 (vT zi j 2)]) := hV
              by_cases hj : j < ki
              · have hjl : (j : Int) < ki := by omega
                by_cases hj2 : j < 3
                · have hjl3 : (j : Int) < 3 := by omega
                  obtain ⟨gb, go, rfl, hN⟩ : ∃ gb go : Nat, gi = some ⟨gb, go, none⟩ ∧ Nrd w gb go ki zi := by
                    rcases HZ2.out.2 with e | h
                    · omega
                    · exact h
                  have y0 := (hN.on hS.hw) j hj
                  have cv : wr.cell? ⟨V, j, none⟩ = some (.int .i64 0) := by
                    refine hV.c j _ ?_
                    rcases (show j = 0 ∨ j = 1 ∨ j = 2 by omega) with rfl | rfl | rfl <;> simp [vT]
                  have fv : wr.frozen? ⟨V, j, none⟩ = false := by
                    refine hV.f j (.int .i64 0) ?_
                    rcases (show j = 0 ∨ j = 1 ∨ j = 2 by omega) with rfl | rfl | rfl <;> simp [vT]
                  clear hN hV hS
                  have HVS : Hid (Row (wr.setCell ⟨V, j, none⟩ (.int .i64 (zi j))) V [.int .i64 (vT zi (j + 1) 0), .int .i64 (vT zi (j + 1) 1), .int .i64 (vT zi (j + 1) 2)]) := by
                    show Row _ _ _
                    rw [← vT_set zi j hj2]
                    exact Row.put j HV.out
                  generalize zi j = zj at *
                  go_wp2
                  go_roundw
                  case rel => exact ⟨j + 1, by omega, by omega, by go_num, HVS.out, HS.out.put nV.out.1 nV.out.2⟩
                  case measure => simp [intOf]; omega
                · have hjl3 : ¬ ((j : Int) < 3) := by omega
                  clear hV hS
                  go_wp2
                  go_meet
                  case rel => exact ⟨_, _, _, vT_in hjk HZ3.out, vT_in hjk HZ3.out, vT_in hjk HZ3.out, HV.out, HS.out⟩
              · have hjl : ¬ ((j : Int) < ki) := by omega
                clear hV hS
                go_wp2
                go_meet
                case rel => exact ⟨_, _, _, vT_in hjk HZ3.out, vT_in hjk HZ3.out, vT_in hjk HZ3.out, HV.out, HS.out⟩
          case rest =>
            obtain ⟨v0, v1, v2, i0, i1, i2, hV, hS⟩ := hcut
            clear HS s0 HZ1 HZ2 HZ3 zw EV kb
            have c0 := hV.c 0 _ rfl
            have c1 := hV.c 1 _ rfl
            have c2 := hV.c 2 _ rfl
            have HV : Hid (Row wc V [.int .i64 v0, .int .i64 v1, .int .i64 v2]) := hV
            have HS : Hid (Hs w C.toCp wc Q p r b T c) := hS
            clear hV hS
            by_cases hv : 0 ≤ v1 ∧ v1 ≤ 1000000 ∧ 0 ≤ v2 ∧ v2 ≤ 1000000
            · obtain ⟨v10, v11, v20, v21⟩ := hv
              have n1 : ¬ (v1 < 0) := by omega
              have n2 : ¬ (1000000 < v1) := by omega
              have n3 : ¬ (v2 < 0) := by omega
              have n4 : ¬ (1000000 < v2) := by omega
              have PT := HP.out T T0 (by omega)
              have HPT : Hid (HdP p r b T) := PT
              have HPV : Hid (HdP p r b (T + v1)) := HP.out (T + v1) (by omega) (by omega)
              have hsb := sh_b p0 p1 r0 r1 T0 (show T ≤ 60000000 by omega)
              obtain ⟨hs0, hs1, _, _⟩ := hsb
              have cH := fun u => shows_any r T u (by omega) (by omega) T0 (by omega)
              have cH2 := fun u => shows_any r (T + v1) u (by omega) (by omega) (by omega) (by omega)
              have HSH : Hid (∀ x, x = T → shM r x = shM r T) := fun x e => by rw [e]
              clear PT
              go_upto_block 4 with (go_at_call 23; refine (cH _).mono ?_; rintro o u4 ⟨rfl, hu⟩; rw [hu]; clear hu)
              go_cut [14, 15, 16, 17, 22, 23, 24, 25] from 96 to 228 (fun vt vl vis vle _ _ _ _ w' => ∃ (T' : Int) (c' : Ck), vt = .int .i64 T' ∧ 0 ≤ T' ∧ T' ≤ 1000000 * (i + 1) ∧ vl = .int .i64 c'.l ∧ vis = .bool c'.t ∧ vle = .bool c'.k ∧ Hs w C.toCp w' Q p r b T' c')
              case first =>
                by_cases q0 : v0 = 0 ∨ v0 = 1
                · obtain ⟨se, sd⟩ := HS.out.d.step HPT.out HPV.out v10
                  have cS := C.step Q c (shM r (T + v1)) wc HS.out.hw HS.out.lp HS.out.rr HS.out.d.i (in64_mid (by have := sh_b p0 p1 r0 r1 (show 0 ≤ T + v1 by omega) (by omega); omega) (by have := sh_b p0 p1 r0 r1 (show 0 ≤ T + v1 by omega) (by omega); omega))
                  rw [se, errc_zero] at cS
                  have SD : Hid (Hd p r b (T + v1) (c.stepC (shM r (T + v1)))) := sd
                  have SL : Hid ((c.stepC (shM r (T + v1))).l = c.l ∧ (c.stepC (shM r (T + v1))).t = c.t ∧ (c.stepC (shM r (T + v1))).k = c.k) := by show _ ∧ _ ∧ _; unfold Ck.stepC; rw [if_pos se]; exact ⟨rfl, rfl, rfl⟩
                  have wT : IntKind.i64.wrap (T + v1) = T + v1 := IntWalk.i64_in _ (by omega)
                  clear se sd
                  generalize c.stepC (shM r (T + v1)) = c' at *
                  generalize shM r (T + v1) = sh' at *
                  rcases q0 with rfl | rfl
                  all_goals
                    go_wp2_with (first
                      | (go_at_call 23; refine (cH2 _).mono ?_; rintro o u4 ⟨rfl, hu⟩; rw [hu]; clear hu)
                      | (go_at_call 20; refine cS.mono ?_; rintro o u5 ⟨rfl, hR, hK⟩; have S5 : Hid (Hs w C.toCp u5 Q p r b (T + v1) c') := HS.out.go hR SD.out hK; clear hR hK))
                    go_meet
                    case rel => exact ⟨T + v1, c', rfl, by omega, by omega, by rw [SL.out.1], by rw [SL.out.2.1], by rw [SL.out.2.2], S5.out⟩
                · have m0 : ((v0 : Int) == 0) = false := by simp; omega
                  have m1 : ((v0 : Int) == 1) = false := by simp; omega
                  by_cases q2 : v0 = 2
                  · obtain ⟨le, ld, lk⟩ := HS.out.d.learn HPT.out v10 v11 v20 v21
                    have cL := C.learn Q c (b + T - shM r T - v1) (b + T - shM r T + v2) wc HS.out.hw HS.out.lp HS.out.rr HS.out.d.i (in64_mid (by omega) (by omega)) (in64_mid (by omega) (by omega))
                    rw [le, errc_zero] at cL
                    have LD : Hid (Hd p r b T (c.learnC (b + T - shM r T - v1) (b + T - shM r T + v2))) := ld
                    have LL : Hid ((c.learnC (b + T - shM r T - v1) (b + T - shM r T + v2)).l = c.l ∧ (c.learnC (b + T - shM r T - v1) (b + T - shM r T + v2)).t = c.t ∧ (c.learnC (b + T - shM r T - v1) (b + T - shM r T + v2)).k = true) := by show _ ∧ _ ∧ _; refine ⟨?_, ?_, lk⟩ <;> (unfold Ck.learnC; rw [if_pos le])
                    clear le ld lk
                    generalize c.learnC (b + T - shM r T - v1) (b + T - shM r T + v2) = c' at *
                    generalize shM r T = sh at *
                    have w1 : IntKind.i64.wrap (b + T) = b + T := IntWalk.i64_in _ (by omega)
                    have w2 : IntKind.i64.wrap (b + T - sh) = b + T - sh := IntWalk.i64_in _ (by omega)
                    have w3 : IntKind.i64.wrap (b + T - sh - v1) = b + T - sh - v1 := IntWalk.i64_in _ (by omega)
                    have w4 : IntKind.i64.wrap (b + T - sh + v2) = b + T - sh + v2 := IntWalk.i64_in _ (by omega)
                    subst q2
                    clear m0 m1 q0
                    go_wp2_with (go_at_call 21; refine cL.mono ?_; rintro o u5 ⟨rfl, hR, hK⟩; have S5 : Hid (Hs w C.toCp u5 Q p r b T c') := HS.out.go hR LD.out hK; clear hR hK)
                    go_meet
                    case rel => exact ⟨T, c', rfl, T0, by omega, by rw [LL.out.1], by rw [LL.out.2.1], by rw [LL.out.2.2], S5.out⟩
                  · have m2 : ((v0 : Int) == 2) = false := by simp; omega
                    obtain ⟨pd, pk, pe, pz⟩ := HS.out.d.point HPT.out
                    have cP := C.point Q c wc HS.out.hw HS.out.lp HS.out.rr HS.out.d.i
                    by_cases e0 : c.pointE = 0
                    · obtain ⟨z1, z2, z3⟩ := pz e0
                      rw [e0, errc_zero] at cP
                      have PD : Hid (Hd p r b T c.pointC) := pd
                      have PL : Hid (c.pointC.l = c.pointN ∧ c.pointC.t = true ∧ c.pointC.k = c.k) := ⟨z3, z2, pk⟩
                      have Z1 : Hid (c.t = true → c.l ≤ c.pointN) := z1
                      clear pd pk pe pz z1 z2 z3 e0 q0 q2
                      generalize c.pointC = c' at *
                      generalize c.pointN = pn at *
                      cases ht : c.t with
                      | true =>
                        have dl : ¬ (pn < c.l) := by have := Z1.out ht; omega
                        rw [ht] at *
                        go_wp2_with (go_at_call 24; refine cP.mono ?_; rintro o u5 ⟨rfl, hR, hK⟩; have S5 : Hid (Hs w C.toCp u5 Q p r b T c') := HS.out.go hR PD.out hK; clear hR hK)
                        go_meet
                        case rel => exact ⟨T, c', rfl, T0, by omega, by rw [PL.out.1], by rw [PL.out.2.1], by rw [PL.out.2.2], S5.out⟩
                      | false =>
                        go_wp2_with (go_at_call 24; refine cP.mono ?_; rintro o u5 ⟨rfl, hR, hK⟩; have S5 : Hid (Hs w C.toCp u5 Q p r b T c') := HS.out.go hR PD.out hK; clear hR hK)
                        go_meet
                        case rel => exact ⟨T, c', rfl, T0, by omega, by rw [PL.out.1], by rw [PL.out.2.1], by rw [PL.out.2.2], S5.out⟩
                    · obtain ⟨y1, y2⟩ := pe e0
                      rw [errc_not e0, y1] at cP
                      have PD : Hid (Hd p r b T c) := HS.out.d
                      clear pd pk pz y1 q0 q2
                      cases hk : c.k with
                      | true =>
                        rw [y2 hk] at cP
                        clear y2 e0 pe
                        go_wp2_with (first
                          | (go_at_call 24; refine cP.mono ?_; rintro o u5 ⟨rfl, hR, hK⟩; have S5 : Hid (Hs w C.toCp u5 Q p r b T c) := HS.out.go hR PD.out hK; clear hR hK)
                          | (go_at_call 9; refine (error_errno 8 _ (HE.out.below S5.out.hw)).mono ?_; rintro o u6 ⟨rfl, hb⟩; have S6 : Hid (Hs w C.toCp u6 Q p r b T c) := S5.out.on hb; clear hb))
                        go_roundw
                        case rel => exact ⟨i + 1, T, c, by omega, by omega, T0, by omega, by go_num, rfl, rfl, rfl, by rw [hk], S6.out⟩
                        case measure => simp [intOf]; omega
                      | false =>
                        have e6 : c.pointE = 6 := by
                          unfold Ck.pointE Ck.nowE
                          rw [hk]
                          rfl
                        rw [e6] at cP
                        clear y2 e0 pe e6
                        go_wp2_with (first
                          | (go_at_call 24; refine cP.mono ?_; rintro o u5 ⟨rfl, hR, hK⟩; have S5 : Hid (Hs w C.toCp u5 Q p r b T c) := HS.out.go hR PD.out hK; clear hR hK)
                          | (go_at_call 9; refine (error_not 6 8 _ (HE.out.below S5.out.hw) (by decide)).mono ?_; rintro o u6 ⟨rfl, hb⟩; have S6 : Hid (Hs w C.toCp u6 Q p r b T c) := S5.out.on hb; clear hb))
                        go_roundw
                        case rel => exact ⟨i + 1, T, c, by omega, by omega, T0, by omega, by go_num, rfl, rfl, rfl, by rw [hk], S6.out⟩
                        case measure => simp [intOf]; omega
              case rest =>
                obtain ⟨T', c', rfl, t0, t1, rfl, rfl, rfl, hS⟩ := hcut
                have HS' : Hid (Hs w C.toCp wc Q p r b T' c') := hS
                cases hk : c'.k with
                | false =>
                  clear hS
                  go_wp2
                  go_roundw
                  case rel => exact ⟨i + 1, T', c', by omega, by omega, t0, by omega, by go_num, rfl, rfl, rfl, by rw [hk], HS'.out⟩
                  case measure => simp [intOf]; omega
                | true =>
                  obtain ⟨ne, n5, n6, n7⟩ := hS.d.now (HP.out T' t0 (by omega)) hk
                  have cW := C.now Q c' wc hS.hw hS.lp hS.rr hS.d.i
                  rw [ne, errc_zero] at cW
                  have cI := fun u => has_yes c'.nowLo c'.nowHi (b + T') u n7 n5 n6
                  have wT : IntKind.i64.wrap (b + T') = b + T' := IntWalk.i64_in _ (by omega)
                  clear hS ne n5 n6 n7
                  generalize c'.nowLo = nl at *
                  generalize c'.nowHi = nh at *
                  go_wp2_with (first
                    | (go_at_call 22; refine cW.mono ?_; rintro o u5 ⟨rfl, hR, hK⟩; have S5 : Hid (Hs w C.toCp u5 Q p r b T' c') := HS'.out.go hR HS'.out.d hK; clear hR hK)
                    | (go_at_call 25; refine (cI _).mono ?_; rintro o u6 ⟨rfl, hb⟩; have S6 : Hid (Hs w C.toCp u6 Q p r b T' c') := S5.out.on (rbel_on hb (rbel_al (Below.refl _ _))); clear hb))
                  go_roundw
                  case rel => exact ⟨i + 1, T', c', by omega, by omega, t0, by omega, by go_num, rfl, rfl, rfl, by rw [hk], S6.out⟩
                  case measure => simp [intOf]; omega
            · have hv2 : v1 < 0 ∨ (¬ v1 < 0 ∧ 1000000 < v1) ∨ (¬ v1 < 0 ∧ ¬ 1000000 < v1 ∧ v2 < 0) ∨ (¬ v1 < 0 ∧ ¬ 1000000 < v1 ∧ ¬ v2 < 0 ∧ 1000000 < v2) := by omega
              clear hv
              rcases hv2 with e1 | ⟨e1, e2⟩ | ⟨e1, e2, e3⟩ | ⟨e1, e2, e3, e4⟩
              all_goals
                go_wp2
                go_roundw
                case rel => exact ⟨i + 1, T, c, by omega, by omega, T0, by omega, by go_num, rfl, rfl, rfl, rfl, HS.out⟩
                case measure => simp [intOf]; omega
        · have hl4 : ¬ ((i : Int) < 60) := by omega
          clear hS
          go_wp2
          go_ret
          exact ⟨rfl, HS.out.hw⟩
      · have hl3 : ¬ ((i : Int) < n) := by omega
        clear hS
        go_wp2
        go_ret
        exact ⟨rfl, HS.out.hw⟩
  · have hg2 : p < 0 ∨ (¬ p < 0 ∧ 1000 < p) ∨ (¬ p < 0 ∧ ¬ 1000 < p ∧ r < -p) ∨ (¬ p < 0 ∧ ¬ 1000 < p ∧ ¬ r < -p ∧ p < r) ∨ (¬ p < 0 ∧ ¬ 1000 < p ∧ ¬ r < -p ∧ ¬ p < r ∧ b < 0) ∨ (¬ p < 0 ∧ ¬ 1000 < p ∧ ¬ r < -p ∧ ¬ p < r ∧ ¬ b < 0 ∧ 1000000 < b) := by omega
    clear hg
    rcases hg2 with e1 | ⟨e1, e2⟩ | ⟨e1, e2, e3⟩ | ⟨e1, e2, e3, e4⟩ | ⟨e1, e2, e3, e4, e5⟩ | ⟨e1, e2, e3, e4, e5, e6⟩
    · go_wp2
      go_ret
      exact ⟨rfl, HW.out⟩
    · go_wp2
      go_ret
      exact ⟨rfl, HW.out⟩
    all_goals
      have wn : IntKind.i64.wrap (-p) = -p := IntWalk.i64_in _ (by omega)
      go_wp2
      go_ret
      exact ⟨rfl, HW.out⟩
end Go.Proofs.YthdjjjajhjmajafDoor.clockHolds
