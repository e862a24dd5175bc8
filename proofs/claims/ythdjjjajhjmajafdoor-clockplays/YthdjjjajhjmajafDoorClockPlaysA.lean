/- The ways through the law ClockPlays: a step. -/
import Derived.Test.YthdjjjajhjmajafDoorClockSt
import Derived.Deep.CutRange
import Derived.Deep.CutBlock
namespace Go.Proofs.YthdjjjajhjmajafDoor.clockPlays
open Go.ChangeShapes Go.WideShapes Go.ChangeAt Go.RowKit Go.Joins Go.Proofs.YthdjjjajhjmajafDoor.told
set_option linter.unusedVariables false
set_option linter.unusedSimpArgs false

set_option maxRecDepth 100000 in
set_option maxHeartbeats 4000000 in
theorem no_ppm (q : Int) (a : Option Addr) (n cap : Nat) (w : World) (he : EnvE w) (C : Cp w) (wq : In64 q) (hq : q < 0 ∨ 1000 < q) :
    Calls Tryd.prog 7 #[.int .i64 q, .slice a n cap] w fun o w' => o = .returned (.bool true) ∧ Below w.heap.size w w' := by
  have cN := C.bad q w (Below.refl _ _) wq hq
  have HE : Hid (EnvE w) := he
  have hq2 : q < 0 ∨ (¬ q < 0 ∧ 1000 < q) := by omega
  clear wq he hq
  rcases hq2 with d | ⟨d, d2⟩
  all_goals
    go_enter Tryd.func7, Tryd.ntmps7
    go_wp2_with (first
      | (go_at_call 19; refine cN.mono ?_; rintro o u0 ⟨v, rfl, hb⟩; have HB : Hid (Below w.heap.size w u0) := hb; clear hb)
      | (go_at_call 9; refine (error_same 1 _ (HE.out.below HB.out)).mono ?_; rintro o u2 ⟨rfl, hb⟩; have HB2 : Hid _ := hb; clear hb))
    go_ret
    exact ⟨rfl, rbel_on HB2.out HB.out⟩
set_option maxRecDepth 100000 in
set_option maxHeartbeats 8000000 in
theorem good (q : Int) (a : Option Addr) (n cap : Nat) (ga : Nat → Option Addr) (k cc : Nat → Nat) (z : Nat → Nat → Int) (w : World) (he : EnvE w) (C : CpH w) (h0 : 0 ≤ q) (h1 : q ≤ 1000) (hH : RHanded w a n ga k cc z) :
    Calls Tryd.prog 7 #[.int .i64 q, .slice a n cap] w fun o w' => o = .returned (.bool true) ∧ Below w.heap.size w w' := by
  have cN := C.new q w (Below.refl _ _) h0 h1
  have HE : Hid (EnvE w) := he
  have HH : Hid (n = 0 ∨ ∃ b off : Nat, a = some ⟨b, off, none⟩ ∧ ∀ i, i < n → w.cell? ⟨b, off + i, none⟩ = some (.slice (ga i) (k i) (cc i)) ∧ NHanded w (ga i) (k i) (z i) ∧ ∀ j, j < k i → In64 (z i j)) := hH.2
  have hn := hH.1
  have HI : Hid ((Ck.made q).I) := Ck.made_i h0 h1
  have d1 : ¬ (q < 0) := by omega
  have d2 : ¬ (1000 < q) := by omega
  clear he hH h0 h1
  go_enter Tryd.func7, Tryd.ntmps7
  go_wp2_with (first
    | (go_at_call 19; refine cN.mono ?_; rintro o u0 ⟨p, rfl, hl, hR, hb⟩; have HB : Hid (Below w.heap.size w u0) := hb; have HR : Hid (C.R u0 p (Ck.made q)) := hR; have HL : Hid (w.heap.size ≤ p) := hl; clear hb hR hl)
    | (go_at_call 9; refine (error_same 0 _ (HE.out.below HB.out)).mono ?_; rintro o u1 ⟨rfl, hb⟩; have HB1 : Hid (Below w.heap.size w u1) := rbel_on hb HB.out; have HR1 : Hid (C.R u1 p (Ck.made q)) := C.keep HR.out hb; clear hb))
  have S0 : Hid (St2 w C.toCp (u1.alloc (.cells #[.int .i64 q, .int .i64 0, .bool false, .int .i64 0, .int .i64 0, .int .i64 0, .bool false, .int .i64 0] 59)) p u1.heap.size (Ck.made q)) := ⟨C.al HR1.out, Blk.made rfl, HI.out, rbel_al HB1.out, fun e => by have := C.lt HR1.out; omega, HL.out, HB1.out.size⟩
  generalize u1.heap.size = b at *
  clear HB HR HL HB1 HR1 HI cN d1 d2
  go_loopw [10] (fun vi wr => ∃ (i : Nat) (c : Ck), i ≤ n ∧ i ≤ 60 ∧ vi = .int .i64 i ∧ St2 w C.toCp wr p b c) (fun vi _ => 60 - (intOf vi).toNat)
  case atStart => exact ⟨0, _, Nat.zero_le _, by omega, rfl, S0.out⟩
  case round =>
    clear S0
    obtain ⟨i, c, hin, hi60, rfl, hS⟩ := hrel
    have HS : Hid (St2 w C.toCp wr p b c) := hS
    by_cases hlt : i < n
    · have hl3 : (i : Int) < n := by omega
      by_cases hl60 : i < 60
      · have hl4 : (i : Int) < 60 := by omega
        obtain ⟨B, off, rfl, hZ⟩ : ∃ b off : Nat, a = some ⟨b, off, none⟩ ∧ ∀ i, i < n → w.cell? ⟨b, off + i, none⟩ = some (.slice (ga i) (k i) (cc i)) ∧ NHanded w (ga i) (k i) (z i) ∧ ∀ j, j < k i → In64 (z i j) := by
          rcases HH.out with e | h
          · omega
          · exact h
        obtain ⟨z1, z2, z3⟩ := hZ i hlt
        have s0 : wr.cell? ⟨B, off + i, none⟩ = some (.slice (ga i) (k i) (cc i)) := by rw [hS.hw.cell (World.block_lt_of_cell? _ _ z1)]; exact z1
        have HZ2 : Hid (NHanded w (ga i) (k i) (z i)) := z2
        have HZ3 : Hid (∀ j, j < k i → In64 (z i j)) := z3
        have HZ1 : Hid (w.cell? ⟨B, off + i, none⟩ = some (.slice (ga i) (k i) (cc i))) := z1
        have kb := z2.1
        have zw : Hid (w.heap.size ≤ wr.heap.size ∧ p < wr.heap.size ∧ b < wr.heap.size) := ⟨hS.hw.size, C.lt hS.r, hS.m.lt⟩
        clear hS hZ z1 z2 z3
        generalize ga i = gi at *
        generalize k i = ki at *
        generalize cc i = ci at *
        generalize z i = zi at *
        go_upto_block 2 with (fail)
        obtain ⟨V, eV⟩ : ∃ V, V = wr.heap.size := ⟨_, rfl⟩
        rw [← eV]
        have EV : Hid (V = wr.heap.size) := eV
        have nV : Hid (p ≠ V ∧ b ≠ V ∧ w.heap.size ≤ V) := by have := zw.out; show _ ∧ _ ∧ _; omega
        clear eV
        go_cut [12] from 57 to 78 (fun vj w' => ∃ v0 v1 v2 : Int, In64 v0 ∧ In64 v1 ∧ In64 v2 ∧ Row w' V [.int .i64 v0, .int .i64 v1, .int .i64 v2] ∧ St2 w C.toCp w' p b c)
        case first =>
          go_wp2
          go_loopw [12] (fun vj wr' => ∃ j : Nat, j ≤ ki ∧ j ≤ 3 ∧ vj = .int .i64 j ∧ Row wr' V [.int .i64 (vT zi j 0), .int .i64 (vT zi j 1), .int .i64 (vT zi j 2)] ∧ St2 w C.toCp wr' p b c) (fun vj _ => 3 - (intOf vj).toNat)
          case atStart => exact ⟨0, Nat.zero_le _, by omega, rfl, by rw [EV.out]; exact Row.made rfl, HS.out.on (rbel_al (Below.refl _ _))⟩
          case round =>
            clear HS s0 EV zw
            obtain ⟨j, hjk, hj3, rfl, hV, hS⟩ := hrel
            have s0 : wr.cell? ⟨B, off + i, none⟩ = some (.slice gi ki ci) := by rw [hS.hw.cell (World.block_lt_of_cell? _ _ HZ1.out)]; exact HZ1.out
            have HS : Hid (St2 w C.toCp wr p b c) := hS
            have HV : Hid (Row wr V [.int .i64 (vT zi j 0), .int .i64 (vT zi j 1), .int .i64 (vT zi j 2)]) := hV
            by_cases hj : j < ki
            · have hjl : (j : Int) < ki := by omega
              by_cases hj2 : j < 3
              · have hjl3 : (j : Int) < 3 := by omega
                obtain ⟨gb, go, rfl, hN⟩ : ∃ gb go : Nat, gi = some ⟨gb, go, none⟩ ∧ Nrd w gb go ki zi := by
                  rcases HZ2.out.2 with e | h
                  · omega
                  · exact h
                have y0 := (hN.on hS.hw) j hj
                have cv : wr.cell? ⟨V, j, none⟩ = some (.int .i64 0) := by
                  refine hV.c j _ ?_
                  rcases (show j = 0 ∨ j = 1 ∨ j = 2 by omega) with rfl | rfl | rfl <;> simp [vT]
                have fv : wr.frozen? ⟨V, j, none⟩ = false := by
                  refine hV.f j (.int .i64 0) ?_
                  rcases (show j = 0 ∨ j = 1 ∨ j = 2 by omega) with rfl | rfl | rfl <;> simp [vT]
                clear hN hV hS
                have HVS : Hid (Row (wr.setCell ⟨V, j, none⟩ (.int .i64 (zi j))) V [.int .i64 (vT zi (j + 1) 0), .int .i64 (vT zi (j + 1) 1), .int .i64 (vT zi (j + 1) 2)]) := by
                  show Row _ _ _
                  rw [← vT_set zi j hj2]
                  exact Row.put j HV.out
                generalize zi j = zj at *
                go_wp2
                go_roundw
                case rel => exact ⟨j + 1, by omega, by omega, by go_num, HVS.out, HS.out.put nV.out.1 nV.out.2.1 nV.out.2.2⟩
                case measure => simp [intOf]; omega
              · have hjl3 : ¬ ((j : Int) < 3) := by omega
                clear hV hS
                go_wp2
                go_meet
                case rel => exact ⟨_, _, _, vT_in hjk HZ3.out, vT_in hjk HZ3.out, vT_in hjk HZ3.out, HV.out, HS.out⟩
            · have hjl : ¬ ((j : Int) < ki) := by omega
              clear hV hS
              go_wp2
              go_meet
              case rel => exact ⟨_, _, _, vT_in hjk HZ3.out, vT_in hjk HZ3.out, vT_in hjk HZ3.out, HV.out, HS.out⟩
        case rest =>
          obtain ⟨v0, v1, v2, i0, i1, i2, hV, hS⟩ := hcut
          clear HS s0 HZ1 HZ2 HZ3 zw EV kb
          have c0 := hV.c 0 _ rfl
          have c1 := hV.c 1 _ rfl
          have c2 := hV.c 2 _ rfl
          have HV : Hid (Row wc V [.int .i64 v0, .int .i64 v1, .int .i64 v2]) := hV
          have HS : Hid (St2 w C.toCp wc p b c) := hS
          have zV := hV.lt
          clear hV hS
          go_upto_block 4 with (fail)
          go_cut [8, 13, 14, 15, 16, 17] from 57 to 157 (fun t _ _ _ _ _ w' => t = .bool true ∧ ∃ c', St2 w C.toCp w' p b c')
          case first =>
            by_cases k0 : v0 = 0 ∨ v0 = 1
            · have cS := fun u (h : St2 w C.toCp u p b c) => C.step p c v1 u h.hw h.lp h.r h.i i1
              have cM := fun u (h : St1 w C.toCp u p b (c.stepC v1) c) => rstep_any b c v1 u h.m
              have HI : Hid ((c.stepC v1).I) := Ck.step_i HS.out.i v1
              have cE := fun u (h : Below w.heap.size w u) => error_c (c.stepE v1) u (HE.out.below h)
              generalize c.stepE v1 = e at *
              rcases k0 with rfl | rfl
              · go_wp2
                go_region_held (fun w' => w'.cell? ⟨V, 1, none⟩ = some (.int .i64 v1)) (go_keep) (first
                  | (go_at_call 20; refine (cS _ (HS.out.on (rbel_dr (Below.refl _ _)))).mono ?_; rintro o x1 ⟨rfl, hR, hK⟩; have rV := hK.row (fun h => nV.out.1 h.symm) (Row.dr HV.out); have d1 := rV.c 1 _ rfl; have S1 : Hid (St1 w C.toCp x1 p b (c.stepC v1) c) := (HS.out.on (rbel_dr (Below.refl _ _))).go hR HI.out hK; have RV1 : Hid _ := rV; clear hR hK rV)
                  | (go_at_call 26; refine (cM _ S1.out).mono ?_; rintro o x2 ⟨rfl, hR, hK⟩; have rV := hK.row (fun h => nV.out.2.1 h.symm) RV1.out; have d2 := rV.c 1 _ rfl; have S2 : Hid (St2 w C.toCp x2 p b (c.stepC v1)) := S1.out.goM hR rfl hK; clear hR hK rV)
                  | (go_at_call 9; refine (cE _ S2.out.hw).mono ?_; rintro o x3 ⟨rfl, hb⟩; have d3 : x3.cell? ⟨V, 1, none⟩ = some (.int .i64 v1) := (by rw [hb.cell (World.block_lt_of_cell? _ _ d2)]; exact d2); have S3 : Hid (St2 w C.toCp x3 p b (c.stepC v1)) := S2.out.on hb; clear hb))
                all_goals
                  go_wp2
                  go_meet
                  case rel => exact ⟨rfl, _, S3.out⟩
              · go_wp2
                go_region_held (fun w' => w'.cell? ⟨V, 1, none⟩ = some (.int .i64 v1)) (go_keep) (first
                  | (go_at_call 20; refine (cS _ (HS.out.on (rbel_dr (Below.refl _ _)))).mono ?_; rintro o x1 ⟨rfl, hR, hK⟩; have rV := hK.row (fun h => nV.out.1 h.symm) (Row.dr HV.out); have d1 := rV.c 1 _ rfl; have S1 : Hid (St1 w C.toCp x1 p b (c.stepC v1) c) := (HS.out.on (rbel_dr (Below.refl _ _))).go hR HI.out hK; have RV1 : Hid _ := rV; clear hR hK rV)
                  | (go_at_call 26; refine (cM _ S1.out).mono ?_; rintro o x2 ⟨rfl, hR, hK⟩; have rV := hK.row (fun h => nV.out.2.1 h.symm) RV1.out; have d2 := rV.c 1 _ rfl; have S2 : Hid (St2 w C.toCp x2 p b (c.stepC v1)) := S1.out.goM hR rfl hK; clear hR hK rV)
                  | (go_at_call 9; refine (cE _ S2.out.hw).mono ?_; rintro o x3 ⟨rfl, hb⟩; have d3 : x3.cell? ⟨V, 1, none⟩ = some (.int .i64 v1) := (by rw [hb.cell (World.block_lt_of_cell? _ _ d2)]; exact d2); have S3 : Hid (St2 w C.toCp x3 p b (c.stepC v1)) := S2.out.on hb; clear hb))
                all_goals
                  go_wp2
                  go_meet
                  case rel => exact ⟨rfl, _, S3.out⟩
            · have n0 : ((v0 : Int) == 0) = false := by simp; omega
              have n1 : ((v0 : Int) == 1) = false := by simp; omega
              by_cases k2 : v0 = 2
              · have cL := fun u (h : St2 w C.toCp u p b c) => C.learn p c v1 v2 u h.hw h.lp h.r h.i i1 i2
                have cM := fun u (h : St1 w C.toCp u p b (c.learnC v1 v2) c) => rlearn_any b c v1 v2 u h.m h.i'
                have HI : Hid ((c.learnC v1 v2).I) := Ck.learn_i HS.out.i v1 v2
                have cE := fun u (h : Below w.heap.size w u) => error_c (c.learnE v1 v2) u (HE.out.below h)
                generalize c.learnE v1 v2 = e at *
                have nO : Hid (p ≠ wc.heap.size ∧ b ≠ wc.heap.size) := ⟨by have := C.lt HS.out.r; omega, by have := Blk.lt HS.out.m; omega⟩
                subst k2
                clear k0 n0 n1
                go_wp2
                have HSA : Hid (St2 w C.toCp (wc.alloc (.cells #[.int .i64 v1, .int .i64 v2] 46)).drew p b c) := HS.out.on (rbel_dr (rbel_al (Below.refl _ _)))
                have RO : Hid (Row (wc.alloc (.cells #[.int .i64 v1, .int .i64 v2] 46)).drew wc.heap.size [.int .i64 v1, .int .i64 v2]) := Row.dr (Row.made rfl)
                go_region_held (fun w' => w'.cell? ⟨wc.heap.size, 0, none⟩ = some (.int .i64 v1) ∧ w'.cell? ⟨wc.heap.size, 1, none⟩ = some (.int .i64 v2)) (go_keep) (first
                  | (go_at_call 21; refine (cL _ HSA.out).mono ?_; rintro o x1 ⟨rfl, hR, hK⟩; have rV := hK.row (fun h => nO.out.1 h.symm) RO.out; have d0 := rV.c 0 _ rfl; have d1 := rV.c 1 _ rfl; have S1 : Hid (St1 w C.toCp x1 p b (c.learnC v1 v2) c) := HSA.out.go hR HI.out hK; have RV1 : Hid _ := rV; clear hR hK rV)
                  | (go_at_call 27; refine (cM _ S1.out).mono ?_; rintro o x2 ⟨rfl, hR, hK⟩; have rV := hK.row (fun h => nO.out.2 h.symm) RV1.out; have f0 := rV.c 0 _ rfl; have f1 := rV.c 1 _ rfl; have S2 : Hid (St2 w C.toCp x2 p b (c.learnC v1 v2)) := S1.out.goM hR rfl hK; clear hR hK rV)
                  | (go_at_call 9; refine (cE _ S2.out.hw).mono ?_; rintro o x3 ⟨rfl, hb⟩; have g0 : x3.cell? ⟨wc.heap.size, 0, none⟩ = some (.int .i64 v1) := (by rw [hb.cell (World.block_lt_of_cell? _ _ f0)]; exact f0); have g1 : x3.cell? ⟨wc.heap.size, 1, none⟩ = some (.int .i64 v2) := (by rw [hb.cell (World.block_lt_of_cell? _ _ f1)]; exact f1); have S3 : Hid (St2 w C.toCp x3 p b (c.learnC v1 v2)) := S2.out.on hb; clear hb))
                all_goals
                  go_wp2
                  go_meet
                  case rel => exact ⟨rfl, _, S3.out⟩
              · have n2 : ((v0 : Int) == 2) = false := by simp; omega
                have cM := rpoint_any b c wc HS.out.m HS.out.i
                have cP := fun u (h : St1 w C.toCp u p b c c.pointC) => C.point p c u h.hw h.lp h.r h.i
                have HI : Hid (c.pointC.I) := Ck.point_i HS.out.i
                have cE := fun u (h : Below w.heap.size w u) => error_c c.pointE u (HE.out.below h)
                generalize c.pointE = e at *
                generalize c.pointN = pn at *
                clear k0 k2
                go_wp2_with (first
                  | (go_at_call 28; refine cM.mono ?_; rintro o x1 ⟨rfl, hR, hK⟩; have S1 : Hid (St1 w C.toCp x1 p b c c.pointC) := HS.out.goM hR HI.out hK; clear hR hK)
                  | (go_at_call 24; refine (cP _ S1.out).mono ?_; rintro o x2 ⟨rfl, hR, hK⟩; have S2 : Hid (St2 w C.toCp x2 p b c.pointC) := S1.out.go hR rfl hK; clear hR hK)
                  | (go_at_call 9; refine (cE _ S2.out.hw).mono ?_; rintro o x3 ⟨rfl, hb⟩; have S3 : Hid (St2 w C.toCp x3 p b c.pointC) := S2.out.on hb; clear hb))
                go_meet
                case rel => exact ⟨by simp, _, S3.out⟩
          case rest =>
            obtain ⟨rfl, c', hS⟩ := hcut
            clear HS HV c0 c1 c2 zV i0 i1 i2 nV
            have HS : Hid (St2 w C.toCp wc p b c') := hS
            have cM := rnow_any b c' wc hS.m hS.i
            have cP := fun u (h : St2 w C.toCp u p b c') => C.now p c' u h.hw h.lp h.r h.i
            have cH := fun u (h : St2 w C.toCp u p b c') => C.here p c' u h.hw h.lp h.r h.i
            have cE := fun u (h : Below w.heap.size w u) => error_c c'.nowE u (HE.out.below h)
            clear hS
            generalize c'.nowE = e at *
            generalize c'.nowLo = nl at *
            generalize c'.nowHi = nh at *
            go_wp2_with (first
              | (go_at_call 29; refine cM.mono ?_; rintro o x1 ⟨rfl, hb⟩; have S1 : Hid (St2 w C.toCp x1 p b c') := HS.out.on hb; have nx1 : Hid (x1.heap.size ≠ p ∧ x1.heap.size ≠ b) := ⟨fun h => (by have := C.lt S1.out.r; omega), fun h => (by have := Blk.lt S1.out.m; omega)⟩; clear hb)
              | (go_at_call 22; refine (cP _ (S1.out.on (rbel_al (Below.refl _ _)))).mono ?_; rintro o x2 ⟨rfl, hR, hK⟩; have R18 : Hid (Row x2 x1.heap.size [.int .i64 nl, .int .i64 nh]) := hK.row (fun h => nx1.out.1 h) (Row.made rfl); have S2 : Hid (St2 w C.toCp x2 p b c') := (S1.out.on (rbel_al (Below.refl _ _))).same hR hK; have nx2 : Hid (x2.heap.size ≠ p) := fun h => (by have := C.lt S2.out.r; omega); have z12 : x1.heap.size < x2.heap.size := R18.out.lt; clear hR hK)
              | (go_at_call 9; refine (cE _ (rbel_al S2.out.hw)).mono ?_; rintro o x3 ⟨rfl, hb⟩; have r18 := Row.on hb (Row.al R18.out); have r20 := Row.on hb (Row.made (W := x2) (vs := [.int .i64 nl, .int .i64 nh]) rfl); have S3 : Hid (St2 w C.toCp x3 p b c') := S2.out.on (rbel_on hb (rbel_al (Below.refl _ _))); have a0 := r18.c 0 _ rfl; have a1 := r18.c 1 _ rfl; have b0 := r20.c 0 _ rfl; have b1 := r20.c 1 _ rfl; have h1 := Blk.c S3.out.m 1 _ rfl; have R18' : Hid _ := r18; have R20 : Hid _ := r20; clear hb r18 r20))
            go_region_held (fun w' => w'.cell? ⟨x1.heap.size, 0, none⟩ = some (.int .i64 nl) ∧ w'.cell? ⟨x1.heap.size, 1, none⟩ = some (.int .i64 nh) ∧ w'.cell? ⟨x2.heap.size, 0, none⟩ = some (.int .i64 nl) ∧ w'.cell? ⟨x2.heap.size, 1, none⟩ = some (.int .i64 nh) ∧ w'.cell? ⟨b, 1, none⟩ = some (.int .i64 c'.h)) (go_keep) (first
              | (go_at_call 30; refine (cH _ (S3.out.on (rbel_dr (Below.refl _ _)))).mono ?_; rintro o x4 ⟨rfl, hR, hK⟩; have r18 := hK.row (fun h => nx1.out.1 h) (Row.dr R18'.out); have r20 := hK.row (fun h => nx2.out h) (Row.dr R20.out); have S4 : Hid (St2 w C.toCp x4 p b c') := (S3.out.on (rbel_dr (Below.refl _ _))).same hR hK; have p0 := r18.c 0 _ rfl; have p1 := r18.c 1 _ rfl; have q0 := r20.c 0 _ rfl; have q1 := r20.c 1 _ rfl; have h2 := Blk.c S4.out.m 1 _ rfl; clear hR hK r18 r20))
            all_goals
              go_wp2
              go_roundw
              case rel => exact ⟨i + 1, c', by omega, by omega, by go_num, S4.out⟩
              case measure => simp [intOf]; omega
      · have hl4 : ¬ ((i : Int) < 60) := by omega
        clear hS
        go_wp2
        go_ret
        exact ⟨rfl, HS.out.hw⟩
    · have hl3 : ¬ ((i : Int) < n) := by omega
      clear hS
      go_wp2
      go_ret
      exact ⟨rfl, HS.out.hw⟩
theorem all_ways (q : Int) (a : Option Addr) (n cap : Nat) (ga : Nat → Option Addr) (k cc : Nat → Nat) (z : Nat → Nat → Int) (w : World) (he : EnvE w) (C : CpH w) (wq : In64 q) (hH : RHanded w a n ga k cc z) :
    Calls Tryd.prog 7 #[.int .i64 q, .slice a n cap] w fun o w' => o = .returned (.bool true) ∧ Below w.heap.size w w' := by
  by_cases hq : 0 ≤ q ∧ q ≤ 1000
  · exact good q a n cap ga k cc z w he C hq.1 hq.2 hH
  · exact no_ppm q a n cap w he C.toCp wq (by omega)
end Go.Proofs.YthdjjjajhjmajafDoor.clockPlays
