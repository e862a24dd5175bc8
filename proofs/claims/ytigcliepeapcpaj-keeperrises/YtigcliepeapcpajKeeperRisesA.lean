/- The ways through the law KeeperRises. -/
import Derived.Test.YtigcliepeapcpajKeeperDefC
import Derived.Test.YtigcliepeapcpajKeeperRow
import Derived.Lib.SmallJoins
import Derived.IntWalk
import Derived.Deep.CutRange
import Derived.Deep.CutBlock
namespace Go.Proofs.Ytigcliepeapcpaj.keeperRises
open Go.ChangeShapes Go.WideShapes Go.ChangeAt Go.RowKit Go.Joins
set_option linter.unusedVariables false
set_option linter.unusedSimpArgs false

theorem s1 : (Kp.made 10).readE 5 = 0 ∧ (Kp.made 10).readN 5 = 5 := by decide
theorem s2 : (((Kp.made 10).readC 5).crashC).readE 3 = 0 ∧ (((Kp.made 10).readC 5).crashC).readN 3 = 15 := by decide
set_option maxRecDepth 100000 in
set_option maxHeartbeats 8000000 in
theorem all_ways (q : Int) (a : Option Addr) (n cap : Nat) (ga : Nat → Option Addr) (k cc : Nat → Nat) (z : Nat → Nat → Int) (w : World) (C : KqC w) (wq : In64 q) (hH : RHanded w a n ga k cc z) :
    Calls Try.prog 5 #[.int .i64 q, .slice a n cap] w fun o w' => o = .returned (.bool true) ∧ Below w.heap.size w w' := by
  have HH : Hid (n = 0 ∨ ∃ b off : Nat, a = some ⟨b, off, none⟩ ∧ ∀ i, i < n → w.cell? ⟨b, off + i, none⟩ = some (.slice (ga i) (k i) (cc i)) ∧ NHanded w (ga i) (k i) (z i) ∧ ∀ j, j < k i → In64 (z i j)) := hH.2
  have hn := hH.1
  clear hH
  have i0 : (Kp.made 10).I 0 := Kp.made_i (by decide) (by decide)
  have i1 := Kp.read_i i0 5
  have i2 := Kp.crash_i i1
  have c1 := C.new 10 w (Below.refl _ _) (by decide) (by decide)
  have cR1 : Hid (∀ p u, Ks w C.toKq u p (Kp.made 10) 0 → Calls Try.prog 18 #[.pointer (some ⟨p, 0, none⟩), .int .i64 5] u fun o w' => o = .returned (.tuple #[.int .i64 5, .nilIface]) ∧ Ks w C.toKq w' p ((Kp.made 10).readC 5) 1) := fun p u h => (C.read p _ 0 5 u h.hw h.lb h.r h.i (by decide) (by decide)).mono (by
    rintro o w' ⟨rfl, hR, hK⟩
    rw [s1.1, s1.2, errc_zero]
    exact ⟨rfl, h.go hR i1 hK⟩)
  have cCr : Hid (∀ p u c m, m ≤ 1000 → Ks w C.toKq u p c m → Calls Try.prog 19 #[.pointer (some ⟨p, 0, none⟩)] u fun o w' => o = .returned (.tuple #[]) ∧ Ks w C.toKq w' p c.crashC m ∧ Keeps (fun k => k = p) u w') := fun p u c m hm h => (C.crash p c m u h.hw h.lb h.r h.i hm).mono (by
    rintro o w' ⟨rfl, hR, hK⟩
    exact ⟨rfl, h.go hR (Kp.crash_i h.i) hK, hK⟩)
  have cR2 : Hid (∀ p u, Ks w C.toKq u p ((Kp.made 10).readC 5).crashC 1 → Calls Try.prog 18 #[.pointer (some ⟨p, 0, none⟩), .int .i64 3] u fun o w' => o = .returned (.tuple #[.int .i64 15, .nilIface]) ∧ Below w.heap.size w w') := fun p u h => (C.read p _ 1 3 u h.hw h.lb h.r h.i (by decide) (by decide)).mono (by
    rintro o w' ⟨rfl, hR, hK⟩
    rw [s2.1, s2.2, errc_zero]
    exact ⟨rfl, kbelK h.lb hK h.hw⟩)
  have HI0 : Hid ((Kp.made 10).I 0) := i0
  clear i0 i1 i2
  have cnt : Mark 0 := .mk _
  by_cases hq : q < 1 ∨ 1000000 < q
  · have cN : Hid (∀ u, Below w.heap.size w u → Calls Try.prog 17 #[.int .i64 q] u fun o w' => ∃ v : Value, o = .returned (.tuple #[v, .iface 83 (.int .i64 1)]) ∧ Below u.heap.size u w') := fun u hu => C.bad q u hu wq hq
    have hq2 : q < 1 ∨ (¬ q < 1 ∧ 1000000 < q) := by omega
    clear hq
    rcases hq2 with d | ⟨d, d2⟩
    all_goals
      go_enter Try.func5, Try.ntmps5
      go_wp2_with (first
        | (go_at_call 17; have cq : Mark 0 := cnt; refine c1.mono ?_; clear cq cnt; have cnt : Mark 1 := .mk _; rintro o u0 ⟨p, rfl, hl, hR, hb⟩; have S0 : Hid (Ks w C.toKq u0 p (Kp.made 10) 0) := ⟨hR, HI0.out, hb, hl⟩; clear hb hR hl)
        | (go_at_call 18; have cq : Mark 1 := cnt; refine (cR1.out p _ S0.out).mono ?_; clear cq cnt; have cnt : Mark 2 := .mk _; rintro o u1 ⟨rfl, hS⟩; have S1 : Hid _ := hS; clear hS)
        | (go_at_call 19; refine (cCr.out p _ _ 1 (by decide) S1.out).mono ?_; rintro o u2 ⟨rfl, hS, _⟩; have S2 : Hid _ := hS; clear hS)
        | (go_at_call 18; have cq : Mark 2 := cnt; refine (cR2.out p _ S2.out).mono ?_; clear cq cnt; have cnt : Mark 3 := .mk _; rintro o u3 ⟨rfl, hS⟩; have S3 : Hid (Below w.heap.size w u3) := hS; clear hS)
        | (go_at_call 17; have cq : Mark 3 := cnt; refine (cN.out _ S3.out).mono ?_; clear cq cnt; rintro o u4 ⟨v, rfl, hb⟩; have S4 : Hid (Below w.heap.size w u4) := rbel_on hb S3.out; clear hb))
      go_ret
      exact ⟨rfl, S4.out⟩
  · have cN : Hid (∀ u, Below w.heap.size w u → Calls Try.prog 17 #[.int .i64 q] u fun o w' => ∃ b : Nat, o = .returned (.tuple #[.pointer (some ⟨b, 0, none⟩), .nilIface]) ∧ Ks w C.toKq w' b (Kp.made q) 0) := fun u hu => (C.new q u hu (by omega) (by omega)).mono (by
      rintro o w' ⟨b, rfl, hl, hR, hb⟩
      exact ⟨b, rfl, hR, Kp.made_i (by omega) (by omega), rbel_on hb hu, Nat.le_trans hu.size hl⟩)
    clear hq
    go_enter Try.func5, Try.ntmps5
    go_wp2_with (first
      | (go_at_call 17; have cq : Mark 0 := cnt; refine c1.mono ?_; clear cq cnt; have cnt : Mark 1 := .mk _; rintro o u0 ⟨p, rfl, hl, hR, hb⟩; have S0 : Hid (Ks w C.toKq u0 p (Kp.made 10) 0) := ⟨hR, HI0.out, hb, hl⟩; clear hb hR hl)
      | (go_at_call 18; have cq : Mark 1 := cnt; refine (cR1.out p _ S0.out).mono ?_; clear cq cnt; have cnt : Mark 2 := .mk _; rintro o u1 ⟨rfl, hS⟩; have S1 : Hid _ := hS; clear hS)
      | (go_at_call 19; refine (cCr.out p _ _ 1 (by decide) S1.out).mono ?_; rintro o u2 ⟨rfl, hS, _⟩; have S2 : Hid _ := hS; clear hS)
      | (go_at_call 18; have cq : Mark 2 := cnt; refine (cR2.out p _ S2.out).mono ?_; clear cq cnt; have cnt : Mark 3 := .mk _; rintro o u3 ⟨rfl, hS⟩; have S3 : Hid (Below w.heap.size w u3) := hS; clear hS)
      | (go_at_call 17; have cq : Mark 3 := cnt; refine (cN.out _ S3.out).mono ?_; clear cq cnt; rintro o u4 ⟨b, rfl, hS⟩; have S4 : Hid (Ks w C.toKq u4 b (Kp.made q) 0) := hS; clear hS))
    clear S0 S1 S2 S3 cN c1 cR1 cR2 HI0
    go_loopw [13, 14, 15] (fun vl vm vi wr => ∃ (i : Nat) (c : Kp) (M : Nat) (L : Int), i ≤ n ∧ i ≤ 80 ∧ vi = .int .i64 i ∧ vm = .int .i64 M ∧ vl = .int .i64 L ∧ M ≤ i ∧ L ≤ c.l ∧ Ks w C.toKq wr b c M) (fun _ _ vi _ => 80 - (intOf vi).toNat)
    case atStart => exact ⟨0, Kp.made q, 0, -1, Nat.zero_le _, by omega, rfl, rfl, rfl, Nat.le_refl _, Int.le_refl _, S4.out⟩
    case round =>
      clear S4
      obtain ⟨i, c, M, L, hin, hi60, rfl, rfl, rfl, hM, hL, hS⟩ := hrel
      have HS : Hid (Ks w C.toKq wr b c M) := hS
      by_cases hlt : i < n
      · have hl3 : (i : Int) < n := by omega
        by_cases hl60 : i < 80
        · have hl4 : (i : Int) < 80 := by omega
          obtain ⟨B, off, rfl, hZ⟩ : ∃ b off : Nat, a = some ⟨b, off, none⟩ ∧ ∀ i, i < n → w.cell? ⟨b, off + i, none⟩ = some (.slice (ga i) (k i) (cc i)) ∧ NHanded w (ga i) (k i) (z i) ∧ ∀ j, j < k i → In64 (z i j) := by
            rcases HH.out with e | h
            · omega
            · exact h
          obtain ⟨z1, z2, z3⟩ := hZ i hlt
          have s0 : wr.cell? ⟨B, off + i, none⟩ = some (.slice (ga i) (k i) (cc i)) := by rw [hS.hw.cell (World.block_lt_of_cell? _ _ z1)]; exact z1
          have HZ2 : Hid (NHanded w (ga i) (k i) (z i)) := z2
          have HZ3 : Hid (∀ j, j < k i → In64 (z i j)) := z3
          have HZ1 : Hid (w.cell? ⟨B, off + i, none⟩ = some (.slice (ga i) (k i) (cc i))) := z1
          have kb := z2.1
          have zw : Hid (w.heap.size ≤ wr.heap.size ∧ b < wr.heap.size) := ⟨hS.hw.size, C.lt hS.r⟩
          clear hS hZ z1 z2 z3
          generalize ga i = gi at *
          generalize k i = ki at *
          generalize cc i = ci at *
          generalize z i = zi at *
          go_upto_block 2 with (fail)
          obtain ⟨V, eV⟩ : ∃ V, V = wr.heap.size := ⟨_, rfl⟩
          rw [← eV]
          have EV : Hid (V = wr.heap.size) := eV
          have nV : Hid (b ≠ V ∧ w.heap.size ≤ V) := by have := zw.out; show _ ∧ _; omega
          clear eV
          go_cut [17] from 75 to 96 (fun vj w' => ∃ v0 v1 : Int, In64 v0 ∧ In64 v1 ∧ Row w' V [.int .i64 v0, .int .i64 v1] ∧ Ks w C.toKq w' b c M)
          case first =>
            go_wp2
            go_loopw [17] (fun vj wr' => ∃ j : Nat, j ≤ ki ∧ j ≤ 2 ∧ vj = .int .i64 j ∧ Row wr' V [.int .i64 (vT zi j 0), .int .i64 (vT zi j 1)] ∧ Ks w C.toKq wr' b c M) (fun vj _ => 2 - (intOf vj).toNat)
            case atStart => exact ⟨0, Nat.zero_le _, by omega, rfl, by rw [EV.out]; exact Row.made rfl, HS.out.on (rbel_al (Below.refl _ _))⟩
            case round =>
              clear HS s0 EV zw
              obtain ⟨j, hjk, hj3, rfl, hV, hS⟩ := hrel
              have s0 : wr.cell? ⟨B, off + i, none⟩ = some (.slice gi ki ci) := by rw [hS.hw.cell (World.block_lt_of_cell? _ _ HZ1.out)]; exact HZ1.out
              have HS : Hid (Ks w C.toKq wr b c M) := hS
              have HV : Hid (Row wr V [.int .i64 (vT zi j 0), .int .i64 (vT zi j 1)]) := hV
              by_cases hj : j < ki
              · have hjl : (j : Int) < ki := by omega
                by_cases hj2 : j < 2
                · have hjl3 : (j : Int) < 2 := by omega
                  obtain ⟨gb, go, rfl, hN⟩ : ∃ gb go : Nat, gi = some ⟨gb, go, none⟩ ∧ Nrd w gb go ki zi := by
                    rcases HZ2.out.2 with e | h
                    · omega
                    · exact h
                  have y0 := (hN.on hS.hw) j hj
                  have cv : wr.cell? ⟨V, j, none⟩ = some (.int .i64 0) := by
                    refine hV.c j _ ?_
                    rcases (show j = 0 ∨ j = 1 by omega) with rfl | rfl <;> simp [vT]
                  have fv : wr.frozen? ⟨V, j, none⟩ = false := by
                    refine hV.f j (.int .i64 0) ?_
                    rcases (show j = 0 ∨ j = 1 by omega) with rfl | rfl <;> simp [vT]
                  clear hN hV hS
                  have HVS : Hid (Row (wr.setCell ⟨V, j, none⟩ (.int .i64 (zi j))) V [.int .i64 (vT zi (j + 1) 0), .int .i64 (vT zi (j + 1) 1)]) := by
                    show Row _ _ _
                    rw [← vT_set2 zi j hj2]
                    exact Row.put j HV.out
                  generalize zi j = zj at *
                  go_wp2
                  go_roundw
                  case rel => exact ⟨j + 1, by omega, by omega, by go_num, HVS.out, HS.out.put nV.out.1 nV.out.2⟩
                  case measure => simp [intOf]; omega
                · have hjl3 : ¬ ((j : Int) < 2) := by omega
                  clear hV hS
                  go_wp2
                  go_meet
                  case rel => exact ⟨_, _, vT_in hjk HZ3.out, vT_in hjk HZ3.out, HV.out, HS.out⟩
              · have hjl : ¬ ((j : Int) < ki) := by omega
                clear hV hS
                go_wp2
                go_meet
                case rel => exact ⟨_, _, vT_in hjk HZ3.out, vT_in hjk HZ3.out, HV.out, HS.out⟩
          case rest =>
            obtain ⟨v0, v1, i0, i1, hV, hS⟩ := hcut
            clear HS s0 HZ1 HZ2 HZ3 zw EV kb
            have c0 := hV.c 0 _ rfl
            have c1 := hV.c 1 _ rfl
            have HV : Hid (Row wc V [.int .i64 v0, .int .i64 v1]) := hV
            have HS : Hid (Ks w C.toKq wc b c M) := hS
            have zV := hV.lt
            clear hV hS
            by_cases k0 : v0 = 0
            · have d0 : (v0 == 0) = true := beq_iff_eq.2 k0
              have cK := cCr.out b wc c M (by omega) HS.out
              have HL1 : Hid (L ≤ c.crashC.l) := by show L ≤ c.k - 1; have := HS.out.i.lk; omega
              subst k0
              clear HH
              go_wp2_with (go_at_call 19; refine cK.mono ?_; rintro o x1 ⟨rfl, hS, _⟩; have S1 : Hid (Ks w C.toKq x1 b c.crashC M) := hS; clear hS)
              go_roundw
              case rel => exact ⟨i + 1, c.crashC, M, L, by omega, by omega, by go_num, rfl, rfl, by omega, HL1.out, S1.out⟩
              case measure => simp [intOf]; omega
            · have d0 : (v0 == 0) = false := by simpa using k0
              have cR := C.read b c M v1 wc HS.out.hw HS.out.lb HS.out.r HS.out.i (by omega) i1
              by_cases e0 : c.readE v1 = 0
              · obtain ⟨t1, t2, t3, t4, t5, t6, t7⟩ := Kp.told HS.out.i e0
                have HI1 : Hid ((c.readC v1).I (M + 1)) := Kp.read_i HS.out.i v1
                have cKp := fun u (h : Ks w C.toKq u b (c.readC v1) (M + 1)) => C.kept b (c.readC v1) (M + 1) u h.hw h.lb h.r h.i (by omega)
                rw [e0, errc_zero] at cR
                have g1 : ¬ (c.readN v1 ≤ L) := by omega
                have g2 : ¬ (c.readN v1 < v1) := by omega
                have g3 : ¬ ((c.readC v1).k ≤ c.readN v1) := by omega
                have HL1 : Hid (c.readN v1 ≤ (c.readC v1).l) := by show _ ≤ _; rw [t5]; exact Int.le_refl _
                have wM : IntKind.i64.wrap ((M : Int) + 1) = (M : Int) + 1 := IntWalk.i64_in _ (by omega)
                have nB : Hid (V ≠ b) := fun h => nV.out.1 h.symm
                clear t1 t2 t3 t4 t5 e0
                generalize c.readN v1 = rn at *
                generalize c.readC v1 = c' at *
                generalize hkk : c'.k = kk at *
                go_wp2_with (first
                  | (go_at_call 18; refine cR.mono ?_; rintro o x1 ⟨rfl, hR, hK⟩; have rV := hK.row nB.out HV.out; have d1 := rV.c 1 _ rfl; have S1 : Hid (Ks w C.toKq x1 b c' (M + 1)) := HS.out.go hR HI1.out hK; clear hR hK rV)
                  | (go_at_call 20; refine (cKp _ S1.out).mono ?_; rintro o x2 ⟨rfl, hR, hK⟩; have S2 : Hid (Ks w C.toKq x2 b c' (M + 1)) := S1.out.go hR HI1.out hK; clear hR hK))
                go_roundw
                case rel => exact ⟨i + 1, c', M + 1, rn, by omega, by omega, by go_num, by go_num, rfl, by omega, HL1.out, S2.out⟩
                case measure => simp [intOf]; omega
              · have ec : c.readC v1 = c := by unfold Kp.readC; rw [if_neg e0]
                rw [ec, errc_not e0] at cR
                clear ec e0
                go_wp2_with (go_at_call 18; refine cR.mono ?_; rintro o x1 ⟨rfl, hR, hK⟩; have S1 : Hid (Ks w C.toKq x1 b c M) := HS.out.go hR HS.out.i hK; clear hR hK)
                go_roundw
                case rel => exact ⟨i + 1, c, M, L, by omega, by omega, by go_num, rfl, rfl, by omega, hL, S1.out⟩
                case measure => simp [intOf]; omega
        · have hl4 : ¬ ((i : Int) < 80) := by omega
          have cW := C.writes b c M wr hS.hw hS.lb hS.r hS.i (by omega)
          have ws : c.s ≤ (M : Int) := hS.i.s1
          clear hS
          go_wp2_with (go_at_call 21; refine cW.mono ?_; rintro o x1 ⟨rfl, hR, hK⟩; have S1 : Hid (Below w.heap.size w x1) := kbelK HS.out.lb hK HS.out.hw; clear hR hK)
          go_ret
          exact ⟨rfl, S1.out⟩
      · have hl3 : ¬ ((i : Int) < n) := by omega
        have cW := C.writes b c M wr hS.hw hS.lb hS.r hS.i (by omega)
        have ws : c.s ≤ (M : Int) := hS.i.s1
        clear hS
        go_wp2_with (go_at_call 21; refine cW.mono ?_; rintro o x1 ⟨rfl, hR, hK⟩; have S1 : Hid (Below w.heap.size w x1) := kbelK HS.out.lb hK HS.out.hw; clear hR hK)
        go_ret
        exact ⟨rfl, S1.out⟩
end Go.Proofs.Ytigcliepeapcpaj.keeperRises
