/- The ways through the law TopWires. -/
import Derived.Test.YtfmaoblhoafnhajNm19
import Derived.Test.YtfmaoblhoafnhajNm17
import Derived.Test.YtfmaoblhoafnhajNm14
import Derived.Lib.SmallJoins
import Derived.BigQuiet
import Derived.BigRegion
import Derived.Deep.QuietTactic
import Derived.Deep.RegionHeld
import Derived.Deep.CutRange
import Derived.Deep.CutBlock
import Derived.IntWalk
namespace Go.Proofs.Ytfmaoblhoafnhaj.topWires
open Go.ChangeShapes Go.WideShapes Go.ChangeAt Go.RowKit Go.Joins
set_option linter.unusedVariables false
set_option linter.unusedSimpArgs false

set_option maxRecDepth 100000 in
set_option maxHeartbeats 40000000 in
theorem all_ways (sa : Option Addr) (sn sc : Nat) (sz : Nat → Int) (ra : Option Addr) (rn rc : Nat) (rz : Nat → Int) (p : Int) (aa : Option Addr) (an ac : Nat) (aq : Nat → Ac) (a b0 : Int) (w : World) (C : NtX w) (O : TpW w) (R : WrR w) (hs : NHanded w sa sn sz) (hr : NHanded w ra rn rz) (hp : In64 p) (hA : AHanded w aa an aq) (hxa : In64 a) (hxb : In64 b0) :
    Calls Try.prog 4 #[.slice sa sn sc, .slice ra rn rc, .int .i64 p, .slice aa an ac, .int .i64 a, .int .i64 b0] w fun o w' => o = .returned (.bool true) ∧ Below w.heap.size w w' := by
  obtain ⟨e, hE⟩ := beE_some sn sz rn rz p
  have c1 := one_wires O w
  have cN := fun u hu => C.new sa sn sc sz ra rn rc rz p e u hu (hs.on hu) (hr.on hu) hp hE
  have HA : Hid (an = 0 ∨ ∃ b off : Nat, aa = some ⟨b, off, none⟩ ∧ Acs w b off an aq) := hA.2
  have na := hA.1
  clear hs hr hp hA
  go_enter Try.func4, Try.ntmps4
  by_cases z0 : e = 0
  case neg =>
    rw [errc_not z0] at cN
    clear HA hE O R
    go_wp2_with (first
      | (go_at_call 6; refine c1.mono ?_; rintro o u1 ⟨rfl, hb⟩; have B1 : Hid (Below w.heap.size w u1) := hb; clear hb)
      | (go_at_call 7; refine (cN _ B1.out).mono ?_; rintro o u2 ⟨pv, rfl, hb, hq⟩; have B2 : Hid (Below w.heap.size w u2) := rbel_on hb B1.out; clear hb hq))
    go_ret
    exact ⟨rfl, B2.out⟩
  subst z0
  have n16 : 1 ≤ sn ∧ sn ≤ 6 := by
    rcases hE with ⟨_, e⟩ | ⟨_, _, e⟩ | ⟨_, _, _, e⟩ | ⟨⟨_, _, c, d⟩, e, _⟩
    · cases e
    · cases e
    · cases e
    · exact ⟨c, d⟩
  obtain ⟨n1, n6⟩ := n16
  have cN2 : Hid (∀ u, Below w.heap.size w u → Calls Try.prog 7 #[.slice sa sn sc, .slice ra rn rc, .int .i64 p] u fun o w' => ∃ b F N, o = .returned (.tuple #[.pointer (some ⟨b, 0, none⟩), .nilIface]) ∧ Nv w C.toNt w' b F N ∧ N.W.n = sn) := fun u hu => (cN u hu).mono (by
    rintro o w' ⟨pv, rfl, hb, h⟩
    obtain ⟨b, F, rfl, h1, h2⟩ := h rfl
    rw [errc_zero]
    exact ⟨b, F, _, rfl, ⟨h1, Nn.made_t hE, fun k hk => Nat.le_trans hu.size (h2 k hk), rbel_on hb hu⟩, rfl⟩)
  clear cN hE
  go_wp2_with (first
    | (go_at_call 6; refine c1.mono ?_; rintro o u1 ⟨rfl, hb⟩; have B1 : Hid (Below w.heap.size w u1) := hb; clear hb)
    | (go_at_call 7; refine (cN2.out _ B1.out).mono ?_; rintro o u2 ⟨b, F, N, rfl, hg, hN⟩; have G0 : Hid (Nv w C.toNt u2 b F N) := hg; have HN0 : Hid (N.W.n = sn) := hN; clear hg hN))
  clear c1 cN2 B1
  go_loopw [16, 17, 18, 19, 20, 21] (fun vi _ _ _ _ _ wr => ∃ (k : Nat) (F : Nat → Prop) (N : Nn), k ≤ an ∧ k ≤ 60 ∧ vi = .int .i64 k ∧ Nv w C.toNt wr b F N ∧ N.W.n = sn) (fun vi _ _ _ _ _ _ => 60 - (intOf vi).toNat)
  case atStart => exact ⟨0, F, N, Nat.zero_le _, by omega, rfl, G0.out, HN0.out⟩
  case round =>
    clear G0 HN0
    clear F N
    obtain ⟨k, F, N, hkn, hk60, rfl, hG, hN⟩ := hrel
    have G : Hid (Nv w C.toNt wr b F N) := hG
    by_cases hlt : k < an ∧ k < 60
    · obtain ⟨hlt1, hlt2⟩ := hlt
      have hl3 : (k : Int) < an := by omega
      have hl4 : (k : Int) < 60 := by omega
      obtain ⟨ab, off, rfl, hZ⟩ : ∃ b off : Nat, aa = some ⟨b, off, none⟩ ∧ Acs w b off an aq := HA.out.resolve_left (by omega)
      obtain ⟨z0, z1, z2, i1, i2, i3⟩ := hZ k hlt1
      have hw := hG.hw
      have lab := World.block_lt_of_cell? _ _ z0
      have s0 := (hw.cell (p := ⟨ab, off + k * 3, none⟩) lab).trans z0
      have s1 := (hw.cell (p := ⟨ab, off + k * 3 + 1, none⟩) lab).trans z1
      have s2 := (hw.cell (p := ⟨ab, off + k * 3 + 2, none⟩) lab).trans z2
      have lw : ab < wr.heap.size := Nat.lt_of_lt_of_le lab hw.size
      obtain ⟨N2, e, hD⟩ := nDoR_some hG.t (aq k).wh (aq k).a (aq k).b
      obtain ⟨tT, tn, _⟩ := hD.t hG.t
      have cD := (hG.act i1 i2 i3 hD)
      have HN2 : Hid (N2.W.n = sn) := tn.trans hN
      obtain ⟨lo, hi, eo, hB, hok⟩ := off_some tT a b0
      have cO : Hid (∀ u F, Nv w C.toNt u b F N2 → Calls Try.prog 9 #[.pointer (some ⟨b, 0, none⟩), .int .i64 a, .int .i64 b0] u fun o w' => o = .returned (.tuple #[.agg #[.int .i64 lo, .int .i64 hi], errc eo]) ∧ Below u.heap.size u w') := fun u F g => C.off b F N2 a b0 lo hi eo u g.h g.t hxa hxb hB
      clear hZ hG hN hw z0 z1 z2 hD i1 i2 i3 tn tT HA O hB
      generalize (aq k).wh = wh at *
      generalize (aq k).a = xa at *
      generalize (aq k).b = xb at *
      generalize errc e = ev at *
      by_cases ez : eo = 0
      case neg =>
        rw [errc_not ez] at cO
        clear R hok ez
        go_wp2_with (first
          | (go_at_call 8; refine cD.mono ?_; rintro o v1 ⟨F1, rfl, hg, hk1, hk2⟩; have G1 : Hid (Nv w C.toNt v1 b F1 N2) := hg; clear hg hk1 hk2)
          | (go_at_call 9; refine (cO.out _ F1 G1.out).mono ?_; rintro o v2 ⟨rfl, hb⟩; have G2 : Hid (Nv w C.toNt (v2.alloc (.cells #[.int .i64 lo, .int .i64 hi] 39)) b F1 N2) := (G1.out.on hb).on (rbel_al (Below.refl _ _)); clear hb))
        go_roundw
        case rel => exact ⟨k + 1, F1, N2, by omega, by omega, by go_num, G2.out, HN2.out⟩
        case measure => simp [intOf]; omega
      subst ez
      rw [errc_zero] at cO
      have ok := hok rfl
      have o3 := okB_t ok
      have cS : Hid (∀ u, Below w.heap.size w u → Calls Try.prog 10 #[.agg #[.int .i64 lo, .int .i64 hi]] u fun o w' => o = .returned (.tuple #[.string (wst (sb lo hi)), .nilIface]) ∧ Below u.heap.size u w') := fun u hu => by
        have := R.span lo hi u hu (in64N (by omega)) (in64N (by omega))
        rw [if_pos ok, if_pos ok, errc_zero] at this
        exact this
      have cT : Hid (∀ u, Below w.heap.size w u → Calls Try.prog 11 #[.string (wst (sb lo hi))] u fun o w' => o = .returned (.tuple #[.agg #[.int .i64 lo, .int .i64 hi], .nilIface]) ∧ Below u.heap.size u w') := fun u hu => by
        have := R.readSpan (wst (sb lo hi)) u hu (by rw [wst_size, sb_len]; unfold maxLen; omega)
        rw [show (wst (sb lo hi)).data.toList = sb lo hi by simp [wst], rdS_sb ok] at this
        simpa [errc_zero] using this
      clear R hok ok o3
      generalize wst (sb lo hi) = S1 at *
      go_wp2_with (first
        | (go_at_call 8; refine cD.mono ?_; rintro o v1 ⟨F1, rfl, hg, hk1, hk2⟩; have G1 : Hid (Nv w C.toNt v1 b F1 N2) := hg; clear hg hk1 hk2)
        | (go_at_call 9; refine (cO.out _ F1 G1.out).mono ?_; rintro o v2 ⟨rfl, hb⟩; have G2 : Hid (Nv w C.toNt (v2.alloc (.cells #[.int .i64 lo, .int .i64 hi] 39)) b F1 N2) := (G1.out.on hb).on (rbel_al (Below.refl _ _)); have R2 : Hid (Row (v2.alloc (.cells #[.int .i64 lo, .int .i64 hi] 39)) v2.heap.size [.int .i64 lo, .int .i64 hi]) := Row.made rfl; clear hb)
        | (go_at_call 10; refine (cS.out _ G2.out.hw).mono ?_; rintro o v3 ⟨rfl, hb⟩; have G3 : Hid (Nv w C.toNt v3 b F1 N2) := G2.out.on hb; have R3 : Hid (Row v3 v2.heap.size [.int .i64 lo, .int .i64 hi]) := Row.on hb R2.out; clear hb)
        | (go_at_call 11; refine (cT.out _ G3.out.hw).mono ?_; rintro o v4 ⟨rfl, hb⟩; have G4 : Hid (Nv w C.toNt (v4.alloc (.cells #[.int .i64 lo, .int .i64 hi] 39)) b F1 N2) := (G3.out.on hb).on (rbel_al (Below.refl _ _)); have R4 : Hid (Row v4 v2.heap.size [.int .i64 lo, .int .i64 hi]) := Row.on hb R3.out; have q0 := R4.out.c 0 _ rfl; have q1 := R4.out.c 1 _ rfl; have q2 := R4.out.lt; clear hb))
      go_roundw
      case rel => exact ⟨k + 1, F1, N2, by omega, by omega, by go_num, G4.out, HN2.out⟩
      case measure => simp [intOf]; omega
    have hc : ¬ ((k : Int) < an) ∨ ((k : Int) < an ∧ ¬ ((k : Int) < 60)) := by omega
    have HN2 : Hid (N.W.n = sn) := hN
    clear hG hN hlt HA
    go_upto_region 8 with (fail)
    go_cut [48] from 41 to 48 (fun v w' => v = .bool false ∧ Nv w C.toNt w' b F N)
    case first =>
      clear O R
      rcases hc with h | ⟨h, h'⟩
      all_goals
        go_wp2
        go_meet
        case rel => exact ⟨rfl, G.out⟩
    case rest =>
      obtain ⟨rfl, hG2⟩ := hcut
      clear G hc
      have G : Hid (Nv w C.toNt wc b F N) := hG2
      have hT := hG2.t
      have HT : Hid N.T := hT
      have eE0 := egs_e (eoN_egs hT)
      rw [HN2.out] at eE0
      have cEd := C.edges b F N wc hG2.h hG2.t
      have cCk : Hid (∀ u ea ec, Below w.heap.size w u → EHanded u ea (eoN N).length (egf (eoN N)) → Calls Try.prog 13 #[.int .i64 sn, .slice ea (eoN N).length ec] u fun o w' => o = .returned .nilIface ∧ Below u.heap.size u w') := fun u ea ec hu h => O.check sn ea _ ec _ u hu h eE0
      have m36 := eoN_len hT
      clear hG2 hT eE0 O
      go_upto_region 20 with (first
        | (go_at_call 12; refine cEd.mono ?_; rintro o x1 ⟨ea, ec, rfl, hEd, hb⟩; have B1 : Hid (Below w.heap.size w x1) := rbel_on hb G.out.hw; have E1 : Hid (EHanded x1 ea (eoN N).length (egf (eoN N))) := hEd; clear hb hEd)
        | (go_at_call 13; refine (cCk.out _ _ _ B1.out E1.out).mono ?_; rintro o X ⟨rfl, hb⟩; have BX : Hid (Below w.heap.size w X) := rbel_on hb B1.out; have EX : Hid (EHanded X ea (eoN N).length (egf (eoN N))) := E1.out.on hb; clear hb))
      clear cEd cCk B1 E1 G
      go_wp2
      go_loopw [24, 25, 26, 27, 28] (fun vi _ _ _ _ wr => ∃ i : Nat, i ≤ (eoN N).length ∧ vi = .int .i64 i ∧ Below X.heap.size X wr) (fun vi _ _ _ _ _ => (eoN N).length - (intOf vi).toNat)
      case atStart => exact ⟨0, Nat.zero_le _, rfl, Below.refl _ _⟩
      case round =>
        obtain ⟨i, hi, rfl, hw⟩ := hrel
        have HW : Hid (Below X.heap.size X wr) := hw
        by_cases hin : i < (eoN N).length
        case neg =>
          have hl : ¬ ((i : Int) < ((eoN N).length : Nat)) := by omega
          clear hw R
          go_wp2
          go_ret
          exact ⟨rfl, rbel_on HW.out BX.out⟩
        have hl : (i : Int) < ((eoN N).length : Nat) := by omega
        obtain ⟨le, ra1, rb1⟩ := edge_lt HT.out hin
        obtain ⟨eb, eo, rfl, hEs⟩ := (EX.out.on hw).2.resolve_left (by omega)
        obtain ⟨p1, p2, p3, p4⟩ := hEs i hin
        have ze := World.block_lt_of_cell? _ _ p1
        have cL : Hid (∀ u, Below w.heap.size w u → Calls Try.prog 5 #[.agg #[.int .i64 ((egf (eoN N)) i).a, .int .i64 ((egf (eoN N)) i).b, .bool false, .int .i64 0, .int .i64 0, .int .i64 i]] u fun o w' => o = .returned (.tuple #[.string (wst (wb ⟨((egf (eoN N)) i).a, ((egf (eoN N)) i).b, false, 0, 0, i⟩)), .nilIface]) ∧ Below u.heap.size u w') := fun u hu => by
          have := R.letter ⟨((egf (eoN N)) i).a, ((egf (eoN N)) i).b, false, 0, 0, i⟩ u hu ⟨in64N (by show -9223372036854775808 ≤ ((egf (eoN N)) i).a ∧ ((egf (eoN N)) i).a ≤ 9223372036854775807; omega), in64N (by show -9223372036854775808 ≤ ((egf (eoN N)) i).b ∧ ((egf (eoN N)) i).b ≤ 9223372036854775807; omega), in64N (by show (-9223372036854775808 : Int) ≤ 0 ∧ (0 : Int) ≤ 9223372036854775807; omega), in64N (by show (-9223372036854775808 : Int) ≤ 0 ∧ (0 : Int) ≤ 9223372036854775807; omega), in64N (by show -9223372036854775808 ≤ (i : Int) ∧ (i : Int) ≤ 9223372036854775807; omega)⟩
          rw [le, if_pos rfl, errc_zero] at this
          exact this
        have cR : Hid (∀ u, Below w.heap.size w u → Calls Try.prog 14 #[.string (wst (wb ⟨((egf (eoN N)) i).a, ((egf (eoN N)) i).b, false, 0, 0, i⟩))] u fun o w' => o = .returned (.tuple #[.agg #[.int .i64 ((egf (eoN N)) i).a, .int .i64 ((egf (eoN N)) i).b, .bool false, .int .i64 0, .int .i64 0, .int .i64 i], .nilIface]) ∧ Below u.heap.size u w') := fun u hu => by
          have := R.readLetter (wst (wb ⟨((egf (eoN N)) i).a, ((egf (eoN N)) i).b, false, 0, 0, i⟩)) u hu (by rw [wst_size, wb_len]; unfold maxLen; simp)
          rw [show (wst (wb ⟨((egf (eoN N)) i).a, ((egf (eoN N)) i).b, false, 0, 0, i⟩)).data.toList = wb ⟨((egf (eoN N)) i).a, ((egf (eoN N)) i).b, false, 0, 0, i⟩ by simp [wst], rdL_wb le] at this
          simpa [errc_zero, ltv] using this
        clear hw R hEs le p3 p4 ra1 rb1
        generalize wst (wb ⟨((egf (eoN N)) i).a, ((egf (eoN N)) i).b, false, 0, 0, i⟩) = S1 at *
        generalize ((egf (eoN N)) i).a = l1 at *
        generalize ((egf (eoN N)) i).b = l2 at *
        go_upto_region 23 with (fail)
        go_region_held (fun w' => w'.cell? ⟨eb, eo + i * 4, none⟩ = some (.int .i64 l1) ∧ w'.cell? ⟨eb, eo + i * 4 + 1, none⟩ = some (.int .i64 l2)) (go_keep) (first
          | (go_at_call 5; refine (cL.out _ (rbel_on (rbel_dr HW.out) BX.out)).mono ?_; rintro o z1 ⟨rfl, hb⟩; have Z1 : Hid (Below X.heap.size X z1) := rbel_on hb (rbel_dr HW.out); have o1 := (hb.cell (p := ⟨eb, eo + i * 4, none⟩) ze).trans p1; have o2 := (hb.cell (p := ⟨eb, eo + i * 4 + 1, none⟩) ze).trans p2; clear hb))
        all_goals
          have ze1 := World.block_lt_of_cell? _ _ o1
          clear p1 p2 ze
          go_upto_region 25 with (go_at_call 14; refine (cR.out _ (rbel_on Z1.out BX.out)).mono ?_; rintro o z2 ⟨rfl, hb⟩; have Z2 : Hid (Below X.heap.size X (z2.alloc (.cells #[.int .i64 l1, .int .i64 l2, .bool false, .int .i64 0, .int .i64 0, .int .i64 (i : Int)] 23))) := rbel_al (rbel_on hb Z1.out); have RS : Hid (Row (z2.alloc (.cells #[.int .i64 l1, .int .i64 l2, .bool false, .int .i64 0, .int .i64 0, .int .i64 (i : Int)] 23)) z2.heap.size [.int .i64 l1, .int .i64 l2, .bool false, .int .i64 0, .int .i64 0, .int .i64 (i : Int)]) := Row.made rfl; have t1 := ((rbel_al (ob := .cells #[.int .i64 l1, .int .i64 l2, .bool false, .int .i64 0, .int .i64 0, .int .i64 (i : Int)] 23) hb).cell (p := ⟨eb, eo + i * 4, none⟩) ze1).trans o1; have t2 := ((rbel_al (ob := .cells #[.int .i64 l1, .int .i64 l2, .bool false, .int .i64 0, .int .i64 0, .int .i64 (i : Int)] 23) hb).cell (p := ⟨eb, eo + i * 4 + 1, none⟩) ze1).trans o2; clear hb)
          have r0 := RS.out.c 0 _ rfl
          have r1 := RS.out.c 1 _ rfl
          have r5 := RS.out.c 5 _ rfl
          have zr := RS.out.lt
          have ze2 := World.block_lt_of_cell? _ _ t1
          clear RS o1 o2 ze1
          generalize z2.alloc (.cells #[.int .i64 l1, .int .i64 l2, .bool false, .int .i64 0, .int .i64 0, .int .i64 (i : Int)] 23) = Y at *
          generalize z2.heap.size = V at *
          go_quiet (fail)
          go_wp2
          go_roundw
          case rel => exact ⟨i + 1, by omega, by go_num, rbel_drn Z2.out⟩
          case measure => simp [intOf]; omega
end Go.Proofs.Ytfmaoblhoafnhaj.topWires
