/- The ways through the law TopSure. -/
import Derived.Test.YthejaecljkjliaiGreatDoorNm12
import Derived.Test.YthejaecljkjliaiGreatDoorNm03
import Derived.Maps.AppendAt
import Derived.Lib.SmallJoins
import Derived.BigQuiet
import Derived.BigRegion
import Derived.Deep.QuietTactic
import Derived.Deep.RegionHeld
import Derived.Deep.CutRange
import Derived.Deep.CutBlock
import Derived.IntWalk
namespace Go.Proofs.YthejaecljkjliaiGreatDoor.topSure
open Go.ChangeShapes Go.WideShapes Go.ChangeAt Go.RowKit Go.Joins Go.Proofs.YthejaecljkjliaiGreatDoor.told
set_option linter.unusedVariables false
set_option linter.unusedSimpArgs false

set_option maxRecDepth 100000 in
set_option maxHeartbeats 40000000 in
theorem all_ways (sa : Option Addr) (sn sc : Nat) (sz : Nat → Int) (ra : Option Addr) (rn rc : Nat) (rz : Nat → Int) (p : Int) (aa : Option Addr) (an ac : Nat) (aq : Nat → Ac) (root : Int) (w : World) (he : EnvE w) (C : NtS w) (O : TpS w) (hs : NHanded w sa sn sz) (hr : NHanded w ra rn rz) (hp : In64 p) (hA : AHanded w aa an aq) (hx : In64 root) :
    Calls Tryz.prog 4 #[.slice sa sn sc, .slice ra rn rc, .int .i64 p, .slice aa an ac, .int .i64 root] w fun o w' => o = .returned (.bool true) ∧ Below w.heap.size w w' := by
  obtain ⟨i0, hi0, hz0, hz1, hz2⟩ := info_parts infoIntN
  obtain ⟨e0, he0, hy0, hy1, hy2⟩ := info_parts infoSpanN
  obtain ⟨e, hE⟩ := beE_some sn sz rn rz p
  have c1 := one_sure O w
  have cN := fun u hu => C.new sa sn sc sz ra rn rc rz p e u hu (hs.on hu) (hr.on hu) hp hE
  have HA : Hid (an = 0 ∨ ∃ b off : Nat, aa = some ⟨b, off, none⟩ ∧ Acs w b off an aq) := hA.2
  have na := hA.1
  have cE5 : Hid (∀ u, Below w.heap.size w u → Calls Tryz.prog 7 #[.iface 85 (.int .i64 5), .int .i64 5] u fun o w' => o = .returned (.bool true) ∧ Below u.heap.size u w') := fun u hu => error_errno 5 u (he.below hu)
  have cE1 : Hid (∀ u, Below w.heap.size w u → Calls Tryz.prog 7 #[.iface 85 (.int .i64 1), .int .i64 1] u fun o w' => o = .returned (.bool true) ∧ Below u.heap.size u w') := fun u hu => error_errno 1 u (he.below hu)
  clear hs hr hp hA he
  go_enter Tryz.func4, Tryz.ntmps4
  by_cases z0 : e = 0
  case neg =>
    rw [errc_not z0] at cN
    clear HA hE O cE5 cE1
    go_wp2_with (first
      | (go_at_call 20; refine c1.mono ?_; rintro o u1 ⟨rfl, hb⟩; have B1 : Hid (Below w.heap.size w u1) := hb; clear hb)
      | (go_at_call 6; refine (cN _ B1.out).mono ?_; rintro o u2 ⟨pv, rfl, hb, hq⟩; have B2 : Hid (Below w.heap.size w u2) := rbel_on hb B1.out; clear hb hq))
    go_ret
    exact ⟨rfl, B2.out⟩
  subst z0
  have n16 : 1 ≤ sn ∧ sn ≤ 6 := by
    rcases hE with ⟨_, e⟩ | ⟨_, _, e⟩ | ⟨_, _, _, e⟩ | ⟨⟨_, _, c, d⟩, e, _⟩
    · cases e
    · cases e
    · cases e
    · exact ⟨c, d⟩
  obtain ⟨n1, n6⟩ := n16
  have cN2 : Hid (∀ u, Below w.heap.size w u → Calls Tryz.prog 6 #[.slice sa sn sc, .slice ra rn rc, .int .i64 p] u fun o w' => ∃ b F N, o = .returned (.tuple #[.pointer (some ⟨b, 0, none⟩), .nilIface]) ∧ Nv w C.toNt w' b F N ∧ N.W.n = sn) := fun u hu => (cN u hu).mono (by
    rintro o w' ⟨pv, rfl, hb, h⟩
    obtain ⟨b, F, rfl, h1, h2⟩ := h rfl
    rw [errc_zero]
    exact ⟨b, F, _, rfl, ⟨h1, Nn.made_t hE, fun k hk => Nat.le_trans hu.size (h2 k hk), rbel_on hb hu⟩, rfl⟩)
  have cR : Hid (∀ u b F N (i : Nat), Nv w C.toNt u b F N → i < N.W.n → Calls Tryz.prog 19 #[.pointer (some ⟨b, 0, none⟩), .int .i64 i] u fun o w' => o = .returned (.tuple #[.int .i64 (N.W.rd i), .nilIface]) ∧ Below u.heap.size u w') := fun u b F N i g hi => (C.read b F N i u g.h g.t (in64N (by have := g.t.g.i.n6; omega))).mono (by
    rintro o w' ⟨h, hb⟩
    rcases h with ⟨_, rfl⟩ | ⟨h, _⟩
    · rw [Int.toNat_natCast, errc_zero]
      exact ⟨rfl, hb⟩
    · exact absurd ⟨by omega, by omega⟩ h)
  clear cN hE
  go_wp2_with (first
    | (go_at_call 20; refine c1.mono ?_; rintro o u1 ⟨rfl, hb⟩; have B1 : Hid (Below w.heap.size w u1) := hb; clear hb)
    | (go_at_call 6; refine (cN2.out _ B1.out).mono ?_; rintro o u2 ⟨b, F, N, rfl, hg, hN⟩; have G0 : Hid (Nv w C.toNt u2 b F N) := hg; have HN0 : Hid (N.W.n = sn) := hN; clear hg hN))
  clear c1 cN2 B1
  go_loopw [15] (fun vi wr => ∃ (k : Nat) (F : Nat → Prop) (N : Nn), k ≤ an ∧ k ≤ 60 ∧ vi = .int .i64 k ∧ Nv w C.toNt wr b F N ∧ N.W.n = sn) (fun vi _ => 60 - (intOf vi).toNat)
  case atStart => exact ⟨0, F, N, Nat.zero_le _, by omega, rfl, G0.out, HN0.out⟩
  case round =>
    clear G0 HN0
    clear F N
    obtain ⟨k, F, N, hkn, hk60, rfl, hG, hN⟩ := hrel
    have G : Hid (Nv w C.toNt wr b F N) := hG
    by_cases hlt : k < an ∧ k < 60
    · obtain ⟨hlt1, hlt2⟩ := hlt
      have hl3 : (k : Int) < an := by omega
      have hl4 : (k : Int) < 60 := by omega
      obtain ⟨ab, off, rfl, hZ⟩ : ∃ b off : Nat, aa = some ⟨b, off, none⟩ ∧ Acs w b off an aq := HA.out.resolve_left (by omega)
      obtain ⟨z0, z1, z2, i1, i2, i3⟩ := hZ k hlt1
      have hw := hG.hw
      have lab := World.block_lt_of_cell? _ _ z0
      have s0 := (hw.cell (p := ⟨ab, off + k * 3, none⟩) lab).trans z0
      have s1 := (hw.cell (p := ⟨ab, off + k * 3 + 1, none⟩) lab).trans z1
      have s2 := (hw.cell (p := ⟨ab, off + k * 3 + 2, none⟩) lab).trans z2
      have lw : ab < wr.heap.size := Nat.lt_of_lt_of_le lab hw.size
      obtain ⟨N2, e, hD⟩ := nDoR_some hG.t (aq k).wh (aq k).a (aq k).b
      obtain ⟨tT, tn, _⟩ := hD.t hG.t
      have cD := (hG.act i1 i2 i3 hD)
      have HN2 : Hid (N2.W.n = sn) := tn.trans hN
      clear hZ hG hN hw z0 z1 z2 hD i1 i2 i3 tn tT HA O cR
      generalize (aq k).wh = wh at *
      generalize (aq k).a = xa at *
      generalize (aq k).b = xb at *
      generalize errc e = ev at *
      go_wp2_with (go_at_call 9; refine cD.mono ?_; rintro o v1 ⟨F1, rfl, hg, hk1, hk2⟩; have G1 : Hid (Nv w C.toNt v1 b F1 N2) := hg; clear hg hk1 hk2)
      go_roundw
      case rel => exact ⟨k + 1, F1, N2, by omega, by omega, by go_num, G1.out, HN2.out⟩
      case measure => simp [intOf]; omega
    have hc : ¬ ((k : Int) < an) ∨ ((k : Int) < an ∧ ¬ ((k : Int) < 60)) := by omega
    have HN2 : Hid (N.W.n = sn) := hN
    clear hG hN hlt HA
    go_upto_region 9 with (fail)
    go_cut [55] from 48 to 55 (fun v w' => v = .bool false ∧ Nv w C.toNt w' b F N)
    case first =>
      rcases hc with h | ⟨h, h'⟩
      all_goals
        go_wp2
        go_meet
        case rel => exact ⟨rfl, G.out⟩
    case rest =>
      obtain ⟨rfl, hG2⟩ := hcut
      clear G hc
      have G : Hid (Nv w C.toNt wc b F N) := hG2
      clear hG2
      go_upto_region 12 with (fail)
      go_wp2
      go_loopw [14, 16, 17, 18] (fun v vi _ _ wr => ∃ i : Nat, i ≤ sn ∧ vi = .int .i64 i ∧ wr.ownsRow w.heap.size 3 1 v i (icn N.W.rd i) ∧ (∀ k, F k → v.ownBlock ≠ some k) ∧ Nv w C.toNt wr b F N) (fun _ i _ _ _ => sn - (intOf i).toNat)
      case atStart => exact ⟨0, Nat.zero_le _, rfl, World.ownsRow_nil _ _ _ _, (fun k _ e => by cases e), G.out⟩
      case round =>
        clear G
        obtain ⟨i, hi, rfl, hown, hne, hG⟩ := hrel
        have G : Hid (Nv w C.toNt wr b F N) := hG
        have zz := hG.hw.size
        by_cases hin : i < sn
        · have hl5 : (i : Int) < sn := by omega
          have hl6 : (i : Int) < 6 := by omega
          have cK := cR.out wr b F N i hG (by rw [HN2.out]; exact hin)
          have HIc : Hid (icn N.W.rd (i + 1) = icn N.W.rd i ++ [.int .i64 (N.W.rd i)]) := rfl
          have HB : Hid (∀ k, u14.ownBlock = some k → w.heap.size ≤ k) := fun k hk => (hown.lt k hk).1
          have HNe : Hid (∀ k, F k → u14.ownBlock ≠ some k) := hne
          have HN' : Hid (wr.ownsRow w.heap.size 3 1 u14 i (icn N.W.rd i)) := hown
          clear hown hne hG O
          generalize N.W.rd i = rv at *
          generalize icn N.W.rd i = xs at *
          go_wp2_with (first
            | (go_at_call 19; refine cK.mono ?_; rintro o x1 ⟨rfl, hb⟩; have GX : Hid (Nv w C.toNt x1 b F N) := G.out.on hb; have HN1 : Hid (x1.ownsRow w.heap.size 3 1 u14 i xs) := own_onN hb HN'.out; have zx := GX.out.hw.size; clear hb)
            | (at_builtin; refine wpList_append_own_at _ rfl _ _ 22 rfl w.heap.size 3 i0 (.int .i64 0) 1 8 Tryz.underlying22 hi0 hz0 hz1 hz2 rfl (by decide) u14 _ _ rfl (HN1.out.alloc _) ⟨x1.heap.size, 0, none⟩ 1 1 [.int .i64 rv] rfl rfl (fun q u hq => by rw [Addr.add_lit]; exact (Row.made (W := x1) (vs := [.int .i64 rv]) rfl).c _ _ (by simpa using hq)) (fun u hu => by simp at hu; rw [hu]; rfl) (by unfold maxLen; omega) (by omega) (by simp; omega) ?_))
          intro v' x2 hown' hgrow hnn hat
          have HO1 : Hid (x2.ownsRow w.heap.size 3 1 v' (i + 1) (icn N.W.rd (i + 1))) := by
            show x2.ownsRow w.heap.size 3 1 v' (i + 1) (icn N.W.rd (i + 1))
            rw [HIc.out]
            exact hown'
          have GA : Nv w C.toNt (x1.alloc (.cells #[.int .i64 rv] 3)) b F N := GX.out.on (rbel_al (Below.refl _ _))
          have HX2 : Hid (Nv w C.toNt x2 b F N) := GA.grown hgrow (fun k hk e => HNe.out k hk e.symm) (GA.hw.grown hgrow (by simp; omega) HB.out)
          have HN2' : Hid (∀ k, F k → v'.ownBlock ≠ some k) := fun k hk e => by
            rcases hat with h | h
            · rw [h] at e
              exact HNe.out k hk e
            · rw [h] at e
              have := Option.some.inj e
              have l := C.lt GX.out.h k hk
              have l2 : x1.heap.size ≤ (x1.alloc (.cells #[.int .i64 rv] 3)).heap.size := by simp
              omega
          clear hown' hgrow hnn hat HN' HN1 HB HIc HNe GX GA
          go_wp2
          go_roundw
          case rel => exact ⟨i + 1, by omega, by go_num, HO1.out, HN2'.out, HX2.out⟩
          case measure => simp [intOf]; omega
        have hl5 : ¬ ((i : Int) < sn) := by omega
        obtain rfl : sn = i := by omega
        obtain ⟨wa, wc, rfl, hNh, hbk⟩ := own_intsN hown (by omega)
        obtain ⟨g0, rfl, hbk'⟩ := hbk.resolve_left (by omega)
        have HH : Hid (NHanded wr (some ⟨g0, 0, none⟩) sn N.W.rd) := hNh
        have hT := hG.t
        have eN := HN2.out
        have eE0 := egs_e (eoN_egs hT)
        have nNg := eoN_nn hT sn
        have spE := eoN_spE hT (root := root)
        rw [eN] at eE0 spE
        have cEd := C.edges b F N wr hG.h hG.t
        have cFi : Hid (∀ u ea ec, Below w.heap.size w u → EHanded u ea (eoN N).length (egf (eoN N)) → Calls Tryz.prog 21 #[.int .i64 sn, .slice ea (eoN N).length ec] u fun o w' => ∃ v, o = .returned (.tuple #[v, .iface 85 (.int .i64 5)]) ∧ Below u.heap.size u w') := fun u ea ec hu h => O.find sn ea _ ec _ u hu h eE0 nNg
        have cFa : Hid (∀ u ea ec, Below w.heap.size w u → EHanded u ea (eoN N).length (egf (eoN N)) → (eoN N).length ≤ ec → ec ≤ 9223372036854775807 → Calls Tryz.prog 22 #[.int .i64 sn, .slice ea (eoN N).length ec] u fun o w' => ∃ v, o = .returned (.tuple #[v, .iface 85 (.int .i64 5)]) ∧ Below u.heap.size u w') := fun u ea ec hu h h1 h2 => O.fault sn ea _ ec _ u hu h h1 h2 eE0 nNg
        have HT : Hid N.T := hT
        clear hown hne hG hNh hbk hbk' cR hT eE0 nNg
        go_upto_region 28 with (first
          | (go_at_call 16; refine cEd.mono ?_; rintro o x1 ⟨ea, ec, rfl, hEd, hb, hc1, hc2⟩; have B1 : Hid (Below w.heap.size w x1) := rbel_on hb G.out.hw; have H1 : Hid (NHanded x1 (some ⟨g0, 0, none⟩) sn N.W.rd) := HH.out.on hb; have E1 : Hid (EHanded x1 ea (eoN N).length (egf (eoN N))) := hEd; have HC1 : Hid ((eoN N).length ≤ ec) := hc1; have HC2 : Hid (ec ≤ 9223372036854775807) := hc2; clear hb hEd hc1 hc2)
          | (go_at_call 21; refine (cFi.out _ _ _ B1.out E1.out).mono ?_; rintro o x2 ⟨v2, rfl, hb⟩; have B2 : Hid (Below w.heap.size w x2) := rbel_on hb B1.out; have H2 : Hid (NHanded x2 (some ⟨g0, 0, none⟩) sn N.W.rd) := H1.out.on hb; have E2 : Hid (EHanded x2 ea (eoN N).length (egf (eoN N))) := E1.out.on hb; clear hb)
          | (go_at_call 22; refine (cFa.out _ _ _ B2.out E2.out HC1.out HC2.out).mono ?_; rintro o x3 ⟨v3, rfl, hb⟩; have B3 : Hid (Below w.heap.size w x3) := rbel_on hb B2.out; have H3 : Hid (NHanded x3 (some ⟨g0, 0, none⟩) sn N.W.rd) := H2.out.on hb; have E3 : Hid (EHanded x3 ea (eoN N).length (egf (eoN N))) := E2.out.on hb; have cnt : Mark 0 := .mk _; clear hb)
          | (go_at_call 7; have cq : Mark 0 := cnt; refine (cE5.out _ B3.out).mono ?_; clear cq cnt; rintro o x4 ⟨rfl, hb⟩; have B4 : Hid (Below w.heap.size w x4) := rbel_on hb B3.out; have H4 : Hid (NHanded x4 (some ⟨g0, 0, none⟩) sn N.W.rd) := H3.out.on hb; have E4 : Hid (EHanded x4 ea (eoN N).length (egf (eoN N))) := E3.out.on hb; clear hb)
          | (go_at_call 7; refine (cE5.out _ B4.out).mono ?_; rintro o x5 ⟨rfl, hb⟩; have B5 : Hid (Below w.heap.size w x5) := rbel_on hb B4.out; have H5 : Hid (NHanded x5 (some ⟨g0, 0, none⟩) sn N.W.rd) := H4.out.on hb; have E5 : Hid (EHanded x5 ea (eoN N).length (egf (eoN N))) := E4.out.on hb; clear hb))
        clear G HH cEd cFi cFa B1 H1 E1 HC1 HC2 B2 H2 E2 B3 H3 E3 B4 H4 E4
        by_cases hrt : 0 ≤ root ∧ root < sn
        case neg =>
          have cSb := O.sbad sn ea (eoN N).length ec (egf (eoN N)) root x5 B5.out E5.out hx (spE.1 (by omega))
          have dd : root < 0 ∨ (¬ root < 0 ∧ (sn : Int) ≤ root) := by omega
          clear O spE hrt hx
          rcases dd with d | ⟨d, d'⟩
          all_goals
            go_wp2_with (first
              | (go_at_call 23; refine cSb.mono ?_; rintro o y1 ⟨v1, v2', rfl, hb⟩; have Y1 : Hid (Below w.heap.size w y1) := rbel_on hb B5.out; clear hb)
              | (go_at_call 7; refine (cE1.out _ Y1.out).mono ?_; rintro o y2 ⟨rfl, hb⟩; have Y2 : Hid (Below w.heap.size w y2) := rbel_on hb Y1.out; clear hb))
            go_ret
            exact ⟨rfl, Y2.out⟩
        obtain ⟨r, rfl⟩ : ∃ r : Nat, root = r := ⟨root.toNat, by omega⟩
        have hr : r < sn := by omega
        have cSp := O.spans sn ea (eoN N).length ec (egf (eoN N)) r x5 B5.out E5.out (spE.2 (by omega) (by omega)) hr n6
        have d1 : ¬ ((r : Int) < 0) := by omega
        have d2 : ¬ ((sn : Int) ≤ (r : Int)) := by omega
        have g1 : decide ((r : Int) < 0) = false := decide_eq_false d1
        have g2 : decide ((sn : Int) ≤ (r : Int)) = false := decide_eq_false d2
        have g3 : decide (sn ≤ r) = false := decide_eq_false (by omega)
        have hri : (r : Int) < sn := by omega
        have tre := eoN_tree HT.out (r := r) (by omega)
        rw [eN] at tre
        have TR : Hid (∀ v, v ∈ (treeT (egf (eoN N)) (eoN N).length sn r).row → v < sn ∧ (wantT (egf (eoN N)) (eoN N).length sn r v).1 ≤ N.W.rd v - N.W.rd r ∧ N.W.rd v - N.W.rd r ≤ (wantT (egf (eoN N)) (eoN N).length sn r v).2 ∧ okB (wantT (egf (eoN N)) (eoN N).length sn r v).1 (wantT (egf (eoN N)) (eoN N).length sn r v).2 = true) := tre.2
        clear tre spE hrt
        go_upto_region 33 with (go_at_call 23; refine cSp.mono ?_; rintro o X ⟨la, lc, ha, hc, rfl, hS, hB, hb⟩; have BX : Hid (Below w.heap.size w X) := rbel_on hb B5.out; have HX : Hid (NHanded X (some ⟨g0, 0, none⟩) sn N.W.rd) := H5.out.on hb; have EX : Hid (EHanded X ea (eoN N).length (egf (eoN N))) := E5.out.on hb; have SX : Hid (SHanded X la sn (teT (egf (eoN N)) (eoN N).length sn r)) := hS; have TX : Hid (BHanded X ha sn (inT (egf (eoN N)) (eoN N).length sn r)) := hB; clear hb hS hB)
        clear B5 H5 E5 cSp
        go_wp2
        try simp only [g1, g2, g3, Bool.or_self, Bool.or_false, Bool.false_or]
        go_loopw [29, 30, 31, 32, 33, 34, 35] (fun vi _ _ _ _ _ _ wr => ∃ i : Nat, i ≤ sn ∧ vi = .int .i64 i ∧ Below X.heap.size X wr) (fun vi _ _ _ _ _ _ _ => sn - (intOf vi).toNat)
        case atStart => exact ⟨0, Nat.zero_le _, rfl, Below.refl _ _⟩
        case round =>
          obtain ⟨i, hi, rfl, hw⟩ := hrel
          have HW : Hid (Below X.heap.size X wr) := hw
          by_cases hin : i < sn
          case neg =>
            have hl : ¬ ((i : Int) < sn) := by omega
            clear hw O
            go_wp2
            go_ret
            exact ⟨rfl, rbel_on HW.out BX.out⟩
          have hl : (i : Int) < sn := by omega
          obtain ⟨hbk0, hof0, rfl, hTb⟩ := (TX.out.on hw).2.resolve_left (by omega)
          have t1 := hTb i hin
          have zt := World.block_lt_of_cell? _ _ t1
          clear hTb
          cases e : inT (egf (eoN N)) (eoN N).length sn r i with
          | false =>
            rw [e] at t1
            clear hw O
            go_wp2
            go_roundw
            case rel => exact ⟨i + 1, by omega, by go_num, HW.out⟩
            case measure => simp [intOf]; omega
          | true =>
            rw [e] at t1
            have mem : i ∈ (treeT (egf (eoN N)) (eoN N).length sn r).row := of_decide_eq_true e
            obtain ⟨q1, q2, q3, q4⟩ := TR.out i mem
            have te : teT (egf (eoN N)) (eoN N).length sn r i = wantT (egf (eoN N)) (eoN N).length sn r i := if_pos mem
            obtain ⟨sb, so, rfl, hSb⟩ := (SX.out.on hw).2.resolve_left (by omega)
            obtain ⟨y1, y2⟩ := hSb i hin
            rw [te] at y1 y2
            obtain ⟨gb, go, eg, hNr⟩ := (HX.out.on hw).2.resolve_left (by omega)
            cases eg
            have ai := hNr i hin
            have ar := hNr r hr
            rw [Nat.zero_add] at ai ar
            have SD : Hid (∀ s, s ∈ sdL (egf (eoN N)) r i (eoN N).length → okB s.1 s.2 = true ∧ s.1 ≤ N.W.rd i - N.W.rd r ∧ N.W.rd i - N.W.rd r ≤ s.2) := fun s hs => by
              obtain ⟨j, hj, ea', eb', rfl⟩ := sdL_mem hs
              obtain ⟨a', b', k1, k2, k3, k4, k5, k6, _, _, k7, k8, k9, k10⟩ := (eoN_mem HT.out (egf_mem hj)).ex
              obtain rfl : a' = r := by omega
              obtain rfl : b' = i := by omega
              exact ⟨okB_mk ⟨by omega, by omega, by omega⟩, k7, k8⟩
            have cH1 : Hid (∀ u, Calls Tryz.prog 24 #[.agg #[.int .i64 (wantT (egf (eoN N)) (eoN N).length sn r i).1, .int .i64 (wantT (egf (eoN N)) (eoN N).length sn r i).2], .int .i64 (N.W.rd i - N.W.rd r)] u fun o w' => o = .returned (.tuple #[.bool true, .nilIface]) ∧ Below u.heap.size u w') := fun u => O.has _ _ _ u q4 q2 q3
            have m36 := eoN_len HT.out
            have cM : Hid (∀ (a : Option Addr) (cap : Nat) (u : World), Below w.heap.size w u → SHanded u a (sdL (egf (eoN N)) r i (eoN N).length).length (fun t => (sdL (egf (eoN N)) r i (eoN N).length).getD t (0, 0)) → 1 ≤ (sdL (egf (eoN N)) r i (eoN N).length).length → Calls Tryz.prog 25 #[.slice a (sdL (egf (eoN N)) r i (eoN N).length).length cap] u fun o w' => ∃ lo hi, o = .returned (.tuple #[.agg #[.int .i64 lo, .int .i64 hi], .nilIface]) ∧ lo ≤ N.W.rd i - N.W.rd r ∧ N.W.rd i - N.W.rd r ≤ hi ∧ okB lo hi = true ∧ Below u.heap.size u w') := fun a cap u hu h h1 => O.meet a _ cap _ (N.W.rd i - N.W.rd r) u hu h h1 (by have := sdL_len (egf (eoN N)) r i (eoN N).length; omega) (fun t ht => SD.out _ (by rw [List.getD_eq_getElem?_getD, List.getElem?_eq_getElem ht]; exact List.getElem_mem ht))
            have cH2 : Hid (∀ lo hi u, okB lo hi = true → lo ≤ N.W.rd i - N.W.rd r → N.W.rd i - N.W.rd r ≤ hi → Calls Tryz.prog 24 #[.agg #[.int .i64 lo, .int .i64 hi], .int .i64 (N.W.rd i - N.W.rd r)] u fun o w' => o = .returned (.tuple #[.bool true, .nilIface]) ∧ Below u.heap.size u w') := fun lo hi u h1 h2 h3 => O.has lo hi _ u h1 h2 h3
            have ri := rd_t HT.out (i := i) (by omega)
            have rr := rd_t HT.out (i := r) (by omega)
            have wd : IntKind.i64.wrap (N.W.rd i - N.W.rd r) = N.W.rd i - N.W.rd r := IntWalk.i64_in _ (by omega)
            have za := World.block_lt_of_cell? _ _ ai
            have zs := World.block_lt_of_cell? _ _ y1
            clear hw O hSb hNr q1 q2 q3 q4 te mem e
            generalize (wantT (egf (eoN N)) (eoN N).length sn r i).1 = w1 at *
            generalize (wantT (egf (eoN N)) (eoN N).length sn r i).2 = w2 at *
            go_upto_region 37 with (fail)
            go_region_held (fun w' => w'.cell? ⟨sb, so + i * 2, none⟩ = some (.int .i64 w1) ∧ w'.cell? ⟨sb, so + i * 2 + 1, none⟩ = some (.int .i64 w2) ∧ w'.cell? ⟨g0, i, none⟩ = some (.int .i64 (N.W.rd i)) ∧ w'.cell? ⟨g0, r, none⟩ = some (.int .i64 (N.W.rd r))) (go_keep) (first
              | (go_at_call 24; refine (cH1.out _).mono ?_; rintro o z1 ⟨rfl, hb⟩; have Z1 : Hid (Below X.heap.size X z1) := rbel_on hb (rbel_dr HW.out); have o1 := (hb.cell (p := ⟨sb, so + i * 2, none⟩) zs).trans y1; have o2 := (hb.cell (p := ⟨sb, so + i * 2 + 1, none⟩) zs).trans y2; have o3 := (hb.cell (p := ⟨g0, i, none⟩) za).trans ai; have o4 := (hb.cell (p := ⟨g0, r, none⟩) za).trans ar; clear hb))
            all_goals
              clear o1 o2 o3 o4 y1 y2 ai ar za zs t1 zt
              go_upto_region 41 with (fail)
              go_wp2
              go_loopw [32, 33] (fun v vk wr => ∃ k : Nat, k ≤ (eoN N).length ∧ vk = .int .i64 k ∧ wr.ownsRow X.heap.size 38 2 v (sdL (egf (eoN N)) r i k).length (scl (sdL (egf (eoN N)) r i k)) ∧ Below X.heap.size X wr) (fun _ vk _ => (eoN N).length - (intOf vk).toNat)
              case atStart => exact ⟨0, Nat.zero_le _, rfl, World.ownsRow_nil _ _ _ _, Z1.out⟩
              case round =>
                clear Z1 HW
                obtain ⟨k, hk, rfl, hown, hw⟩ := hrel
                have HW : Hid (Below X.heap.size X wr) := hw
                have lk := sdL_len (egf (eoN N)) r i k
                have zw := hw.size
                by_cases hkm : k < (eoN N).length
                · have hl7 : (k : Int) < ((eoN N).length : Nat) := by omega
                  obtain ⟨eb, eo, rfl, hEs⟩ := (EX.out.on hw).2.resolve_left (by omega)
                  obtain ⟨p1, p2, p3, p4⟩ := hEs k hkm
                  have ze := World.block_lt_of_cell? _ _ p1
                  have HO : Hid (wr.ownsRow X.heap.size 38 2 u32 (sdL (egf (eoN N)) r i k).length (scl (sdL (egf (eoN N)) r i k))) := hown
                  have HL : Hid (∀ g, u32.ownBlock = some g → X.heap.size ≤ g) := fun g hg => (hown.lt g hg).1
                  by_cases cc : ((egf (eoN N)) k).a = r ∧ ((egf (eoN N)) k).b = i
                  · have SS : Hid (sdL (egf (eoN N)) r i (k + 1) = sdL (egf (eoN N)) r i k ++ [(((egf (eoN N)) k).lo, ((egf (eoN N)) k).hi)]) := by
                      show sdL (egf (eoN N)) r i k ++ (if ((egf (eoN N)) k).a = r ∧ ((egf (eoN N)) k).b = i then [(((egf (eoN N)) k).lo, ((egf (eoN N)) k).hi)] else []) = _
                      rw [if_pos cc]
                    rw [cc.1] at p1
                    rw [cc.2] at p2
                    clear hown hw hEs cc cM cH2 SD
                    generalize ((egf (eoN N)) k).lo = l1 at *
                    generalize ((egf (eoN N)) k).hi = l2 at *
                    go_wp2_with (at_builtin; refine wpList_append_own_at _ rfl _ _ 66 rfl X.heap.size 38 e0 _ 2 16 Tryz.underlying66 he0 hy0 hy1 hy2 rfl (by decide) u32 _ _ rfl (HO.out.alloc _) ⟨wr.heap.size, 0, none⟩ 1 1 [.int .i64 l1, .int .i64 l2] rfl rfl (fun q u hq => by rw [Addr.add_lit]; exact (Row.made (W := wr) (vs := [.int .i64 l1, .int .i64 l2]) rfl).c _ _ (by simpa using hq)) (fun u hu => by simp at hu; rcases hu with rfl | rfl <;> rfl) (by unfold maxLen; omega) (by omega) (by simp; omega) ?_)
                    intro v' x2 own' hgrow hnn hat
                    have O2 : Hid (x2.ownsRow X.heap.size 38 2 v' (sdL (egf (eoN N)) r i (k + 1)).length (scl (sdL (egf (eoN N)) r i (k + 1)))) := by
                      show x2.ownsRow X.heap.size 38 2 v' (sdL (egf (eoN N)) r i (k + 1)).length (scl (sdL (egf (eoN N)) r i (k + 1)))
                      rw [SS.out, List.length_append, scl_app]
                      exact own'
                    have W2 : Hid (Below X.heap.size X x2) := (rbel_al HW.out).grown hgrow (by simp; omega) HL.out
                    clear own' hgrow hnn hat SS HO HL
                    go_wp2
                    go_roundw
                    case rel => exact ⟨k + 1, by omega, by go_num, O2.out, W2.out⟩
                    case measure => simp [intOf]; omega
                  · have SS : Hid (sdL (egf (eoN N)) r i (k + 1) = sdL (egf (eoN N)) r i k) := by
                      show sdL (egf (eoN N)) r i k ++ (if ((egf (eoN N)) k).a = r ∧ ((egf (eoN N)) k).b = i then [(((egf (eoN N)) k).lo, ((egf (eoN N)) k).hi)] else []) = _
                      rw [if_neg cc, List.append_nil]
                    have O2 : Hid (wr.ownsRow X.heap.size 38 2 u32 (sdL (egf (eoN N)) r i (k + 1)).length (scl (sdL (egf (eoN N)) r i (k + 1)))) := by
                      show wr.ownsRow X.heap.size 38 2 u32 (sdL (egf (eoN N)) r i (k + 1)).length (scl (sdL (egf (eoN N)) r i (k + 1)))
                      rw [SS.out]
                      exact HO.out
                    have dc : (((egf (eoN N)) k).a == (r : Int)) = false ∨ ((((egf (eoN N)) k).a == (r : Int)) = true ∧ (((egf (eoN N)) k).b == (i : Int)) = false) := by
                      by_cases c1 : ((egf (eoN N)) k).a = r
                      · exact Or.inr ⟨by simp [c1], by simpa using (fun q => cc ⟨c1, q⟩)⟩
                      · exact Or.inl (by simpa using c1)
                    clear hown hw hEs cc cM cH2 SD SS HO
                    generalize ((egf (eoN N)) k).a = l1 at *
                    generalize ((egf (eoN N)) k).b = l2 at *
                    rcases dc with c1 | ⟨c1, c2⟩
                    all_goals
                      go_wp2
                      go_roundw
                      case rel => exact ⟨k + 1, by omega, by go_num, O2.out, HW.out⟩
                      case measure => simp [intOf]; omega
                · have hl7 : ¬ ((k : Int) < ((eoN N).length : Nat)) := by omega
                  obtain rfl : k = (eoN N).length := by omega
                  obtain ⟨da, dcap, rfl, hD⟩ := own_spansN hown (by omega)
                  have HD : Hid (SHanded wr da (sdL (egf (eoN N)) r i (eoN N).length).length (fun t => (sdL (egf (eoN N)) r i (eoN N).length).getD t (0, 0))) := hD
                  by_cases d0 : (sdL (egf (eoN N)) r i (eoN N).length).length = 0
                  · rw [d0]
                    clear hown hw hD cM cH2 SD HD
                    go_wp2
                    go_roundw
                    case rel => exact ⟨i + 1, by omega, by go_num, HW.out⟩
                    case measure => simp [intOf]; omega
                  · have dn : (((sdL (egf (eoN N)) r i (eoN N).length).length : Int) == 0) = false := by simpa using d0
                    have cMe := cM.out da dcap wr (rbel_on hw BX.out) hD (by omega)
                    obtain ⟨gb, go, eg, hNr⟩ := (HX.out.on hw).2.resolve_left (by omega)
                    cases eg
                    have ai := hNr i hin
                    have ar := hNr r hr
                    rw [Nat.zero_add] at ai ar
                    have za := World.block_lt_of_cell? _ _ ai
                    clear hown hw hD cM SD HD hNr
                    go_upto_region 48 with (go_at_call 25; refine cMe.mono ?_; rintro o y1 ⟨lo, hi2, rfl, m1, m2, m3, hb⟩; have BY : Hid (Below X.heap.size X (y1.alloc (.cells #[.int .i64 lo, .int .i64 hi2] 38))) := rbel_al (rbel_on hb HW.out); have RS : Hid (Row (y1.alloc (.cells #[.int .i64 lo, .int .i64 hi2] 38)) y1.heap.size [.int .i64 lo, .int .i64 hi2]) := Row.made rfl; have cH3 : Hid (∀ u, Calls Tryz.prog 24 #[.agg #[.int .i64 lo, .int .i64 hi2], .int .i64 (N.W.rd i - N.W.rd r)] u fun o w' => o = .returned (.tuple #[.bool true, .nilIface]) ∧ Below u.heap.size u w') := fun u => cH2.out lo hi2 u m3 m1 m2; have bi := (rbel_al (ob := .cells #[.int .i64 lo, .int .i64 hi2] 38) hb).cell (p := ⟨g0, i, none⟩) za |>.trans ai; have br := (rbel_al (ob := .cells #[.int .i64 lo, .int .i64 hi2] 38) hb).cell (p := ⟨g0, r, none⟩) za |>.trans ar; clear hb m1 m2 m3)
                    have r0 := RS.out.c 0 _ rfl
                    have r1 := RS.out.c 1 _ rfl
                    have zr := RS.out.lt
                    have zb := World.block_lt_of_cell? _ _ bi
                    clear RS ai ar za cMe cH2
                    generalize y1.alloc (.cells #[.int .i64 lo, .int .i64 hi2] 38) = Y at *
                    generalize y1.heap.size = V at *
                    go_region_held (fun w' => w'.cell? ⟨V, 0, none⟩ = some (.int .i64 lo) ∧ w'.cell? ⟨V, 1, none⟩ = some (.int .i64 hi2) ∧ w'.cell? ⟨g0, i, none⟩ = some (.int .i64 (N.W.rd i)) ∧ w'.cell? ⟨g0, r, none⟩ = some (.int .i64 (N.W.rd r))) (go_keep) (first
                      | (go_at_call 24; refine (cH3.out _).mono ?_; rintro o z3 ⟨rfl, hb⟩; have Z3 : Hid (Below X.heap.size X z3) := rbel_on hb (rbel_dr BY.out); have o1 := (hb.cell (p := ⟨V, 0, none⟩) zr).trans r0; have o2 := (hb.cell (p := ⟨V, 1, none⟩) zr).trans r1; have o3 := (hb.cell (p := ⟨g0, i, none⟩) zb).trans bi; have o4 := (hb.cell (p := ⟨g0, r, none⟩) zb).trans br; clear hb))
                    all_goals
                      go_wp2
                      go_roundw
                      case rel => exact ⟨i + 1, by omega, by go_num, Z3.out⟩
                      case measure => simp [intOf]; omega
end Go.Proofs.YthejaecljkjliaiGreatDoor.topSure
