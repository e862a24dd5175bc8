/- The ways through the law NetHolds. -/
import Derived.Test.YtnagdjipmpjaaahDoorNm15
import Derived.Test.YtnagdjipmpjaaahDoorNm17
import Derived.Test.YtnagdjipmpjaaahDoorNm04
import Derived.Test.YtnagdjipmpjaaahDoorNm13
import Derived.Maps.AppendAt
import Derived.Lib.SmallJoins
import Derived.BigQuiet
import Derived.BigRegion
import Derived.Deep.QuietTactic
import Derived.Deep.RegionHeld
import Derived.Deep.RegionWith
import Derived.Deep.CutRange
import Derived.Deep.CutBlock
import Derived.IntWalk
namespace Go.Proofs.YtnagdjipmpjaaahDoor.netHolds
open Go.ChangeShapes Go.WideShapes Go.ChangeAt Go.RowKit Go.Joins Go.Proofs.YtnagdjipmpjaaahDoor.told
set_option linter.unusedVariables false
set_option linter.unusedSimpArgs false

/-- What package bounds must answer here. -/
structure BdFit (w0 : World) : Prop where
  fits : ∀ (z : Int) (a : Option Addr) (m cap : Nat) (q : Nat → Eg) (ca : Option Addr) (k cc : Nat) (c : Nat → Int) (b : Bool) (e : Int) (u : World), Below w0.heap.size w0 u → EHanded u a m q → NHanded u ca k c → In64 z → FitA z q m k c b e → Calls Tryd.prog 35 #[.int .i64 z, .slice a m cap, .slice ca k cc] u fun r w' => r = .returned (.tuple #[.bool b, errc e]) ∧ Below u.heap.size u w'
theorem be_zero {n : Nat} {z : Nat → Int} {m : Nat} {r : Nat → Int} {p : Int} (h : BeE n z m r p 0) : 1 ≤ n ∧ n ≤ 6 := by
  rcases h with ⟨_, e⟩ | ⟨_, _, e⟩ | ⟨_, _, _, e⟩ | ⟨⟨a, b, c, d⟩, _, q, _⟩
  · cases e
  · cases e
  · cases e
  · exact ⟨c, d⟩
set_option maxRecDepth 100000 in
set_option maxHeartbeats 40000000 in
theorem all_ways (sa : Option Addr) (sn sc : Nat) (sz : Nat → Int) (ra : Option Addr) (rn rc : Nat) (rz : Nat → Int) (p : Int) (aa : Option Addr) (an ac : Nat) (aq : Nat → Ac) (w : World) (he : EnvE w) (C : NtE w) (B : BdFit w) (hs : NHanded w sa sn sz) (hr : NHanded w ra rn rz) (hp : In64 p) (ha : AHanded w aa an aq) :
    Calls Tryd.prog 7 #[.slice sa sn sc, .slice ra rn rc, .int .i64 p, .slice aa an ac] w fun o w' => o = .returned (.bool true) ∧ Below w.heap.size w w' := by
  obtain ⟨i0, hi0, hz0, hz1, hz2⟩ := info_parts infoIntN
  obtain ⟨e, hE⟩ := beE_some sn sz rn rz p
  have HB1 : Hid (Below w.heap.size w ((w.alloc (.cells #[.int .i64 0, .int .i64 100] 3)).alloc (.cells #[.int .i64 0, .int .i64 0] 3))) := rbel_al (rbel_al (Below.refl _ _))
  have R1 : Hid (NHanded ((w.alloc (.cells #[.int .i64 0, .int .i64 100] 3)).alloc (.cells #[.int .i64 0, .int .i64 0] 3)) (some ⟨w.heap.size, 0, none⟩) 2 netOne.z2) := row2N (Row.al (Row.made (vs := [.int .i64 0, .int .i64 100]) rfl))
  have R2 : Hid (NHanded ((w.alloc (.cells #[.int .i64 0, .int .i64 100] 3)).alloc (.cells #[.int .i64 0, .int .i64 0] 3)) (some ⟨w.heap.size + 1, 0, none⟩) 2 netOne.r2) := row2N (Row.made (vs := [.int .i64 0, .int .i64 0]) (by simp))
  have cO := fun (u : World) (b : Nat) (F : Nat → Prop) (g : Nv w C.toNt u b F netOne.n3) => C.off b F netOne.n3 0 1 98 104 0 u g.h g.t (by decide) (by decide) netOne.bet
  have cN := fun u hu => C.new sa sn sc sz ra rn rc rz p e u hu (hs.on hu) (hr.on hu) hp hE
  have HA : Hid (an = 0 ∨ ∃ b off : Nat, aa = some ⟨b, off, none⟩ ∧ Acs w b off an aq) := ha.2
  have hn := ha.1
  have HE : Hid (∀ u, Below w.heap.size w u → EnvE u) := fun u hu => he.below hu
  have cnt : Mark 0 := .mk _
  simp only [errc_zero] at cO
  clear hs hr hp ha he
  go_enter Tryd.func7, Tryd.ntmps7
  go_upto_region 7 with (first
    | (go_at_call 30; refine (Nv.made C.toNt HB1.out R1.out R2.out (by decide) netOne.be).mono ?_; rintro o v0 ⟨b0, F0, rfl, hg, hg1, hg2⟩; have G0 : Hid (Nv w C.toNt v0 b0 F0 netOne.n0) := hg; clear hg hg1 hg2)
    | (go_at_call 31; have cq : Mark 0 := cnt; have c1 := Nv.act G0.out (by decide) (by decide) (by decide) netOne.d1; rw [errc_zero] at c1; refine c1.mono ?_; clear c1 cq cnt; rintro o v1 ⟨F1, rfl, hg, hk1, hk2⟩; have G1 : Hid (Nv w C.toNt v1 b0 F1 netOne.n1) := hg; have cnt : Mark 1 := .mk _; clear hg hk1 hk2)
    | (go_at_call 31; have cq : Mark 1 := cnt; have c1 := Nv.act G1.out (by decide) (by decide) (by decide) netOne.d2; rw [errc_zero] at c1; refine c1.mono ?_; clear c1 cq cnt; rintro o v2 ⟨F2, rfl, hg, hk1, hk2⟩; have G2 : Hid (Nv w C.toNt v2 b0 F2 netOne.n2) := hg; have cnt : Mark 2 := .mk _; clear hg hk1 hk2)
    | (go_at_call 31; have cq : Mark 2 := cnt; have c1 := Nv.act G2.out (by decide) (by decide) (by decide) netOne.d3; rw [errc_zero] at c1; refine c1.mono ?_; clear c1 cq cnt; rintro o v3 ⟨F3, rfl, hg, hk1, hk2⟩; have G3 : Hid (Nv w C.toNt v3 b0 F3 netOne.n3) := hg; have cnt : Mark 3 := .mk _; clear hg hk1 hk2)
    | (go_at_call 32; refine (cO _ _ _ G3.out).mono ?_; rintro o v4 ⟨rfl, hb⟩; have HW4 : Hid (Below w.heap.size w v4) := rbel_on hb G3.out.hw; clear hb))
  have HW : Hid (Below w.heap.size w (v4.alloc (.cells #[.int .i64 98, .int .i64 104] 64))) := rbel_al HW4.out
  clear HB1 R1 R2 cO G0 G1 G2 G3 cnt HW4
  by_cases z0 : e = 0
  case neg =>
    rw [errc_not z0] at cN
    clear B HE HA hE
    go_wp2_with (go_at_call 30; refine (cN _ HW.out).mono ?_; rintro o v5 ⟨pv, rfl, hb, hx⟩; have H5 : Hid (Below w.heap.size w v5) := rbel_on hb HW.out; clear hb hx)
    go_ret
    exact ⟨rfl, H5.out⟩
  subst z0
  obtain ⟨n1, n6⟩ := be_zero hE
  have cN2 : Hid (∀ u, Below w.heap.size w u → Calls Tryd.prog 30 #[.slice sa sn sc, .slice ra rn rc, .int .i64 p] u fun o w' => ∃ b F N, o = .returned (.tuple #[.pointer (some ⟨b, 0, none⟩), .nilIface]) ∧ Nv w C.toNt w' b F N ∧ N.W.n = sn) := fun u hu => (cN u hu).mono (by
    rintro o w' ⟨pv, rfl, hb, h⟩
    obtain ⟨b, F, rfl, h1, h2⟩ := h rfl
    rw [errc_zero]
    exact ⟨b, F, _, rfl, ⟨h1, Nn.made_t hE, fun k hk => Nat.le_trans hu.size (h2 k hk), rbel_on hb hu⟩, rfl⟩)
  have cR : Hid (∀ u b F N (i : Nat), Nv w C.toNt u b F N → i < N.W.n → Calls Tryd.prog 33 #[.pointer (some ⟨b, 0, none⟩), .int .i64 i] u fun o w' => o = .returned (.tuple #[.int .i64 (N.W.rd i), .nilIface]) ∧ Below u.heap.size u w') := fun u b F N i g hi => (C.read b F N i u g.h g.t (in64N (by have := g.t.g.i.n6; omega))).mono (by
    rintro o w' ⟨h, hb⟩
    rcases h with ⟨_, rfl⟩ | ⟨h, _⟩
    · rw [Int.toNat_natCast, errc_zero]
      exact ⟨rfl, hb⟩
    · exact absurd ⟨by omega, by omega⟩ h)
  clear cN hE
  go_wp2_with (go_at_call 30; refine (cN2.out _ HW.out).mono ?_; rintro o v5 ⟨b, F, N, rfl, hg, hN⟩; have G : Hid (Nv w C.toNt v5 b F N) := hg; have HN : Hid (N.W.n = sn) := hN; clear hg hN)
  clear HW cN2
  go_loopw [14, 15, 16, 17, 18, 19, 20, 21, 22, 23, 24, 25, 26, 27, 28] (fun vi _ _ _ _ _ _ _ _ _ _ _ _ _ _ wr => ∃ (k : Nat) (F : Nat → Prop) (N : Nn), k ≤ an ∧ k ≤ 60 ∧ vi = .int .i64 k ∧ Nv w C.toNt wr b F N ∧ N.W.n = sn) (fun vi _ _ _ _ _ _ _ _ _ _ _ _ _ _ _ => 60 - (intOf vi).toNat)
  case atStart => exact ⟨0, F, N, Nat.zero_le _, by omega, rfl, G.out, HN.out⟩
  case round =>
    clear G HN
    clear F N
    obtain ⟨k, F, N, hkn, hk60, rfl, hG, hN⟩ := hrel
    have G : Hid (Nv w C.toNt wr b F N) := hG
    by_cases hlt : k < an ∧ k < 60
    case neg =>
      have hc : ¬ ((k : Int) < an) ∨ ((k : Int) < an ∧ ¬ ((k : Int) < 60)) := by omega
      clear hG hN B HE HA cR
      rcases hc with h | ⟨h, h'⟩
      all_goals
        go_wp2
        go_ret
        exact ⟨rfl, G.out.hw⟩
    obtain ⟨hlt1, hlt2⟩ := hlt
    have hl3 : (k : Int) < an := by omega
    have hl4 : (k : Int) < 60 := by omega
    obtain ⟨ab, off, rfl, hZ⟩ : ∃ b off : Nat, aa = some ⟨b, off, none⟩ ∧ Acs w b off an aq := by
      rcases HA.out with e | h
      · omega
      · exact h
    obtain ⟨z0, z1, z2, z3⟩ := hZ k hlt1
    have hw := hG.hw
    have lab := World.block_lt_of_cell? _ _ z0
    have s0 := (hw.cell (p := ⟨ab, off + k * 3, none⟩) lab).trans z0
    have s1 := (hw.cell (p := ⟨ab, off + k * 3 + 1, none⟩) lab).trans z1
    have s2 := (hw.cell (p := ⟨ab, off + k * 3 + 2, none⟩) lab).trans z2
    obtain ⟨i1, i2, i3⟩ := z3
    have lw : ab < wr.heap.size := Nat.lt_of_lt_of_le lab hw.size
    obtain ⟨N2, e, hD⟩ := nDoR_some hG.t (aq k).wh (aq k).a (aq k).b
    obtain ⟨tT, tn, t7⟩ := hD.t hG.t
    have cD : Hid (∀ u, Nv w C.toNt u b F N → Calls Tryd.prog 31 #[.pointer (some ⟨b, 0, none⟩), .agg #[.int .i64 (aq k).wh, .int .i64 (aq k).a, .int .i64 (aq k).b]] u fun o w' => ∃ F', o = .returned (errc e) ∧ Nv w C.toNt w' b F' N2) := fun u g => (g.act i1 i2 i3 hD).mono (by
      rintro o w' ⟨F', rfl, h1, _, _⟩
      exact ⟨F', rfl, h1⟩)
    have cE : Hid (∀ u, Below w.heap.size w u → Calls Tryd.prog 10 #[errc e, .int .i64 7] u fun o w' => o = .returned (.bool false) ∧ Below u.heap.size u w') := fun u hu => error_not e 7 u (HE.out u hu) t7 (by decide)
    have HN2 : Hid (N2.W.n = sn) := tn.trans hN
    clear hZ hG hN hw z0 z1 z2 hD i1 i2 i3 t7 tn tT HA
    generalize (aq k).wh = wh at *
    generalize (aq k).a = xa at *
    generalize (aq k).b = xb at *
    generalize errc e = ev at *
    go_wp2_with (first
      | (go_at_call 31; refine (cD.out _ G.out).mono ?_; rintro o v1 ⟨F1, rfl, hg⟩; have G1 : Hid (Nv w C.toNt v1 b F1 N2) := hg; clear hg)
      | (go_at_call 10; refine (cE.out _ G1.out.hw).mono ?_; rintro o v2 ⟨rfl, hb⟩; have G2 : Hid (Nv w C.toNt v2 b F1 N2) := G1.out.on hb; clear hb))
    clear G cD cE G1 s0 s1 s2
    clear F N
    go_loopw [17, 18, 19, 20] (fun v vi _ _ wr => ∃ i : Nat, i ≤ sn ∧ vi = .int .i64 i ∧ wr.ownsRow w.heap.size 3 1 v i (icn N2.W.rd i) ∧ (∀ k, F1 k → v.ownBlock ≠ some k) ∧ Nv w C.toNt wr b F1 N2) (fun _ i _ _ _ => sn - (intOf i).toNat)
    case atStart => exact ⟨0, Nat.zero_le _, rfl, World.ownsRow_nil _ _ _ _, (fun k _ e => by cases e), G2.out⟩
    case round =>
      clear G2
      obtain ⟨i, hi, rfl, hown, hne, hG⟩ := hrel
      have G : Hid (Nv w C.toNt wr b F1 N2) := hG
      have zz := hG.hw.size
      by_cases hin : i < sn
      · have hl5 : (i : Int) < sn := by omega
        have hl6 : (i : Int) < 6 := by omega
        have cK := cR.out wr b F1 N2 i hG (by rw [HN2.out]; exact hin)
        have HIc : Hid (icn N2.W.rd (i + 1) = icn N2.W.rd i ++ [.int .i64 (N2.W.rd i)]) := rfl
        have HB : Hid (∀ k, u17.ownBlock = some k → w.heap.size ≤ k) := fun k hk => (hown.lt k hk).1
        have HNe : Hid (∀ k, F1 k → u17.ownBlock ≠ some k) := hne
        have HN' : Hid (wr.ownsRow w.heap.size 3 1 u17 i (icn N2.W.rd i)) := hown
        clear hown hne hG B
        generalize N2.W.rd i = rv at *
        generalize icn N2.W.rd i = xs at *
        go_wp2_with (first
          | (go_at_call 33; refine cK.mono ?_; rintro o x1 ⟨rfl, hb⟩; have GX : Hid (Nv w C.toNt x1 b F1 N2) := G.out.on hb; have HN1 : Hid (x1.ownsRow w.heap.size 3 1 u17 i xs) := own_onN hb HN'.out; have zx := GX.out.hw.size; clear hb)
          | (at_builtin; refine wpList_append_own_at _ rfl _ _ 27 rfl w.heap.size 3 i0 (.int .i64 0) 1 8 Tryd.underlying27 hi0 hz0 hz1 hz2 rfl (by decide) u17 _ _ rfl (HN1.out.alloc _) ⟨x1.heap.size, 0, none⟩ 1 1 [.int .i64 rv] rfl rfl (fun q u hq => by rw [Addr.add_lit]; exact (Row.made (W := x1) (vs := [.int .i64 rv]) rfl).c _ _ (by simpa using hq)) (fun u hu => by simp at hu; rw [hu]; rfl) (by unfold maxLen; omega) (by omega) (by simp; omega) ?_))
        intro v' x2 hown' hgrow _ hat
        have HO1 : Hid (x2.ownsRow w.heap.size 3 1 v' (i + 1) (icn N2.W.rd (i + 1))) := by
          show x2.ownsRow w.heap.size 3 1 v' (i + 1) (icn N2.W.rd (i + 1))
          rw [HIc.out]
          exact hown'
        have GA : Nv w C.toNt (x1.alloc (.cells #[.int .i64 rv] 3)) b F1 N2 := GX.out.on (rbel_al (Below.refl _ _))
        have HX2 : Hid (Nv w C.toNt x2 b F1 N2) := GA.grown hgrow (fun k hk e => HNe.out k hk e.symm) (GA.hw.grown hgrow (by simp; omega) HB.out)
        have HN2' : Hid (∀ k, F1 k → v'.ownBlock ≠ some k) := fun k hk e => by
          rcases hat with h | h
          · rw [h] at e
            exact HNe.out k hk e
          · rw [h] at e
            have := Option.some.inj e
            have l := C.lt GX.out.h k hk
            have l2 : x1.heap.size ≤ (x1.alloc (.cells #[.int .i64 rv] 3)).heap.size := by simp
            omega
        clear hown' hgrow hat HN' HN1 HB HIc HNe GX GA
        go_wp2
        go_roundw
        case rel => exact ⟨i + 1, by omega, by go_num, HO1.out, HN2'.out, HX2.out⟩
        case measure => simp [intOf]; omega
      · have hl5 : ¬ ((i : Int) < sn) := by omega
        obtain rfl : sn = i := by omega
        obtain ⟨wa, wc, rfl, hNh, hbk⟩ := own_intsN hown (by omega)
        obtain ⟨g0, rfl, hbk'⟩ := hbk.resolve_left (by omega)
        have HH : Hid (NHanded wr (some ⟨g0, 0, none⟩) sn N2.W.rd) := hNh
        have cEd := C.edgesB b F1 N2 wr hG.h hG.t
        have cF : Hid (∀ (u : World) (ea : Option Addr) (ec : Nat), Below w.heap.size w u → EHanded u ea (eoN N2).length (egf (eoN N2)) → NHanded u (some ⟨g0, 0, none⟩) sn N2.W.rd → Calls Tryd.prog 35 #[.int .i64 sn, .slice ea (eoN N2).length ec, .slice (some ⟨g0, 0, none⟩) sn wc] u fun o w' => o = .returned (.tuple #[.bool true, .nilIface]) ∧ Below u.heap.size u w') := fun u ea ec hu h1 h2 => by
          have := B.fits sn ea (eoN N2).length ec (egf (eoN N2)) (some ⟨g0, 0, none⟩) sn wc N2.W.rd true 0 u hu h1 h2 (in64N (by omega)) (by rw [← HN2.out]; exact eoN_fitA G.out.t)
          rwa [errc_zero] at this
        clear hown hne hG hNh hbk hbk' B cR
        generalize eoN N2 = EL at *
        go_wp2_with (first
          | (go_at_call 34; refine cEd.mono ?_; rintro o x1 ⟨ea, ec, rfl, hEd, hb⟩; have GX : Hid (Nv w C.toNt x1 b F1 N2) := G.out.on hb; have HH1 : Hid (NHanded x1 (some ⟨g0, 0, none⟩) sn N2.W.rd) := HH.out.on hb; have HEd : Hid (EHanded x1 ea EL.length (egf EL)) := hEd; clear hb hEd)
          | (go_at_call 35; refine (cF.out _ _ _ GX.out.hw HEd.out HH1.out).mono ?_; rintro o x2 ⟨rfl, hb⟩; have GX2 : Hid (Nv w C.toNt x2 b F1 N2) := GX.out.on hb; have HH2 : Hid (NHanded x2 (some ⟨g0, 0, none⟩) sn N2.W.rd) := HH1.out.on hb; clear hb))
        clear G HH cEd cF GX HH1 HEd
        go_loopw [23, 24, 25, 26, 27, 28] (fun va _ _ _ _ _ wr => ∃ a : Nat, a ≤ sn ∧ va = .int .i64 a ∧ Nv w C.toNt wr b F1 N2 ∧ NHanded wr (some ⟨g0, 0, none⟩) sn N2.W.rd) (fun va _ _ _ _ _ _ => sn - (intOf va).toNat)
        case atStart => exact ⟨0, Nat.zero_le _, rfl, GX2.out, HH2.out⟩
        case round =>
          clear GX2 HH2
          obtain ⟨a, ha, rfl, hG, hH⟩ := hrel
          have G : Hid (Nv w C.toNt wr b F1 N2) := hG
          have HH : Hid (NHanded wr (some ⟨g0, 0, none⟩) sn N2.W.rd) := hH
          clear hG hH
          by_cases han : a < sn
          case neg =>
            have hla : ¬ ((a : Int) < sn) := by omega
            go_wp2
            go_roundw
            case rel => exact ⟨k + 1, F1, N2, by omega, by omega, by go_num, G.out, HN2.out⟩
            case measure => simp [intOf]; omega
          have hla : (a : Int) < sn := by omega
          go_wp2
          go_loopw [24, 25, 26, 27, 28] (fun vb _ _ _ _ wr => ∃ c : Nat, c ≤ sn ∧ vb = .int .i64 c ∧ Nv w C.toNt wr b F1 N2 ∧ NHanded wr (some ⟨g0, 0, none⟩) sn N2.W.rd) (fun vb _ _ _ _ _ => sn - (intOf vb).toNat)
          case atStart => exact ⟨0, Nat.zero_le _, rfl, G.out, HH.out⟩
          case round =>
            clear G HH
            obtain ⟨c, hc, rfl, hG, hH⟩ := hrel
            have G : Hid (Nv w C.toNt wr b F1 N2) := hG
            have HH : Hid (NHanded wr (some ⟨g0, 0, none⟩) sn N2.W.rd) := hH
            by_cases hcn : c < sn
            case neg =>
              have hlc : ¬ ((c : Int) < sn) := by omega
              clear hG hH
              go_wp2
              go_roundw
              case rel => exact ⟨a + 1, by omega, by go_num, G.out, HH.out⟩
              case measure => simp [intOf]; omega
            have hlc : (c : Int) < sn := by omega
            have hnn := HN2.out
            obtain ⟨T, hA⟩ := eoN_all hG.t
            obtain ⟨lo, hi', e, hB⟩ := betA_some (egs_e (eoN_egs hG.t)) hA a c
            have cOf := C.off b F1 N2 a c lo hi' e wr hG.h hG.t (in64N (by omega)) (in64N (by omega)) hB
            have hbt := eoN_bet hG.t (a := a) (b := c) ⟨by omega, by omega, by omega, by omega⟩ hB
            rw [Int.toNat_natCast, Int.toNat_natCast] at hbt
            have ta := rd_t hG.t (i := a) (by omega)
            have tc := rd_t hG.t (i := c) (by omega)
            obtain ⟨gb, go, eg, hNr⟩ : ∃ gb go : Nat, (some ⟨g0, 0, none⟩ : Option Addr) = some ⟨gb, go, none⟩ ∧ Nrd wr gb go sn N2.W.rd := hH.2.resolve_left (by omega)
            cases eg
            have ra := hNr a han
            have rcc := hNr c hcn
            rw [Nat.zero_add] at ra rcc
            have RA : Hid (wr.cell? ⟨g0, a, none⟩ = some (.int .i64 (N2.W.rd a))) := ra
            have RC : Hid (wr.cell? ⟨g0, c, none⟩ = some (.int .i64 (N2.W.rd c))) := rcc
            clear hA hB hG hH hNr hnn ra rcc
            rcases hbt with ⟨rfl, rfl, rfl, hno⟩ | ⟨rfl, b1, b2, b3, b4, hd1, hd2⟩
            · rw [errc_not (by decide)] at cOf
              have cE5 : Hid (∀ u, Below w.heap.size w u → Calls Tryd.prog 10 #[.iface 95 (.int .i64 5), .int .i64 5] u fun o w' => o = .returned (.bool true) ∧ Below u.heap.size u w') := fun u hu => error_errno 5 u (HE.out u hu)
              clear hno RA RC ta tc
              go_wp2_with (first
                | (go_at_call 32; refine cOf.mono ?_; rintro o x1 ⟨rfl, hb⟩; have GX : Hid (Nv w C.toNt (x1.alloc (.cells #[.int .i64 0, .int .i64 0] 64)) b F1 N2) := (G.out.on hb).on (rbel_al (Below.refl _ _)); have HX : Hid (NHanded (x1.alloc (.cells #[.int .i64 0, .int .i64 0] 64)) (some ⟨g0, 0, none⟩) sn N2.W.rd) := (HH.out.on hb).on (rbel_al (Below.refl _ _)); clear hb)
                | (go_at_call 10; refine (cE5.out _ GX.out.hw).mono ?_; rintro o x2 ⟨rfl, hb⟩; have GX2 : Hid (Nv w C.toNt x2 b F1 N2) := GX.out.on hb; have HX2 : Hid (NHanded x2 (some ⟨g0, 0, none⟩) sn N2.W.rd) := HX.out.on hb; clear hb))
              go_roundw
              case rel => exact ⟨c + 1, by omega, by go_num, GX2.out, HX2.out⟩
              case measure => simp [intOf]; omega
            · rw [errc_zero] at cOf
              have hok : okB lo hi' = true := okB_mk ⟨by omega, b3, b4⟩
              have cH : Hid (∀ u, Calls Tryd.prog 36 #[.agg #[.int .i64 lo, .int .i64 hi'], .int .i64 (N2.W.rd c - N2.W.rd a)] u fun o w' => o = .returned (.tuple #[.bool true, .nilIface]) ∧ Below u.heap.size u w') := fun u => has_any lo hi' _ true u hok (decide_eq_true ⟨b1, b2⟩)
              clear hok b1 b2 b3 b4 hd1 hd2
              generalize N2.W.rd a = va at *
              generalize N2.W.rd c = vc at *
              have wd : IntKind.i64.wrap (vc - va) = vc - va := IntWalk.i64_in _ (by omega)
              go_upto_region 42 with (go_at_call 32; refine cOf.mono ?_; rintro o x1 ⟨rfl, hb⟩; have GX : Hid (Nv w C.toNt (x1.alloc (.cells #[.int .i64 lo, .int .i64 hi'] 64)) b F1 N2) := (G.out.on hb).on (rbel_al (Below.refl _ _)); have HX : Hid (NHanded (x1.alloc (.cells #[.int .i64 lo, .int .i64 hi'] 64)) (some ⟨g0, 0, none⟩) sn N2.W.rd) := (HH.out.on hb).on (rbel_al (Below.refl _ _)); have la := World.block_lt_of_cell? _ _ RA.out; have pa := (hb.cell (p := ⟨g0, a, none⟩) la).trans RA.out; have pc := (hb.cell (p := ⟨g0, c, none⟩) la).trans RC.out; clear la hb)
              have lpa := World.block_lt_of_cell? _ _ pa
              have lpc := World.block_lt_of_cell? _ _ pc
              have RS : Hid (Row (x1.alloc (.cells #[.int .i64 lo, .int .i64 hi'] 64)) x1.heap.size [.int .i64 lo, .int .i64 hi']) := Row.made rfl
              have s0 := RS.out.c 0 _ rfl
              have s1 := RS.out.c 1 _ rfl
              have qa : (x1.alloc (.cells #[.int .i64 lo, .int .i64 hi'] 64)).cell? ⟨g0, a, none⟩ = some (.int .i64 va) := (World.cell?_alloc_lt _ _ _ lpa).trans pa
              have qc : (x1.alloc (.cells #[.int .i64 lo, .int .i64 hi'] 64)).cell? ⟨g0, c, none⟩ = some (.int .i64 vc) := (World.cell?_alloc_lt _ _ _ lpc).trans pc
              have lx : x1.heap.size < (x1.alloc (.cells #[.int .i64 lo, .int .i64 hi'] 64)).heap.size := by simp
              have lg : g0 < (x1.alloc (.cells #[.int .i64 lo, .int .i64 hi'] 64)).heap.size := Nat.lt_trans (show g0 < x1.heap.size from lpa) lx
              clear pa pc lpa lpc RS G HH RA RC cOf
              generalize hXX : x1.alloc (.cells #[.int .i64 lo, .int .i64 hi'] 64) = X at *
              generalize x1.heap.size = sb at *
              clear hXX
              go_region_held (fun w' => w'.cell? ⟨sb, 0, none⟩ = some (.int .i64 lo) ∧ w'.cell? ⟨sb, 1, none⟩ = some (.int .i64 hi') ∧ w'.cell? ⟨g0, a, none⟩ = some (.int .i64 va) ∧ w'.cell? ⟨g0, c, none⟩ = some (.int .i64 vc)) (go_keep) (first | (go_at_call 36; refine (cH.out _).mono ?_; rintro o y1 ⟨rfl, hb⟩; have t0 := (hb.cell (p := ⟨sb, 0, none⟩) lx).trans s0; have t1 := (hb.cell (p := ⟨sb, 1, none⟩) lx).trans s1; have t2 := (hb.cell (p := ⟨g0, a, none⟩) lg).trans qa; have t3 := (hb.cell (p := ⟨g0, c, none⟩) lg).trans qc; have GY : Hid (Nv w C.toNt y1 b F1 N2) := (GX.out.on (rbel_dr (Below.refl _ _))).on hb; have HY : Hid (NHanded y1 (some ⟨g0, 0, none⟩) sn N2.W.rd) := (HX.out.on (rbel_dr (Below.refl _ _))).on hb; clear hb))
              all_goals
                go_wp2
                go_roundw
                case rel => exact ⟨c + 1, by omega, by go_num, GY.out, HY.out⟩
                case measure => simp [intOf]; omega
end Go.Proofs.YtnagdjipmpjaaahDoor.netHolds
