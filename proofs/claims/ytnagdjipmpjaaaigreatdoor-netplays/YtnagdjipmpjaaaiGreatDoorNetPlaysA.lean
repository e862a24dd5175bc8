/- The ways through the law NetPlays. -/
import Derived.Test.YtnagdjipmpjaaaiGreatDoorNm32
import Derived.Lib.SmallJoins
import Derived.BigQuiet
import Derived.BigRegion
import Derived.Deep.QuietTactic
import Derived.Deep.RegionHeld
import Derived.Deep.RegionWith
import Derived.Deep.CutRange
import Derived.Deep.CutBlock
import Derived.IntWalk
namespace Go.Proofs.YtnagdjipmpjaaaiGreatDoor.netPlays
open Go.ChangeShapes Go.WideShapes Go.ChangeAt Go.RowKit Go.Joins Go.Proofs.YtnagdjipmpjaaaiGreatDoor.told
set_option linter.unusedVariables false
set_option linter.unusedSimpArgs false

set_option maxRecDepth 100000 in
set_option maxHeartbeats 40000000 in
theorem bad (sa : Option Addr) (sn sc : Nat) (sz : Nat → Int) (ra : Option Addr) (rn rc : Nat) (rz : Nat → Int) (p : Int) (aa : Option Addr) (an ac : Nat) (aq : Nat → Ac) (x y : Int) (w : World) (he : EnvE w) (C : NtP w) (hs : NHanded w sa sn sz) (hr : NHanded w ra rn rz) (hp : In64 p) (ha : AHanded w aa an aq) (hx : In64 x) (hy : In64 y) (e : Int) (h0 : e ≠ 0) (hB : BeE sn sz rn rz p e) :
    Calls Tryz.prog 3 #[.slice sa sn sc, .slice ra rn rc, .int .i64 p, .slice aa an ac, .int .i64 x, .int .i64 y] w fun o w' => o = .returned (.bool true) ∧ Below w.heap.size w w' := by
  have cB := fun (u : World) (hu : Below w.heap.size w u) => begin_at (sc := sc) (rc := rc) (hs.on hu) (hr.on hu) hp hB
  have cN := fun (u : World) (hu : Below w.heap.size w u) => C.new sa sn sc sz ra rn rc rz p e u hu (hs.on hu) (hr.on hu) hp hB
  have cE := fun (u : World) (hu : Below w.heap.size w u) => error_is e u (he.below hu)
  have d1 : (e != 0) = true := by simp [h0]
  have d2 : (e == 0) = false := by simp [h0]
  rw [errc_not h0] at cE
  simp only [errc_not h0] at cN
  clear hs hr hp ha hx hy hB he
  go_enter Tryz.func3, Tryz.ntmps3
  go_wp2_with (first
    | (go_at_call 5; refine (cB _ (Below.refl _ _)).mono ?_; rintro o u1 ⟨rfl, hb⟩; have B1 : Hid (Below w.heap.size w u1) := hb; clear hb)
    | (go_at_call 6; refine (cN _ B1.out).mono ?_; rintro o u2 ⟨pv, rfl, hb, hq⟩; have B2 : Hid (Below w.heap.size w u2) := rbel_on hb B1.out; clear hb hq)
    | (go_at_call 7; refine (cE _ B2.out).mono ?_; rintro o u3 ⟨rfl, hb⟩; have B3 : Hid (Below w.heap.size w u3) := rbel_on hb B2.out; clear hb))
  go_ret
  exact ⟨rfl, B3.out⟩
set_option maxRecDepth 100000 in
set_option maxHeartbeats 40000000 in
theorem good (sa : Option Addr) (sn sc : Nat) (sz : Nat → Int) (ra : Option Addr) (rn rc : Nat) (rz : Nat → Int) (p : Int) (aa : Option Addr) (an ac : Nat) (aq : Nat → Ac) (x y : Int) (w : World) (he : EnvE w) (C : NtP w) (hs : NHanded w sa sn sz) (hr : NHanded w ra rn rz) (hp : In64 p) (ha : AHanded w aa an aq) (hx : In64 x) (hy : In64 y) (hB : BeE sn sz rn rz p 0) :
    Calls Tryz.prog 3 #[.slice sa sn sc, .slice ra rn rc, .int .i64 p, .slice aa an ac, .int .i64 x, .int .i64 y] w fun o w' => o = .returned (.bool true) ∧ Below w.heap.size w w' := by
  have erl : rn = sn ∧ 1 ≤ sn ∧ sn ≤ 6 := by
    rcases hB with ⟨_, e⟩ | ⟨_, _, e⟩ | ⟨_, _, _, e⟩ | ⟨⟨_, _, c, d⟩, e, _⟩
    · cases e
    · cases e
    · cases e
    · exact ⟨e, c, d⟩
  obtain ⟨rfl, n1, n6⟩ := erl
  have cB := fun (u : World) (hu : Below w.heap.size w u) => begin_at (sc := sc) (rc := rc) (hs.on hu) (hr.on hu) hp hB
  have cN := fun (u : World) (hu : Below w.heap.size w u) => Nv.made (sc := sc) (rc := rc) C.toNt hu (hs.on hu) (hr.on hu) hp hB
  have cE := fun (u : World) (hu : Below w.heap.size w u) (e : Int) => error_is e u (he.below hu)
  have cE0 := fun (u : World) (hu : Below w.heap.size w u) => error_same 0 u (he.below hu)
  have cM := fun (u : World) (hu : Below w.heap.size w u) => rnew_at (sc := sc) (rc := rc) (p := p) hs hr hu n1 n6
  have HA : Hid (an = 0 ∨ ∃ b off : Nat, aa = some ⟨b, off, none⟩ ∧ Acs w b off an aq) := ha.2
  have hn := ha.1
  have hp' := hp
  clear hs hr hp ha hB he
  go_enter Tryz.func3, Tryz.ntmps3
  go_wp2_with (first
    | (go_at_call 5; refine (cB _ (Below.refl _ _)).mono ?_; rintro o u1 ⟨rfl, hb⟩; have B1 : Hid (Below w.heap.size w u1) := hb; clear hb)
    | (go_at_call 6; refine (cN _ B1.out).mono ?_; rintro o u2 ⟨b, F, rfl, hN, hb, hF⟩; have P2 : Hid (Nv w C.toNt u2 b F (Nn.made rn sz rz p)) := hN; clear hN hb hF)
    | (go_at_call 7; refine (cE0 _ P2.out.hw).mono ?_; rintro o u3 ⟨rfl, hb⟩; have P3 : Hid (Nv w C.toNt u3 b F (Nn.made rn sz rz p)) := P2.out.on hb; clear hb)
    | (go_at_call 8; refine (cM _ P3.out.hw).mono ?_; rintro o u4 ⟨mb, lb, lc, nb, rfl, hR, hb, hF⟩; have Q4 : Hid (Nq w C.toNt u4 b F (Nn.made rn sz rz p) mb sa sc ra rc (Nn.made rn sz rz p) (.slice none 0 0) lb lc nb) := ⟨P3.out.on hb, hR, fun k hk q => by (have := hF k hk; have := C.lt P3.out.h k q; omega)⟩; clear hR hb hF))
  have cE00 : Hid (∀ u, Below w.heap.size w u → Calls Tryz.prog 7 #[.nilIface, .int .i64 0] u fun o w' => o = .returned (.bool true) ∧ Below u.heap.size u w') := fun u _ => error_nil u
  clear P2 P3 B1 cB cN cE0 cM
  go_loopw [18, 19, 20, 21, 22, 23, 24, 25, 26, 27, 28, 29, 30, 16] (fun vi _ _ _ _ _ _ _ _ _ _ _ _ vt wr => ∃ (k : Nat) (F : Nat → Prop) (N : Nn) (v : Value), k ≤ an ∧ k ≤ 60 ∧ vi = .int .i64 k ∧ Nq w C.toNt wr b F N mb sa sc ra rc N v lb lc nb ∧ N.W.n = rn) (fun vi _ _ _ _ _ _ _ _ _ _ _ _ _ _ => 60 - (intOf vi).toNat)
  case atStart => exact ⟨0, F, _, _, Nat.zero_le _, by omega, rfl, Q4.out, rfl⟩
  case round =>
    clear Q4
    clear F
    obtain ⟨k, F, N, v, hkn, hk60, rfl, hQ, hN⟩ := hrel
    have Q : Hid (Nq w C.toNt wr b F N mb sa sc ra rc N v lb lc nb) := hQ
    by_cases hlt : k < an ∧ k < 60
    · obtain ⟨hlt1, hlt2⟩ := hlt
      have hl3 : (k : Int) < an := by omega
      have hl4 : (k : Int) < 60 := by omega
      obtain ⟨ab, off, rfl, hZ⟩ : ∃ b off : Nat, aa = some ⟨b, off, none⟩ ∧ Acs w b off an aq := by
        rcases HA.out with e | h
        · omega
        · exact h
      obtain ⟨z0, z1, z2, z3⟩ := hZ k hlt1
      have lab := World.block_lt_of_cell? _ _ z0
      have HZ0 : Hid (∀ u : World, Below w.heap.size w u → u.cell? ⟨ab, off + k * 3, none⟩ = some (.int .i64 (aq k).wh) ∧ u.cell? ⟨ab, off + k * 3 + 1, none⟩ = some (.int .i64 (aq k).a) ∧ u.cell? ⟨ab, off + k * 3 + 2, none⟩ = some (.int .i64 (aq k).b)) := fun u hu => ⟨(hu.cell (p := ⟨ab, off + k * 3, none⟩) lab).trans z0, (hu.cell (p := ⟨ab, off + k * 3 + 1, none⟩) lab).trans z1, (hu.cell (p := ⟨ab, off + k * 3 + 2, none⟩) lab).trans z2⟩
      obtain ⟨i1, i2, i3⟩ := z3
      obtain ⟨N2, e, hD⟩ := nDoR_some hQ.p.t (aq k).wh (aq k).a (aq k).b
      obtain ⟨tT, tn, _⟩ := hD.t hQ.p.t
      have cD : Hid (∀ u, Nv w C.toNt u b F N → Calls Tryz.prog 9 #[.pointer (some ⟨b, 0, none⟩), .agg #[.int .i64 (aq k).wh, .int .i64 (aq k).a, .int .i64 (aq k).b]] u fun o w' => ∃ F', o = .returned (errc e) ∧ Nv w C.toNt w' b F' N2 ∧ Keeps F u w' ∧ ∀ k, F' k → F k ∨ u.heap.size ≤ k) := fun u g => g.act i1 i2 i3 hD
      have cR : Hid (∀ u v, RNt w u mb sa sc ra rc N v lb lc nb → Calls Tryz.prog 10 #[.pointer (some ⟨mb, 0, none⟩), .agg #[.int .i64 (aq k).wh, .int .i64 (aq k).a, .int .i64 (aq k).b]] u fun o w' => ∃ v', o = .returned (.int .i64 e) ∧ RNt w w' mb sa sc ra rc N2 v' lb lc nb ∧ KpN u w' mb v v' nb N.W.n) := fun u v g => rndo_at g hQ.p.t hD
      have TN : Hid (N2.W.n = N.W.n) := tn
      have HN2 : Hid (N2.W.n = rn) := tn.trans hN
      have HT2 : Hid N2.T := tT
      obtain ⟨T, hA⟩ := eoN_all tT
      obtain ⟨lo, hi, e2, hBt⟩ := betA_some (egs_e (eoN_egs tT)) hA x y
      have cO : Hid (∀ u F, Nv w C.toNt u b F N2 → Calls Tryz.prog 12 #[.pointer (some ⟨b, 0, none⟩), .int .i64 x, .int .i64 y] u fun o w' => o = .returned (.tuple #[.agg #[.int .i64 lo, .int .i64 hi], errc e2]) ∧ Below u.heap.size u w') := fun u F g => C.off b F N2 x y lo hi e2 u g.h g.t hx hy hBt
      have cOr : Hid (∀ u v, RNt w u mb sa sc ra rc N2 v lb lc nb → Calls Tryz.prog 11 #[.pointer (some ⟨mb, 0, none⟩), .int .i64 x, .int .i64 y] u fun o w' => o = .returned (.tuple #[.agg #[.int .i64 lo, .int .i64 hi], .int .i64 e2]) ∧ Below u.heap.size u w') := fun u v g => roff_at g HT2.out x y lo hi e2 hBt
      have cW : Hid (∀ u F, Nv w C.toNt u b F N2 → Calls Tryz.prog 14 #[.pointer (some ⟨b, 0, none⟩)] u fun o w' => o = .returned (.tuple #[.int .i64 (wid N2.W.n T), .nilIface]) ∧ Below u.heap.size u w') := fun u F g => C.wide b F N2 T u g.h g.t hA
      have cWr : Hid (∀ u v, RNt w u mb sa sc ra rc N2 v lb lc nb → Calls Tryz.prog 13 #[.pointer (some ⟨mb, 0, none⟩)] u fun o w' => o = .returned (.tuple #[.int .i64 (wid N2.W.n T), .int .i64 0]) ∧ Below u.heap.size u w') := fun u v g => rwide_at g HT2.out T hA
      have cEd : Hid (∀ u F, Nv w C.toNt u b F N2 → Calls Tryz.prog 16 #[.pointer (some ⟨b, 0, none⟩)] u fun o w' => ∃ (ea : Option Addr) (ec : Nat), o = .returned (.tuple #[.slice ea (eoN N2).length ec, .nilIface]) ∧ EHanded w' ea (eoN N2).length (egf (eoN N2)) ∧ Below u.heap.size u w') := fun u F g => C.edgesB b F N2 u g.h g.t
      have cEr : Hid (∀ u v, RNt w u mb sa sc ra rc N2 v lb lc nb → Calls Tryz.prog 15 #[.pointer (some ⟨mb, 0, none⟩)] u fun o w' => ∃ (ea : Option Addr) (ec : Nat), o = .returned (.tuple #[.slice ea (eoN N2).length ec, .int .i64 0]) ∧ EHanded w' ea (eoN N2).length (egf (eoN N2)) ∧ Below u.heap.size u w') := fun u v g => rnedges_net g HT2.out
      have s0 := (HZ0.out wr hQ.p.hw).1
      have s1 := (HZ0.out wr hQ.p.hw).2.1
      have s2 := (HZ0.out wr hQ.p.hw).2.2
      have lw : ab < wr.heap.size := Nat.lt_of_lt_of_le lab hQ.p.hw.size
      clear hZ hQ hN z0 z1 z2 hD i1 i2 i3 tn tT hA hBt HA
      generalize (aq k).wh = wh at *
      generalize (aq k).a = xa at *
      generalize (aq k).b = xb at *
      generalize wid N2.W.n T = wv at *
      generalize eoN N2 = EL at *
      have cnt : Mark 0 := .mk _
      go_wp2
      go_region_held (fun w' => w'.cell? ⟨ab, off + k * 3, none⟩ = some (.int .i64 wh) ∧ w'.cell? ⟨ab, off + k * 3 + 1, none⟩ = some (.int .i64 xa) ∧ w'.cell? ⟨ab, off + k * 3 + 2, none⟩ = some (.int .i64 xb)) (go_keep) (first
        | (go_at_call 9; refine (cD.out _ (Q.out.on (rbel_dr (Below.refl _ _))).p).mono ?_; rintro o u1 ⟨F1, rfl, hd, hK, hF⟩; have Q1 : Hid (Nq w C.toNt u1 b F1 N2 mb sa sc ra rc N v lb lc nb) := (Q.out.on (rbel_dr (Below.refl _ _))).goP hd hK hF; have a0 := (HZ0.out u1 Q1.out.p.hw).1; have a1 := (HZ0.out u1 Q1.out.p.hw).2.1; have a2 := (HZ0.out u1 Q1.out.p.hw).2.2; clear hd hK hF)
        | (go_at_call 10; refine (cR.out _ _ Q1.out.m).mono ?_; rintro o u2 ⟨v2, rfl, hr, hK⟩; have Q2 : Hid (Nq w C.toNt u2 b F1 N2 mb sa sc ra rc N2 v2 lb lc nb) := Q1.out.goM hr hK TN.out; have b0 := (HZ0.out u2 Q2.out.p.hw).1; have b1 := (HZ0.out u2 Q2.out.p.hw).2.1; have b2 := (HZ0.out u2 Q2.out.p.hw).2.2; clear hr hK)
        | (go_at_call 7; refine (cE _ Q2.out.p.hw e).mono ?_; rintro o u3 ⟨rfl, hb⟩; have Q3 : Hid (Nq w C.toNt u3 b F1 N2 mb sa sc ra rc N2 v2 lb lc nb) := Q2.out.on hb; have c0 := (HZ0.out u3 Q3.out.p.hw).1; have c1 := (HZ0.out u3 Q3.out.p.hw).2.1; have c2 := (HZ0.out u3 Q3.out.p.hw).2.2; clear hb))
      all_goals
        clear Q1 Q2 Q s0 s1 s2 a0 a1 a2 b0 b1 b2 c0 c1 c2 lw cD cR HZ0
        go_upto_region 13 with (first
          | (go_at_call 11; refine (cOr.out _ _ Q3.out.m).mono ?_; rintro o u4 ⟨rfl, hb⟩; have Q4 : Hid (Nq w C.toNt (u4.alloc (.cells #[.int .i64 lo, .int .i64 hi] 38)) b F1 N2 mb sa sc ra rc N2 v2 lb lc nb) := (Q3.out.on hb).on (rbel_al (Below.refl _ _)); have R4 : Hid (Row (u4.alloc (.cells #[.int .i64 lo, .int .i64 hi] 38)) u4.heap.size [.int .i64 lo, .int .i64 hi]) := Row.made rfl; clear hb)
          | (go_at_call 12; refine (cO.out _ _ Q4.out.p).mono ?_; rintro o u5 ⟨rfl, hb⟩; have Q5 : Hid (Nq w C.toNt (u5.alloc (.cells #[.int .i64 lo, .int .i64 hi] 38)) b F1 N2 mb sa sc ra rc N2 v2 lb lc nb) := (Q4.out.on hb).on (rbel_al (Below.refl _ _)); have R5 : Hid (Row (u5.alloc (.cells #[.int .i64 lo, .int .i64 hi] 38)) u4.heap.size [.int .i64 lo, .int .i64 hi]) := Row.al (Row.on hb R4.out); have S5 : Hid (Row (u5.alloc (.cells #[.int .i64 lo, .int .i64 hi] 38)) u5.heap.size [.int .i64 lo, .int .i64 hi]) := Row.made rfl; clear hb))
        clear Q3 Q4 R4 cO cOr
        generalize u5.alloc (.cells #[.int .i64 lo, .int .i64 hi] 38) = X at *
        generalize u5.heap.size = V5 at *
        generalize u4.heap.size = V4 at *
        go_wp2_with (first
          | (go_at_call 7; refine (cE _ Q5.out.p.hw e2).mono ?_; rintro o u6 ⟨rfl, hb⟩; have Q6 : Hid (Nq w C.toNt u6 b F1 N2 mb sa sc ra rc N2 v2 lb lc nb) := Q5.out.on hb; have r0 := (Row.on hb R5.out).c 0 _ rfl; have r1 := (Row.on hb R5.out).c 1 _ rfl; have t0 := (Row.on hb S5.out).c 0 _ rfl; have t1 := (Row.on hb S5.out).c 1 _ rfl; clear hb; have cnt : Mark 1 := .mk _)
          | (go_at_call 13; refine (cWr.out _ _ Q6.out.m).mono ?_; rintro o u7 ⟨rfl, hb⟩; have Q7 : Hid (Nq w C.toNt u7 b F1 N2 mb sa sc ra rc N2 v2 lb lc nb) := Q6.out.on hb; clear hb)
          | (go_at_call 14; refine (cW.out _ _ Q7.out.p).mono ?_; rintro o u8 ⟨rfl, hb⟩; have Q8 : Hid (Nq w C.toNt u8 b F1 N2 mb sa sc ra rc N2 v2 lb lc nb) := Q7.out.on hb; clear hb; have cnt2 : Mark 0 := .mk _)
          | (go_at_call 7; have cq : Mark 0 := cnt2; refine (cE00.out _ Q8.out.p.hw).mono ?_; clear cq cnt2; rintro o u9 ⟨rfl, hb⟩; have Q9 : Hid (Nq w C.toNt u9 b F1 N2 mb sa sc ra rc N2 v2 lb lc nb) := Q8.out.on hb; clear hb)
          | (go_at_call 15; refine (cEr.out _ _ Q9.out.m).mono ?_; rintro o uA ⟨ea, ec, rfl, hE, hb⟩; have QA : Hid (Nq w C.toNt uA b F1 N2 mb sa sc ra rc N2 v2 lb lc nb) := Q9.out.on hb; have EA : Hid (EHanded uA ea EL.length (egf EL)) := hE; clear hb hE)
          | (go_at_call 16; refine (cEd.out _ _ QA.out.p).mono ?_; rintro o uB ⟨ga, gc, rfl, hE, hb⟩; have QB : Hid (Nq w C.toNt uB b F1 N2 mb sa sc ra rc N2 v2 lb lc nb) := QA.out.on hb; have EB : Hid (EHanded uB ea EL.length (egf EL)) := EA.out.on hb; have GB : Hid (EHanded uB ga EL.length (egf EL)) := hE; clear hb hE)
          | (go_at_call 7; refine (cE00.out _ QB.out.p.hw).mono ?_; rintro o uC ⟨rfl, hb⟩; have QC : Hid (Nq w C.toNt uC b F1 N2 mb sa sc ra rc N2 v2 lb lc nb) := QB.out.on hb; have EC : Hid (EHanded uC ea EL.length (egf EL)) := EB.out.on hb; have GC : Hid (EHanded uC ga EL.length (egf EL)) := GB.out.on hb; clear hb)
          | (go_at_call 17; refine (same_edges ga ea EL.length gc ec (egf EL) _ GC.out EC.out).mono ?_; rintro o uD ⟨rfl, hb⟩; have QD : Hid (Nq w C.toNt uD b F1 N2 mb sa sc ra rc N2 v2 lb lc nb) := QC.out.on hb; clear hb))
        go_roundw
        case rel => exact ⟨k + 1, F1, N2, v2, by omega, by omega, by go_num, QD.out, HN2.out⟩
        case measure => simp [intOf]; omega
    · have hc : ¬ ((k : Int) < an) ∨ ((k : Int) < an ∧ ¬ ((k : Int) < 60)) := by omega
      have HNn : Hid (N.W.n = rn) := hN
      clear hQ hN hlt HA cE00
      by_cases hin : 0 ≤ x ∧ x < rn
      · obtain ⟨j, rfl⟩ : ∃ j : Nat, x = j := ⟨x.toNat, by omega⟩
        have JL : Hid (j < N.W.n) := (by show j < N.W.n; rw [HNn.out]; omega)
        have cRd : Hid (∀ u, Nv w C.toNt u b F N → Calls Tryz.prog 19 #[.pointer (some ⟨b, 0, none⟩), .int .i64 (j : Int)] u fun o w' => o = .returned (.tuple #[.int .i64 (N.W.rd j), .nilIface]) ∧ Below u.heap.size u w') := fun u g => (C.read b F N j u g.h g.t hx).mono (by
          rintro o w' ⟨h, hb⟩
          rcases h with ⟨_, rfl⟩ | ⟨h, _⟩
          · rw [Int.toNat_natCast, errc_zero]
            exact ⟨rfl, hb⟩
          · exact absurd ⟨by omega, by have := JL.out; omega⟩ h)
        have cRr := Q.out.m.m.read Q.out.p.t.g.i JL.out
        have cE0 : Hid (∀ u, Below w.heap.size w u → Calls Tryz.prog 7 #[.nilIface, .int .i64 0] u fun o w' => o = .returned (.bool true) ∧ Below u.heap.size u w') := fun u _ => error_nil u
        have d1 : ¬ ((j : Int) < 0) := by omega
        have d2 : ¬ ((rn : Int) ≤ (j : Int)) := by omega
        clear hin hx cE
        rcases hc with h | ⟨h, h2⟩
        all_goals
          go_wp2_with (first
            | (go_at_call 18; refine cRr.mono ?_; rintro o y4 ⟨rfl, hb⟩; have Q4 : Hid (Nq w C.toNt y4 b F N mb sa sc ra rc N v lb lc nb) := Q.out.on hb; clear hb)
            | (go_at_call 19; refine (cRd.out _ Q4.out.p).mono ?_; rintro o y5 ⟨rfl, hb⟩; have Q5 : Hid (Nq w C.toNt y5 b F N mb sa sc ra rc N v lb lc nb) := Q4.out.on hb; clear hb)
            | (go_at_call 7; refine (cE0.out _ Q5.out.p.hw).mono ?_; rintro o y6 ⟨rfl, hb⟩; have Q6 : Hid (Nq w C.toNt y6 b F N mb sa sc ra rc N v lb lc nb) := Q5.out.on hb; clear hb))
          go_ret
          exact ⟨by first | rfl | simp, Q6.out.p.hw⟩
      · have cRd : Hid (∀ u, Nv w C.toNt u b F N → Calls Tryz.prog 19 #[.pointer (some ⟨b, 0, none⟩), .int .i64 x] u fun o w' => o = .returned (.tuple #[.int .i64 0, errc 1]) ∧ Below u.heap.size u w') := fun u g => (C.read b F N x u g.h g.t hx).mono (by
          rintro o w' ⟨h, hb⟩
          rcases h with ⟨q, _⟩ | ⟨_, rfl⟩
          · exact absurd ⟨q.1, by have := q.2; rw [HNn.out] at this; exact this⟩ hin
          · exact ⟨rfl, hb⟩)
        have dd : x < 0 ∨ (¬ x < 0 ∧ (rn : Int) ≤ x) := by omega
        clear hin hx
        rcases hc with h | ⟨h, h2⟩ <;> rcases dd with d | ⟨d, d2⟩
        all_goals
          go_wp2_with (first
            | (go_at_call 19; refine (cRd.out _ Q.out.p).mono ?_; rintro o y5 ⟨rfl, hb⟩; have Q5 : Hid (Nq w C.toNt y5 b F N mb sa sc ra rc N v lb lc nb) := Q.out.on hb; clear hb)
            | (go_at_call 7; refine (cE _ Q5.out.p.hw 1).mono ?_; rintro o y6 ⟨rfl, hb⟩; have Q6 : Hid (Nq w C.toNt y6 b F N mb sa sc ra rc N v lb lc nb) := Q5.out.on hb; clear hb))
          go_ret
          exact ⟨by first | rfl | simp, Q6.out.p.hw⟩
theorem all_ways (sa : Option Addr) (sn sc : Nat) (sz : Nat → Int) (ra : Option Addr) (rn rc : Nat) (rz : Nat → Int) (p : Int) (aa : Option Addr) (an ac : Nat) (aq : Nat → Ac) (x y : Int) (w : World) (he : EnvE w) (C : NtP w) (hs : NHanded w sa sn sz) (hr : NHanded w ra rn rz) (hp : In64 p) (ha : AHanded w aa an aq) (hx : In64 x) (hy : In64 y) :
    Calls Tryz.prog 3 #[.slice sa sn sc, .slice ra rn rc, .int .i64 p, .slice aa an ac, .int .i64 x, .int .i64 y] w fun o w' => o = .returned (.bool true) ∧ Below w.heap.size w w' := by
  obtain ⟨e, hB⟩ := beE_some sn sz rn rz p
  by_cases h0 : e = 0
  · subst h0
    exact good sa sn sc sz ra rn rc rz p aa an ac aq x y w he C hs hr hp ha hx hy hB
  · exact bad sa sn sc sz ra rn rc rz p aa an ac aq x y w he C hs hr hp ha hx hy e h0 hB
end Go.Proofs.YtnagdjipmpjaaaiGreatDoor.netPlays
