/- The ways through the law WorldPlays. -/
import Derived.Test.YtkmbllkkccelaahDoorWorldPlaysS
import Derived.Deep.CutRange
import Derived.Deep.CutBlock
namespace Go.Proofs.YtkmbllkkccelaahDoor.worldPlays
open Go.ChangeShapes Go.WideShapes Go.ChangeAt Go.RowKit Go.Joins Go.Proofs.YtkmbllkkccelaahDoor.told
set_option linter.unusedVariables false
set_option linter.unusedSimpArgs false

theorem error_c (f : Int) (w : World) (he : EnvE w) : Calls Tryd.prog 7 #[errc f, .int .i64 f] w fun e w' => e = .returned (.bool true) ∧ Below w.heap.size w w' := error_same f w he
set_option maxRecDepth 100000 in
set_option maxHeartbeats 8000000 in
theorem bad (sa : Option Addr) (sn sc : Nat) (sz : Nat → Int) (ra : Option Addr) (rn rc : Nat) (rz : Nat → Int) (p : Int) (aa : Option Addr) (an ac : Nat) (aq : Nat → Ac) (l1 l2 : Int) (l3 : Bool) (l4 l5 l6 i : Int) (w : World) (he : EnvE w) (C : WpD w) (hs : NHanded w sa sn sz) (hr : NHanded w ra rn rz) (hp : In64 p) (ha : AHanded w aa an aq) (hl1 : In64 l1) (hl2 : In64 l2) (hi : In64 i) (e : Int) (h0 : e ≠ 0) (hB : BeE sn sz rn rz p e) :
    Calls Tryd.prog 4 #[.slice sa sn sc, .slice ra rn rc, .int .i64 p, .slice aa an ac, .agg #[.int .i64 l1, .int .i64 l2, .bool l3, .int .i64 l4, .int .i64 l5, .int .i64 l6], .int .i64 i] w fun o w' => o = .returned (.bool true) ∧ Below w.heap.size w w' := by
  have cB := fun (u : World) (hu : Below w.heap.size w u) => begin_at (sc := sc) (rc := rc) (hs.on hu) (hr.on hu) hp hB
  have cN := fun (u : World) (hu : Below w.heap.size w u) => C.new sa sn sc sz ra rn rc rz p e u hu (hs.on hu) (hr.on hu) hp hB
  have cE := fun (u : World) (hu : Below w.heap.size w u) => error_c e u (he.below hu)
  have d1 : (e != 0) = true := by simp [h0]
  have d2 : (e == 0) = false := by simp [h0]
  rw [errc_not h0] at cE
  simp only [errc_not h0] at cN
  clear hs hr hp ha hl1 hl2 hi hB he
  go_enter Tryd.func4, Tryd.ntmps4
  go_wp2_with (first
    | (go_at_call 9; refine (cB _ (rbel_al (Below.refl _ _))).mono ?_; rintro o u1 ⟨rfl, hb⟩; have B1 : Hid (Below w.heap.size w u1) := rbel_on hb (rbel_al (Below.refl _ _)); clear hb)
    | (go_at_call 5; refine (cN _ B1.out).mono ?_; rintro o u2 ⟨pv, rfl, hb, _⟩; have B2 : Hid (Below w.heap.size w u2) := rbel_on hb B1.out; clear hb)
    | (go_at_call 7; refine (cE _ B2.out).mono ?_; rintro o u3 ⟨rfl, hb⟩; have B3 : Hid (Below w.heap.size w u3) := rbel_on hb B2.out; clear hb))
  go_ret
  exact ⟨rfl, B3.out⟩
set_option maxRecDepth 100000 in
set_option maxHeartbeats 8000000 in
theorem good (sa : Option Addr) (sn sc : Nat) (sz : Nat → Int) (ra : Option Addr) (rn rc : Nat) (rz : Nat → Int) (p : Int) (aa : Option Addr) (an ac : Nat) (aq : Nat → Ac) (l1 l2 : Int) (l3 : Bool) (l4 l5 l6 i : Int) (w : World) (he : EnvE w) (C : WpD w) (hs : NHanded w sa sn sz) (hr : NHanded w ra rn rz) (hp : In64 p) (ha : AHanded w aa an aq) (hl1 : In64 l1) (hl2 : In64 l2) (hi : In64 i) (hB : BeE sn sz rn rz p 0) :
    Calls Tryd.prog 4 #[.slice sa sn sc, .slice ra rn rc, .int .i64 p, .slice aa an ac, .agg #[.int .i64 l1, .int .i64 l2, .bool l3, .int .i64 l4, .int .i64 l5, .int .i64 l6], .int .i64 i] w fun o w' => o = .returned (.bool true) ∧ Below w.heap.size w w' := by
  have erl : rn = sn := by
    rcases hB with ⟨_, e⟩ | ⟨_, _, e⟩ | ⟨_, _, _, e⟩ | ⟨_, e, _⟩
    · cases e
    · cases e
    · cases e
    · exact e
  subst erl
  have cB := fun (u : World) (hu : Below w.heap.size w u) => begin_at (sc := sc) (rc := rc) (hs.on hu) (hr.on hu) hp hB
  have cN := fun (u : World) (hu : Below w.heap.size w u) => C.new sa rn sc sz ra rn rc rz p 0 u hu (hs.on hu) (hr.on hu) hp hB
  have cE := fun (u : World) (hu : Below w.heap.size w u) (e : Int) => error_c e u (he.below hu)
  have cE0 := fun (u : World) (hu : Below w.heap.size w u) => error_same 0 u (he.below hu)
  have HI0 : Hid (ws0 rn sz rz).I := ws0_i hB
  have HS0 : Hid (NHanded w sa rn sz) := hs
  have HR0 : Hid (NHanded w ra rn rz) := hr
  have hn := ha.1
  have HA : Hid (an = 0 ∨ ∃ b off : Nat, aa = some ⟨b, off, none⟩ ∧ Acs w b off an aq) := ha.2
  simp only [errc_zero] at cN
  clear hs hr hp ha hB he
  go_enter Tryd.func4, Tryd.ntmps4
  go_wp2_with (first
    | (go_at_call 9; refine (cB _ (rbel_al (Below.refl _ _))).mono ?_; rintro o u1 ⟨rfl, hb⟩; have RL1 : Hid (Row u1 w.heap.size [.int .i64 l1, .int .i64 l2, .bool l3, .int .i64 l4, .int .i64 l5, .int .i64 l6]) := Row.on hb (Row.made rfl); have B1 : Hid (Below w.heap.size w u1) := rbel_on hb (rbel_al (Below.refl _ _)); clear hb)
    | (go_at_call 5; refine (cN _ B1.out).mono ?_; rintro o u2 ⟨pv, rfl, hb, h⟩; obtain ⟨b, F, rfl, hR, hF⟩ := h (by first | rfl | trivial); have RL2 : Hid (Row u2 w.heap.size [.int .i64 l1, .int .i64 l2, .bool l3, .int .i64 l4, .int .i64 l5, .int .i64 l6]) := Row.on hb RL1.out; have nL2 : Hid (¬ F w.heap.size) := (fun h => by have := hF _ h; have := RL1.out.lt; omega); have D2 : Hid (Dwd w C u2 b F (ws0 rn sz rz)) := ⟨hR, HI0.out, fun k hk => Nat.le_trans B1.out.size (hF k hk), rbel_on hb B1.out⟩; clear hb hR hF h)
    | (go_at_call 7; refine (cE0 _ D2.out.hw).mono ?_; rintro o u3 ⟨rfl, hb⟩; have D3 : Hid (Dwd w C u3 b F (ws0 rn sz rz)) := D2.out.on hb; have RL3 : Hid (Row u3 w.heap.size [.int .i64 l1, .int .i64 l2, .bool l3, .int .i64 l4, .int .i64 l5, .int .i64 l6]) := Row.on hb RL2.out; clear hb))
  have lz : w.heap.size < u3.heap.size := RL3.out.lt
  have P0 : Hid (Ps w C (u3.alloc (.cells #[.slice sa rn sc, .slice ra rn rc, .int .i64 0, .slice none 0 0] 43)) b F (ws0 rn sz rz) u3.heap.size sa sc ra rc (ws0 rn sz rz) (.slice none 0 0)) := ⟨D3.out.on (rbel_al (Below.refl _ _)), ⟨Row.made rfl, World.ownsRow_nil _ _ _ _, HS0.out, HR0.out, rbel_al D3.out.hw, fun e => by (cases e), D3.out.hw.size⟩, fun h => by (have := C.lt D3.out.h _ h; omega), fun g e => by (cases e)⟩
  have L0 : Hid (Lb (u3.alloc (.cells #[.slice sa rn sc, .slice ra rn rc, .int .i64 0, .slice none 0 0] 43)) F u3.heap.size (.slice none 0 0) w.heap.size [.int .i64 l1, .int .i64 l2, .bool l3, .int .i64 l4, .int .i64 l5, .int .i64 l6]) := ⟨Row.al RL3.out, nL2.out, fun e => by (cases e), by omega⟩
  generalize (u3.alloc (.cells #[.slice sa rn sc, .slice ra rn rc, .int .i64 0, .slice none 0 0] 43)) = u4 at *
  generalize u3.heap.size = mb at *
  clear RL1 B1 RL2 nL2 D2 D3 RL3 lz cB cN cE0 HI0
  go_loopw [18] (fun vi wr => ∃ (k : Nat) (F : Nat → Prop) (S : Ws) (v : Value), k ≤ an ∧ k ≤ 60 ∧ vi = .int .i64 k ∧ Ps w C wr b F S mb sa sc ra rc S v ∧ S.U ∧ S.n = rn ∧ Lb wr F mb v w.heap.size [.int .i64 l1, .int .i64 l2, .bool l3, .int .i64 l4, .int .i64 l5, .int .i64 l6]) (fun vi _ => 60 - (intOf vi).toNat)
  case atStart => exact ⟨0, F, _, _, Nat.zero_le _, by omega, rfl, P0.out, ws0_u, rfl, L0.out⟩
  case round =>
    clear P0 L0
    clear F
    obtain ⟨k, F, S, v, hkn, hk60, rfl, hP, hU, hSn, hL⟩ := hrel
    have HP : Hid (Ps w C wr b F S mb sa sc ra rc S v) := hP
    have HL : Hid (Lb wr F mb v w.heap.size [.int .i64 l1, .int .i64 l2, .bool l3, .int .i64 l4, .int .i64 l5, .int .i64 l6]) := hL
    have HU : Hid S.U := hU
    have HN : Hid (S.n = rn) := hSn
    by_cases hlt : k < an ∧ k < 60
    · obtain ⟨hlt1, hlt2⟩ := hlt
      have hl3 : (k : Int) < an := by omega
      have hl4 : (k : Int) < 60 := by omega
      obtain ⟨ab, off, rfl, hZ⟩ : ∃ b off : Nat, aa = some ⟨b, off, none⟩ ∧ Acs w b off an aq := by
        rcases HA.out with e | h
        · omega
        · exact h
      obtain ⟨z0, z1, z2, z3⟩ := hZ k hlt1
      have hw := hP.d.hw
      have lab := World.block_lt_of_cell? _ _ z0
      have HZ0 : Hid (∀ u : World, Below w.heap.size w u → u.cell? ⟨ab, off + k * 3, none⟩ = some (.int .i64 (aq k).wh) ∧ u.cell? ⟨ab, off + k * 3 + 1, none⟩ = some (.int .i64 (aq k).a) ∧ u.cell? ⟨ab, off + k * 3 + 2, none⟩ = some (.int .i64 (aq k).b)) := fun u hu => ⟨(hu.cell (p := ⟨ab, off + k * 3, none⟩) lab).trans z0, (hu.cell (p := ⟨ab, off + k * 3 + 1, none⟩) lab).trans z1, (hu.cell (p := ⟨ab, off + k * 3 + 2, none⟩) lab).trans z2⟩
      obtain ⟨i1, i2, i3⟩ := z3
      have s0 := (HZ0.out wr hw).1
      have s1 := (HZ0.out wr hw).2.1
      have s2 := (HZ0.out wr hw).2.2
      have lw : ab < wr.heap.size := Nat.lt_of_lt_of_le lab hw.size
      clear hZ hP hU hL hw z0 z1 z2 hSn HA HS0 HR0
      generalize (aq k).wh = wh at *
      generalize (aq k).a = xa at *
      generalize (aq k).b = xb at *
      go_wp2_with (first
        | (go_at_call 10; refine (rdo_at wh xa xb HP.out.m HP.out.d.i).mono ?_; rintro o u1 ⟨v1, S1, r, e, q1, q2, q3, q4, q5, q6, B, hD, rfl, hR, hK, hq, hB⟩; have P1 : Hid (Ps w C u1 b F S mb sa sc ra rc S1 v1) := HP.out.goM hR hK; have L1 : Hid (Lb u1 F mb v1 w.heap.size [.int .i64 l1, .int .i64 l2, .bool l3, .int .i64 l4, .int .i64 l5, .int .i64 l6]) := HL.out.goM hK; have P1' : Hid (Ps w C (u1.alloc (.cells #[.int .i64 q1, .int .i64 q2, .bool q3, .int .i64 q4, .int .i64 q5, .int .i64 q6] 37)) b F S mb sa sc ra rc S1 v1) := P1.out.on (rbel_al (Below.refl _ _)); have HD : Hid (DoR S wh xa xb S1 r e) := hD; have HQ : Hid (r.getD lt0 = ⟨q1, q2, q3, q4, q5, q6⟩) := hq; have HBB : Hid (r.isSome = B) := hB; have t0 := (HZ0.out _ P1'.out.d.hw).1; have t1 := (HZ0.out _ P1'.out.d.hw).2.1; have t2 := (HZ0.out _ P1'.out.d.hw).2.2; have lu1 : ab < u1.heap.size := Nat.lt_of_lt_of_le lab P1.out.d.hw.size; clear hR hK hD hq hB)
        | (go_at_call 6; refine (Dwd.act P1'.out.d i1 i2 i3 HD.out).mono ?_; rintro o u2 ⟨pv, F2, rfl, hC, hd, hK, hF⟩; have P2 : Hid (Ps w C u2 b F2 S1 mb sa sc ra rc S1 v1) := P1'.out.go hd hK hF; have L2 : Hid (Lb u2 F2 mb v1 w.heap.size [.int .i64 l1, .int .i64 l2, .bool l3, .int .i64 l4, .int .i64 l5, .int .i64 l6]) := (L1.out.on (rbel_al (Below.refl _ _))).go hK hF; have V2 : Hid (Lb u2 F2 mb v1 u1.heap.size [.int .i64 q1, .int .i64 q2, .bool q3, .int .i64 q4, .int .i64 q5, .int .i64 q6]) := (Lb.made P1.out rfl _).go hK hF; have C2 : Hid (Cme (u1.alloc (.cells #[.int .i64 q1, .int .i64 q2, .bool q3, .int .i64 q4, .int .i64 q5, .int .i64 q6] 37)) u2 F2 pv r) := hC; clear hC hd hK hF)
        | (go_at_call 7; refine (cE _ P2.out.d.hw e).mono ?_; rintro o u3 ⟨rfl, hb⟩; have P3 : Hid (Ps w C u3 b F2 S1 mb sa sc ra rc S1 v1) := P2.out.on hb; have L3 : Hid (Lb u3 F2 mb v1 w.heap.size [.int .i64 l1, .int .i64 l2, .bool l3, .int .i64 l4, .int .i64 l5, .int .i64 l6]) := L2.out.on hb; have V3 : Hid (Lb u3 F2 mb v1 u1.heap.size [.int .i64 q1, .int .i64 q2, .bool q3, .int .i64 q4, .int .i64 q5, .int .i64 q6]) := V2.out.on hb; have B3 : Hid (Below u2.heap.size u2 u3) := hb; clear hb))
      have P1m : Hid (mb < u1.heap.size) := P1.out.m.r.lt
      have P1o : Hid (∀ j, v1.ownBlock = some j → j < u1.heap.size) := fun j hj => (P1.out.m.o.lt j hj).2
      have HU1 : Hid (S1.U ∧ ∀ l, r = some l → S1.hs l.frm ∧ S1.hs l.to) := HD.out.u HU.out
      have HN1 : Hid (S1.n = rn) := HD.out.n.trans HN.out
      clear HD s0 s1 s2 t0 t1 t2 lu1 lw HZ0 P1 L1 P1' L2 V2 HP HL HU HN i1 i2 i3
      rcases (show _ ∨ _ from C2.out) with ⟨rr, rfl⟩ | ⟨lt, g, rr, rfl, hg, hgu, hgF⟩
      · subst rr
        obtain rfl : false = B := HBB.out
        have HU2 : Hid S1.U := HU1.out.1
        have HN2 : Hid (S1.n = rn) := HN1.out
        clear C2 HQ HBB HU1 HN1 V3 B3 P2
        go_quiet (fail)
        go_wp2
        have PT : Hid (Ps w C (u3.drewN nq) b F2 S1 mb sa sc ra rc S1 v1) := P3.out.on (rbel_drn (Below.refl _ _))
        have LT : Hid (Lb (u3.drewN nq) F2 mb v1 w.heap.size [.int .i64 l1, .int .i64 l2, .bool l3, .int .i64 l4, .int .i64 l5, .int .i64 l6]) := L3.out.on (rbel_drn (Below.refl _ _))
        clear P3 L3
        generalize u3.drewN nq = x at *
        obtain ⟨ua, ucap, rfl, hLH⟩ := PT.out.m.hand PT.out.d.i
        have HH : Hid (WHanded x ua S1.under) := hLH
        have m3 := PT.out.m.r.c 3 _ rfl
        have zb : mb < x.heap.size := PT.out.m.r.lt
        have un := PT.out.d.i.un
        clear hLH
        go_region_held (fun w' => w'.cell? ⟨mb, 3, none⟩ = some (.slice ua S1.under.length ucap)) (go_keep) (first
          | (go_at_call 8; refine (C.way b F2 S1 _ (PT.out.on (rbel_dr (Below.refl _ _))).d.h PT.out.d.i).mono ?_; rintro o y1 ⟨la, lc, rfl, hLa, hb⟩; have PY1 : Hid (Ps w C y1 b F2 S1 mb sa sc ra rc S1 (.slice ua S1.under.length ucap)) := (PT.out.on (rbel_dr (Below.refl _ _))).on hb; have LY1 : Hid (Lb y1 F2 mb (.slice ua S1.under.length ucap) w.heap.size [.int .i64 l1, .int .i64 l2, .bool l3, .int .i64 l4, .int .i64 l5, .int .i64 l6]) := (LT.out.on (rbel_dr (Below.refl _ _))).on hb; have m3y := PY1.out.m.r.c 3 _ rfl; have LA : Hid (WHanded y1 la S1.under) := hLa; have LU : Hid (WHanded y1 ua S1.under) := HH.out.on (rbel_on hb (rbel_dr (Below.refl _ _))); clear hLa hb)
          | (go_at_call 13; refine (same_letters la ua S1.under.length lc ucap S1.under _ rfl LA.out LU.out).mono ?_; rintro o y2 ⟨rfl, hb⟩; have PY2 : Hid (Ps w C y2 b F2 S1 mb sa sc ra rc S1 (.slice ua S1.under.length ucap)) := PY1.out.on hb; have LY2 : Hid (Lb y2 F2 mb (.slice ua S1.under.length ucap) w.heap.size [.int .i64 l1, .int .i64 l2, .bool l3, .int .i64 l4, .int .i64 l5, .int .i64 l6]) := LY1.out.on hb; have m3z := PY2.out.m.r.c 3 _ rfl; have m2z := PY2.out.m.r.c 2 _ rfl; have zy2 : mb < y2.heap.size := PY2.out.m.r.lt; clear hb))
        all_goals
          go_wp2
          clear m3 m3y m3z
          go_region_held (fun w' => w'.cell? ⟨mb, 2, none⟩ = some (.int .i64 S1.time)) (go_keep) (first
            | (go_at_call 14; refine (C.time b F2 S1 _ (PY2.out.on (rbel_dr (Below.refl _ _))).d.h PT.out.d.i).mono ?_; rintro o y3 ⟨rfl, hb⟩; have PY3 : Hid (Ps w C y3 b F2 S1 mb sa sc ra rc S1 (.slice ua S1.under.length ucap)) := (PY2.out.on (rbel_dr (Below.refl _ _))).on hb; have LY3 : Hid (Lb y3 F2 mb (.slice ua S1.under.length ucap) w.heap.size [.int .i64 l1, .int .i64 l2, .bool l3, .int .i64 l4, .int .i64 l5, .int .i64 l6]) := (LY2.out.on (rbel_dr (Below.refl _ _))).on hb; have m2y := PY3.out.m.r.c 2 _ rfl; clear hb))
          all_goals
            go_wp2
            go_roundw
            case rel => exact ⟨k + 1, F2, S1, _, by omega, by omega, by go_num, PY3.out, HU2.out, HN2.out, LY3.out⟩
            case measure => simp [intOf]; omega
      · subst rr
        obtain rfl : lt = ⟨q1, q2, q3, q4, q5, q6⟩ := HQ.out
        obtain rfl : true = B := HBB.out
        obtain ⟨hx1, hx2⟩ := HU1.out.2 _ rfl
        have mlt : mb < u1.heap.size := P1m.out
        have G3 : Hid (Lb u3 F2 mb v1 g [.int .i64 q1, .int .i64 q2, .bool q3, .int .i64 q4, .int .i64 q5, .int .i64 q6]) := ⟨Row.on B3.out hg, hgF, fun e => by (have := P1o.out _ e; simp at hgu; omega), fun e => by (simp at hgu; omega)⟩
        have HX1 : Hid (In64 q1) := hs_in P3.out.d.i hx1
        have HX2 : Hid (In64 q2) := hs_in P3.out.d.i hx2
        have HU2' : Hid S1.U := HU1.out.1
        generalize u1.heap.size = V at *
        have g0 := G3.out.r.c 0 _ rfl
        have g1 := G3.out.r.c 1 _ rfl
        have g2 := G3.out.r.c 2 _ rfl
        have g3 := G3.out.r.c 3 _ rfl
        have g4 := G3.out.r.c 4 _ rfl
        have g5 := G3.out.r.c 5 _ rfl
        have c0 := V3.out.r.c 0 _ rfl
        have c1 := V3.out.r.c 1 _ rfl
        have c2 := V3.out.r.c 2 _ rfl
        have c3 := V3.out.r.c 3 _ rfl
        have c4 := V3.out.r.c 4 _ rfl
        have c5 := V3.out.r.c 5 _ rfl
        have zg : g < u3.heap.size := G3.out.r.lt
        have zV : V < u3.heap.size := V3.out.r.lt
        clear C2 HQ HBB HU1 B3 P2 hx1 hx2 mlt hg hgu hgF P1m P1o
        go_quiet (fail)
        go_wp2
        have PT : Hid (Ps w C (u3.drewN nq) b F2 S1 mb sa sc ra rc S1 v1) := P3.out.on (rbel_drn (Below.refl _ _))
        have LT : Hid (Lb (u3.drewN nq) F2 mb v1 w.heap.size [.int .i64 l1, .int .i64 l2, .bool l3, .int .i64 l4, .int .i64 l5, .int .i64 l6]) := L3.out.on (rbel_drn (Below.refl _ _))
        have GT : Hid (Lb (u3.drewN nq) F2 mb v1 g [.int .i64 q1, .int .i64 q2, .bool q3, .int .i64 q4, .int .i64 q5, .int .i64 q6]) := G3.out.on (rbel_drn (Below.refl _ _))
        have VT : Hid (Lb (u3.drewN nq) F2 mb v1 V [.int .i64 q1, .int .i64 q2, .bool q3, .int .i64 q4, .int .i64 q5, .int .i64 q6]) := V3.out.on (rbel_drn (Below.refl _ _))
        clear P3 L3 G3 V3 g0 c0 g1 c1 g2 c2 g3 c3 g4 c4 g5 c5 zg zV
        generalize u3.drewN nq = x0 at *
        obtain ⟨S2, e2, hA⟩ := anR_some S1 ⟨q1, q2, q3, q4, q5, q6⟩
        have HA2 : Hid (AnR S1 ⟨q1, q2, q3, q4, q5, q6⟩ S2 e2) := hA
        have HU2 : Hid S2.U := hA.u HU2'.out
        have HN2 : Hid (S2.n = rn) := hA.n.trans HN1.out
        have zg : g < x0.heap.size := GT.out.r.lt
        have zV : V < x0.heap.size := VT.out.r.lt
        have g0 := GT.out.r.c 0 _ rfl
        have g1 := GT.out.r.c 1 _ rfl
        have g2 := GT.out.r.c 2 _ rfl
        have g3 := GT.out.r.c 3 _ rfl
        have g4 := GT.out.r.c 4 _ rfl
        have g5 := GT.out.r.c 5 _ rfl
        have c0 := VT.out.r.c 0 _ rfl
        have c1 := VT.out.r.c 1 _ rfl
        have c2 := VT.out.r.c 2 _ rfl
        have c3 := VT.out.r.c 3 _ rfl
        have c4 := VT.out.r.c 4 _ rfl
        have c5 := VT.out.r.c 5 _ rfl
        clear hA HU2' HN1
        go_region_held (fun w' => w'.cell? ⟨g, 0, none⟩ = some (.int .i64 q1) ∧ w'.cell? ⟨g, 1, none⟩ = some (.int .i64 q2) ∧ w'.cell? ⟨g, 2, none⟩ = some (.bool q3) ∧ w'.cell? ⟨g, 3, none⟩ = some (.int .i64 q4) ∧ w'.cell? ⟨g, 4, none⟩ = some (.int .i64 q5) ∧ w'.cell? ⟨g, 5, none⟩ = some (.int .i64 q6) ∧ w'.cell? ⟨V, 0, none⟩ = some (.int .i64 q1) ∧ w'.cell? ⟨V, 1, none⟩ = some (.int .i64 q2) ∧ w'.cell? ⟨V, 2, none⟩ = some (.bool q3) ∧ w'.cell? ⟨V, 3, none⟩ = some (.int .i64 q4) ∧ w'.cell? ⟨V, 4, none⟩ = some (.int .i64 q5) ∧ w'.cell? ⟨V, 5, none⟩ = some (.int .i64 q6)) (go_keep) (first
          | (go_at_call 11; refine (Dwd.answer (PT.out.on (rbel_dr (Below.refl _ _))).d HX1.out HX2.out HA2.out).mono ?_; rintro o y1 ⟨F3, rfl, hd, hK, hF⟩; have Py1 : Hid (Ps w C y1 b F3 S2 mb sa sc ra rc S1 v1) := (PT.out.on (rbel_dr (Below.refl _ _))).go hd hK hF; have Ly1 : Hid (Lb y1 F3 mb v1 w.heap.size [.int .i64 l1, .int .i64 l2, .bool l3, .int .i64 l4, .int .i64 l5, .int .i64 l6]) := (LT.out.on (rbel_dr (Below.refl _ _))).go hK hF; have Gy1 : Hid (Lb y1 F3 mb v1 g [.int .i64 q1, .int .i64 q2, .bool q3, .int .i64 q4, .int .i64 q5, .int .i64 q6]) := (GT.out.on (rbel_dr (Below.refl _ _))).go hK hF; have Vy1 : Hid (Lb y1 F3 mb v1 V [.int .i64 q1, .int .i64 q2, .bool q3, .int .i64 q4, .int .i64 q5, .int .i64 q6]) := (VT.out.on (rbel_dr (Below.refl _ _))).go hK hF; have gy10 := Gy1.out.r.c 0 _ rfl; have gy11 := Gy1.out.r.c 1 _ rfl; have gy12 := Gy1.out.r.c 2 _ rfl; have gy13 := Gy1.out.r.c 3 _ rfl; have gy14 := Gy1.out.r.c 4 _ rfl; have gy15 := Gy1.out.r.c 5 _ rfl; have cy10 := Vy1.out.r.c 0 _ rfl; have cy11 := Vy1.out.r.c 1 _ rfl; have cy12 := Vy1.out.r.c 2 _ rfl; have cy13 := Vy1.out.r.c 3 _ rfl; have cy14 := Vy1.out.r.c 4 _ rfl; have cy15 := Vy1.out.r.c 5 _ rfl; clear hd hK hF)
          | (go_at_call 12; refine (ran_at Py1.out.m PT.out.d.i HA2.out).mono ?_; rintro o y2 ⟨v2, rfl, hR, hK⟩; have Py2 : Hid (Ps w C y2 b F3 S2 mb sa sc ra rc S2 v2) := Py1.out.goM hR hK; have Ly2 : Hid (Lb y2 F3 mb v2 w.heap.size [.int .i64 l1, .int .i64 l2, .bool l3, .int .i64 l4, .int .i64 l5, .int .i64 l6]) := Ly1.out.goM hK; have Gy2 : Hid (Lb y2 F3 mb v2 g [.int .i64 q1, .int .i64 q2, .bool q3, .int .i64 q4, .int .i64 q5, .int .i64 q6]) := Gy1.out.goM hK; have Vy2 : Hid (Lb y2 F3 mb v2 V [.int .i64 q1, .int .i64 q2, .bool q3, .int .i64 q4, .int .i64 q5, .int .i64 q6]) := Vy1.out.goM hK; have gy20 := Gy2.out.r.c 0 _ rfl; have gy21 := Gy2.out.r.c 1 _ rfl; have gy22 := Gy2.out.r.c 2 _ rfl; have gy23 := Gy2.out.r.c 3 _ rfl; have gy24 := Gy2.out.r.c 4 _ rfl; have gy25 := Gy2.out.r.c 5 _ rfl; have cy20 := Vy2.out.r.c 0 _ rfl; have cy21 := Vy2.out.r.c 1 _ rfl; have cy22 := Vy2.out.r.c 2 _ rfl; have cy23 := Vy2.out.r.c 3 _ rfl; have cy24 := Vy2.out.r.c 4 _ rfl; have cy25 := Vy2.out.r.c 5 _ rfl; clear hR hK)
          | (go_at_call 7; refine (cE _ Py2.out.d.hw e2).mono ?_; rintro o y3 ⟨rfl, hb⟩; have Py3 : Hid (Ps w C y3 b F3 S2 mb sa sc ra rc S2 v2) := Py2.out.on hb; have Ly3 : Hid (Lb y3 F3 mb v2 w.heap.size [.int .i64 l1, .int .i64 l2, .bool l3, .int .i64 l4, .int .i64 l5, .int .i64 l6]) := Ly2.out.on hb; have Gy3 : Hid (Lb y3 F3 mb v2 g [.int .i64 q1, .int .i64 q2, .bool q3, .int .i64 q4, .int .i64 q5, .int .i64 q6]) := Gy2.out.on hb; have Vy3 : Hid (Lb y3 F3 mb v2 V [.int .i64 q1, .int .i64 q2, .bool q3, .int .i64 q4, .int .i64 q5, .int .i64 q6]) := Vy2.out.on hb; have gy30 := Gy3.out.r.c 0 _ rfl; have gy31 := Gy3.out.r.c 1 _ rfl; have gy32 := Gy3.out.r.c 2 _ rfl; have gy33 := Gy3.out.r.c 3 _ rfl; have gy34 := Gy3.out.r.c 4 _ rfl; have gy35 := Gy3.out.r.c 5 _ rfl; have cy30 := Vy3.out.r.c 0 _ rfl; have cy31 := Vy3.out.r.c 1 _ rfl; have cy32 := Vy3.out.r.c 2 _ rfl; have cy33 := Vy3.out.r.c 3 _ rfl; have cy34 := Vy3.out.r.c 4 _ rfl; have cy35 := Vy3.out.r.c 5 _ rfl; clear hb))
        all_goals
          go_wp2
          have PT' : Hid (Ps w C y3 b F3 S2 mb sa sc ra rc S2 v2) := Py3.out
          have LT' : Hid (Lb y3 F3 mb v2 w.heap.size [.int .i64 l1, .int .i64 l2, .bool l3, .int .i64 l4, .int .i64 l5, .int .i64 l6]) := Ly3.out
          clear PT LT GT VT Py1 Ly1 Gy1 Vy1 Py2 Ly2 Gy2 Vy2 Gy3 Vy3 Py3 Ly3 g0 c0 g1 c1 g2 c2 g3 c3 g4 c4 g5 c5 zg zV gy10 gy11 gy12 gy13 gy14 gy15 cy10 cy11 cy12 cy13 cy14 cy15 gy20 gy21 gy22 gy23 gy24 gy25 cy20 cy21 cy22 cy23 cy24 cy25 gy30 gy31 gy32 gy33 gy34 gy35 cy30 cy31 cy32 cy33 cy34 cy35
          have PT : Hid (Ps w C y3 b F3 S2 mb sa sc ra rc S2 v2) := PT'.out
          have LT : Hid (Lb y3 F3 mb v2 w.heap.size [.int .i64 l1, .int .i64 l2, .bool l3, .int .i64 l4, .int .i64 l5, .int .i64 l6]) := LT'.out
          clear PT' LT'
          generalize y3 = x at *
          obtain ⟨ua, ucap, rfl, hLH⟩ := PT.out.m.hand PT.out.d.i
          have HH : Hid (WHanded x ua S2.under) := hLH
          have m3 := PT.out.m.r.c 3 _ rfl
          have zb : mb < x.heap.size := PT.out.m.r.lt
          have un := PT.out.d.i.un
          clear hLH
          go_region_held (fun w' => w'.cell? ⟨mb, 3, none⟩ = some (.slice ua S2.under.length ucap)) (go_keep) (first
            | (go_at_call 8; refine (C.way b F3 S2 _ (PT.out.on (rbel_dr (Below.refl _ _))).d.h PT.out.d.i).mono ?_; rintro o y1 ⟨la, lc, rfl, hLa, hb⟩; have PY1 : Hid (Ps w C y1 b F3 S2 mb sa sc ra rc S2 (.slice ua S2.under.length ucap)) := (PT.out.on (rbel_dr (Below.refl _ _))).on hb; have LY1 : Hid (Lb y1 F3 mb (.slice ua S2.under.length ucap) w.heap.size [.int .i64 l1, .int .i64 l2, .bool l3, .int .i64 l4, .int .i64 l5, .int .i64 l6]) := (LT.out.on (rbel_dr (Below.refl _ _))).on hb; have m3y := PY1.out.m.r.c 3 _ rfl; have LA : Hid (WHanded y1 la S2.under) := hLa; have LU : Hid (WHanded y1 ua S2.under) := HH.out.on (rbel_on hb (rbel_dr (Below.refl _ _))); clear hLa hb)
            | (go_at_call 13; refine (same_letters la ua S2.under.length lc ucap S2.under _ rfl LA.out LU.out).mono ?_; rintro o y2 ⟨rfl, hb⟩; have PY2 : Hid (Ps w C y2 b F3 S2 mb sa sc ra rc S2 (.slice ua S2.under.length ucap)) := PY1.out.on hb; have LY2 : Hid (Lb y2 F3 mb (.slice ua S2.under.length ucap) w.heap.size [.int .i64 l1, .int .i64 l2, .bool l3, .int .i64 l4, .int .i64 l5, .int .i64 l6]) := LY1.out.on hb; have m3z := PY2.out.m.r.c 3 _ rfl; have m2z := PY2.out.m.r.c 2 _ rfl; have zy2 : mb < y2.heap.size := PY2.out.m.r.lt; clear hb))
          all_goals
            go_wp2
            clear m3 m3y m3z
            go_region_held (fun w' => w'.cell? ⟨mb, 2, none⟩ = some (.int .i64 S2.time)) (go_keep) (first
              | (go_at_call 14; refine (C.time b F3 S2 _ (PY2.out.on (rbel_dr (Below.refl _ _))).d.h PT.out.d.i).mono ?_; rintro o y3 ⟨rfl, hb⟩; have PY3 : Hid (Ps w C y3 b F3 S2 mb sa sc ra rc S2 (.slice ua S2.under.length ucap)) := (PY2.out.on (rbel_dr (Below.refl _ _))).on hb; have LY3 : Hid (Lb y3 F3 mb (.slice ua S2.under.length ucap) w.heap.size [.int .i64 l1, .int .i64 l2, .bool l3, .int .i64 l4, .int .i64 l5, .int .i64 l6]) := (LY2.out.on (rbel_dr (Below.refl _ _))).on hb; have m2y := PY3.out.m.r.c 2 _ rfl; clear hb))
            all_goals
              go_wp2
              go_roundw
              case rel => exact ⟨k + 1, F3, S2, _, by omega, by omega, by go_num, PY3.out, HU2.out, HN2.out, LY3.out⟩
              case measure => simp [intOf]; omega
    · have hc : ¬ ((k : Int) < an) ∨ ((k : Int) < an ∧ ¬ ((k : Int) < 60)) := by omega
      obtain ⟨S2, e2, hA⟩ := anR_some S ⟨l1, l2, l3, l4, l5, l6⟩
      have HA2 : Hid (AnR S ⟨l1, l2, l3, l4, l5, l6⟩ S2 e2) := hA
      have HN2 : Hid (S2.n = rn) := hA.n.trans HN.out
      have ml0 := HL.out.r.c 0 _ rfl
      have ml1 := HL.out.r.c 1 _ rfl
      have ml2 := HL.out.r.c 2 _ rfl
      have ml3 := HL.out.r.c 3 _ rfl
      have ml4 := HL.out.r.c 4 _ rfl
      have ml5 := HL.out.r.c 5 _ rfl
      have ll : w.heap.size < wr.heap.size := HL.out.r.lt
      have IS : Hid S2.I := hA.i HP.out.d.i
      clear hA hP hU hL hSn hlt HA HS0 HR0 HU HN hn
      by_cases hin : 0 ≤ i ∧ i < rn
      · obtain ⟨j, rfl⟩ : ∃ j : Nat, i = j := ⟨i.toNat, by omega⟩
        have JL : Hid (j < S2.n) := by (show j < S2.n; rw [HN2.out]; omega)
        have cRd := fun (F3 : Nat → Prop) (u : World) (g : Dwd w C u b F3 S2) => (C.read b F3 S2 j u g.h g.i hi).mono (R' := fun o w' => o = .returned (.tuple #[.int .i64 (S2.rd j), errc 0]) ∧ Below u.heap.size u w') (fun o w' h => by
          rcases h.1 with ⟨_, e⟩ | ⟨q, _⟩
          · exact ⟨e, h.2⟩
          · exact absurd ⟨by omega, by rw [HN2.out]; omega⟩ q)
        have d1 : ¬ ((j : Int) < 0) := by omega
        have d2 : ¬ ((rn : Int) ≤ (j : Int)) := by omega
        clear hin hi
        rcases hc with h | ⟨h, h2⟩
        all_goals
          go_wp2
          go_region_held (fun w' => w'.cell? ⟨w.heap.size, 0, none⟩ = some (.int .i64 l1) ∧ w'.cell? ⟨w.heap.size, 1, none⟩ = some (.int .i64 l2) ∧ w'.cell? ⟨w.heap.size, 2, none⟩ = some (.bool l3) ∧ w'.cell? ⟨w.heap.size, 3, none⟩ = some (.int .i64 l4) ∧ w'.cell? ⟨w.heap.size, 4, none⟩ = some (.int .i64 l5) ∧ w'.cell? ⟨w.heap.size, 5, none⟩ = some (.int .i64 l6)) (go_keep) (first
            | (go_at_call 11; refine (Dwd.answer (HP.out.on (rbel_dr (Below.refl _ _))).d hl1 hl2 HA2.out).mono ?_; rintro o y1 ⟨F3, rfl, hd, hK, hF⟩; have Py1 : Hid (Ps w C y1 b F3 S2 mb sa sc ra rc S v) := (HP.out.on (rbel_dr (Below.refl _ _))).go hd hK hF; have Ly1 : Hid (Lb y1 F3 mb v w.heap.size [.int .i64 l1, .int .i64 l2, .bool l3, .int .i64 l4, .int .i64 l5, .int .i64 l6]) := (HL.out.on (rbel_dr (Below.refl _ _))).go hK hF; have ly10 := Ly1.out.r.c 0 _ rfl; have ly11 := Ly1.out.r.c 1 _ rfl; have ly12 := Ly1.out.r.c 2 _ rfl; have ly13 := Ly1.out.r.c 3 _ rfl; have ly14 := Ly1.out.r.c 4 _ rfl; have ly15 := Ly1.out.r.c 5 _ rfl; clear hd hK hF)
            | (go_at_call 12; refine (ran_at Py1.out.m HP.out.d.i HA2.out).mono ?_; rintro o y2 ⟨v2, rfl, hR, hK⟩; have Py2 : Hid (Ps w C y2 b F3 S2 mb sa sc ra rc S2 v2) := Py1.out.goM hR hK; have Ly2 : Hid (Lb y2 F3 mb v2 w.heap.size [.int .i64 l1, .int .i64 l2, .bool l3, .int .i64 l4, .int .i64 l5, .int .i64 l6]) := Ly1.out.goM hK; have ly20 := Ly2.out.r.c 0 _ rfl; have ly21 := Ly2.out.r.c 1 _ rfl; have ly22 := Ly2.out.r.c 2 _ rfl; have ly23 := Ly2.out.r.c 3 _ rfl; have ly24 := Ly2.out.r.c 4 _ rfl; have ly25 := Ly2.out.r.c 5 _ rfl; clear hR hK)
            | (go_at_call 7; refine (cE _ Py2.out.d.hw e2).mono ?_; rintro o y3 ⟨rfl, hb⟩; have Py3 : Hid (Ps w C y3 b F3 S2 mb sa sc ra rc S2 v2) := Py2.out.on hb; have Ly3 : Hid (Lb y3 F3 mb v2 w.heap.size [.int .i64 l1, .int .i64 l2, .bool l3, .int .i64 l4, .int .i64 l5, .int .i64 l6]) := Ly2.out.on hb; have ly30 := Ly3.out.r.c 0 _ rfl; have ly31 := Ly3.out.r.c 1 _ rfl; have ly32 := Ly3.out.r.c 2 _ rfl; have ly33 := Ly3.out.r.c 3 _ rfl; have ly34 := Ly3.out.r.c 4 _ rfl; have ly35 := Ly3.out.r.c 5 _ rfl; clear hb))
          all_goals
            have PT : Hid (Ps w C y3 b F3 S2 mb sa sc ra rc S2 v2) := Py3.out
            clear Py1 Ly1 Py2 Ly2 Py3 Ly3 ly10 ly11 ly12 ly13 ly14 ly15 ly20 ly21 ly22 ly23 ly24 ly25 ly30 ly31 ly32 ly33 ly34 ly35 ml0 ml1 ml2 ml3 ml4 ml5
            go_wp2_with (first
              | (go_at_call 15; refine (PT.out.m.read PT.out.d.i JL.out).mono ?_; rintro o y4 ⟨rfl, hb⟩; have P4 : Hid (Ps w C y4 b F3 S2 mb sa sc ra rc S2 v2) := PT.out.on hb; clear hb)
              | (go_at_call 16; refine (cRd _ _ P4.out.d).mono ?_; rintro o y5 ⟨rfl, hb⟩; have P5 : Hid (Ps w C y5 b F3 S2 mb sa sc ra rc S2 v2) := P4.out.on hb; clear hb)
              | (go_at_call 7; refine (cE _ P5.out.d.hw 0).mono ?_; rintro o y6 ⟨rfl, hb⟩; have P6 : Hid (Ps w C y6 b F3 S2 mb sa sc ra rc S2 v2) := P5.out.on hb; clear hb))
            go_ret
            exact ⟨by first | rfl | simp, P6.out.d.hw⟩
      · have cRd := fun (F3 : Nat → Prop) (u : World) (g : Dwd w C u b F3 S2) => (C.read b F3 S2 i u g.h g.i hi).mono (R' := fun o w' => o = .returned (.tuple #[.int .i64 0, errc 1]) ∧ Below u.heap.size u w') (fun o w' h => by
          rcases h.1 with ⟨q, _⟩ | ⟨_, e⟩
          · exact absurd ⟨q.1, by have := q.2; rw [HN2.out] at this; exact this⟩ hin
          · exact ⟨e, h.2⟩)
        have dd : i < 0 ∨ (¬ i < 0 ∧ (rn : Int) ≤ i) := by omega
        clear hin hi
        rcases hc with h | ⟨h, h2⟩ <;> rcases dd with d | ⟨d, d2⟩
        all_goals
          go_wp2
          go_region_held (fun w' => w'.cell? ⟨w.heap.size, 0, none⟩ = some (.int .i64 l1) ∧ w'.cell? ⟨w.heap.size, 1, none⟩ = some (.int .i64 l2) ∧ w'.cell? ⟨w.heap.size, 2, none⟩ = some (.bool l3) ∧ w'.cell? ⟨w.heap.size, 3, none⟩ = some (.int .i64 l4) ∧ w'.cell? ⟨w.heap.size, 4, none⟩ = some (.int .i64 l5) ∧ w'.cell? ⟨w.heap.size, 5, none⟩ = some (.int .i64 l6)) (go_keep) (first
            | (go_at_call 11; refine (Dwd.answer (HP.out.on (rbel_dr (Below.refl _ _))).d hl1 hl2 HA2.out).mono ?_; rintro o y1 ⟨F3, rfl, hd, hK, hF⟩; have Py1 : Hid (Ps w C y1 b F3 S2 mb sa sc ra rc S v) := (HP.out.on (rbel_dr (Below.refl _ _))).go hd hK hF; have Ly1 : Hid (Lb y1 F3 mb v w.heap.size [.int .i64 l1, .int .i64 l2, .bool l3, .int .i64 l4, .int .i64 l5, .int .i64 l6]) := (HL.out.on (rbel_dr (Below.refl _ _))).go hK hF; have ly10 := Ly1.out.r.c 0 _ rfl; have ly11 := Ly1.out.r.c 1 _ rfl; have ly12 := Ly1.out.r.c 2 _ rfl; have ly13 := Ly1.out.r.c 3 _ rfl; have ly14 := Ly1.out.r.c 4 _ rfl; have ly15 := Ly1.out.r.c 5 _ rfl; clear hd hK hF)
            | (go_at_call 12; refine (ran_at Py1.out.m HP.out.d.i HA2.out).mono ?_; rintro o y2 ⟨v2, rfl, hR, hK⟩; have Py2 : Hid (Ps w C y2 b F3 S2 mb sa sc ra rc S2 v2) := Py1.out.goM hR hK; have Ly2 : Hid (Lb y2 F3 mb v2 w.heap.size [.int .i64 l1, .int .i64 l2, .bool l3, .int .i64 l4, .int .i64 l5, .int .i64 l6]) := Ly1.out.goM hK; have ly20 := Ly2.out.r.c 0 _ rfl; have ly21 := Ly2.out.r.c 1 _ rfl; have ly22 := Ly2.out.r.c 2 _ rfl; have ly23 := Ly2.out.r.c 3 _ rfl; have ly24 := Ly2.out.r.c 4 _ rfl; have ly25 := Ly2.out.r.c 5 _ rfl; clear hR hK)
            | (go_at_call 7; refine (cE _ Py2.out.d.hw e2).mono ?_; rintro o y3 ⟨rfl, hb⟩; have Py3 : Hid (Ps w C y3 b F3 S2 mb sa sc ra rc S2 v2) := Py2.out.on hb; have Ly3 : Hid (Lb y3 F3 mb v2 w.heap.size [.int .i64 l1, .int .i64 l2, .bool l3, .int .i64 l4, .int .i64 l5, .int .i64 l6]) := Ly2.out.on hb; have ly30 := Ly3.out.r.c 0 _ rfl; have ly31 := Ly3.out.r.c 1 _ rfl; have ly32 := Ly3.out.r.c 2 _ rfl; have ly33 := Ly3.out.r.c 3 _ rfl; have ly34 := Ly3.out.r.c 4 _ rfl; have ly35 := Ly3.out.r.c 5 _ rfl; clear hb))
          all_goals
            have PT : Hid (Ps w C y3 b F3 S2 mb sa sc ra rc S2 v2) := Py3.out
            clear Py1 Ly1 Py2 Ly2 Py3 Ly3 ly10 ly11 ly12 ly13 ly14 ly15 ly20 ly21 ly22 ly23 ly24 ly25 ly30 ly31 ly32 ly33 ly34 ly35 ml0 ml1 ml2 ml3 ml4 ml5
            go_wp2_with (first
              | (go_at_call 16; refine (cRd _ _ PT.out.d).mono ?_; rintro o y5 ⟨rfl, hb⟩; have P5 : Hid (Ps w C y5 b F3 S2 mb sa sc ra rc S2 v2) := PT.out.on hb; clear hb)
              | (go_at_call 7; refine (cE _ P5.out.d.hw 1).mono ?_; rintro o y6 ⟨rfl, hb⟩; have P6 : Hid (Ps w C y6 b F3 S2 mb sa sc ra rc S2 v2) := P5.out.on hb; clear hb))
            go_ret
            exact ⟨by first | rfl | simp, P6.out.d.hw⟩
theorem all_ways (sa : Option Addr) (sn sc : Nat) (sz : Nat → Int) (ra : Option Addr) (rn rc : Nat) (rz : Nat → Int) (p : Int) (aa : Option Addr) (an ac : Nat) (aq : Nat → Ac) (l1 l2 : Int) (l3 : Bool) (l4 l5 l6 i : Int) (w : World) (he : EnvE w) (C : WpD w) (hs : NHanded w sa sn sz) (hr : NHanded w ra rn rz) (hp : In64 p) (ha : AHanded w aa an aq) (hl1 : In64 l1) (hl2 : In64 l2) (hi : In64 i) :
    Calls Tryd.prog 4 #[.slice sa sn sc, .slice ra rn rc, .int .i64 p, .slice aa an ac, .agg #[.int .i64 l1, .int .i64 l2, .bool l3, .int .i64 l4, .int .i64 l5, .int .i64 l6], .int .i64 i] w fun o w' => o = .returned (.bool true) ∧ Below w.heap.size w w' := by
  obtain ⟨e, hB⟩ := beE_some sn sz rn rz p
  by_cases h0 : e = 0
  · subst h0
    exact good sa sn sc sz ra rn rc rz p aa an ac aq l1 l2 l3 l4 l5 l6 i w he C hs hr hp ha hl1 hl2 hi hB
  · exact bad sa sn sc sz ra rn rc rz p aa an ac aq l1 l2 l3 l4 l5 l6 i w he C hs hr hp ha hl1 hl2 hi e h0 hB
end Go.Proofs.YtkmbllkkccelaahDoor.worldPlays
