/- Package net: Show besides. What package net must answer: Edges. Package net: Edges besides. What package net must answer, whole. Package net, whole. What the document's own net (package noonref2) answers: Do. -/
import Derived.Test.YtnagdjipmpjaaaiGreatDoorNm30
import Derived.Test.YtnagdjipmpjaaaiGreatDoorNm24
import Derived.Test.YtnagdjipmpjaaaiGreatDoorNm29
import Derived.Test.YtnagdjipmpjaaaiGreatDoorNm23
import Derived.Lib.SmallJoins
import Derived.Deep.RegionHeld
import Derived.Deep.QuietTactic
import Derived.BigQuiet
import Derived.BigRegion
namespace Go.Proofs.YtnagdjipmpjaaaiGreatDoor
open Go.ChangeShapes Go.WideShapes Go.ChangeAt Go.RowKit Go.Joins
set_option linter.unusedVariables false
set_option linter.unusedSimpArgs false

def ntr (w : World) : NtR w := { nto w with
  read := fun b F N i u hR hT _ => by
    obtain ⟨L, hP, rfl⟩ := hR
    exact nshow_any hP hT.g.i i
  }
end Go.Proofs.YtnagdjipmpjaaaiGreatDoor
namespace Go.Proofs.YtnagdjipmpjaaaiGreatDoor
open Go.ChangeShapes Go.WideShapes Go.ChangeAt Go.RowKit
set_option linter.unusedVariables false

/-- .. and Edges. -/
structure NtE (w0 : World) extends NtR w0 where
  edges : ∀ (b : Nat) (F : Nat → Prop) (N : Nn) (u : World), R u b F N → N.T → Calls Tryz.prog 16 #[.pointer (some ⟨b, 0, none⟩)] u fun o w' => ∃ (ea : Option Addr) (ec : Nat), o = .returned (.tuple #[.slice ea (eoN N).length ec, .nilIface]) ∧ EHanded w' ea (eoN N).length (egf (eoN N)) ∧ Below u.heap.size u w' ∧ (eoN N).length ≤ ec ∧ ec ≤ 9223372036854775807
/-- Edges, without how much room there is. -/
theorem NtE.edgesB {w0 : World} (C : NtE w0) (b : Nat) (F : Nat → Prop) (N : Nn) (u : World) (h : C.R u b F N) (t : N.T) : Calls Tryz.prog 16 #[.pointer (some ⟨b, 0, none⟩)] u fun o w' => ∃ (ea : Option Addr) (ec : Nat), o = .returned (.tuple #[.slice ea (eoN N).length ec, .nilIface]) ∧ EHanded w' ea (eoN N).length (egf (eoN N)) ∧ Below u.heap.size u w' :=
  (C.edges b F N u h t).mono fun _ _ ⟨ea, ec, e, h1, h2, _⟩ => ⟨ea, ec, e, h1, h2⟩
end Go.Proofs.YtnagdjipmpjaaaiGreatDoor
namespace Go.Proofs.YtnagdjipmpjaaaiGreatDoor
open Go.ChangeShapes Go.WideShapes Go.ChangeAt Go.RowKit Go.Joins
set_option linter.unusedVariables false
set_option linter.unusedSimpArgs false

def nte (w : World) : NtE w := { ntr w with
  edges := fun b F N u hR hT => by
    obtain ⟨L, hP, rfl⟩ := hR
    exact nedges_net hP hT
  }
end Go.Proofs.YtnagdjipmpjaaaiGreatDoor
namespace Go.Proofs.YtnagdjipmpjaaaiGreatDoor
open Go.ChangeShapes Go.WideShapes Go.ChangeAt Go.RowKit
set_option linter.unusedVariables false

/-- Package net, whole. -/
structure NtP (w0 : World) extends NtE w0 where
  wide : ∀ (b : Nat) (F : Nat → Prop) (N : Nn) (T : Tb) (u : World), R u b F N → N.T → AllA (egf (eoN N)) (eoN N).length N.W.n 0 T → Calls Tryz.prog 14 #[.pointer (some ⟨b, 0, none⟩)] u fun o w' => o = .returned (.tuple #[.int .i64 (wid N.W.n T), .nilIface]) ∧ Below u.heap.size u w'
end Go.Proofs.YtnagdjipmpjaaaiGreatDoor
namespace Go.Proofs.YtnagdjipmpjaaaiGreatDoor
open Go.ChangeShapes Go.WideShapes Go.ChangeAt Go.RowKit Go.Joins
set_option linter.unusedVariables false
set_option linter.unusedSimpArgs false

def ntp (w : World) : NtP w := { nte w with
  wide := fun b F N T u hR hT hA => by
    obtain ⟨L, hP, rfl⟩ := hR
    exact nwide_at hP hT T hA
  }
end Go.Proofs.YtnagdjipmpjaaaiGreatDoor
namespace Go.Proofs.YtnagdjipmpjaaaiGreatDoor
open Go.ChangeShapes Go.WideShapes Go.ChangeAt Go.RowKit Go.Joins
set_option linter.unusedVariables false
set_option linter.unusedSimpArgs false

section
variable {w u u1 W1 : World} {mb sc rc lb lc : Nat} {sa ra : Option Addr} {N : Nn} {v v1 : Value} {nb : Nat → Nat} {S' : Ws} {V : Nat} {a0 a1 a2 a3 a4 a5 b0 b1 b2 b3 b4 b5 : Value}
/-- The letter that comes is laid in a block that was made ahead of the call, or behind it: its world, and its row. -/
structure Lay (w u X : World) (mb : Nat) (sa : Option Addr) (sc : Nat) (ra : Option Addr) (rc : Nat) (N : Nn) (v v1 : Value) (lb lc : Nat) (nb : Nat → Nat) (V : Nat) (vs : List Value) : Prop where
  r : RNt w X mb sa sc ra rc N v1 lb lc nb
  row : Row X V vs
  k : KpN u X mb v v1 nb N.W.n
  nf : ¬ FrN mb v1 lb nb N.W.n V
theorem fr_not (hR : RNt w u mb sa sc ra rc N v lb lc nb) (hK : KpN u u1 mb v v1 nb N.W.n) (h1 : u.heap.size ≤ V) (h2 : v1.ownBlock ≠ some V) : ¬ FrN mb v1 lb nb N.W.n V := by
  rintro (e | e | e | ⟨i, hi, e⟩)
  · have := hR.m.r.lt; omega
  · exact h2 e
  · have := hR.lt; omega
  · have := (hR.nd i hi).lt; omega
theorem lay_a (hR : RNt w u mb sa sc ra rc N v lb lc nb) (hB : Below u.heap.size u W1) (hV : u.heap.size ≤ V) (r0 : Row W1 V [b0, b1, b2, b3, b4, b5]) (hn : S'.n = N.W.n) (hr : RW [.slice (some ⟨lb, 0, none⟩) N.W.n lc] w u1 mb sa sc ra rc S' v1) (hK : Kp W1 u1 mb v v1) :
    Lay w u (six u1 V a0 a1 a2 a3 a4 a5) mb sa sc ra rc ⟨S', N.p, N.nd⟩ v v1 lb lc nb V [a0, a1, a2, a3, a4, a5] := by
  have h1 := (hR.on hB).goW hr hK hn
  have z1 := hR.m.r.lt
  have z2 := hB.size
  have z3 := r0.lt
  have nv : v.ownBlock ≠ some V := fun e => by have := (hR.m.o.lt V e).2; omega
  have nv1 : v1.ownBlock ≠ some V := fun e => by
    rcases hK.2 V e with q | q
    · exact nv q
    · omega
  have k1 : KpN u u1 mb v v1 nb N.W.n := (KpN.of hB).tr (KpN.wo hK)
  have nf := fr_not hR k1 hV nv1
  have nf' : ¬ FrN mb v1 lb nb S'.n V := by rw [hn]; exact nf
  have ks : Keeps (fun k => k = V) u1 (six u1 V a0 a1 a2 a3 a4 a5) := six_keeps rfl (.refl _ _)
  have row1 : Row u1 V [b0, b1, b2, b3, b4, b5] := hK.1.row (fun e => e.elim (by omega) nv) r0
  refine ⟨h1.keep (h1.m.hw.trans (ks.below h1.m.hw.size (fun k e => by rw [e]; have := hR.m.hw.size; omega))) ks.size (fun k hk => ks.block k (h1.flt hk) (fun e => nf' (e ▸ hk))), ?_, ?_, nf'⟩
  · exact Row.put 5 (Row.put 4 (Row.put 3 (Row.put 2 (Row.put 1 (Row.put 0 row1)))))
  · show KpN u _ mb v v1 nb S'.n
    rw [hn]
    exact ⟨⟨ks.os.trans k1.1.os, ks.tape.trans k1.1.tape, ks.output.trans k1.1.output, Nat.le_trans k1.1.size ks.size, fun k hk hn => (ks.block k (Nat.lt_of_lt_of_le hk k1.1.size) (fun e => by omega)).trans (k1.1.block k hk hn)⟩, k1.2⟩
theorem lay_b (hR : RNt w u mb sa sc ra rc N v lb lc nb) (hB : Below u.heap.size u W1) (hn : S'.n = N.W.n) (hr : RW [.slice (some ⟨lb, 0, none⟩) N.W.n lc] w u1 mb sa sc ra rc S' v1) (hK : Kp W1 u1 mb v v1) (t : TypeId) :
    Lay w u (u1.alloc (.cells #[a0, a1, a2, a3, a4, a5] t)) mb sa sc ra rc ⟨S', N.p, N.nd⟩ v v1 lb lc nb u1.heap.size [a0, a1, a2, a3, a4, a5] := by
  have h1 := (hR.on hB).goW hr hK hn
  have k1 : KpN u u1 mb v v1 nb N.W.n := (KpN.of hB).tr (KpN.wo hK)
  refine ⟨h1.on (rbel_al (Below.refl _ _)), Row.made rfl, ?_, fun hk => by have := h1.flt hk; omega⟩
  show KpN u _ mb v v1 nb S'.n
  rw [hn]
  exact k1.tr (KpN.of (N := N) (rbel_al (Below.refl _ _)))
end
theorem rdo_is {Ex : List Value} {w u : World} {mb sc rc : Nat} {sa ra : Option Addr} {S S' : Ws} {v : Value} {wh x y e : Int} {r : Option Lt} (hR : RW Ex w u mb sa sc ra rc S v) (hI : S.I) (hD : DoR S wh x y S' r e) :
    Calls Tryz.prog 31 #[.pointer (some ⟨mb, 0, none⟩), .agg #[.int .i64 wh, .int .i64 x, .int .i64 y]] u fun o w' => ∃ v', o = .returned (.tuple #[ltv (r.getD lt0), .bool r.isSome, .int .i64 e]) ∧ RW Ex w w' mb sa sc ra rc S' v' ∧ Kp u w' mb v v' :=
  (rdo_any w u mb sc rc sa ra S v wh x y hR hI).mono fun _ _ ⟨v', S2, r2, e2, h2, he, h3, h4⟩ => by
    obtain ⟨rfl, rfl, rfl⟩ := doR_uniq hD h2
    exact ⟨v', he, h3, h4⟩
set_option maxRecDepth 100000 in
set_option maxHeartbeats 8000000 in
theorem rndo_none {w u : World} {mb sc rc lb lc : Nat} {sa ra : Option Addr} {N : Nn} {v : Value} {nb : Nat → Nat} {wh x y : Int} (hR : RNt w u mb sa sc ra rc N v lb lc nb) (hT : N.T) (S' : Ws) (e : Int) (hD : DoR N.W wh x y S' none e) :
    Calls Tryz.prog 10 #[.pointer (some ⟨mb, 0, none⟩), .agg #[.int .i64 wh, .int .i64 x, .int .i64 y]] u fun o w' => ∃ v', o = .returned (.int .i64 e) ∧ RNt w w' mb sa sc ra rc ⟨S', N.p, N.nd⟩ v' lb lc nb ∧ KpN u w' mb v v' nb N.W.n := by
  have HR : Hid (RNt w u mb sa sc ra rc N v lb lc nb) := hR
  have zb := hR.m.r.lt
  have NM : Hid (u.heap.size ≠ mb) := (by show u.heap.size ≠ mb; omega)
  have NM1 : Hid (u.heap.size + 1 ≠ mb) := (by show u.heap.size + 1 ≠ mb; omega)
  have NO : Hid (v.ownBlock ≠ some u.heap.size) := fun e => by have := (hR.m.o.lt _ e).2; omega
  have NO1 : Hid (v.ownBlock ≠ some (u.heap.size + 1)) := fun e => by have := (hR.m.o.lt _ e).2; omega
  have HSN : Hid (S'.n = N.W.n) := hD.same.1
  have cD := fun (W : World) (hB : Below u.heap.size u W) => rdo_is (hR.on hB).m hT.g.i hD
  have dd : ((e != 0) = true ∧ (e == 0) = false) ∨ e = 0 := by
    by_cases q : e = 0
    · exact Or.inr q
    · exact Or.inl ⟨by simp [q], by simp [q]⟩
  simp only [ltv, lt0, Option.getD_none, Option.isSome_none] at cD
  clear hR hT hD
  go_enter Tryz.func10, Tryz.ntmps10
  go_wp2
  go_region_held (fun w' => w'.cell? ⟨u.heap.size, 0, none⟩ = some (.int .i64 wh) ∧ w'.cell? ⟨u.heap.size, 1, none⟩ = some (.int .i64 x) ∧ w'.cell? ⟨u.heap.size, 2, none⟩ = some (.int .i64 y)) (go_keep) (first
    | (go_at_call 31; first
      | (refine (cD _ (rbel_dr (rbel_al (rbel_al (Below.refl _ _))))).mono ?_; rintro o u1 ⟨v1, rfl, hr, hk⟩; have HB1 : Hid (Below u.heap.size u (((u.alloc (.cells #[.int .i64 wh, .int .i64 x, .int .i64 y] 35)).alloc (.cells #[.int .i64 0, .int .i64 0, .bool false, .int .i64 0, .int .i64 0, .int .i64 0] 98)).drew)) := rbel_dr (rbel_al (rbel_al (Below.refl _ _))); have HK : Hid (Kp (((u.alloc (.cells #[.int .i64 wh, .int .i64 x, .int .i64 y] 35)).alloc (.cells #[.int .i64 0, .int .i64 0, .bool false, .int .i64 0, .int .i64 0, .int .i64 0] 98)).drew) u1 mb v v1) := hk; have HW : Hid (RW [.slice (some ⟨lb, 0, none⟩) N.W.n lc] w u1 mb sa sc ra rc S' v1) := hr; have RJ : Hid (Row u1 u.heap.size [.int .i64 wh, .int .i64 x, .int .i64 y]) := hk.1.row (fun e => e.elim NM.out NO.out) (Row.dr (Row.al (Row.made (W := u) rfl))); have RT1 : Hid (Row u1 (u.heap.size + 1) [.int .i64 0, .int .i64 0, .bool false, .int .i64 0, .int .i64 0, .int .i64 0]) := hk.1.row (fun e => e.elim NM1.out NO1.out) (Row.dr (Row.made (W := (u.alloc (.cells #[.int .i64 wh, .int .i64 x, .int .i64 y] 35))) (b := u.heap.size + 1) (by simp))); have RT0 : Hid (Row (((u.alloc (.cells #[.int .i64 wh, .int .i64 x, .int .i64 y] 35)).alloc (.cells #[.int .i64 0, .int .i64 0, .bool false, .int .i64 0, .int .i64 0, .int .i64 0] 98)).drew) (u.heap.size + 1) [.int .i64 0, .int .i64 0, .bool false, .int .i64 0, .int .i64 0, .int .i64 0]) := Row.dr (Row.made (W := (u.alloc (.cells #[.int .i64 wh, .int .i64 x, .int .i64 y] 35))) (b := u.heap.size + 1) (by simp)); have t0 := RT1.out.c 0 _ rfl; have g0 := RT1.out.f 0 _ rfl; have t1 := RT1.out.c 1 _ rfl; have g1 := RT1.out.f 1 _ rfl; have t2 := RT1.out.c 2 _ rfl; have g2 := RT1.out.f 2 _ rfl; have t3 := RT1.out.c 3 _ rfl; have g3 := RT1.out.f 3 _ rfl; have t4 := RT1.out.c 4 _ rfl; have g4 := RT1.out.f 4 _ rfl; have t5 := RT1.out.c 5 _ rfl; have g5 := RT1.out.f 5 _ rfl; have j0 := RJ.out.c 0 _ rfl; have j1 := RJ.out.c 1 _ rfl; have j2 := RJ.out.c 2 _ rfl; have lx1 : u.heap.size < u1.heap.size := RJ.out.lt; clear hr hk)
      | (refine (cD _ (rbel_al (rbel_dr (rbel_al (Below.refl _ _))))).mono ?_; rintro o u1 ⟨v1, rfl, hr, hk⟩; have HB1 : Hid (Below u.heap.size u ((u.alloc (.cells #[.int .i64 wh, .int .i64 x, .int .i64 y] 35)).drew.alloc (.cells #[.int .i64 0, .int .i64 0, .bool false, .int .i64 0, .int .i64 0, .int .i64 0] 98))) := rbel_al (rbel_dr (rbel_al (Below.refl _ _))); have HK : Hid (Kp ((u.alloc (.cells #[.int .i64 wh, .int .i64 x, .int .i64 y] 35)).drew.alloc (.cells #[.int .i64 0, .int .i64 0, .bool false, .int .i64 0, .int .i64 0, .int .i64 0] 98)) u1 mb v v1) := hk; have HW : Hid (RW [.slice (some ⟨lb, 0, none⟩) N.W.n lc] w u1 mb sa sc ra rc S' v1) := hr; have RJ : Hid (Row u1 u.heap.size [.int .i64 wh, .int .i64 x, .int .i64 y]) := hk.1.row (fun e => e.elim NM.out NO.out) (Row.al (Row.dr (Row.made (W := u) rfl))); have RT1 : Hid (Row u1 (u.heap.size + 1) [.int .i64 0, .int .i64 0, .bool false, .int .i64 0, .int .i64 0, .int .i64 0]) := hk.1.row (fun e => e.elim NM1.out NO1.out) (Row.made (W := (u.alloc (.cells #[.int .i64 wh, .int .i64 x, .int .i64 y] 35)).drew) (b := u.heap.size + 1) (by simp)); have RT0 : Hid (Row ((u.alloc (.cells #[.int .i64 wh, .int .i64 x, .int .i64 y] 35)).drew.alloc (.cells #[.int .i64 0, .int .i64 0, .bool false, .int .i64 0, .int .i64 0, .int .i64 0] 98)) (u.heap.size + 1) [.int .i64 0, .int .i64 0, .bool false, .int .i64 0, .int .i64 0, .int .i64 0]) := Row.made (W := (u.alloc (.cells #[.int .i64 wh, .int .i64 x, .int .i64 y] 35)).drew) (b := u.heap.size + 1) (by simp); have t0 := RT1.out.c 0 _ rfl; have g0 := RT1.out.f 0 _ rfl; have t1 := RT1.out.c 1 _ rfl; have g1 := RT1.out.f 1 _ rfl; have t2 := RT1.out.c 2 _ rfl; have g2 := RT1.out.f 2 _ rfl; have t3 := RT1.out.c 3 _ rfl; have g3 := RT1.out.f 3 _ rfl; have t4 := RT1.out.c 4 _ rfl; have g4 := RT1.out.f 4 _ rfl; have t5 := RT1.out.c 5 _ rfl; have g5 := RT1.out.f 5 _ rfl; have j0 := RJ.out.c 0 _ rfl; have j1 := RJ.out.c 1 _ rfl; have j2 := RJ.out.c 2 _ rfl; have lx1 : u.heap.size < u1.heap.size := RJ.out.lt; clear hr hk)
      | (refine (cD _ (rbel_dr (rbel_al (Below.refl _ _)))).mono ?_; rintro o u1 ⟨v1, rfl, hr, hk⟩; have HB1 : Hid (Below u.heap.size u ((u.alloc (.cells #[.int .i64 wh, .int .i64 x, .int .i64 y] 35)).drew)) := rbel_dr (rbel_al (Below.refl _ _)); have HK : Hid (Kp ((u.alloc (.cells #[.int .i64 wh, .int .i64 x, .int .i64 y] 35)).drew) u1 mb v v1) := hk; have HW : Hid (RW [.slice (some ⟨lb, 0, none⟩) N.W.n lc] w u1 mb sa sc ra rc S' v1) := hr; have RJ : Hid (Row u1 u.heap.size [.int .i64 wh, .int .i64 x, .int .i64 y]) := hk.1.row (fun e => e.elim NM.out NO.out) (Row.dr (Row.made (W := u) rfl)); have j0 := RJ.out.c 0 _ rfl; have j1 := RJ.out.c 1 _ rfl; have j2 := RJ.out.c 2 _ rfl; have lx1 : u.heap.size < u1.heap.size := RJ.out.lt; clear hr hk)))
  all_goals
    first
      | (have q := RT1.out
         have LY : Hid (Lay w u (six u1 (u.heap.size + 1) (.int .i64 0) (.int .i64 0) (.bool false) (.int .i64 0) (.int .i64 0) (.int .i64 0)) mb sa sc ra rc ⟨S', N.p, N.nd⟩ v v1 lb lc nb (u.heap.size + 1) [.int .i64 0, .int .i64 0, .bool false, .int .i64 0, .int .i64 0, .int .i64 0]) := lay_a HR.out HB1.out (by omega) RT0.out HSN.out HW.out HK.out
         unfold six at LY
         clear q RT1 RT0 t0 t1 t2 t3 t4 t5 g0 g1 g2 g3 g4 g5 j0 j1 j2 lx1 HB1 HK HW RJ
         generalize (((((u1.setCell ⟨u.heap.size + 1, 0, none⟩ (.int .i64 0)).setCell ⟨u.heap.size + 1, 1, none⟩ (.int .i64 0)).setCell ⟨u.heap.size + 1, 2, none⟩ (.bool false)).setCell ⟨u.heap.size + 1, 3, none⟩ (.int .i64 0)).setCell ⟨u.heap.size + 1, 4, none⟩ (.int .i64 0)).setCell ⟨u.heap.size + 1, 5, none⟩ (.int .i64 0) = X at *
         generalize u.heap.size + 1 = V at *)
      | (have LY : Hid (Lay w u (u1.alloc (.cells #[.int .i64 0, .int .i64 0, .bool false, .int .i64 0, .int .i64 0, .int .i64 0] 98)) mb sa sc ra rc ⟨S', N.p, N.nd⟩ v v1 lb lc nb u1.heap.size [.int .i64 0, .int .i64 0, .bool false, .int .i64 0, .int .i64 0, .int .i64 0]) := lay_b HR.out HB1.out HSN.out HW.out HK.out _
         clear j0 j1 j2 lx1 HB1 HK HW RJ
         generalize u1.alloc (.cells #[.int .i64 0, .int .i64 0, .bool false, .int .i64 0, .int .i64 0, .int .i64 0] 98) = X at *
         generalize u1.heap.size = V at *)
  all_goals
    rcases dd with ⟨d1, d2⟩ | rfl
    all_goals
      go_wp2
      go_ret
      have kk : KpN u X mb v v1 nb N.W.n := by rw [← HSN.out]; exact LY.out.k
      first | exact ⟨v1, rfl, LY.out.r, kk⟩ | exact ⟨rfl, v1, LY.out.r, kk⟩
end Go.Proofs.YtnagdjipmpjaaaiGreatDoor
