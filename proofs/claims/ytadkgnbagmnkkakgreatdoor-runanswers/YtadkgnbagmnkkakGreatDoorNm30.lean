/- The document's own net (package noonref2) in memory. What the document's own net (package noonref2) answers: Do. What the document's own net (package noonref2) answers: Do, where a letter comes. What the document's own net (package noonref2) answers: Edges. What the document's own net (package noonref2) answers: Offset. What the document's own net (package noonref2) answers: Wide. What the document's own net (package noonref2) answers: NewNet. -/
import Derived.Test.YtadkgnbagmnkkakGreatDoorNm06
import Derived.Test.YtadkgnbagmnkkakGreatDoorNm15
import Derived.Test.YtadkgnbagmnkkakGreatDoorNm28
import Derived.Test.YtadkgnbagmnkkakGreatDoorNm29
import Derived.Test.YtadkgnbagmnkkakGreatDoorNm03
import Derived.Lib.SmallJoins
import Derived.Deep.RegionHeld
import Derived.Deep.QuietTactic
import Derived.BigQuiet
import Derived.BigRegion
import Derived.Test.YtadkgnbagmnkkakGreatDoorNm05
import Derived.Test.YtadkgnbagmnkkakGreatDoorNetRefB
namespace Go.Proofs.YtadkgnbagmnkkakGreatDoor
open Go.ChangeShapes Go.WideShapes Go.ChangeAt Go.RowKit Go.Joins
set_option linter.unusedVariables false

structure RNt (w u : World) (mb : Nat) (sa : Option Addr) (sc : Nat) (ra : Option Addr) (rc : Nat) (N : Nn) (v : Value) (lb lc : Nat) (nb : Nat → Nat) : Prop where
 m : RW [.slice (some ⟨lb, 0, none⟩) N.W.n lc] w u mb sa sc ra rc N.W v
 l : ∀ i, i < N.W.n → u.cell? ⟨lb, i, none⟩ = some (.pointer (some ⟨nb i, 0, none⟩))
 nd : ∀ i, i < N.W.n → RN u (nb i) (N.nd i)
 lm : lb ≠ mb
 lv : v.ownBlock ≠ some lb
 nm : ∀ i, i < N.W.n → nb i ≠ mb
 nl : ∀ i, i < N.W.n → nb i ≠ lb
 nv : ∀ i, i < N.W.n → v.ownBlock ≠ some (nb i)
 nn : ∀ i j, i < N.W.n → j < N.W.n → i ≠ j → nb i ≠ nb j
 ln : ∀ i, i < N.W.n → w.heap.size ≤ nb i
 ll : w.heap.size ≤ lb
 lt : lb < u.heap.size
def FrN (mb : Nat) (v : Value) (lb : Nat) (nb : Nat → Nat) (n k : Nat) : Prop := k = mb ∨ v.ownBlock = some k ∨ k = lb ∨ ∃ i, i < n ∧ k = nb i
section
variable {w u u' : World} {mb sc rc lb lc : Nat} {sa ra : Option Addr} {N N' : Nn} {v v' : Value} {nb : Nat → Nat}
theorem RNt.keep (h : RNt w u mb sa sc ra rc N v lb lc nb) (hw' : Below w.heap.size w u') (hs : u.heap.size ≤ u'.heap.size) (hk : ∀ k, FrN mb v lb nb N.W.n k → u'.heap[k]? = u.heap[k]?) : RNt w u' mb sa sc ra rc N v lb lc nb :=
 ⟨RW.keep (hk mb (Or.inl rfl)) (fun g hg => hk g (Or.inr (Or.inl hg))) hw' h.m, fun i hi => (World.cell?_of_block (w := u) (a := ⟨lb, i, none⟩) (hk lb (Or.inr (Or.inr (Or.inl rfl))))).trans (h.l i hi), fun i hi => RN.block (hk _ (Or.inr (Or.inr (Or.inr ⟨i, hi, rfl⟩)))) (h.nd i hi), h.lm, h.lv, h.nm, h.nl, h.nv, h.nn, h.ln, h.ll, Nat.lt_of_lt_of_le h.lt hs⟩
theorem RNt.flt (h : RNt w u mb sa sc ra rc N v lb lc nb) {k : Nat} (hk : FrN mb v lb nb N.W.n k) : k < u.heap.size := by
 rcases hk with rfl | e | rfl | ⟨i, hi, rfl⟩
 ·exact h.m.r.lt
 ·exact (h.m.o.lt k e).2
 ·exact h.lt
 ·exact (h.nd i hi).lt
theorem RNt.on (hb : Below u.heap.size u u') (h : RNt w u mb sa sc ra rc N v lb lc nb) : RNt w u' mb sa sc ra rc N v lb lc nb := h.keep (rbel_on hb h.m.hw) hb.size (fun k hk => hb.block k (h.flt hk))
def KpN (u u' : World) (mb : Nat) (v v' : Value) (nb : Nat → Nat) (n : Nat) : Prop := Keeps (fun k => k = mb ∨ v.ownBlock = some k ∨ ∃ i, i < n ∧ k = nb i) u u' ∧ ∀ g, v'.ownBlock = some g → v.ownBlock = some g ∨ u.heap.size ≤ g
theorem RNt.goW (h : RNt w u mb sa sc ra rc N v lb lc nb) {S' : Ws} (hR : RW [.slice (some ⟨lb, 0, none⟩) N.W.n lc] w u' mb sa sc ra rc S' v') (hK : Kp u u' mb v v') (hn : S'.n = N.W.n) : RNt w u' mb sa sc ra rc ⟨S', N.p, N.nd⟩ v' lb lc nb := by
 have hl : ∀ k, v'.ownBlock = some k → ¬ (k < u.heap.size ∧ v.ownBlock ≠ some k) := fun k e q => by
  rcases hK.2 k e with x | x
  ·exact q.2 x
  ·omega
 have bl : ∀ k, k < u.heap.size → k ≠ mb → v.ownBlock ≠ some k → u'.heap[k]? = u.heap[k]? := fun k h1 h2 h3 => hK.1.block k h1 (fun e => e.elim h2 h3)
 refine ⟨by show RW [.slice (some ⟨lb, 0, none⟩) S'.n lc] w u' mb sa sc ra rc S' v'; rw [hn]; exact hR, fun i hi => ?_, fun i hi => ?_, h.lm, fun e => hl lb e ⟨h.lt, h.lv⟩, fun i hi => h.nm i (hn ▸ hi), fun i hi => h.nl i (hn ▸ hi), fun i hi e => hl _ e ⟨(h.nd i (hn ▸ hi)).lt, h.nv i (hn ▸ hi)⟩, fun i j hi hj => h.nn i j (hn ▸ hi) (hn ▸ hj), fun i hi => h.ln i (hn ▸ hi), h.ll, Nat.lt_of_lt_of_le h.lt hK.1.size⟩
 ·exact (World.cell?_of_block (w := u) (a := ⟨lb, i, none⟩) (bl lb h.lt h.lm h.lv)).trans (h.l i (hn ▸ hi))
 ·have hi' : i < N.W.n := hn ▸ hi
  exact RN.block (bl _ (h.nd i hi').lt (h.nm i hi') (h.nv i hi')) (h.nd i hi')
theorem RNt.goN (h : RNt w u mb sa sc ra rc N v lb lc nb) {i : Nat} (hi : i < N.W.n) {c' : Nd} (hR : RN u' (nb i) c') (hK : Keeps (fun k => k = nb i) u u') : RNt w u' mb sa sc ra rc ⟨N.W, N.p, updN N.nd i c'⟩ v lb lc nb := by
 have bl : ∀ k, k < u.heap.size → k ≠ nb i → u'.heap[k]? = u.heap[k]? := fun k h1 h2 => hK.block k h1 h2
 have hw' : Below w.heap.size w u' := h.m.hw.trans (hK.below h.m.hw.size (fun k e => by rw [e]; exact h.ln i hi))
 refine ⟨RW.keep (bl mb h.m.r.lt (fun e => h.nm i hi e.symm)) (fun g hg => bl g (h.m.o.lt g hg).2 (fun e => h.nv i hi (by rw [hg, e]))) hw' h.m, fun j hj => (World.cell?_of_block (w := u) (a := ⟨lb, j, none⟩) (bl lb h.lt (fun e => h.nl i hi e.symm))).trans (h.l j hj), fun j hj => ?_, h.lm, h.lv, h.nm, h.nl, h.nv, h.nn, h.ln, h.ll, Nat.lt_of_lt_of_le h.lt hK.size⟩
 show RN u' (nb j) (updN N.nd i c' j)
 by_cases e : j = i
 ·subst e; rw [updN_at]; exact hR
 ·rw [updN_ne e]
  exact RN.block (bl _ (h.nd j hj).lt (h.nn j i hj hi e)) (h.nd j hj)
theorem KpN.of (hb : Below u.heap.size u u') : KpN u u' mb v v nb N.W.n := ⟨.of hb, fun _ h => Or.inl h⟩
theorem KpN.wo {n : Nat} (h : Kp u u' mb v v') : KpN u u' mb v v' nb n := ⟨⟨h.1.os, h.1.tape, h.1.output, h.1.size, fun k hk hn => h.1.block k hk (fun e => hn (e.elim Or.inl (fun q => Or.inr (Or.inl q))))⟩, h.2⟩
theorem KpN.no {n i : Nat} (hi : i < n) (h : Keeps (fun k => k = nb i) u u') : KpN u u' mb v v nb n := ⟨⟨h.os, h.tape, h.output, h.size, fun k hk hn => h.block k hk (fun e => hn (Or.inr (Or.inr ⟨i, hi, e⟩)))⟩, fun _ q => Or.inl q⟩
theorem KpN.tr {u2 : World} {v2 : Value} {n : Nat} (h : KpN u u' mb v v' nb n) (g : KpN u' u2 mb v' v2 nb n) : KpN u u2 mb v v2 nb n := by
 refine ⟨⟨g.1.os.trans h.1.os, g.1.tape.trans h.1.tape, g.1.output.trans h.1.output, Nat.le_trans h.1.size g.1.size, fun k hk hn => (g.1.block k (Nat.lt_of_lt_of_le hk h.1.size) (fun e => ?_)).trans (h.1.block k hk hn)⟩, fun k e => ?_⟩
 ·rcases e with e | e | e
  ·exact hn (Or.inl e)
  ·rcases h.2 k e with q | q
   ·exact hn (Or.inr (Or.inl q))
   ·omega
  ·exact hn (Or.inr (Or.inr e))
 ·rcases g.2 k e with q | q
  ·exact h.2 k q
  ·have := h.1.size
   exact Or.inr (by omega)
theorem KpN.row {V n : Nat} {vs : List Value} (k : KpN u u' mb v v' nb n) (h : ¬ (V = mb ∨ v.ownBlock = some V ∨ ∃ i, i < n ∧ V = nb i)) (r : Row u V vs) : Row u' V vs := k.1.row h r
end
end Go.Proofs.YtadkgnbagmnkkakGreatDoor
namespace Go.Proofs.YtadkgnbagmnkkakGreatDoor
open Go.ChangeShapes Go.WideShapes Go.ChangeAt Go.RowKit Go.Joins
set_option linter.unusedVariables false
set_option linter.unusedSimpArgs false

section
variable {w u u1 W1 : World} {mb sc rc lb lc : Nat} {sa ra : Option Addr} {N : Nn} {v v1 : Value} {nb : Nat → Nat} {S' : Ws} {V : Nat} {a0 a1 a2 a3 a4 a5 b0 b1 b2 b3 b4 b5 : Value}
structure Lay (w u X : World) (mb : Nat) (sa : Option Addr) (sc : Nat) (ra : Option Addr) (rc : Nat) (N : Nn) (v v1 : Value) (lb lc : Nat) (nb : Nat → Nat) (V : Nat) (vs : List Value) : Prop where
  r : RNt w X mb sa sc ra rc N v1 lb lc nb
  row : Row X V vs
  k : KpN u X mb v v1 nb N.W.n
  nf : ¬ FrN mb v1 lb nb N.W.n V
theorem fr_not (hR : RNt w u mb sa sc ra rc N v lb lc nb) (hK : KpN u u1 mb v v1 nb N.W.n) (h1 : u.heap.size ≤ V) (h2 : v1.ownBlock ≠ some V) : ¬ FrN mb v1 lb nb N.W.n V := by
  rintro (e | e | e | ⟨i, hi, e⟩)
  · have := hR.m.r.lt; omega
  · exact h2 e
  · have := hR.lt; omega
  · have := (hR.nd i hi).lt; omega
theorem lay_a (hR : RNt w u mb sa sc ra rc N v lb lc nb) (hB : Below u.heap.size u W1) (hV : u.heap.size ≤ V) (r0 : Row W1 V [b0, b1, b2, b3, b4, b5]) (hn : S'.n = N.W.n) (hr : RW [.slice (some ⟨lb, 0, none⟩) N.W.n lc] w u1 mb sa sc ra rc S' v1) (hK : Kp W1 u1 mb v v1) :
    Lay w u (six u1 V a0 a1 a2 a3 a4 a5) mb sa sc ra rc ⟨S', N.p, N.nd⟩ v v1 lb lc nb V [a0, a1, a2, a3, a4, a5] := by
  have h1 := (hR.on hB).goW hr hK hn
  have z1 := hR.m.r.lt
  have z2 := hB.size
  have z3 := r0.lt
  have nv : v.ownBlock ≠ some V := fun e => by have := (hR.m.o.lt V e).2; omega
  have nv1 : v1.ownBlock ≠ some V := fun e => by
    rcases hK.2 V e with q | q
    · exact nv q
    · omega
  have k1 : KpN u u1 mb v v1 nb N.W.n := (KpN.of hB).tr (KpN.wo hK)
  have nf := fr_not hR k1 hV nv1
  have nf' : ¬ FrN mb v1 lb nb S'.n V := by rw [hn]; exact nf
  have ks : Keeps (fun k => k = V) u1 (six u1 V a0 a1 a2 a3 a4 a5) := six_keeps rfl (.refl _ _)
  have row1 : Row u1 V [b0, b1, b2, b3, b4, b5] := hK.1.row (fun e => e.elim (by omega) nv) r0
  refine ⟨h1.keep (h1.m.hw.trans (ks.below h1.m.hw.size (fun k e => by rw [e]; have := hR.m.hw.size; omega))) ks.size (fun k hk => ks.block k (h1.flt hk) (fun e => nf' (e ▸ hk))), ?_, ?_, nf'⟩
  · exact Row.put 5 (Row.put 4 (Row.put 3 (Row.put 2 (Row.put 1 (Row.put 0 row1)))))
  · show KpN u _ mb v v1 nb S'.n
    rw [hn]
    exact ⟨⟨ks.os.trans k1.1.os, ks.tape.trans k1.1.tape, ks.output.trans k1.1.output, Nat.le_trans k1.1.size ks.size, fun k hk hn => (ks.block k (Nat.lt_of_lt_of_le hk k1.1.size) (fun e => by omega)).trans (k1.1.block k hk hn)⟩, k1.2⟩
theorem lay_b (hR : RNt w u mb sa sc ra rc N v lb lc nb) (hB : Below u.heap.size u W1) (hn : S'.n = N.W.n) (hr : RW [.slice (some ⟨lb, 0, none⟩) N.W.n lc] w u1 mb sa sc ra rc S' v1) (hK : Kp W1 u1 mb v v1) (t : TypeId) :
    Lay w u (u1.alloc (.cells #[a0, a1, a2, a3, a4, a5] t)) mb sa sc ra rc ⟨S', N.p, N.nd⟩ v v1 lb lc nb u1.heap.size [a0, a1, a2, a3, a4, a5] := by
  have h1 := (hR.on hB).goW hr hK hn
  have k1 : KpN u u1 mb v v1 nb N.W.n := (KpN.of hB).tr (KpN.wo hK)
  refine ⟨h1.on (rbel_al (Below.refl _ _)), Row.made rfl, ?_, fun hk => by have := h1.flt hk; omega⟩
  show KpN u _ mb v v1 nb S'.n
  rw [hn]
  exact k1.tr (KpN.of (N := N) (rbel_al (Below.refl _ _)))
end
theorem rdo_is {Ex : List Value} {w u : World} {mb sc rc : Nat} {sa ra : Option Addr} {S S' : Ws} {v : Value} {wh x y e : Int} {r : Option Lt} (hR : RW Ex w u mb sa sc ra rc S v) (hI : S.I) (hD : DoR S wh x y S' r e) :
    Calls Tryz.prog 43 #[.pointer (some ⟨mb, 0, none⟩), .agg #[.int .i64 wh, .int .i64 x, .int .i64 y]] u fun o w' => ∃ v', o = .returned (.tuple #[ltv (r.getD lt0), .bool r.isSome, .int .i64 e]) ∧ RW Ex w w' mb sa sc ra rc S' v' ∧ Kp u w' mb v v' :=
  (rdo_any w u mb sc rc sa ra S v wh x y hR hI).mono fun _ _ ⟨v', S2, r2, e2, h2, he, h3, h4⟩ => by
    obtain ⟨rfl, rfl, rfl⟩ := doR_uniq hD h2
    exact ⟨v', he, h3, h4⟩
set_option maxRecDepth 100000 in
set_option maxHeartbeats 8000000 in
theorem rndo_none {w u : World} {mb sc rc lb lc : Nat} {sa ra : Option Addr} {N : Nn} {v : Value} {nb : Nat → Nat} {wh x y : Int} (hR : RNt w u mb sa sc ra rc N v lb lc nb) (hT : N.T) (S' : Ws) (e : Int) (hD : DoR N.W wh x y S' none e) :
    Calls Tryz.prog 21 #[.pointer (some ⟨mb, 0, none⟩), .agg #[.int .i64 wh, .int .i64 x, .int .i64 y]] u fun o w' => ∃ v', o = .returned (.int .i64 e) ∧ RNt w w' mb sa sc ra rc ⟨S', N.p, N.nd⟩ v' lb lc nb ∧ KpN u w' mb v v' nb N.W.n := by
  have HR : Hid (RNt w u mb sa sc ra rc N v lb lc nb) := hR
  have zb := hR.m.r.lt
  have NM : Hid (u.heap.size ≠ mb) := (by show u.heap.size ≠ mb; omega)
  have NM1 : Hid (u.heap.size + 1 ≠ mb) := (by show u.heap.size + 1 ≠ mb; omega)
  have NO : Hid (v.ownBlock ≠ some u.heap.size) := fun e => by have := (hR.m.o.lt _ e).2; omega
  have NO1 : Hid (v.ownBlock ≠ some (u.heap.size + 1)) := fun e => by have := (hR.m.o.lt _ e).2; omega
  have HSN : Hid (S'.n = N.W.n) := hD.same.1
  have cD := fun (W : World) (hB : Below u.heap.size u W) => rdo_is (hR.on hB).m hT.g.i hD
  have dd : ((e != 0) = true ∧ (e == 0) = false) ∨ e = 0 := by
    by_cases q : e = 0
    · exact Or.inr q
    · exact Or.inl ⟨by simp [q], by simp [q]⟩
  simp only [ltv, lt0, Option.getD_none, Option.isSome_none] at cD
  clear hR hT hD
  go_enter Tryz.func21, Tryz.ntmps21
  go_wp2
  go_region_held (fun w' => w'.cell? ⟨u.heap.size, 0, none⟩ = some (.int .i64 wh) ∧ w'.cell? ⟨u.heap.size, 1, none⟩ = some (.int .i64 x) ∧ w'.cell? ⟨u.heap.size, 2, none⟩ = some (.int .i64 y)) (go_keep) (first
    | (go_at_call 43; first
      | (refine (cD _ (rbel_dr (rbel_al (rbel_al (Below.refl _ _))))).mono ?_; rintro o u1 ⟨v1, rfl, hr, hk⟩; have HB1 : Hid (Below u.heap.size u (((u.alloc (.cells #[.int .i64 wh, .int .i64 x, .int .i64 y] 70)).alloc (.cells #[.int .i64 0, .int .i64 0, .bool false, .int .i64 0, .int .i64 0, .int .i64 0] 113)).drew)) := rbel_dr (rbel_al (rbel_al (Below.refl _ _))); have HK : Hid (Kp (((u.alloc (.cells #[.int .i64 wh, .int .i64 x, .int .i64 y] 70)).alloc (.cells #[.int .i64 0, .int .i64 0, .bool false, .int .i64 0, .int .i64 0, .int .i64 0] 113)).drew) u1 mb v v1) := hk; have HW : Hid (RW [.slice (some ⟨lb, 0, none⟩) N.W.n lc] w u1 mb sa sc ra rc S' v1) := hr; have RJ : Hid (Row u1 u.heap.size [.int .i64 wh, .int .i64 x, .int .i64 y]) := hk.1.row (fun e => e.elim NM.out NO.out) (Row.dr (Row.al (Row.made (W := u) rfl))); have RT1 : Hid (Row u1 (u.heap.size + 1) [.int .i64 0, .int .i64 0, .bool false, .int .i64 0, .int .i64 0, .int .i64 0]) := hk.1.row (fun e => e.elim NM1.out NO1.out) (Row.dr (Row.made (W := (u.alloc (.cells #[.int .i64 wh, .int .i64 x, .int .i64 y] 70))) (b := u.heap.size + 1) (by simp))); have RT0 : Hid (Row (((u.alloc (.cells #[.int .i64 wh, .int .i64 x, .int .i64 y] 70)).alloc (.cells #[.int .i64 0, .int .i64 0, .bool false, .int .i64 0, .int .i64 0, .int .i64 0] 113)).drew) (u.heap.size + 1) [.int .i64 0, .int .i64 0, .bool false, .int .i64 0, .int .i64 0, .int .i64 0]) := Row.dr (Row.made (W := (u.alloc (.cells #[.int .i64 wh, .int .i64 x, .int .i64 y] 70))) (b := u.heap.size + 1) (by simp)); have t0 := RT1.out.c 0 _ rfl; have g0 := RT1.out.f 0 _ rfl; have t1 := RT1.out.c 1 _ rfl; have g1 := RT1.out.f 1 _ rfl; have t2 := RT1.out.c 2 _ rfl; have g2 := RT1.out.f 2 _ rfl; have t3 := RT1.out.c 3 _ rfl; have g3 := RT1.out.f 3 _ rfl; have t4 := RT1.out.c 4 _ rfl; have g4 := RT1.out.f 4 _ rfl; have t5 := RT1.out.c 5 _ rfl; have g5 := RT1.out.f 5 _ rfl; have j0 := RJ.out.c 0 _ rfl; have j1 := RJ.out.c 1 _ rfl; have j2 := RJ.out.c 2 _ rfl; have lx1 : u.heap.size < u1.heap.size := RJ.out.lt; clear hr hk)
      | (refine (cD _ (rbel_al (rbel_dr (rbel_al (Below.refl _ _))))).mono ?_; rintro o u1 ⟨v1, rfl, hr, hk⟩; have HB1 : Hid (Below u.heap.size u ((u.alloc (.cells #[.int .i64 wh, .int .i64 x, .int .i64 y] 70)).drew.alloc (.cells #[.int .i64 0, .int .i64 0, .bool false, .int .i64 0, .int .i64 0, .int .i64 0] 113))) := rbel_al (rbel_dr (rbel_al (Below.refl _ _))); have HK : Hid (Kp ((u.alloc (.cells #[.int .i64 wh, .int .i64 x, .int .i64 y] 70)).drew.alloc (.cells #[.int .i64 0, .int .i64 0, .bool false, .int .i64 0, .int .i64 0, .int .i64 0] 113)) u1 mb v v1) := hk; have HW : Hid (RW [.slice (some ⟨lb, 0, none⟩) N.W.n lc] w u1 mb sa sc ra rc S' v1) := hr; have RJ : Hid (Row u1 u.heap.size [.int .i64 wh, .int .i64 x, .int .i64 y]) := hk.1.row (fun e => e.elim NM.out NO.out) (Row.al (Row.dr (Row.made (W := u) rfl))); have RT1 : Hid (Row u1 (u.heap.size + 1) [.int .i64 0, .int .i64 0, .bool false, .int .i64 0, .int .i64 0, .int .i64 0]) := hk.1.row (fun e => e.elim NM1.out NO1.out) (Row.made (W := (u.alloc (.cells #[.int .i64 wh, .int .i64 x, .int .i64 y] 70)).drew) (b := u.heap.size + 1) (by simp)); have RT0 : Hid (Row ((u.alloc (.cells #[.int .i64 wh, .int .i64 x, .int .i64 y] 70)).drew.alloc (.cells #[.int .i64 0, .int .i64 0, .bool false, .int .i64 0, .int .i64 0, .int .i64 0] 113)) (u.heap.size + 1) [.int .i64 0, .int .i64 0, .bool false, .int .i64 0, .int .i64 0, .int .i64 0]) := Row.made (W := (u.alloc (.cells #[.int .i64 wh, .int .i64 x, .int .i64 y] 70)).drew) (b := u.heap.size + 1) (by simp); have t0 := RT1.out.c 0 _ rfl; have g0 := RT1.out.f 0 _ rfl; have t1 := RT1.out.c 1 _ rfl; have g1 := RT1.out.f 1 _ rfl; have t2 := RT1.out.c 2 _ rfl; have g2 := RT1.out.f 2 _ rfl; have t3 := RT1.out.c 3 _ rfl; have g3 := RT1.out.f 3 _ rfl; have t4 := RT1.out.c 4 _ rfl; have g4 := RT1.out.f 4 _ rfl; have t5 := RT1.out.c 5 _ rfl; have g5 := RT1.out.f 5 _ rfl; have j0 := RJ.out.c 0 _ rfl; have j1 := RJ.out.c 1 _ rfl; have j2 := RJ.out.c 2 _ rfl; have lx1 : u.heap.size < u1.heap.size := RJ.out.lt; clear hr hk)
      | (refine (cD _ (rbel_dr (rbel_al (Below.refl _ _)))).mono ?_; rintro o u1 ⟨v1, rfl, hr, hk⟩; have HB1 : Hid (Below u.heap.size u ((u.alloc (.cells #[.int .i64 wh, .int .i64 x, .int .i64 y] 70)).drew)) := rbel_dr (rbel_al (Below.refl _ _)); have HK : Hid (Kp ((u.alloc (.cells #[.int .i64 wh, .int .i64 x, .int .i64 y] 70)).drew) u1 mb v v1) := hk; have HW : Hid (RW [.slice (some ⟨lb, 0, none⟩) N.W.n lc] w u1 mb sa sc ra rc S' v1) := hr; have RJ : Hid (Row u1 u.heap.size [.int .i64 wh, .int .i64 x, .int .i64 y]) := hk.1.row (fun e => e.elim NM.out NO.out) (Row.dr (Row.made (W := u) rfl)); have j0 := RJ.out.c 0 _ rfl; have j1 := RJ.out.c 1 _ rfl; have j2 := RJ.out.c 2 _ rfl; have lx1 : u.heap.size < u1.heap.size := RJ.out.lt; clear hr hk)))
  all_goals
    first
      | (have q := RT1.out
         have LY : Hid (Lay w u (six u1 (u.heap.size + 1) (.int .i64 0) (.int .i64 0) (.bool false) (.int .i64 0) (.int .i64 0) (.int .i64 0)) mb sa sc ra rc ⟨S', N.p, N.nd⟩ v v1 lb lc nb (u.heap.size + 1) [.int .i64 0, .int .i64 0, .bool false, .int .i64 0, .int .i64 0, .int .i64 0]) := lay_a HR.out HB1.out (by omega) RT0.out HSN.out HW.out HK.out
         unfold six at LY
         clear q RT1 RT0 t0 t1 t2 t3 t4 t5 g0 g1 g2 g3 g4 g5 j0 j1 j2 lx1 HB1 HK HW RJ
         generalize (((((u1.setCell ⟨u.heap.size + 1, 0, none⟩ (.int .i64 0)).setCell ⟨u.heap.size + 1, 1, none⟩ (.int .i64 0)).setCell ⟨u.heap.size + 1, 2, none⟩ (.bool false)).setCell ⟨u.heap.size + 1, 3, none⟩ (.int .i64 0)).setCell ⟨u.heap.size + 1, 4, none⟩ (.int .i64 0)).setCell ⟨u.heap.size + 1, 5, none⟩ (.int .i64 0) = X at *
         generalize u.heap.size + 1 = V at *)
      | (have LY : Hid (Lay w u (u1.alloc (.cells #[.int .i64 0, .int .i64 0, .bool false, .int .i64 0, .int .i64 0, .int .i64 0] 113)) mb sa sc ra rc ⟨S', N.p, N.nd⟩ v v1 lb lc nb u1.heap.size [.int .i64 0, .int .i64 0, .bool false, .int .i64 0, .int .i64 0, .int .i64 0]) := lay_b HR.out HB1.out HSN.out HW.out HK.out _
         clear j0 j1 j2 lx1 HB1 HK HW RJ
         generalize u1.alloc (.cells #[.int .i64 0, .int .i64 0, .bool false, .int .i64 0, .int .i64 0, .int .i64 0] 113) = X at *
         generalize u1.heap.size = V at *)
  all_goals
    rcases dd with ⟨d1, d2⟩ | rfl
    all_goals
      go_wp2
      go_ret
      have kk : KpN u X mb v v1 nb N.W.n := by rw [← HSN.out]; exact LY.out.k
      first | exact ⟨v1, rfl, LY.out.r, kk⟩ | exact ⟨rfl, v1, LY.out.r, kk⟩
set_option maxHeartbeats 8000000
set_option maxRecDepth 100000
theorem rndo_ans {w u : World} {mb sc rc lb lc : Nat} {sa ra : Option Addr} {N : Nn} {v : Value} {nb : Nat → Nat} {wh x y : Int} (hR : RNt w u mb sa sc ra rc N v lb lc nb) (hT : N.T) (S' : Ws) (a j : Nat) (q4 q5 q6 : Int) (hD : DoR N.W wh x y S' (some ⟨a, j, true, q4, q5, q6⟩) 0) (hj : j < N.W.n) (c' : Nd) (hH : HearR (N.nd j) ⟨a, j, true, q4, q5, q6⟩ (S'.rd j) c' true 0) :
    Calls Tryz.prog 21 #[.pointer (some ⟨mb, 0, none⟩), .agg #[.int .i64 wh, .int .i64 x, .int .i64 y]] u fun o w' => ∃ v', o = .returned (.int .i64 0) ∧ RNt w w' mb sa sc ra rc ⟨S', N.p, updN N.nd j c'⟩ v' lb lc nb ∧ KpN u w' mb v v' nb N.W.n := by
  have HR : Hid (RNt w u mb sa sc ra rc N v lb lc nb) := hR
  have zb := hR.m.r.lt
  have NM : Hid (u.heap.size ≠ mb) := (by show u.heap.size ≠ mb; omega)
  have NM1 : Hid (u.heap.size + 1 ≠ mb) := (by show u.heap.size + 1 ≠ mb; omega)
  have NO : Hid (v.ownBlock ≠ some u.heap.size) := fun e => by have := (hR.m.o.lt _ e).2; omega
  have NO1 : Hid (v.ownBlock ≠ some (u.heap.size + 1)) := fun e => by have := (hR.m.o.lt _ e).2; omega
  have HSN : Hid (S'.n = N.W.n) := hD.same.1
  have cD := fun (W : World) (hB : Below u.heap.size u W) => rdo_is (hR.on hB).m hT.g.i hD
  have SI : Hid S'.I := hD.i hT.g.i
  have NI : Hid (N.nd j).I := (hT.kn j hj).i hT.g hj
  have HJ : Hid (j < N.W.n) := hj
  have hji : (j : Int) < N.W.n := by omega
  have HH : Hid (HearR (N.nd j) ⟨a, j, true, q4, q5, q6⟩ (S'.rd j) c' true 0) := hH
  simp only [ltv, Option.getD_some, Option.isSome_some] at cD
  clear hR hT hD hH hj
  go_enter Tryz.func21, Tryz.ntmps21
  go_wp2
  go_region_held (fun w' => w'.cell? ⟨u.heap.size, 0, none⟩ = some (.int .i64 wh) ∧ w'.cell? ⟨u.heap.size, 1, none⟩ = some (.int .i64 x) ∧ w'.cell? ⟨u.heap.size, 2, none⟩ = some (.int .i64 y)) (go_keep) (first
    | (go_at_call 43; first
      | (refine (cD _ (rbel_dr (rbel_al (rbel_al (Below.refl _ _))))).mono ?_; rintro o u1 ⟨v1, rfl, hr, hk⟩; have HB1 : Hid (Below u.heap.size u (((u.alloc (.cells #[.int .i64 wh, .int .i64 x, .int .i64 y] 70)).alloc (.cells #[.int .i64 0, .int .i64 0, .bool false, .int .i64 0, .int .i64 0, .int .i64 0] 113)).drew)) := rbel_dr (rbel_al (rbel_al (Below.refl _ _))); have HK : Hid (Kp (((u.alloc (.cells #[.int .i64 wh, .int .i64 x, .int .i64 y] 70)).alloc (.cells #[.int .i64 0, .int .i64 0, .bool false, .int .i64 0, .int .i64 0, .int .i64 0] 113)).drew) u1 mb v v1) := hk; have HW : Hid (RW [.slice (some ⟨lb, 0, none⟩) N.W.n lc] w u1 mb sa sc ra rc S' v1) := hr; have RJ : Hid (Row u1 u.heap.size [.int .i64 wh, .int .i64 x, .int .i64 y]) := hk.1.row (fun e => e.elim NM.out NO.out) (Row.dr (Row.al (Row.made (W := u) rfl))); have RT1 : Hid (Row u1 (u.heap.size + 1) [.int .i64 0, .int .i64 0, .bool false, .int .i64 0, .int .i64 0, .int .i64 0]) := hk.1.row (fun e => e.elim NM1.out NO1.out) (Row.dr (Row.made (W := (u.alloc (.cells #[.int .i64 wh, .int .i64 x, .int .i64 y] 70))) (b := u.heap.size + 1) (by simp))); have RT0 : Hid (Row (((u.alloc (.cells #[.int .i64 wh, .int .i64 x, .int .i64 y] 70)).alloc (.cells #[.int .i64 0, .int .i64 0, .bool false, .int .i64 0, .int .i64 0, .int .i64 0] 113)).drew) (u.heap.size + 1) [.int .i64 0, .int .i64 0, .bool false, .int .i64 0, .int .i64 0, .int .i64 0]) := Row.dr (Row.made (W := (u.alloc (.cells #[.int .i64 wh, .int .i64 x, .int .i64 y] 70))) (b := u.heap.size + 1) (by simp)); have t0 := RT1.out.c 0 _ rfl; have g0 := RT1.out.f 0 _ rfl; have t1 := RT1.out.c 1 _ rfl; have g1 := RT1.out.f 1 _ rfl; have t2 := RT1.out.c 2 _ rfl; have g2 := RT1.out.f 2 _ rfl; have t3 := RT1.out.c 3 _ rfl; have g3 := RT1.out.f 3 _ rfl; have t4 := RT1.out.c 4 _ rfl; have g4 := RT1.out.f 4 _ rfl; have t5 := RT1.out.c 5 _ rfl; have g5 := RT1.out.f 5 _ rfl; have j0 := RJ.out.c 0 _ rfl; have j1 := RJ.out.c 1 _ rfl; have j2 := RJ.out.c 2 _ rfl; have lx1 : u.heap.size < u1.heap.size := RJ.out.lt; clear hr hk)
      | (refine (cD _ (rbel_al (rbel_dr (rbel_al (Below.refl _ _))))).mono ?_; rintro o u1 ⟨v1, rfl, hr, hk⟩; have HB1 : Hid (Below u.heap.size u ((u.alloc (.cells #[.int .i64 wh, .int .i64 x, .int .i64 y] 70)).drew.alloc (.cells #[.int .i64 0, .int .i64 0, .bool false, .int .i64 0, .int .i64 0, .int .i64 0] 113))) := rbel_al (rbel_dr (rbel_al (Below.refl _ _))); have HK : Hid (Kp ((u.alloc (.cells #[.int .i64 wh, .int .i64 x, .int .i64 y] 70)).drew.alloc (.cells #[.int .i64 0, .int .i64 0, .bool false, .int .i64 0, .int .i64 0, .int .i64 0] 113)) u1 mb v v1) := hk; have HW : Hid (RW [.slice (some ⟨lb, 0, none⟩) N.W.n lc] w u1 mb sa sc ra rc S' v1) := hr; have RJ : Hid (Row u1 u.heap.size [.int .i64 wh, .int .i64 x, .int .i64 y]) := hk.1.row (fun e => e.elim NM.out NO.out) (Row.al (Row.dr (Row.made (W := u) rfl))); have RT1 : Hid (Row u1 (u.heap.size + 1) [.int .i64 0, .int .i64 0, .bool false, .int .i64 0, .int .i64 0, .int .i64 0]) := hk.1.row (fun e => e.elim NM1.out NO1.out) (Row.made (W := (u.alloc (.cells #[.int .i64 wh, .int .i64 x, .int .i64 y] 70)).drew) (b := u.heap.size + 1) (by simp)); have RT0 : Hid (Row ((u.alloc (.cells #[.int .i64 wh, .int .i64 x, .int .i64 y] 70)).drew.alloc (.cells #[.int .i64 0, .int .i64 0, .bool false, .int .i64 0, .int .i64 0, .int .i64 0] 113)) (u.heap.size + 1) [.int .i64 0, .int .i64 0, .bool false, .int .i64 0, .int .i64 0, .int .i64 0]) := Row.made (W := (u.alloc (.cells #[.int .i64 wh, .int .i64 x, .int .i64 y] 70)).drew) (b := u.heap.size + 1) (by simp); have t0 := RT1.out.c 0 _ rfl; have g0 := RT1.out.f 0 _ rfl; have t1 := RT1.out.c 1 _ rfl; have g1 := RT1.out.f 1 _ rfl; have t2 := RT1.out.c 2 _ rfl; have g2 := RT1.out.f 2 _ rfl; have t3 := RT1.out.c 3 _ rfl; have g3 := RT1.out.f 3 _ rfl; have t4 := RT1.out.c 4 _ rfl; have g4 := RT1.out.f 4 _ rfl; have t5 := RT1.out.c 5 _ rfl; have g5 := RT1.out.f 5 _ rfl; have j0 := RJ.out.c 0 _ rfl; have j1 := RJ.out.c 1 _ rfl; have j2 := RJ.out.c 2 _ rfl; have lx1 : u.heap.size < u1.heap.size := RJ.out.lt; clear hr hk)
      | (refine (cD _ (rbel_dr (rbel_al (Below.refl _ _)))).mono ?_; rintro o u1 ⟨v1, rfl, hr, hk⟩; have HB1 : Hid (Below u.heap.size u ((u.alloc (.cells #[.int .i64 wh, .int .i64 x, .int .i64 y] 70)).drew)) := rbel_dr (rbel_al (Below.refl _ _)); have HK : Hid (Kp ((u.alloc (.cells #[.int .i64 wh, .int .i64 x, .int .i64 y] 70)).drew) u1 mb v v1) := hk; have HW : Hid (RW [.slice (some ⟨lb, 0, none⟩) N.W.n lc] w u1 mb sa sc ra rc S' v1) := hr; have RJ : Hid (Row u1 u.heap.size [.int .i64 wh, .int .i64 x, .int .i64 y]) := hk.1.row (fun e => e.elim NM.out NO.out) (Row.dr (Row.made (W := u) rfl)); have j0 := RJ.out.c 0 _ rfl; have j1 := RJ.out.c 1 _ rfl; have j2 := RJ.out.c 2 _ rfl; have lx1 : u.heap.size < u1.heap.size := RJ.out.lt; clear hr hk)))
  all_goals
    first
      | (have q := RT1.out
         have LY : Hid (Lay w u (six u1 (u.heap.size + 1) (.int .i64 (a : Int)) (.int .i64 (j : Int)) (.bool true) (.int .i64 q4) (.int .i64 q5) (.int .i64 q6)) mb sa sc ra rc ⟨S', N.p, N.nd⟩ v v1 lb lc nb (u.heap.size + 1) [.int .i64 (a : Int), .int .i64 (j : Int), .bool true, .int .i64 q4, .int .i64 q5, .int .i64 q6]) := lay_a HR.out HB1.out (by omega) RT0.out HSN.out HW.out HK.out
         unfold six at LY
         clear q RT1 RT0 t0 t1 t2 t3 t4 t5 g0 g1 g2 g3 g4 g5 j0 j1 j2 lx1 HB1 HK HW RJ
         generalize (((((u1.setCell ⟨u.heap.size + 1, 0, none⟩ (.int .i64 (a : Int))).setCell ⟨u.heap.size + 1, 1, none⟩ (.int .i64 (j : Int))).setCell ⟨u.heap.size + 1, 2, none⟩ (.bool true)).setCell ⟨u.heap.size + 1, 3, none⟩ (.int .i64 q4)).setCell ⟨u.heap.size + 1, 4, none⟩ (.int .i64 q5)).setCell ⟨u.heap.size + 1, 5, none⟩ (.int .i64 q6) = X at *
         generalize u.heap.size + 1 = V at *)
      | (have LY : Hid (Lay w u (u1.alloc (.cells #[.int .i64 (a : Int), .int .i64 (j : Int), .bool true, .int .i64 q4, .int .i64 q5, .int .i64 q6] 113)) mb sa sc ra rc ⟨S', N.p, N.nd⟩ v v1 lb lc nb u1.heap.size [.int .i64 (a : Int), .int .i64 (j : Int), .bool true, .int .i64 q4, .int .i64 q5, .int .i64 q6]) := lay_b HR.out HB1.out HSN.out HW.out HK.out _
         clear j0 j1 j2 lx1 HB1 HK HW RJ
         generalize u1.alloc (.cells #[.int .i64 (a : Int), .int .i64 (j : Int), .bool true, .int .i64 q4, .int .i64 q5, .int .i64 q6] 113) = X at *
         generalize u1.heap.size = V at *)
  all_goals
    have kk : Hid (KpN u X mb v v1 nb N.W.n) := (by show KpN u X mb v v1 nb N.W.n; rw [← HSN.out]; exact LY.out.k)
    have G : Hid (RNt w X mb sa sc ra rc ⟨S', N.p, N.nd⟩ v1 lb lc nb) := LY.out.r
    have RV : Hid (Row X V [.int .i64 (a : Int), .int .i64 (j : Int), .bool true, .int .i64 q4, .int .i64 q5, .int .i64 q6]) := LY.out.row
    have NF : Hid (¬ FrN mb v1 lb nb N.W.n V) := (by show ¬ FrN mb v1 lb nb N.W.n V; rw [← HSN.out]; exact LY.out.nf)
    clear LY
    have vc0 := RV.out.c 0 _ rfl
    have vc1 := RV.out.c 1 _ rfl
    have vc2 := RV.out.c 2 _ rfl
    have vc3 := RV.out.c 3 _ rfl
    have vc4 := RV.out.c 4 _ rfl
    have vc5 := RV.out.c 5 _ rfl
    have zV := RV.out.lt
    have zM := G.out.m.r.lt
    go_wp2
    clear vc0 vc1 vc2 vc3 vc4 vc5
    have V1 := RV.out.c 1 _ rfl
    go_region_held (fun w' => w'.cell? ⟨V, 1, none⟩ = some (.int .i64 (j : Int))) (go_keep) (first
      | (go_at_call 23; refine ((G.out.on (rbel_dr (Below.refl _ _))).m.read SI.out (i := j) (by rw [HSN.out]; exact HJ.out)).mono ?_; rintro o y1 ⟨rfl, hb⟩; have G1 : Hid (RNt w y1 mb sa sc ra rc ⟨S', N.p, N.nd⟩ v1 lb lc nb) := (G.out.on (rbel_dr (Below.refl _ _))).on hb; have R1 : Hid (Row y1 V [.int .i64 (a : Int), .int .i64 (j : Int), .bool true, .int .i64 q4, .int .i64 q5, .int .i64 q6]) := Row.on hb (Row.dr RV.out); have K1 : Hid (KpN u y1 mb v v1 nb N.W.n) := kk.out.tr ((KpN.of (N := N) (rbel_dr (Below.refl _ _))).tr (KpN.of (N := N) hb)); have U1 := R1.out.c 1 _ rfl; clear hb))
    all_goals
      go_wp2
      clear V1 U1 G RV kk zV zM
      have m4 := G1.out.m.r.c 4 _ rfl
      simp only [HSN.out] at m4
      have lj := G1.out.l j (by rw [HSN.out]; exact HJ.out)
      have vc0 := R1.out.c 0 _ rfl
      have vc1 := R1.out.c 1 _ rfl
      have vc2 := R1.out.c 2 _ rfl
      have vc3 := R1.out.c 3 _ rfl
      have vc4 := R1.out.c 4 _ rfl
      have vc5 := R1.out.c 5 _ rfl
      have zV := R1.out.lt
      have zM := G1.out.m.r.lt
      have zL := G1.out.lt
      go_region_held (fun w' => w'.cell? ⟨mb, 4, none⟩ = some (.slice (some ⟨lb, 0, none⟩) N.W.n lc) ∧ w'.cell? ⟨lb, j, none⟩ = some (.pointer (some ⟨nb j, 0, none⟩)) ∧ w'.cell? ⟨V, 0, none⟩ = some (.int .i64 (a : Int)) ∧ w'.cell? ⟨V, 1, none⟩ = some (.int .i64 (j : Int)) ∧ w'.cell? ⟨V, 2, none⟩ = some (.bool true) ∧ w'.cell? ⟨V, 3, none⟩ = some (.int .i64 q4) ∧ w'.cell? ⟨V, 4, none⟩ = some (.int .i64 q5) ∧ w'.cell? ⟨V, 5, none⟩ = some (.int .i64 q6)) (go_keep) (first
        | (go_at_call 44; refine (rhear_any (nb j) (N.nd j) c' ⟨a, j, true, q4, q5, q6⟩ (S'.rd j) 0 true _ ((G1.out.on (rbel_dr (Below.refl _ _))).nd j (by rw [HSN.out]; exact HJ.out)) NI.out HH.out).mono ?_; rintro o y2 ⟨rfl, hr, hk⟩; have G2 : Hid (RNt w y2 mb sa sc ra rc ⟨S', N.p, updN N.nd j c'⟩ v1 lb lc nb) := (G1.out.on (rbel_dr (Below.refl _ _))).goN (i := j) (by rw [HSN.out]; exact HJ.out) hr hk; have R2 : Hid (Row y2 V [.int .i64 (a : Int), .int .i64 (j : Int), .bool true, .int .i64 q4, .int .i64 q5, .int .i64 q6]) := hk.row (fun e => NF.out (Or.inr (Or.inr (Or.inr ⟨j, HJ.out, e⟩)))) (Row.dr R1.out); have K2 : Hid (KpN u y2 mb v v1 nb N.W.n) := K1.out.tr ((KpN.of (N := N) (rbel_dr (Below.refl _ _))).tr (KpN.no HJ.out hk)); have e4 := G2.out.m.r.c 4 _ rfl; simp only [HSN.out] at e4; have ej := G2.out.l j (by rw [HSN.out]; exact HJ.out); have r0 := R2.out.c 0 _ rfl; have r1 := R2.out.c 1 _ rfl; have r2 := R2.out.c 2 _ rfl; have r3 := R2.out.c 3 _ rfl; have r4 := R2.out.c 4 _ rfl; have r5 := R2.out.c 5 _ rfl; clear hr hk))
      all_goals
        go_wp2
        go_ret
        first | exact ⟨v1, rfl, G2.out, K2.out⟩ | exact ⟨rfl, v1, G2.out, K2.out⟩
theorem rndo_ask {w u : World} {mb sc rc lb lc : Nat} {sa ra : Option Addr} {N : Nn} {v : Value} {nb : Nat → Nat} {wh x y : Int} (hR : RNt w u mb sa sc ra rc N v lb lc nb) (hT : N.T) (S' : Ws) (a j : Nat) (q4 q5 q6 : Int) (hD : DoR N.W wh x y S' (some ⟨a, j, false, q4, q5, q6⟩) 0) (hj : j < N.W.n) (c' : Nd) (hH : HearR (N.nd j) ⟨a, j, false, q4, q5, q6⟩ (S'.rd j) c' false 0) (S'' : Ws) (e : Int) (hA : AnR S' ⟨a, j, false, q4, q5, q6⟩ S'' e) :
    Calls Tryz.prog 21 #[.pointer (some ⟨mb, 0, none⟩), .agg #[.int .i64 wh, .int .i64 x, .int .i64 y]] u fun o w' => ∃ v', o = .returned (.int .i64 e) ∧ RNt w w' mb sa sc ra rc ⟨S'', N.p, updN N.nd j c'⟩ v' lb lc nb ∧ KpN u w' mb v v' nb N.W.n := by
  have HA : Hid (AnR S' ⟨a, j, false, q4, q5, q6⟩ S'' e) := hA
  have SN2 : Hid (S''.n = S'.n) := hA.same.1
  clear hA
  have HR : Hid (RNt w u mb sa sc ra rc N v lb lc nb) := hR
  have zb := hR.m.r.lt
  have NM : Hid (u.heap.size ≠ mb) := (by show u.heap.size ≠ mb; omega)
  have NM1 : Hid (u.heap.size + 1 ≠ mb) := (by show u.heap.size + 1 ≠ mb; omega)
  have NO : Hid (v.ownBlock ≠ some u.heap.size) := fun e => by have := (hR.m.o.lt _ e).2; omega
  have NO1 : Hid (v.ownBlock ≠ some (u.heap.size + 1)) := fun e => by have := (hR.m.o.lt _ e).2; omega
  have HSN : Hid (S'.n = N.W.n) := hD.same.1
  have cD := fun (W : World) (hB : Below u.heap.size u W) => rdo_is (hR.on hB).m hT.g.i hD
  have SI : Hid S'.I := hD.i hT.g.i
  have NI : Hid (N.nd j).I := (hT.kn j hj).i hT.g hj
  have HJ : Hid (j < N.W.n) := hj
  have hji : (j : Int) < N.W.n := by omega
  have HH : Hid (HearR (N.nd j) ⟨a, j, false, q4, q5, q6⟩ (S'.rd j) c' false 0) := hH
  simp only [ltv, Option.getD_some, Option.isSome_some] at cD
  clear hR hT hD hH hj
  go_enter Tryz.func21, Tryz.ntmps21
  go_wp2
  go_region_held (fun w' => w'.cell? ⟨u.heap.size, 0, none⟩ = some (.int .i64 wh) ∧ w'.cell? ⟨u.heap.size, 1, none⟩ = some (.int .i64 x) ∧ w'.cell? ⟨u.heap.size, 2, none⟩ = some (.int .i64 y)) (go_keep) (first
    | (go_at_call 43; first
      | (refine (cD _ (rbel_dr (rbel_al (rbel_al (Below.refl _ _))))).mono ?_; rintro o u1 ⟨v1, rfl, hr, hk⟩; have HB1 : Hid (Below u.heap.size u (((u.alloc (.cells #[.int .i64 wh, .int .i64 x, .int .i64 y] 70)).alloc (.cells #[.int .i64 0, .int .i64 0, .bool false, .int .i64 0, .int .i64 0, .int .i64 0] 113)).drew)) := rbel_dr (rbel_al (rbel_al (Below.refl _ _))); have HK : Hid (Kp (((u.alloc (.cells #[.int .i64 wh, .int .i64 x, .int .i64 y] 70)).alloc (.cells #[.int .i64 0, .int .i64 0, .bool false, .int .i64 0, .int .i64 0, .int .i64 0] 113)).drew) u1 mb v v1) := hk; have HW : Hid (RW [.slice (some ⟨lb, 0, none⟩) N.W.n lc] w u1 mb sa sc ra rc S' v1) := hr; have RJ : Hid (Row u1 u.heap.size [.int .i64 wh, .int .i64 x, .int .i64 y]) := hk.1.row (fun e => e.elim NM.out NO.out) (Row.dr (Row.al (Row.made (W := u) rfl))); have RT1 : Hid (Row u1 (u.heap.size + 1) [.int .i64 0, .int .i64 0, .bool false, .int .i64 0, .int .i64 0, .int .i64 0]) := hk.1.row (fun e => e.elim NM1.out NO1.out) (Row.dr (Row.made (W := (u.alloc (.cells #[.int .i64 wh, .int .i64 x, .int .i64 y] 70))) (b := u.heap.size + 1) (by simp))); have RT0 : Hid (Row (((u.alloc (.cells #[.int .i64 wh, .int .i64 x, .int .i64 y] 70)).alloc (.cells #[.int .i64 0, .int .i64 0, .bool false, .int .i64 0, .int .i64 0, .int .i64 0] 113)).drew) (u.heap.size + 1) [.int .i64 0, .int .i64 0, .bool false, .int .i64 0, .int .i64 0, .int .i64 0]) := Row.dr (Row.made (W := (u.alloc (.cells #[.int .i64 wh, .int .i64 x, .int .i64 y] 70))) (b := u.heap.size + 1) (by simp)); have t0 := RT1.out.c 0 _ rfl; have g0 := RT1.out.f 0 _ rfl; have t1 := RT1.out.c 1 _ rfl; have g1 := RT1.out.f 1 _ rfl; have t2 := RT1.out.c 2 _ rfl; have g2 := RT1.out.f 2 _ rfl; have t3 := RT1.out.c 3 _ rfl; have g3 := RT1.out.f 3 _ rfl; have t4 := RT1.out.c 4 _ rfl; have g4 := RT1.out.f 4 _ rfl; have t5 := RT1.out.c 5 _ rfl; have g5 := RT1.out.f 5 _ rfl; have j0 := RJ.out.c 0 _ rfl; have j1 := RJ.out.c 1 _ rfl; have j2 := RJ.out.c 2 _ rfl; have lx1 : u.heap.size < u1.heap.size := RJ.out.lt; clear hr hk)
      | (refine (cD _ (rbel_al (rbel_dr (rbel_al (Below.refl _ _))))).mono ?_; rintro o u1 ⟨v1, rfl, hr, hk⟩; have HB1 : Hid (Below u.heap.size u ((u.alloc (.cells #[.int .i64 wh, .int .i64 x, .int .i64 y] 70)).drew.alloc (.cells #[.int .i64 0, .int .i64 0, .bool false, .int .i64 0, .int .i64 0, .int .i64 0] 113))) := rbel_al (rbel_dr (rbel_al (Below.refl _ _))); have HK : Hid (Kp ((u.alloc (.cells #[.int .i64 wh, .int .i64 x, .int .i64 y] 70)).drew.alloc (.cells #[.int .i64 0, .int .i64 0, .bool false, .int .i64 0, .int .i64 0, .int .i64 0] 113)) u1 mb v v1) := hk; have HW : Hid (RW [.slice (some ⟨lb, 0, none⟩) N.W.n lc] w u1 mb sa sc ra rc S' v1) := hr; have RJ : Hid (Row u1 u.heap.size [.int .i64 wh, .int .i64 x, .int .i64 y]) := hk.1.row (fun e => e.elim NM.out NO.out) (Row.al (Row.dr (Row.made (W := u) rfl))); have RT1 : Hid (Row u1 (u.heap.size + 1) [.int .i64 0, .int .i64 0, .bool false, .int .i64 0, .int .i64 0, .int .i64 0]) := hk.1.row (fun e => e.elim NM1.out NO1.out) (Row.made (W := (u.alloc (.cells #[.int .i64 wh, .int .i64 x, .int .i64 y] 70)).drew) (b := u.heap.size + 1) (by simp)); have RT0 : Hid (Row ((u.alloc (.cells #[.int .i64 wh, .int .i64 x, .int .i64 y] 70)).drew.alloc (.cells #[.int .i64 0, .int .i64 0, .bool false, .int .i64 0, .int .i64 0, .int .i64 0] 113)) (u.heap.size + 1) [.int .i64 0, .int .i64 0, .bool false, .int .i64 0, .int .i64 0, .int .i64 0]) := Row.made (W := (u.alloc (.cells #[.int .i64 wh, .int .i64 x, .int .i64 y] 70)).drew) (b := u.heap.size + 1) (by simp); have t0 := RT1.out.c 0 _ rfl; have g0 := RT1.out.f 0 _ rfl; have t1 := RT1.out.c 1 _ rfl; have g1 := RT1.out.f 1 _ rfl; have t2 := RT1.out.c 2 _ rfl; have g2 := RT1.out.f 2 _ rfl; have t3 := RT1.out.c 3 _ rfl; have g3 := RT1.out.f 3 _ rfl; have t4 := RT1.out.c 4 _ rfl; have g4 := RT1.out.f 4 _ rfl; have t5 := RT1.out.c 5 _ rfl; have g5 := RT1.out.f 5 _ rfl; have j0 := RJ.out.c 0 _ rfl; have j1 := RJ.out.c 1 _ rfl; have j2 := RJ.out.c 2 _ rfl; have lx1 : u.heap.size < u1.heap.size := RJ.out.lt; clear hr hk)
      | (refine (cD _ (rbel_dr (rbel_al (Below.refl _ _)))).mono ?_; rintro o u1 ⟨v1, rfl, hr, hk⟩; have HB1 : Hid (Below u.heap.size u ((u.alloc (.cells #[.int .i64 wh, .int .i64 x, .int .i64 y] 70)).drew)) := rbel_dr (rbel_al (Below.refl _ _)); have HK : Hid (Kp ((u.alloc (.cells #[.int .i64 wh, .int .i64 x, .int .i64 y] 70)).drew) u1 mb v v1) := hk; have HW : Hid (RW [.slice (some ⟨lb, 0, none⟩) N.W.n lc] w u1 mb sa sc ra rc S' v1) := hr; have RJ : Hid (Row u1 u.heap.size [.int .i64 wh, .int .i64 x, .int .i64 y]) := hk.1.row (fun e => e.elim NM.out NO.out) (Row.dr (Row.made (W := u) rfl)); have j0 := RJ.out.c 0 _ rfl; have j1 := RJ.out.c 1 _ rfl; have j2 := RJ.out.c 2 _ rfl; have lx1 : u.heap.size < u1.heap.size := RJ.out.lt; clear hr hk)))
  all_goals
    first
      | (have q := RT1.out
         have LY : Hid (Lay w u (six u1 (u.heap.size + 1) (.int .i64 (a : Int)) (.int .i64 (j : Int)) (.bool false) (.int .i64 q4) (.int .i64 q5) (.int .i64 q6)) mb sa sc ra rc ⟨S', N.p, N.nd⟩ v v1 lb lc nb (u.heap.size + 1) [.int .i64 (a : Int), .int .i64 (j : Int), .bool false, .int .i64 q4, .int .i64 q5, .int .i64 q6]) := lay_a HR.out HB1.out (by omega) RT0.out HSN.out HW.out HK.out
         unfold six at LY
         clear q RT1 RT0 t0 t1 t2 t3 t4 t5 g0 g1 g2 g3 g4 g5 j0 j1 j2 lx1 HB1 HK HW RJ
         generalize (((((u1.setCell ⟨u.heap.size + 1, 0, none⟩ (.int .i64 (a : Int))).setCell ⟨u.heap.size + 1, 1, none⟩ (.int .i64 (j : Int))).setCell ⟨u.heap.size + 1, 2, none⟩ (.bool false)).setCell ⟨u.heap.size + 1, 3, none⟩ (.int .i64 q4)).setCell ⟨u.heap.size + 1, 4, none⟩ (.int .i64 q5)).setCell ⟨u.heap.size + 1, 5, none⟩ (.int .i64 q6) = X at *
         generalize u.heap.size + 1 = V at *)
      | (have LY : Hid (Lay w u (u1.alloc (.cells #[.int .i64 (a : Int), .int .i64 (j : Int), .bool false, .int .i64 q4, .int .i64 q5, .int .i64 q6] 113)) mb sa sc ra rc ⟨S', N.p, N.nd⟩ v v1 lb lc nb u1.heap.size [.int .i64 (a : Int), .int .i64 (j : Int), .bool false, .int .i64 q4, .int .i64 q5, .int .i64 q6]) := lay_b HR.out HB1.out HSN.out HW.out HK.out _
         clear j0 j1 j2 lx1 HB1 HK HW RJ
         generalize u1.alloc (.cells #[.int .i64 (a : Int), .int .i64 (j : Int), .bool false, .int .i64 q4, .int .i64 q5, .int .i64 q6] 113) = X at *
         generalize u1.heap.size = V at *)
  all_goals
    have kk : Hid (KpN u X mb v v1 nb N.W.n) := (by show KpN u X mb v v1 nb N.W.n; rw [← HSN.out]; exact LY.out.k)
    have G : Hid (RNt w X mb sa sc ra rc ⟨S', N.p, N.nd⟩ v1 lb lc nb) := LY.out.r
    have RV : Hid (Row X V [.int .i64 (a : Int), .int .i64 (j : Int), .bool false, .int .i64 q4, .int .i64 q5, .int .i64 q6]) := LY.out.row
    have NF : Hid (¬ FrN mb v1 lb nb N.W.n V) := (by show ¬ FrN mb v1 lb nb N.W.n V; rw [← HSN.out]; exact LY.out.nf)
    clear LY
    have vc0 := RV.out.c 0 _ rfl
    have vc1 := RV.out.c 1 _ rfl
    have vc2 := RV.out.c 2 _ rfl
    have vc3 := RV.out.c 3 _ rfl
    have vc4 := RV.out.c 4 _ rfl
    have vc5 := RV.out.c 5 _ rfl
    have zV := RV.out.lt
    have zM := G.out.m.r.lt
    go_wp2
    clear vc0 vc1 vc2 vc3 vc4 vc5
    have V1 := RV.out.c 1 _ rfl
    go_region_held (fun w' => w'.cell? ⟨V, 1, none⟩ = some (.int .i64 (j : Int))) (go_keep) (first
      | (go_at_call 23; refine ((G.out.on (rbel_dr (Below.refl _ _))).m.read SI.out (i := j) (by rw [HSN.out]; exact HJ.out)).mono ?_; rintro o y1 ⟨rfl, hb⟩; have G1 : Hid (RNt w y1 mb sa sc ra rc ⟨S', N.p, N.nd⟩ v1 lb lc nb) := (G.out.on (rbel_dr (Below.refl _ _))).on hb; have R1 : Hid (Row y1 V [.int .i64 (a : Int), .int .i64 (j : Int), .bool false, .int .i64 q4, .int .i64 q5, .int .i64 q6]) := Row.on hb (Row.dr RV.out); have K1 : Hid (KpN u y1 mb v v1 nb N.W.n) := kk.out.tr ((KpN.of (N := N) (rbel_dr (Below.refl _ _))).tr (KpN.of (N := N) hb)); have U1 := R1.out.c 1 _ rfl; clear hb))
    all_goals
      go_wp2
      clear V1 U1 G RV kk zV zM
      have m4 := G1.out.m.r.c 4 _ rfl
      simp only [HSN.out] at m4
      have lj := G1.out.l j (by rw [HSN.out]; exact HJ.out)
      have vc0 := R1.out.c 0 _ rfl
      have vc1 := R1.out.c 1 _ rfl
      have vc2 := R1.out.c 2 _ rfl
      have vc3 := R1.out.c 3 _ rfl
      have vc4 := R1.out.c 4 _ rfl
      have vc5 := R1.out.c 5 _ rfl
      have zV := R1.out.lt
      have zM := G1.out.m.r.lt
      have zL := G1.out.lt
      go_region_held (fun w' => w'.cell? ⟨mb, 4, none⟩ = some (.slice (some ⟨lb, 0, none⟩) N.W.n lc) ∧ w'.cell? ⟨lb, j, none⟩ = some (.pointer (some ⟨nb j, 0, none⟩)) ∧ w'.cell? ⟨V, 0, none⟩ = some (.int .i64 (a : Int)) ∧ w'.cell? ⟨V, 1, none⟩ = some (.int .i64 (j : Int)) ∧ w'.cell? ⟨V, 2, none⟩ = some (.bool false) ∧ w'.cell? ⟨V, 3, none⟩ = some (.int .i64 q4) ∧ w'.cell? ⟨V, 4, none⟩ = some (.int .i64 q5) ∧ w'.cell? ⟨V, 5, none⟩ = some (.int .i64 q6)) (go_keep) (first
        | (go_at_call 44; refine (rhear_any (nb j) (N.nd j) c' ⟨a, j, false, q4, q5, q6⟩ (S'.rd j) 0 false _ ((G1.out.on (rbel_dr (Below.refl _ _))).nd j (by rw [HSN.out]; exact HJ.out)) NI.out HH.out).mono ?_; rintro o y2 ⟨rfl, hr, hk⟩; have G2 : Hid (RNt w y2 mb sa sc ra rc ⟨S', N.p, updN N.nd j c'⟩ v1 lb lc nb) := (G1.out.on (rbel_dr (Below.refl _ _))).goN (i := j) (by rw [HSN.out]; exact HJ.out) hr hk; have R2 : Hid (Row y2 V [.int .i64 (a : Int), .int .i64 (j : Int), .bool false, .int .i64 q4, .int .i64 q5, .int .i64 q6]) := hk.row (fun e => NF.out (Or.inr (Or.inr (Or.inr ⟨j, HJ.out, e⟩)))) (Row.dr R1.out); have K2 : Hid (KpN u y2 mb v v1 nb N.W.n) := K1.out.tr ((KpN.of (N := N) (rbel_dr (Below.refl _ _))).tr (KpN.no HJ.out hk)); have e4 := G2.out.m.r.c 4 _ rfl; simp only [HSN.out] at e4; have ej := G2.out.l j (by rw [HSN.out]; exact HJ.out); have r0 := R2.out.c 0 _ rfl; have r1 := R2.out.c 1 _ rfl; have r2 := R2.out.c 2 _ rfl; have r3 := R2.out.c 3 _ rfl; have r4 := R2.out.c 4 _ rfl; have r5 := R2.out.c 5 _ rfl; clear hr hk))
      all_goals
        go_wp2
        clear m4 lj e4 ej zV zM zL
        clear vc0 vc1 vc2 vc3 vc4 vc5
        have zV := R2.out.lt
        have zM := G2.out.m.r.lt
        go_region_held (fun w' => w'.cell? ⟨V, 0, none⟩ = some (.int .i64 (a : Int)) ∧ w'.cell? ⟨V, 1, none⟩ = some (.int .i64 (j : Int)) ∧ w'.cell? ⟨V, 2, none⟩ = some (.bool false) ∧ w'.cell? ⟨V, 3, none⟩ = some (.int .i64 q4) ∧ w'.cell? ⟨V, 4, none⟩ = some (.int .i64 q5) ∧ w'.cell? ⟨V, 5, none⟩ = some (.int .i64 q6)) (go_keep) (first
          | (go_at_call 45; refine (ran_at (G2.out.on (rbel_dr (Below.refl _ _))).m SI.out HA.out).mono ?_; rintro o y3 ⟨v3, rfl, hr, hk⟩; have G3 : Hid (RNt w y3 mb sa sc ra rc ⟨S'', N.p, updN N.nd j c'⟩ v3 lb lc nb) := (G2.out.on (rbel_dr (Below.refl _ _))).goW hr hk SN2.out; have K3 : Hid (KpN u y3 mb v v3 nb N.W.n) := K2.out.tr ((KpN.of (N := N) (rbel_dr (Below.refl _ _))).tr (KpN.wo hk)); have R3 : Hid (Row y3 V [.int .i64 (a : Int), .int .i64 (j : Int), .bool false, .int .i64 q4, .int .i64 q5, .int .i64 q6]) := hk.1.row (fun e => NF.out (e.elim Or.inl (fun q => Or.inr (Or.inl q)))) (Row.dr R2.out); have s0 := R3.out.c 0 _ rfl; have s1 := R3.out.c 1 _ rfl; have s2 := R3.out.c 2 _ rfl; have s3 := R3.out.c 3 _ rfl; have s4 := R3.out.c 4 _ rfl; have s5 := R3.out.c 5 _ rfl; clear hr hk))
        all_goals
          go_wp2
          go_ret
          first | exact ⟨v3, rfl, G3.out, K3.out⟩ | exact ⟨rfl, v3, G3.out, K3.out⟩
theorem rndo_at {w u : World} {mb sc rc lb lc : Nat} {sa ra : Option Addr} {N N' : Nn} {v : Value} {nb : Nat → Nat} {wh x y e : Int} (hR : RNt w u mb sa sc ra rc N v lb lc nb) (hT : N.T) (h : NDoR N wh x y N' e) :
    Calls Tryz.prog 21 #[.pointer (some ⟨mb, 0, none⟩), .agg #[.int .i64 wh, .int .i64 x, .int .i64 y]] u fun o w' => ∃ v', o = .returned (.int .i64 e) ∧ RNt w w' mb sa sc ra rc N' v' lb lc nb ∧ KpN u w' mb v v' nb N.W.n := by
  obtain ⟨S', r, e1, hD, q⟩ := h
  rcases q with ⟨rfl, rfl, rfl⟩ | ⟨⟨q1, q2, q3, q4, q5, q6⟩, c', rfl, rfl, hl, hh, q⟩
  · exact rndo_none hR hT S' e hD
  · obtain ⟨a, j, h1, h2, h3, h4, _⟩ := hl
    have e1 : q1 = a := h1
    have e2 : q2 = j := h2
    subst e1
    subst e2
    have hj : j < N.W.n := by rw [← hD.same.1]; exact h4
    simp only [Int.toNat_natCast] at hh q
    rcases q with ⟨rfl, rfl, rfl⟩ | ⟨rfl, S'', hA, rfl⟩
    · exact rndo_ans hR hT S' a j q4 q5 q6 hD hj c' hh
    · exact rndo_ask hR hT S' a j q4 q5 q6 hD hj c' hh S'' e hA
set_option maxRecDepth 100000 in
set_option maxHeartbeats 8000000 in
theorem rnedges_net {w u : World} {mb sc rc lb lc : Nat} {sa ra : Option Addr} {N : Nn} {v : Value} {nb : Nat → Nat} (hR : RNt w u mb sa sc ra rc N v lb lc nb) (hT : N.T) :
  Calls Tryz.prog 46 #[.pointer (some ⟨mb, 0, none⟩)] u fun o w' => ∃ (ea : Option Addr) (ec : Nat), o = .returned (.tuple #[.slice ea (eoN N).length ec, .int .i64 0]) ∧ EHanded w' ea (eoN N).length (egf (eoN N)) ∧ Below u.heap.size u w' := by
 obtain ⟨i0, hi0, hz0, hz1, hz2⟩ := info_parts infoEdge
 have HR : Hid (RNt w u mb sa sc ra rc N v lb lc nb) := hR
 have HT : Hid N.T := hT
 have h6 := hT.g.i.n6
 clear hR hT
 go_enter Tryz.func46, Tryz.ntmps46
 go_wp2
 go_loopw [4, 5, 6, 7, 8] (fun vo vi _ _ _ wr => ∃ k : Nat, k ≤ N.W.n ∧ vi = .int .i64 k ∧ wr.ownsRow u.heap.size 212 4 vo (eoK N k).length (ecl (eoK N k)) ∧ Below u.heap.size u wr) (fun _ vi _ _ _ _ => N.W.n - (intOf vi).toNat)
 case atStart => exact ⟨0, Nat.zero_le _, rfl, World.ownsRow_nil _ _ _ _, Below.refl _ _⟩
 case round =>
  obtain ⟨k, hk, rfl, hown, hw⟩ := hrel
  have HW : Hid (Below u.heap.size u wr) := hw
  have G : Hid (RNt w wr mb sa sc ra rc N v lb lc nb) := HR.out.on hw
  have m4 := G.out.m.r.c 4 _ rfl
  have zM := G.out.m.r.lt
  have zw := hw.size
  by_cases hlt : k < N.W.n
  ·have hl : (k : Int) < N.W.n := by omega
   have lk := G.out.l k hlt
   have zL := G.out.lt
   have le1 := eoK_len HT.out (Nat.le_of_lt hlt)
   have le2 := eoK_len HT.out (k := k + 1) hlt
   have kn := HT.out.kn k hlt
   have cR := G.out.m.read HT.out.g.i hlt
   have HE : Hid (eoK N (k + 1) = eoK N k ++ (N.nd k).eo (N.W.rd k)) := eoK_more N k
   have cE : Hid (∀ W, Below wr.heap.size wr W → Calls Tryz.prog 78 #[.pointer (some ⟨nb k, 0, none⟩), .int .i64 (N.W.rd k)] W fun o w' => (∃ ea ec, o = .returned (.tuple #[.slice ea ((N.nd k).eo (N.W.rd k)).length ec, .int .i64 0]) ∧ EHanded w' ea ((N.nd k).eo (N.W.rd k)).length (egf ((N.nd k).eo (N.W.rd k))) ∧ (ea = none → ec = 0)) ∧ Below W.heap.size W w') := fun W hW => rnedges_at (nb k) (N.nd k) (N.W.rd k) 0 W ((G.out.on hW).nd k hlt) (kn.i HT.out.g hlt) (kn.sp HT.out.g hlt)
   have HO : Hid (wr.ownsRow u.heap.size 212 4 u4 (eoK N k).length (ecl (eoK N k))) := hown
   have HL : Hid (∀ g, u4.ownBlock = some g → u.heap.size ≤ g) := fun g hg => (hown.lt g hg).1
   rw [HE.out, List.length_append] at le2
   clear hown hw kn
   generalize (N.nd k).eo (N.W.rd k) = EL at *
   generalize eoK N k = EK at *
   generalize N.W.rd k = rv at *
   go_upto_region 9 with (first
    | (go_at_call 23; refine cR.mono ?_; rintro o x1 ⟨rfl, hb⟩; have B1 : Hid (Below wr.heap.size wr x1) := hb; have n4 := (hb.cell (p := ⟨mb, 4, none⟩) zM).trans m4; have nk := (hb.cell (p := ⟨lb, k, none⟩) zL).trans lk; have zM1 : mb < x1.heap.size := Nat.lt_of_lt_of_le zM hb.size; have zL1 : lb < x1.heap.size := Nat.lt_of_lt_of_le zL hb.size; clear hb)
    | (go_at_call 78; refine (cE.out _ B1.out).mono ?_; rintro o x2 ⟨⟨ea, ec, rfl, hE, hz⟩, hb⟩; have B2 : Hid (Below wr.heap.size wr x2) := rbel_on hb B1.out; have HH : Hid (EHanded x2 ea EL.length (egf EL)) := hE; have HZ : Hid (ea = none → ec = 0) := hz; clear hb hE hz))
   have O2 : Hid (x2.ownsRow u.heap.size 212 4 u4 EK.length (ecl EK)) := own_onN B2.out HO.out
   have W2 : Hid (Below u.heap.size u x2) := rbel_on B2.out HW.out
   have z2 := W2.out.size
   clear cR cE n4 nk m4 lk B1 HO HW G zM zL zM1 zL1
   cases ea with
   | none =>
    have ec0 : ec = 0 := HZ.out rfl
    subst ec0
    have el0 : EL = [] := by
     rcases HH.out.2 with e | ⟨b, off, e, _⟩
     ·exact List.eq_nil_of_length_eq_zero e
     ·cases e
    subst el0
    have R2 : Hid (x2.ownsRow u.heap.size 212 4 u4 (eoK N (k + 1)).length (ecl (eoK N (k + 1)))) := by
     show x2.ownsRow u.heap.size 212 4 u4 (eoK N (k + 1)).length (ecl (eoK N (k + 1)))
     rw [HE.out, List.append_nil]
     exact O2.out
    clear HE HZ HH
    go_wp2_with (at_builtin; refine wpList_append_own_none rfl _ _ 120 rfl u.heap.size 212 i0 4 Tryz.underlying120 hi0 u4 _ _ rfl O2.out rfl ?_)
    go_wp2
    go_roundw
    case rel => exact ⟨k + 1, by omega, by go_num, R2.out, W2.out⟩
    case measure => simp [intOf]; omega
   | some ad =>
    have HC : Hid (∀ j x, (ecl EL)[j]? = some x → x2.cell? (ad.add j) = some x) := by
     rcases HH.out.2 with e | ⟨b, off, e, hs⟩
     ·have e' := List.eq_nil_of_length_eq_zero e
      subst e'
      intro j x hx
      cases hx
     ·obtain rfl := Option.some.inj e
      exact esp_cells hs
    have HLn : Hid ((ecl EL).length = EL.length * 4) := ecl_len EL
    have HOn : Hid (∀ u ∈ ecl EL, u.oneCell' = true) := ecl_one EL
    clear HZ HH
    go_wp2_with (at_builtin; refine wpList_append_own_at _ rfl _ _ 120 rfl u.heap.size 212 i0 _ 4 32 Tryz.underlying120 hi0 hz0 hz1 hz2 rfl (by decide) u4 _ _ rfl O2.out ad _ _ (ecl EL) rfl HLn.out HC.out HOn.out (by unfold maxLen; omega) (by omega) (by omega) ?_)
    intro v' x3 own' hgrow hnn hat
    have R3 : Hid (x3.ownsRow u.heap.size 212 4 v' (eoK N (k + 1)).length (ecl (eoK N (k + 1)))) := by
     show x3.ownsRow u.heap.size 212 4 v' (eoK N (k + 1)).length (ecl (eoK N (k + 1)))
     rw [HE.out, List.length_append, ecl_app]
     exact own'
    have W3 : Hid (Below u.heap.size u x3) := W2.out.grown hgrow (by omega) HL.out
    clear own' hgrow hnn hat HE HC HLn HOn
    go_wp2
    go_roundw
    case rel => exact ⟨k + 1, by omega, by go_num, R3.out, W3.out⟩
    case measure => simp [intOf]; omega
  ·have hl : ¬ ((k : Int) < N.W.n) := by omega
   obtain rfl : k = N.W.n := by omega
   rw [eoK_all] at hown
   have le := eoN_len HT.out
   obtain ⟨a, cap, rfl, hH, hZ⟩ := own_eh hown rfl (by omega)
   have HH : Hid (EHanded wr a (eoN N).length (egf (eoN N))) := hH
   clear hown hw hH hZ
   go_wp2
   go_ret2
   first
    | exact ⟨a, cap, rfl, HH.out, HW.out⟩
    | exact ⟨a, ⟨cap, rfl⟩, HH.out, HW.out⟩
set_option maxHeartbeats 8000000
set_option maxRecDepth 100000
section
variable {w u : World} {mb sc rc lb lc : Nat} {sa ra : Option Addr} {N : Nn} {v : Value} {nb : Nat → Nat}
theorem roff_bad (hR : RNt w u mb sa sc ra rc N v lb lc nb) (hT : N.T) (x y : Int) (h : x < 0 ∨ (N.W.n : Int) ≤ x ∨ y < 0 ∨ (N.W.n : Int) ≤ y) :
  Calls Tryz.prog 24 #[.pointer (some ⟨mb, 0, none⟩), .int .i64 x, .int .i64 y] u fun o w' => o = .returned (.tuple #[.agg #[.int .i64 0, .int .i64 0], .int .i64 1]) ∧ Below u.heap.size u w' := by
 have m4 := hR.m.r.c 4 _ rfl
 have zM := hR.m.r.lt
 have d : x < 0 ∨ (¬ x < 0 ∧ (N.W.n : Int) ≤ x) ∨ (¬ x < 0 ∧ ¬ (N.W.n : Int) ≤ x ∧ y < 0) ∨ (¬ x < 0 ∧ ¬ (N.W.n : Int) ≤ x ∧ ¬ y < 0 ∧ (N.W.n : Int) ≤ y) := by omega
 have h6 := hT.g.i.n6
 clear hR hT h
 rcases d with d1 | ⟨d1, d2⟩ | ⟨d1, d2, d3⟩ | ⟨d1, d2, d3, d4⟩
 all_goals
  go_enter Tryz.func24, Tryz.ntmps24
  go_wp2
  exact bodyPost_ret (v := .tuple #[.agg #[.int .i64 0, .int .i64 0], .int .i64 1]) (by simp [results, Tryz.results24, go_sem, *]) rfl ⟨rfl, by first | exact rbel_put (Nat.le_refl _) (rbel_put (Nat.le_refl _) (rbel_al (Below.refl _ _))) | exact rbel_al (Below.refl _ _)⟩
theorem roff_in (hR : RNt w u mb sa sc ra rc N v lb lc nb) (hT : N.T) (T : Tb) (hA : AllA (egf (eoN N)) (eoN N).length N.W.n 0 T) (i j : Nat) (hi : i < N.W.n) (hj : j < N.W.n) (lo hi' e : Int) (h : (T i j = none ∧ lo = 0 ∧ hi' = 0 ∧ e = 5) ∨ ((∃ x, T i j = some x) ∧ lo = spLo T i j ∧ hi' = spHi T i j ∧ e = 0)) :
  Calls Tryz.prog 24 #[.pointer (some ⟨mb, 0, none⟩), .int .i64 i, .int .i64 j] u fun o w' => o = .returned (.tuple #[.agg #[.int .i64 lo, .int .i64 hi'], .int .i64 e]) ∧ Below u.heap.size u w' := by
 have HR : Hid (RNt w u mb sa sc ra rc N v lb lc nb) := hR
 have HT : Hid N.T := hT
 have m4 := hR.m.r.c 4 _ rfl
 have zM := hR.m.r.lt
 have h6 := hT.g.i.n6
 have d1 : ¬ ((i : Int) < 0) := by omega
 have d2 : ¬ ((N.W.n : Int) ≤ (i : Int)) := by omega
 have d3 : ¬ ((j : Int) < 0) := by omega
 have d4 : ¬ ((N.W.n : Int) ≤ (j : Int)) := by omega
 have hii : (i : Int) < N.W.n := by omega
 have hjj : (j : Int) < N.W.n := by omega
 have cE := rnedges_net (hR.on (u' := u.alloc (.cells #[.int .i64 0, .int .i64 0] 34)) (rbel_al (Below.refl _ _))) hT
 have cB : Hid (∀ (W : World) (ea : Option Addr) (ec : Nat), EHanded W ea (eoN N).length (egf (eoN N)) → Calls Tryz.prog 47 #[.int .i64 N.W.n, .slice ea (eoN N).length ec] W fun o w' => ∃ s h, o = .returned (.tuple #[s, h, .int .i64 0]) ∧ STab w' s h N.W.n T ∧ Below W.heap.size W w') := fun W ea ec hE => rbounds_at N.W.n ea (eoN N).length ec (egf (eoN N)) W (eoN_egs hT) hE T hA
 have B0 : Hid (Below u.heap.size u (u.alloc (.cells #[.int .i64 0, .int .i64 0] 34))) := rbel_al (Below.refl _ _)
 have R0 : Hid (Row (u.alloc (.cells #[.int .i64 0, .int .i64 0] 34)) u.heap.size [.int .i64 0, .int .i64 0]) := Row.made rfl
 clear hR hT hA
 generalize eoN N = EL at *
 go_enter Tryz.func24, Tryz.ntmps24
 go_upto_region 9 with (first
  | (go_at_call 46; refine cE.mono ?_; rintro o x1 ⟨ea, ec, rfl, hE, hb⟩; have B1 : Hid (Below u.heap.size u x1) := rbel_on hb B0.out; have R1 : Hid (Row x1 u.heap.size [.int .i64 0, .int .i64 0]) := Row.on hb R0.out; have HE : Hid (EHanded x1 ea EL.length (egf EL)) := hE; have n4 := (B1.out.cell (p := ⟨mb, 4, none⟩) zM).trans m4; have zM1 : mb < x1.heap.size := Nat.lt_of_lt_of_le zM B1.out.size; clear hb hE)
  | (go_at_call 47; refine (cB.out _ _ _ HE.out).mono ?_; rintro o x2 ⟨s, hh, rfl, hS, hb⟩; have B2 : Hid (Below u.heap.size u x2) := rbel_on hb B1.out; have R2 : Hid (Row x2 u.heap.size [.int .i64 0, .int .i64 0]) := Row.on hb R1.out; have HS : Hid (STab x2 s hh N.W.n T) := hS; clear hb hS))
 obtain ⟨sb, so, scc, hb, ho, hc, rb, ro, rcc, gb, go, gc, e1, e2, r1, r2⟩ := (show STab x2 s hh N.W.n T from HS.out)
 subst e1
 subst e2
 have a1 := (r1 i hi).1
 have a2 := (r1 i hi).2
 obtain ⟨b1, b2, b3⟩ := r2 i j hi hj
 have c0 := R2.out.c 0 _ rfl
 have c1 := R2.out.c 1 _ rfl
 have f0 := R2.out.f 0 _ rfl
 have f1 := R2.out.f 1 _ rfl
 have zu := R2.out.lt
 have y1 := World.block_lt_of_cell? _ _ a1
 have y2 := World.block_lt_of_cell? _ _ a2
 have y3 := World.block_lt_of_cell? _ _ b1
 have y4 := World.block_lt_of_cell? _ _ b3
 clear r1 r2 HS B1 R1 HE n4 zM1 B0 R0 cE cB m4
 rcases h with ⟨e, rfl, rfl, rfl⟩ | ⟨⟨x, e⟩, rfl, rfl, rfl⟩
 ·rw [e] at b3
  simp only [Option.isSome_none] at b3
  clear b1 b2 a1
  go_wp2
  exact bodyPost_ret (v := .tuple #[.agg #[.int .i64 0, .int .i64 0], .int .i64 5]) (by simp [results, Tryz.results24, go_sem, *]) rfl ⟨rfl, by first | exact rbel_put (Nat.le_refl _) (rbel_put (Nat.le_refl _) B2.out) | exact B2.out⟩
 ·rw [e] at b3
  simp only [Option.isSome_some] at b3
  go_wp2
  exact bodyPost_ret (v := .tuple #[.agg #[.int .i64 (spLo T i j), .int .i64 (spHi T i j)], .int .i64 0]) (by simp [results, Tryz.results24, go_sem, *]) rfl ⟨rfl, rbel_put (Nat.le_refl _) (rbel_put (Nat.le_refl _) B2.out)⟩
theorem roff_at (hR : RNt w u mb sa sc ra rc N v lb lc nb) (hT : N.T) (x y lo hi e : Int) (h : BetA N.W.n (egf (eoN N)) (eoN N).length x y lo hi e) :
  Calls Tryz.prog 24 #[.pointer (some ⟨mb, 0, none⟩), .int .i64 x, .int .i64 y] u fun o w' => o = .returned (.tuple #[.agg #[.int .i64 lo, .int .i64 hi], .int .i64 e]) ∧ Below u.heap.size u w' := by
 have h0 := egs_e (eoN_egs hT)
 rcases h with ⟨h, _⟩ | ⟨_, h, rfl, rfl, rfl⟩ | ⟨_, h, f, T, hA, q⟩
 ·exact absurd h0 h
 ·exact roff_bad hR hT x y (by omega)
 ·rw [Int.toNat_natCast] at hA
  obtain ⟨T0, hA0⟩ := eoN_all hT
  have f0 := hA.e_one hA0
  subst f0
  obtain ⟨i, rfl⟩ : ∃ i : Nat, x = i := ⟨x.toNat, by omega⟩
  obtain ⟨j, rfl⟩ : ∃ j : Nat, y = j := ⟨y.toNat, by omega⟩
  rw [Int.toNat_natCast, Int.toNat_natCast] at q
  refine roff_in hR hT T hA i j (by omega) (by omega) lo hi e ?_
  rcases q with ⟨c, _⟩ | ⟨_, a, b, c, d⟩ | ⟨_, a, b, c, d⟩
  ·exact absurd rfl c
  ·exact Or.inl ⟨a, b, c, d⟩
  ·exact Or.inr ⟨a, b, c, d⟩
end
set_option maxRecDepth 100000 in
set_option maxHeartbeats 8000000 in
theorem rwide_at {w u : World} {mb sc rc lb lc : Nat} {sa ra : Option Addr} {N : Nn} {v : Value} {nb : Nat → Nat} (hR : RNt w u mb sa sc ra rc N v lb lc nb) (hT : N.T) (T : Tb) (hA : AllA (egf (eoN N)) (eoN N).length N.W.n 0 T) :
  Calls Tryz.prog 26 #[.pointer (some ⟨mb, 0, none⟩)] u fun o w' => o = .returned (.tuple #[.int .i64 (wid N.W.n T), .int .i64 0]) ∧ Below u.heap.size u w' := by
 have HR : Hid (RNt w u mb sa sc ra rc N v lb lc nb) := hR
 have m4 := hR.m.r.c 4 _ rfl
 have zM := hR.m.r.lt
 have h6 := hT.g.i.n6
 have cE := rnedges_net hR hT
 have cB : Hid (∀ (W : World) (ea : Option Addr) (ec : Nat), EHanded W ea (eoN N).length (egf (eoN N)) → Calls Tryz.prog 47 #[.int .i64 N.W.n, .slice ea (eoN N).length ec] W fun o w' => ∃ s h, o = .returned (.tuple #[s, h, .int .i64 0]) ∧ STab w' s h N.W.n T ∧ Below W.heap.size W w') := fun W ea ec hE => rbounds_at N.W.n ea (eoN N).length ec (egf (eoN N)) W (eoN_egs hT) hE T hA
 have HA : Hid (AllA (egf (eoN N)) (eoN N).length N.W.n 0 T) := hA
 have HWI : Hid (wid N.W.n T = wsum T N.W.n N.W.n) := rfl
 clear hR hT hA
 go_enter Tryz.func26, Tryz.ntmps26
 go_upto_region 7 with (first
  | (go_at_call 46; refine cE.mono ?_; rintro o x1 ⟨ea, ec, rfl, hE, hb⟩; have B1 : Hid (Below u.heap.size u x1) := hb; have HE : Hid (EHanded x1 ea (eoN N).length (egf (eoN N))) := hE; have n4 := (B1.out.cell (p := ⟨mb, 4, none⟩) zM).trans m4; have zM1 : mb < x1.heap.size := Nat.lt_of_lt_of_le zM B1.out.size; clear hb hE)
  | (go_at_call 47; refine (cB.out _ _ _ HE.out).mono ?_; rintro o x2 ⟨s, hh, rfl, hS, hb⟩; have B2 : Hid (Below u.heap.size u x2) := rbel_on hb B1.out; have HS : Hid (STab x2 s hh N.W.n T) := hS; clear hb hS))
 obtain ⟨sb, so, scc, hb, ho, hc, rb, ro, rcc, gb, go, gc, e1, e2, r1, r2⟩ := (show STab x2 s hh N.W.n T from HS.out)
 subst e1
 subst e2
 have Q1 : Hid (∀ i, i < N.W.n → x2.cell? ⟨sb, so + i, none⟩ = some (.slice (some ⟨rb i, ro i, none⟩) N.W.n (rcc i)) ∧ x2.cell? ⟨hb, ho + i, none⟩ = some (.slice (some ⟨gb i, go i, none⟩) N.W.n (gc i))) := r1
 have Q2 : Hid (∀ i k, i < N.W.n → k < N.W.n → x2.cell? ⟨rb i, ro i + k * 2, none⟩ = some (.int .i64 (spLo T i k)) ∧ x2.cell? ⟨rb i, ro i + k * 2 + 1, none⟩ = some (.int .i64 (spHi T i k)) ∧ x2.cell? ⟨gb i, go i + k, none⟩ = some (.bool (T i k).isSome)) := r2
 clear r1 r2 HS B1 HE n4 zM1 cE cB m4
 go_wp2
 go_loopw [8, 9, 10] (fun vs va _ wr => ∃ a : Nat, a ≤ N.W.n ∧ va = .int .i64 a ∧ vs = .int .i64 (wsum T N.W.n a) ∧ Below x2.heap.size x2 wr) (fun _ va _ _ => N.W.n - (intOf va).toNat)
 case atStart => exact ⟨0, Nat.zero_le _, rfl, rfl, Below.refl _ _⟩
 case round =>
  obtain ⟨a, ha, rfl, rfl, hw⟩ := hrel
  have HW : Hid (Below x2.heap.size x2 wr) := hw
  by_cases hlt : a < N.W.n
  ·have hl : (a : Int) < N.W.n := by omega
   have sb1 := wsum_b HA.out h6 a ha
   have I0 : Hid (wsum T N.W.n a = wsum T N.W.n a + wrow T a (a + 1)) := by
    show wsum T N.W.n a = wsum T N.W.n a + wrow T a (a + 1)
    rw [wrow_low T a (a + 1) (Nat.le_refl _)]; omega
   have I1 : Hid (wsum T N.W.n (a + 1) = wsum T N.W.n a + wrow T a N.W.n) := wsum_succ T N.W.n a
   clear hw
   go_wp2
   go_loopw [8, 10] (fun vs vb wr => ∃ c : Nat, a + 1 ≤ c ∧ c ≤ N.W.n ∧ vb = .int .i64 c ∧ vs = .int .i64 (wsum T N.W.n a + wrow T a c) ∧ Below x2.heap.size x2 wr) (fun _ vb _ => N.W.n - (intOf vb).toNat)
   case atStart => exact ⟨a + 1, Nat.le_refl _, by omega, by go_num, by rw [← I0.out], HW.out⟩
   case round =>
    clear HW
    obtain ⟨c, hac, hcn, rfl, rfl, hw⟩ := hrel
    have HW : Hid (Below x2.heap.size x2 wr) := hw
    by_cases hlc : c < N.W.n
    ·have hl2 : (c : Int) < N.W.n := by omega
     have on : ∀ (p : Addr) (x : Value), x2.cell? p = some x → wr.cell? p = some x := fun p x e => by rw [hw.cell (World.block_lt_of_cell? _ _ e)]; exact e
     have a1 := on _ _ (Q1.out a hlt).1
     have a2 := on _ _ (Q1.out a hlt).2
     obtain ⟨q1, q2, q3⟩ := Q2.out a c hlt hlc
     have b1 := on _ _ q1
     have b2 := on _ _ q2
     have b3 := on _ _ q3
     have y1 := World.block_lt_of_cell? _ _ a1
     have y2 := World.block_lt_of_cell? _ _ a2
     have y3 := World.block_lt_of_cell? _ _ b1
     have y4 := World.block_lt_of_cell? _ _ b3
     have rw1 := wrow_b HA.out hlt c hcn
     have tb := wt_b HA.out hlt hlc
     have I2 : Hid (wrow T a (c + 1) = wrow T a c + wt T a c) := wrow_succ T a c
     cases e : (T a c).isSome with
     | false =>
      rw [e] at b3
      have I3 : Hid (wrow T a (c + 1) = wrow T a c) := by
       show wrow T a (c + 1) = wrow T a c
       rw [I2.out]
       unfold wt
       rw [if_neg (by rw [e]; exact fun q => by cases q.2)]
       omega
      clear hw on q1 q2 q3 b1 b2 a1 tb I2
      go_wp2
      go_roundw
      case rel => exact ⟨c + 1, by omega, by omega, by go_num, by rw [I3.out], HW.out⟩
      case measure => simp [intOf]; omega
     | true =>
      rw [e] at b3
      obtain ⟨t1, t2, t3⟩ := tb.2.2 e
      have I3 : Hid (wrow T a (c + 1) = wrow T a c + (spHi T a c - spLo T a c)) := by
       show wrow T a (c + 1) = wrow T a c + (spHi T a c - spLo T a c)
       rw [I2.out]
       unfold wt
       rw [if_pos ⟨by omega, e⟩]
      clear hw on q1 q2 q3 tb I2
      generalize spHi T a c = hi at *
      generalize spLo T a c = lo at *
      have w1 : IntKind.i64.wrap (wsum T N.W.n a + wrow T a c + hi) = wsum T N.W.n a + wrow T a c + hi := IntWalk.i64_in _ (by omega)
      have w2 : IntKind.i64.wrap (wsum T N.W.n a + wrow T a c + hi - lo) = wsum T N.W.n a + wrow T a c + hi - lo := IntWalk.i64_in _ (by omega)
      go_wp2
      go_quiet (fail)
      go_wp2
      go_roundw
      case rel => exact ⟨c + 1, by omega, by omega, by go_num, by rw [I3.out, show wsum T N.W.n a + wrow T a c + hi - lo = wsum T N.W.n a + (wrow T a c + (hi - lo)) by omega], rbel_drn HW.out⟩
      case measure => simp [intOf]; omega
    ·have hl2 : ¬ ((c : Int) < N.W.n) := by omega
     obtain rfl : c = N.W.n := by omega
     clear hw
     go_wp2
     go_roundw
     case rel => exact ⟨a + 1, by omega, by go_num, by rw [I1.out], HW.out⟩
     case measure => simp [intOf]; omega
  ·have hl : ¬ ((a : Int) < N.W.n) := by omega
   obtain rfl : a = N.W.n := by omega
   clear hw
   go_wp2
   go_ret2
   exact ⟨by rw [HWI.out]; rfl, rbel_on HW.out B2.out⟩
def pcs (nb : Nat → Nat) : Nat → List Value
 | 0 => []
 | k + 1 => pcs nb k ++ [.pointer (some ⟨nb k, 0, none⟩)]
theorem pcs_len (nb : Nat → Nat) : ∀ k, (pcs nb k).length = k
 | 0 => rfl
 | k + 1 => by simp [pcs, pcs_len nb k]
theorem pcs_at (nb : Nat → Nat) : ∀ {k i : Nat}, i < k → (pcs nb k)[i]? = some (.pointer (some ⟨nb i, 0, none⟩))
 | 0, i, h => by omega
 | k + 1, i, h => by
  simp only [pcs]
  by_cases c : i = k
  ·subst c
   rw [List.getElem?_append_right (by rw [pcs_len]; omega), pcs_len]
   simp
  ·rw [List.getElem?_append_left (by rw [pcs_len]; omega)]
   exact pcs_at nb (by omega)
theorem pcs_congr {nb nb' : Nat → Nat} : ∀ k, (∀ i, i < k → nb i = nb' i) → pcs nb k = pcs nb' k
 | 0, _ => rfl
 | k + 1, h => by simp only [pcs]; rw [pcs_congr k (fun i hi => h i (by omega)), h k (by omega)]
theorem infoNode : (Tryz.prog.info? 63).map (fun i => (i.zero, i.size, i.bytes)) = some (some (.pointer none), 1, 8) := by kernel_rfl
structure NwS (u wr : World) (sa : Option Addr) (sc : Nat) (ra : Option Addr) (rc n : Nat) (p : Int) (k : Nat) (vL : Value) (nb : Nat → Nat) : Prop where
 r : Row wr u.heap.size [.slice sa n sc, .slice ra n rc, .int .i64 0, .slice none 0 0, vL]
 o : wr.ownsRow u.heap.size 63 1 vL k (pcs nb k)
 nd : ∀ i, i < k → RN wr (nb i) (Nd.made i n p)
 lo : ∀ i, i < k → u.heap.size < nb i
 up : ∀ i j, i < j → j < k → nb i < nb j
 nv : ∀ i, i < k → vL.ownBlock ≠ some (nb i)
 ne : vL.ownBlock ≠ some u.heap.size
 hw : Below u.heap.size u wr
set_option maxRecDepth 100000 in
set_option maxHeartbeats 8000000 in
theorem rnew_at {w u : World} {sa : Option Addr} {sc n : Nat} {z : Nat → Int} {ra : Option Addr} {rc : Nat} {r : Nat → Int} {p : Int} (hs : NHanded w sa n z) (hr : NHanded w ra n r) (hu : Below w.heap.size w u) (h1 : 1 ≤ n) (h6 : n ≤ 6) :
  Calls Tryz.prog 8 #[.slice sa n sc, .slice ra n rc, .int .i64 p] u fun o w' => ∃ (mb lb lc : Nat) (nb : Nat → Nat), o = .returned (.pointer (some ⟨mb, 0, none⟩)) ∧ RNt w w' mb sa sc ra rc (Nn.made n z r p) (.slice none 0 0) lb lc nb ∧ Below u.heap.size u w' ∧ ∀ k, FrN mb (.slice none 0 0) lb nb n k → u.heap.size ≤ k := by
 obtain ⟨i0, hi0, hz0, hz1, hz2⟩ := info_parts infoNode
 have HS : Hid (NHanded w sa n z) := hs
 have HR : Hid (NHanded w ra n r) := hr
 have HU : Hid (Below w.heap.size w u) := hu
 have H0 : Hid (NwS u (u.alloc (.cells #[.slice sa n sc, .slice ra n rc, .int .i64 0, .slice none 0 0, .slice none 0 0] 62)) sa sc ra rc n p 0 (.slice none 0 0) (fun _ => 0)) := ⟨Row.made rfl, World.ownsRow_nil _ _ _ _, fun i hi => by omega, fun i hi => by omega, fun i j _ hj => by omega, fun i hi => by omega, (fun e => by cases e), rbel_al (Below.refl _ _)⟩
 clear hs hr hu
 go_enter Tryz.func8, Tryz.ntmps8
 go_wp2
 go_loopw [8] (fun vi wr => ∃ (k : Nat) (vL : Value) (nb : Nat → Nat), k ≤ n ∧ vi = .int .i64 k ∧ NwS u wr sa sc ra rc n p k vL nb) (fun vi _ => n - (intOf vi).toNat)
 case atStart => exact ⟨0, _, _, Nat.zero_le _, rfl, H0.out⟩
 case round =>
  clear H0
  obtain ⟨k, vL, nb, hk, rfl, hN⟩ := hrel
  have HN : Hid (NwS u wr sa sc ra rc n p k vL nb) := hN
  have c4 := hN.r.c 4 _ rfl
  have f4 := hN.r.f 4 _ rfl
  have lz := hN.r.lt
  by_cases hlt : k < n
  ·have hl : (k : Int) < n := by omega
   have HO : Hid (wr.ownsRow u.heap.size 63 1 vL k (pcs nb k)) := hN.o
   have HL : Hid (∀ g, vL.ownBlock = some g → u.heap.size ≤ g ∧ g < wr.heap.size) := fun g hg => hN.o.lt g hg
   have HX : Hid (pcs (fun i => if i = k then wr.heap.size else nb i) (k + 1) = pcs nb k ++ [.pointer (some ⟨wr.heap.size, 0, none⟩)]) := by
    show pcs _ k ++ [.pointer (some ⟨if k = k then wr.heap.size else nb k, 0, none⟩)] = _
    rw [pcs_congr (nb' := nb) k (fun i hi => if_neg (by omega)), if_pos rfl]
   clear hN
   generalize pcs nb k = xs at *
   go_wp2_with (at_builtin; refine wpList_append_own_at _ rfl _ _ 60 rfl u.heap.size 63 i0 (.pointer none) 1 8 Tryz.underlying60 hi0 hz0 hz1 hz2 rfl (by decide) vL _ _ rfl ((HO.out.alloc _).alloc _) ⟨wr.heap.size + 1, 0, none⟩ 1 1 [.pointer (some ⟨wr.heap.size, 0, none⟩)] rfl rfl (fun q u hq => by rw [Addr.add_lit]; exact (Row.made (b := wr.heap.size + 1) (vs := [.pointer (some ⟨wr.heap.size, 0, none⟩)]) (by simp)).c _ _ (by simpa using hq)) (fun u hu => by simp at hu; rw [hu]; rfl) (by unfold maxLen; omega) (by omega) (by simp; omega) ?_)
   intro v'0 x2 own' hgrow hnn hat
   obtain ⟨va, vc, rfl⟩ := own_slice own'
   have BA : Hid (Below wr.heap.size wr ((wr.alloc (Obj.cells #[.int .i64 k, .int .i64 n, .int .i64 p, .int .i64 (-1), .bool false, .bool false, .bool false, .bool false, .bool false, .bool false, .int .i64 0, .int .i64 0, .int .i64 0, .int .i64 0, .int .i64 0, .int .i64 0, .int .i64 0, .int .i64 0, .int .i64 0, .int .i64 0, .int .i64 0, .int .i64 0, .int .i64 0, .int .i64 0, .int .i64 0, .int .i64 0, .int .i64 0, .int .i64 0] 68)).alloc (Obj.cells #[.pointer (some ⟨wr.heap.size, 0, none⟩)] 63))) := rbel_al (rbel_al (Below.refl _ _))
   have RA : Hid (RN ((wr.alloc (Obj.cells #[.int .i64 k, .int .i64 n, .int .i64 p, .int .i64 (-1), .bool false, .bool false, .bool false, .bool false, .bool false, .bool false, .int .i64 0, .int .i64 0, .int .i64 0, .int .i64 0, .int .i64 0, .int .i64 0, .int .i64 0, .int .i64 0, .int .i64 0, .int .i64 0, .int .i64 0, .int .i64 0, .int .i64 0, .int .i64 0, .int .i64 0, .int .i64 0, .int .i64 0, .int .i64 0] 68)).alloc (Obj.cells #[.pointer (some ⟨wr.heap.size, 0, none⟩)] 63)) wr.heap.size (Nd.made k n p)) := RN.on (rbel_al (Below.refl _ _)) RN.first
   have sA : ((wr.alloc (Obj.cells #[.int .i64 k, .int .i64 n, .int .i64 p, .int .i64 (-1), .bool false, .bool false, .bool false, .bool false, .bool false, .bool false, .int .i64 0, .int .i64 0, .int .i64 0, .int .i64 0, .int .i64 0, .int .i64 0, .int .i64 0, .int .i64 0, .int .i64 0, .int .i64 0, .int .i64 0, .int .i64 0, .int .i64 0, .int .i64 0, .int .i64 0, .int .i64 0, .int .i64 0, .int .i64 0] 68)).alloc (Obj.cells #[.pointer (some ⟨wr.heap.size, 0, none⟩)] 63)).heap.size = wr.heap.size + 2 := by simp
   generalize ((wr.alloc (Obj.cells #[.int .i64 k, .int .i64 n, .int .i64 p, .int .i64 (-1), .bool false, .bool false, .bool false, .bool false, .bool false, .bool false, .int .i64 0, .int .i64 0, .int .i64 0, .int .i64 0, .int .i64 0, .int .i64 0, .int .i64 0, .int .i64 0, .int .i64 0, .int .i64 0, .int .i64 0, .int .i64 0, .int .i64 0, .int .i64 0, .int .i64 0, .int .i64 0, .int .i64 0, .int .i64 0] 68)).alloc (Obj.cells #[.pointer (some ⟨wr.heap.size, 0, none⟩)] 63)) = A at *
   have RX : Hid (Row x2 u.heap.size [.slice sa n sc, .slice ra n rc, .int .i64 0, .slice none 0 0, vL]) := row_grown hgrow (by omega) HN.out.ne (Row.on BA.out HN.out.r)
   have NX : Hid (∀ i, i < k → RN x2 (nb i) (Nd.made i n p)) := fun i hi => RN.block (hgrow.block _ (by have := (HN.out.nd i hi).lt; omega) (fun e => HN.out.nv i hi e.symm)) (RN.on BA.out (HN.out.nd i hi))
   have NK : Hid (RN x2 wr.heap.size (Nd.made k n p)) := RN.block (hgrow.block _ (by omega) (fun e => by have := (HL.out _ e.symm).2; omega)) RA.out
   have OX : Hid (x2.ownsRow u.heap.size 63 1 (Value.slice va (k + 1) vc) (k + 1) (pcs (fun i => if i = k then wr.heap.size else nb i) (k + 1))) := by
    show x2.ownsRow u.heap.size 63 1 (Value.slice va (k + 1) vc) (k + 1) (pcs (fun i => if i = k then wr.heap.size else nb i) (k + 1))
    rw [HX.out]
    exact own'
   have NE : Hid (∀ g, g < wr.heap.size + 1 → vL.ownBlock ≠ some g → (Value.slice va (k + 1) vc).ownBlock ≠ some g) := fun g hg hv e => by
    rcases hat with h | h
    ·rw [h] at e; exact hv e
    ·rw [h] at e
     have := Option.some.inj e
     omega
   have BX : Hid (Below u.heap.size u x2) := (rbel_on BA.out HN.out.hw).grown hgrow (by have := HN.out.hw.size; omega) (fun g hg => (HL.out g hg).1)
   have LW : Hid (∀ g, vL.ownBlock = some g → g < wr.heap.size) := fun g hg => (HL.out g hg).2
   have b4 := RX.out.c 4 _ rfl
   have g4 := RX.out.f 4 _ rfl
   have lx := RX.out.lt
   clear own' hgrow hnn hat HO HL HX BA RA sA c4 f4
   clear A
   go_wp2
   go_roundw
   case rel =>
    refine ⟨k + 1, Value.slice va (k + 1) vc, fun i => if i = k then wr.heap.size else nb i, by omega, by go_num, ?_⟩
    have z0 := HN.out.r.lt
    have nem : (Value.slice va (k + 1) vc).ownBlock ≠ some u.heap.size := NE.out _ (by omega) HN.out.ne
    refine ⟨Row.put 4 RX.out, ownsRow_setCell_other OX.out (a := ⟨u.heap.size, 4, none⟩) nem (Value.slice va (k + 1) vc), fun i hi => ?_, fun i hi => ?_, fun i j hij hj => ?_, fun i hi => ?_, nem, rbel_put (Nat.le_refl _) BX.out⟩
    ·by_cases e : i = k
     ·subst e
      simp only [if_true]
      exact RN.far (by omega) NK.out
     ·simp only [if_neg e]
      exact RN.far (by have := HN.out.lo i (by omega); omega) (NX.out i (by omega))
    ·by_cases e : i = k
     ·subst e
      simp only [if_true]
      exact z0
     ·simp only [if_neg e]
      exact HN.out.lo i (by omega)
    ·have ei : i ≠ k := by omega
     simp only [if_neg ei]
     by_cases e : j = k
     ·subst e
      simp only [if_true]
      exact (HN.out.nd i hij).lt
     ·simp only [if_neg e]
      exact HN.out.up i j hij (by omega)
    ·by_cases e : i = k
     ·subst e
      simp only [if_true]
      exact NE.out _ (by omega) (fun q => by have := LW.out _ q; omega)
     ·simp only [if_neg e]
      have := (HN.out.nd i (by omega)).lt
      exact NE.out _ (by omega) (HN.out.nv i (by omega))
   case measure => simp [intOf]; omega
  ·have hl : ¬ ((k : Int) < n) := by omega
   obtain rfl : n = k := by omega
   obtain ⟨lb, lc, rfl⟩ : ∃ lb lc, vL = .slice (some ⟨lb, 0, none⟩) n lc := by
    rcases hN.o.2 with ⟨_, e⟩ | ⟨g', c, cur, e, _⟩
    ·omega
    ·exact ⟨g', c, e⟩
   have HW : Hid (Below w.heap.size w wr) := rbel_on hN.hw HU.out
   clear hN
   go_wp2
   go_ret
   have ol := HN.out.o.lt lb rfl
   have su := HU.out.size
   refine ⟨u.heap.size, rfl, lb, lc, nb, ⟨⟨HN.out.r, World.ownsRow_nil _ _ _ _, HS.out, HR.out, HW.out, (fun e => by cases e), su⟩, fun i hi => ?_, HN.out.nd, fun e => HN.out.ne (by rw [← e]; rfl), (fun e => by cases e), fun i hi => by have := HN.out.lo i hi; omega, fun i hi e => HN.out.nv i hi (by rw [e]; rfl), (fun i hi e => by cases e), fun i j hi hj ne => ?_, fun i hi => by have := HN.out.lo i hi; omega, by omega, ol.2⟩, HN.out.hw, fun k hk => ?_⟩
   ·show wr.cell? ⟨lb, i, none⟩ = _
    have hi' : i < n := hi
    rw [HN.out.o.cellAt i (by omega)]
    exact pcs_at nb hi'
   ·rcases Nat.lt_or_ge i j with q | q
    ·have := HN.out.up i j q hj; omega
    ·have := HN.out.up j i (by omega) hi; omega
   ·rcases hk with rfl | e | rfl | ⟨i, hi, rfl⟩
    ·exact Nat.le_refl _
    ·cases e
    ·exact ol.1
    ·have := HN.out.lo i hi; omega
end Go.Proofs.YtadkgnbagmnkkakGreatDoor
