/- What the document's own node (package noonref2) answers of any letter. The document's own net (package noonref2) in memory. What the document's own net (package noonref2) answers: Edges. What the document's own net (package noonref2) answers: Wide. -/
import Derived.Test.YtnagdjipmpjaaaiGreatDoorNodeRefH
import Derived.Test.YtnagdjipmpjaaaiGreatDoorNodeRefO
import Derived.Test.YtnagdjipmpjaaaiGreatDoorNodeRefP
import Derived.Test.YtnagdjipmpjaaaiGreatDoorNodeRefQ
import Derived.Test.YtnagdjipmpjaaaiGreatDoorNodeRefM
import Derived.Test.YtnagdjipmpjaaaiGreatDoorNm09
import Derived.Test.YtnagdjipmpjaaaiGreatDoorNm27
import Derived.Test.YtnagdjipmpjaaaiGreatDoorNm28
import Derived.Test.YtnagdjipmpjaaaiGreatDoorNm02
import Derived.Lib.SmallJoins
import Derived.BigRegion
import Derived.Test.YtnagdjipmpjaaaiGreatDoorNm23
import Derived.Deep.QuietTactic
import Derived.BigQuiet
namespace Go.Proofs.YtnagdjipmpjaaaiGreatDoor
open Go.ChangeShapes Go.WideShapes Go.ChangeAt Go.RowKit Go.Joins
set_option linter.unusedVariables false

theorem rhear_any (b : Nat) (c c' : Nd) (l : Lt) (t e : Int) (B : Bool) (u : World) (hR : RN u b c) (hI : c.I) (h : HearR c l t c' B e) :
    Calls Tryz.prog 32 #[.pointer (some ⟨b, 0, none⟩), ltv l, .int .i64 t] u fun o w' => o = .returned (.tuple #[.bool B, .int .i64 e]) ∧ RN w' b c' ∧ Keeps (fun i => i = b) u w' := by
  obtain ⟨x, y, an, t1, t2, t3⟩ := l
  have good : ¬ c.bad ⟨x, y, an, t1, t2, t3⟩ → ∃ k : Nat, x = k ∧ k < c.n ∧ k ≠ c.id ∧ y = c.id := fun q => by
    have q1 : ¬ (y ≠ (c.id : Int) ∨ x = c.id ∨ x < 0 ∨ (c.n : Int) ≤ x) := q
    refine ⟨x.toNat, ?_, ?_, ?_, ?_⟩ <;> omega
  rcases h with ⟨a, rfl, rfl, rfl⟩ | ⟨a, q, rfl, rfl, rfl⟩ | ⟨a, q, d, rfl, rfl, rfl⟩ | ⟨a, q, d, f, rfl, rfl, rfl⟩ | ⟨a, q, d, f, g, rfl, rfl, rfl⟩ | ⟨a, q, d, f, g, rfl, rfl, rfl⟩
  · exact (rhear_bk b c' x y t1 t2 t3 t u hR hI an a).mono fun _ _ ⟨he, hb⟩ => ⟨he, RN.on hb hR, .of hb⟩
  · have q1 : y ≠ (c'.id : Int) ∨ x = c'.id ∨ x < 0 ∨ (c'.n : Int) ≤ x := q
    by_cases h1 : y = c'.id
    · by_cases h2 : x = c'.id
      · exact (rhear_b2 b c' x y t1 t2 t3 t u hR hI an a h1 h2).mono fun _ _ ⟨he, hb⟩ => ⟨he, RN.on hb hR, .of hb⟩
      · by_cases h3 : x < 0
        · exact (rhear_b3 b c' x y t1 t2 t3 t u hR hI an a h1 h2 h3).mono fun _ _ ⟨he, hb⟩ => ⟨he, RN.on hb hR, .of hb⟩
        · exact (rhear_b4 b c' x y t1 t2 t3 t u hR hI an a h1 h2 h3 (by omega)).mono fun _ _ ⟨he, hb⟩ => ⟨he, RN.on hb hR, .of hb⟩
    · exact (rhear_b1 b c' x y t1 t2 t3 t u hR hI an a h1).mono fun _ _ ⟨he, hb⟩ => ⟨he, RN.on hb hR, .of hb⟩
  · obtain ⟨k, e1, e2, e3, e4⟩ := good q
    obtain rfl : an = false := d
    exact rhear_ask b c x y t1 t2 t3 t u hR hI a k e1 e2 e3 e4
  · obtain ⟨k, e1, e2, e3, e4⟩ := good q
    obtain rfl : an = true := d
    exact (rhear_off b c' x y t1 t2 t3 t u hR hI a k e1 e2 e3 e4 _ rfl f).mono fun _ _ ⟨he, hb⟩ => ⟨he, RN.on hb hR, .of hb⟩
  · obtain ⟨k, e1, e2, e3, e4⟩ := good q
    obtain rfl : an = true := d
    subst e1
    have ek : (k : Int).toNat = k := by omega
    have g' : c'.bHi (k : Int).toNat t (c'.oU ⟨k, y, true, t1, t2, t3⟩ t) < c'.bLo (k : Int).toNat t (Nd.oL ⟨k, y, true, t1, t2, t3⟩ t) := g
    rw [ek] at g'
    cases hh : c'.has k with
    | false =>
      exfalso
      have z := (oE_zero f).2.2.2.2
      unfold Nd.bHi Nd.bLo at g'
      rw [hh] at g'
      simp only [Bool.false_eq_true, if_false] at g'
      have g2 : oH t1 t2 t c'.p < t3 - t := g'
      have z2 : t3 - t ≤ oH t1 t2 t c'.p := z
      omega
    | true =>
      refine (rhear_clash b c' k y t1 t2 t3 t u hR hI a k rfl e2 e3 e4 (t3 - t) (oH t1 t2 t c'.p) f rfl rfl hh (c'.bLo k t (t3 - t)) (c'.bHi k t (oH t1 t2 t c'.p)) ?_ ?_ g').mono fun _ _ ⟨he, hb⟩ => ⟨he, RN.on hb hR, .of hb⟩
      · show _ ∨ _
        unfold Nd.bLo; rw [if_pos hh]; by_cases r : t3 - t < c'.alo k t
        · exact Or.inl ⟨r, by rw [if_pos r]⟩
        · exact Or.inr ⟨by omega, by rw [if_neg r]⟩
      · show _ ∨ _
        unfold Nd.bHi; rw [if_pos hh]; by_cases r : c'.ahi k t < oH t1 t2 t c'.p
        · exact Or.inl ⟨r, by rw [if_pos r]⟩
        · exact Or.inr ⟨by omega, by rw [if_neg r]⟩
  · obtain ⟨k, e1, e2, e3, e4⟩ := good q
    obtain rfl : an = true := d
    subst e1
    have ek : (k : Int).toNat = k := by omega
    have g' : c.bLo (k : Int).toNat t (t3 - t) ≤ c.bHi (k : Int).toNat t (oH t1 t2 t c.p) := g
    show Calls Tryz.prog 32 _ u fun o w' => o = .returned (.tuple #[.bool true, .int .i64 0]) ∧ RN w' b (c.kept (k : Int).toNat t (c.bLo (k : Int).toNat t (t3 - t)) (c.bHi (k : Int).toNat t (oH t1 t2 t c.p))) ∧ Keeps (fun i => i = b) u w'
    rw [ek] at g' ⊢
    cases hh : c.has k with
    | false =>
      have b1 : c.bLo k t (t3 - t) = t3 - t := by unfold Nd.bLo; rw [hh]; rfl
      have b2 : c.bHi k t (oH t1 t2 t c.p) = oH t1 t2 t c.p := by unfold Nd.bHi; rw [hh]; rfl
      rw [b1, b2]
      exact rhear_new b c k y t1 t2 t3 t u hR hI a k rfl e2 e3 e4 (t3 - t) (oH t1 t2 t c.p) f rfl rfl hh
    | true =>
      refine rhear_meet b c k y t1 t2 t3 t u hR hI a k rfl e2 e3 e4 (t3 - t) (oH t1 t2 t c.p) f rfl rfl hh (c.bLo k t (t3 - t)) (c.bHi k t (oH t1 t2 t c.p)) ?_ ?_ g'
      · show _ ∨ _
        unfold Nd.bLo; rw [if_pos hh]; by_cases r : t3 - t < c.alo k t
        · exact Or.inl ⟨r, by rw [if_pos r]⟩
        · exact Or.inr ⟨by omega, by rw [if_neg r]⟩
      · show _ ∨ _
        unfold Nd.bHi; rw [if_pos hh]; by_cases r : c.ahi k t < oH t1 t2 t c.p
        · exact Or.inl ⟨r, by rw [if_pos r]⟩
        · exact Or.inr ⟨by omega, by rw [if_neg r]⟩
end Go.Proofs.YtnagdjipmpjaaaiGreatDoor
namespace Go.Proofs.YtnagdjipmpjaaaiGreatDoor
open Go.ChangeShapes Go.WideShapes Go.ChangeAt Go.RowKit Go.Joins
set_option linter.unusedVariables false

/-- The document's net in memory, behind a world w: its world at block mb, its nodes in a row at lb, each at its block. -/
structure RNt (w u : World) (mb : Nat) (sa : Option Addr) (sc : Nat) (ra : Option Addr) (rc : Nat) (N : Nn) (v : Value) (lb lc : Nat) (nb : Nat → Nat) : Prop where
  m : RW [.slice (some ⟨lb, 0, none⟩) N.W.n lc] w u mb sa sc ra rc N.W v
  l : ∀ i, i < N.W.n → u.cell? ⟨lb, i, none⟩ = some (.pointer (some ⟨nb i, 0, none⟩))
  nd : ∀ i, i < N.W.n → RN u (nb i) (N.nd i)
  lm : lb ≠ mb
  lv : v.ownBlock ≠ some lb
  nm : ∀ i, i < N.W.n → nb i ≠ mb
  nl : ∀ i, i < N.W.n → nb i ≠ lb
  nv : ∀ i, i < N.W.n → v.ownBlock ≠ some (nb i)
  nn : ∀ i j, i < N.W.n → j < N.W.n → i ≠ j → nb i ≠ nb j
  ln : ∀ i, i < N.W.n → w.heap.size ≤ nb i
  ll : w.heap.size ≤ lb
  lt : lb < u.heap.size
/-- Its blocks. -/
def FrN (mb : Nat) (v : Value) (lb : Nat) (nb : Nat → Nat) (n k : Nat) : Prop := k = mb ∨ v.ownBlock = some k ∨ k = lb ∨ ∃ i, i < n ∧ k = nb i
section
variable {w u u' : World} {mb sc rc lb lc : Nat} {sa ra : Option Addr} {N N' : Nn} {v v' : Value} {nb : Nat → Nat}
/-- All its blocks are as they were. -/
theorem RNt.keep (h : RNt w u mb sa sc ra rc N v lb lc nb) (hw' : Below w.heap.size w u') (hs : u.heap.size ≤ u'.heap.size) (hk : ∀ k, FrN mb v lb nb N.W.n k → u'.heap[k]? = u.heap[k]?) : RNt w u' mb sa sc ra rc N v lb lc nb :=
  ⟨RW.keep (hk mb (Or.inl rfl)) (fun g hg => hk g (Or.inr (Or.inl hg))) hw' h.m, fun i hi => (World.cell?_of_block (w := u) (a := ⟨lb, i, none⟩) (hk lb (Or.inr (Or.inr (Or.inl rfl))))).trans (h.l i hi), fun i hi => RN.block (hk _ (Or.inr (Or.inr (Or.inr ⟨i, hi, rfl⟩)))) (h.nd i hi), h.lm, h.lv, h.nm, h.nl, h.nv, h.nn, h.ln, h.ll, Nat.lt_of_lt_of_le h.lt hs⟩
theorem RNt.flt (h : RNt w u mb sa sc ra rc N v lb lc nb) {k : Nat} (hk : FrN mb v lb nb N.W.n k) : k < u.heap.size := by
  rcases hk with rfl | e | rfl | ⟨i, hi, rfl⟩
  · exact h.m.r.lt
  · exact (h.m.o.lt k e).2
  · exact h.lt
  · exact (h.nd i hi).lt
theorem RNt.flo (h : RNt w u mb sa sc ra rc N v lb lc nb) {k : Nat} (hk : FrN mb v lb nb N.W.n k) : w.heap.size ≤ k := by
  rcases hk with rfl | e | rfl | ⟨i, hi, rfl⟩
  · exact h.m.lo
  · exact (h.m.o.lt k e).1
  · exact h.ll
  · exact h.ln i hi
theorem RNt.on (hb : Below u.heap.size u u') (h : RNt w u mb sa sc ra rc N v lb lc nb) : RNt w u' mb sa sc ra rc N v lb lc nb := h.keep (rbel_on hb h.m.hw) hb.size (fun k hk => hb.block k (h.flt hk))
/-- What a call of it keeps. -/
def KpN (u u' : World) (mb : Nat) (v v' : Value) (nb : Nat → Nat) (n : Nat) : Prop := Keeps (fun k => k = mb ∨ v.ownBlock = some k ∨ ∃ i, i < n ∧ k = nb i) u u' ∧ ∀ g, v'.ownBlock = some g → v.ownBlock = some g ∨ u.heap.size ≤ g
/-- The world of it goes on. -/
theorem RNt.goW (h : RNt w u mb sa sc ra rc N v lb lc nb) {S' : Ws} (hR : RW [.slice (some ⟨lb, 0, none⟩) N.W.n lc] w u' mb sa sc ra rc S' v') (hK : Kp u u' mb v v') (hn : S'.n = N.W.n) : RNt w u' mb sa sc ra rc ⟨S', N.p, N.nd⟩ v' lb lc nb := by
  have hl : ∀ k, v'.ownBlock = some k → ¬ (k < u.heap.size ∧ v.ownBlock ≠ some k) := fun k e q => by
    rcases hK.2 k e with x | x
    · exact q.2 x
    · omega
  have bl : ∀ k, k < u.heap.size → k ≠ mb → v.ownBlock ≠ some k → u'.heap[k]? = u.heap[k]? := fun k h1 h2 h3 => hK.1.block k h1 (fun e => e.elim h2 h3)
  refine ⟨by show RW [.slice (some ⟨lb, 0, none⟩) S'.n lc] w u' mb sa sc ra rc S' v'; rw [hn]; exact hR, fun i hi => ?_, fun i hi => ?_, h.lm, fun e => hl lb e ⟨h.lt, h.lv⟩, fun i hi => h.nm i (hn ▸ hi), fun i hi => h.nl i (hn ▸ hi), fun i hi e => hl _ e ⟨(h.nd i (hn ▸ hi)).lt, h.nv i (hn ▸ hi)⟩, fun i j hi hj => h.nn i j (hn ▸ hi) (hn ▸ hj), fun i hi => h.ln i (hn ▸ hi), h.ll, Nat.lt_of_lt_of_le h.lt hK.1.size⟩
  · exact (World.cell?_of_block (w := u) (a := ⟨lb, i, none⟩) (bl lb h.lt h.lm h.lv)).trans (h.l i (hn ▸ hi))
  · have hi' : i < N.W.n := hn ▸ hi
    exact RN.block (bl _ (h.nd i hi').lt (h.nm i hi') (h.nv i hi')) (h.nd i hi')
/-- One of its nodes goes on. -/
theorem RNt.goN (h : RNt w u mb sa sc ra rc N v lb lc nb) {i : Nat} (hi : i < N.W.n) {c' : Nd} (hR : RN u' (nb i) c') (hK : Keeps (fun k => k = nb i) u u') : RNt w u' mb sa sc ra rc ⟨N.W, N.p, updN N.nd i c'⟩ v lb lc nb := by
  have bl : ∀ k, k < u.heap.size → k ≠ nb i → u'.heap[k]? = u.heap[k]? := fun k h1 h2 => hK.block k h1 h2
  have hw' : Below w.heap.size w u' := h.m.hw.trans (hK.below h.m.hw.size (fun k e => by rw [e]; exact h.ln i hi))
  refine ⟨RW.keep (bl mb h.m.r.lt (fun e => h.nm i hi e.symm)) (fun g hg => bl g (h.m.o.lt g hg).2 (fun e => h.nv i hi (by rw [hg, e]))) hw' h.m, fun j hj => (World.cell?_of_block (w := u) (a := ⟨lb, j, none⟩) (bl lb h.lt (fun e => h.nl i hi e.symm))).trans (h.l j hj), fun j hj => ?_, h.lm, h.lv, h.nm, h.nl, h.nv, h.nn, h.ln, h.ll, Nat.lt_of_lt_of_le h.lt hK.size⟩
  show RN u' (nb j) (updN N.nd i c' j)
  by_cases e : j = i
  · subst e; rw [updN_at]; exact hR
  · rw [updN_ne e]
    exact RN.block (bl _ (h.nd j hj).lt (h.nn j i hj hi e)) (h.nd j hj)
theorem KpN.of (hb : Below u.heap.size u u') : KpN u u' mb v v nb N.W.n := ⟨.of hb, fun _ h => Or.inl h⟩
theorem KpN.wo {n : Nat} (h : Kp u u' mb v v') : KpN u u' mb v v' nb n := ⟨⟨h.1.os, h.1.tape, h.1.output, h.1.size, fun k hk hn => h.1.block k hk (fun e => hn (e.elim Or.inl (fun q => Or.inr (Or.inl q))))⟩, h.2⟩
theorem KpN.no {n i : Nat} (hi : i < n) (h : Keeps (fun k => k = nb i) u u') : KpN u u' mb v v nb n := ⟨⟨h.os, h.tape, h.output, h.size, fun k hk hn => h.block k hk (fun e => hn (Or.inr (Or.inr ⟨i, hi, e⟩)))⟩, fun _ q => Or.inl q⟩
theorem KpN.tr {u2 : World} {v2 : Value} {n : Nat} (h : KpN u u' mb v v' nb n) (g : KpN u' u2 mb v' v2 nb n) : KpN u u2 mb v v2 nb n := by
  refine ⟨⟨g.1.os.trans h.1.os, g.1.tape.trans h.1.tape, g.1.output.trans h.1.output, Nat.le_trans h.1.size g.1.size, fun k hk hn => (g.1.block k (Nat.lt_of_lt_of_le hk h.1.size) (fun e => ?_)).trans (h.1.block k hk hn)⟩, fun k e => ?_⟩
  · rcases e with e | e | e
    · exact hn (Or.inl e)
    · rcases h.2 k e with q | q
      · exact hn (Or.inr (Or.inl q))
      · omega
    · exact hn (Or.inr (Or.inr e))
  · rcases g.2 k e with q | q
    · exact h.2 k q
    · have := h.1.size
      exact Or.inr (by omega)
/-- A block beside it stands. -/
theorem KpN.row {V n : Nat} {vs : List Value} (k : KpN u u' mb v v' nb n) (h : ¬ (V = mb ∨ v.ownBlock = some V ∨ ∃ i, i < n ∧ V = nb i)) (r : Row u V vs) : Row u' V vs := k.1.row h r
end
end Go.Proofs.YtnagdjipmpjaaaiGreatDoor
namespace Go.Proofs.YtnagdjipmpjaaaiGreatDoor
open Go.ChangeShapes Go.WideShapes Go.ChangeAt Go.RowKit Go.Joins
set_option linter.unusedVariables false
set_option linter.unusedSimpArgs false

set_option maxRecDepth 100000 in
set_option maxHeartbeats 8000000 in
theorem rnedges_net {w u : World} {mb sc rc lb lc : Nat} {sa ra : Option Addr} {N : Nn} {v : Value} {nb : Nat → Nat} (hR : RNt w u mb sa sc ra rc N v lb lc nb) (hT : N.T) :
    Calls Tryz.prog 15 #[.pointer (some ⟨mb, 0, none⟩)] u fun o w' => ∃ (ea : Option Addr) (ec : Nat), o = .returned (.tuple #[.slice ea (eoN N).length ec, .int .i64 0]) ∧ EHanded w' ea (eoN N).length (egf (eoN N)) ∧ Below u.heap.size u w' := by
  obtain ⟨i0, hi0, hz0, hz1, hz2⟩ := info_parts infoEdge
  have HR : Hid (RNt w u mb sa sc ra rc N v lb lc nb) := hR
  have HT : Hid N.T := hT
  have h6 := hT.g.i.n6
  clear hR hT
  go_enter Tryz.func15, Tryz.ntmps15
  go_wp2
  go_loopw [4, 5, 6, 7, 8] (fun vo vi _ _ _ wr => ∃ k : Nat, k ≤ N.W.n ∧ vi = .int .i64 k ∧ wr.ownsRow u.heap.size 73 4 vo (eoK N k).length (ecl (eoK N k)) ∧ Below u.heap.size u wr) (fun _ vi _ _ _ _ => N.W.n - (intOf vi).toNat)
  case atStart => exact ⟨0, Nat.zero_le _, rfl, World.ownsRow_nil _ _ _ _, Below.refl _ _⟩
  case round =>
    obtain ⟨k, hk, rfl, hown, hw⟩ := hrel
    have HW : Hid (Below u.heap.size u wr) := hw
    have G : Hid (RNt w wr mb sa sc ra rc N v lb lc nb) := HR.out.on hw
    have m4 := G.out.m.r.c 4 _ rfl
    have zM := G.out.m.r.lt
    have zw := hw.size
    by_cases hlt : k < N.W.n
    · have hl : (k : Int) < N.W.n := by omega
      have lk := G.out.l k hlt
      have zL := G.out.lt
      have le1 := eoK_len HT.out (Nat.le_of_lt hlt)
      have le2 := eoK_len HT.out (k := k + 1) hlt
      have kn := HT.out.kn k hlt
      have cR := G.out.m.read HT.out.g.i hlt
      have HE : Hid (eoK N (k + 1) = eoK N k ++ (N.nd k).eo (N.W.rd k)) := eoK_more N k
      have cE : Hid (∀ W, Below wr.heap.size wr W → Calls Tryz.prog 38 #[.pointer (some ⟨nb k, 0, none⟩), .int .i64 (N.W.rd k)] W fun o w' => (∃ ea ec, o = .returned (.tuple #[.slice ea ((N.nd k).eo (N.W.rd k)).length ec, .int .i64 0]) ∧ EHanded w' ea ((N.nd k).eo (N.W.rd k)).length (egf ((N.nd k).eo (N.W.rd k))) ∧ (ea = none → ec = 0)) ∧ Below W.heap.size W w') := fun W hW => rnedges_at (nb k) (N.nd k) (N.W.rd k) 0 W ((G.out.on hW).nd k hlt) (kn.i HT.out.g hlt) (kn.sp HT.out.g hlt)
      have HO : Hid (wr.ownsRow u.heap.size 73 4 u4 (eoK N k).length (ecl (eoK N k))) := hown
      have HL : Hid (∀ g, u4.ownBlock = some g → u.heap.size ≤ g) := fun g hg => (hown.lt g hg).1
      rw [HE.out, List.length_append] at le2
      clear hown hw kn
      generalize (N.nd k).eo (N.W.rd k) = EL at *
      generalize eoK N k = EK at *
      generalize N.W.rd k = rv at *
      go_upto_region 9 with (first
        | (go_at_call 18; refine cR.mono ?_; rintro o x1 ⟨rfl, hb⟩; have B1 : Hid (Below wr.heap.size wr x1) := hb; have n4 := (hb.cell (p := ⟨mb, 4, none⟩) zM).trans m4; have nk := (hb.cell (p := ⟨lb, k, none⟩) zL).trans lk; have zM1 : mb < x1.heap.size := Nat.lt_of_lt_of_le zM hb.size; have zL1 : lb < x1.heap.size := Nat.lt_of_lt_of_le zL hb.size; clear hb)
        | (go_at_call 38; refine (cE.out _ B1.out).mono ?_; rintro o x2 ⟨⟨ea, ec, rfl, hE, hz⟩, hb⟩; have B2 : Hid (Below wr.heap.size wr x2) := rbel_on hb B1.out; have HH : Hid (EHanded x2 ea EL.length (egf EL)) := hE; have HZ : Hid (ea = none → ec = 0) := hz; clear hb hE hz))
      have O2 : Hid (x2.ownsRow u.heap.size 73 4 u4 EK.length (ecl EK)) := own_onN B2.out HO.out
      have W2 : Hid (Below u.heap.size u x2) := rbel_on B2.out HW.out
      have z2 := W2.out.size
      clear cR cE n4 nk m4 lk B1 HO HW G zM zL zM1 zL1
      cases ea with
      | none =>
        have ec0 : ec = 0 := HZ.out rfl
        subst ec0
        have el0 : EL = [] := by
          rcases HH.out.2 with e | ⟨b, off, e, _⟩
          · exact List.eq_nil_of_length_eq_zero e
          · cases e
        subst el0
        have R2 : Hid (x2.ownsRow u.heap.size 73 4 u4 (eoK N (k + 1)).length (ecl (eoK N (k + 1)))) := by
          show x2.ownsRow u.heap.size 73 4 u4 (eoK N (k + 1)).length (ecl (eoK N (k + 1)))
          rw [HE.out, List.append_nil]
          exact O2.out
        clear HE HZ HH
        go_wp2_with (at_builtin; refine wpList_append_own_none rfl _ _ 47 rfl u.heap.size 73 i0 4 Tryz.underlying47 hi0 u4 _ _ rfl O2.out rfl ?_)
        go_wp2
        go_roundw
        case rel => exact ⟨k + 1, by omega, by go_num, R2.out, W2.out⟩
        case measure => simp [intOf]; omega
      | some ad =>
        have HC : Hid (∀ j x, (ecl EL)[j]? = some x → x2.cell? (ad.add j) = some x) := by
          rcases HH.out.2 with e | ⟨b, off, e, hs⟩
          · have e' := List.eq_nil_of_length_eq_zero e
            subst e'
            intro j x hx
            cases hx
          · obtain rfl := Option.some.inj e
            exact esp_cells hs
        have HLn : Hid ((ecl EL).length = EL.length * 4) := ecl_len EL
        have HOn : Hid (∀ u ∈ ecl EL, u.oneCell' = true) := ecl_one EL
        clear HZ HH
        go_wp2_with (at_builtin; refine wpList_append_own_at _ rfl _ _ 47 rfl u.heap.size 73 i0 _ 4 32 Tryz.underlying47 hi0 hz0 hz1 hz2 rfl (by decide) u4 _ _ rfl O2.out ad _ _ (ecl EL) rfl HLn.out HC.out HOn.out (by unfold maxLen; omega) (by omega) (by omega) ?_)
        intro v' x3 own' hgrow hnn hat
        have R3 : Hid (x3.ownsRow u.heap.size 73 4 v' (eoK N (k + 1)).length (ecl (eoK N (k + 1)))) := by
          show x3.ownsRow u.heap.size 73 4 v' (eoK N (k + 1)).length (ecl (eoK N (k + 1)))
          rw [HE.out, List.length_append, ecl_app]
          exact own'
        have W3 : Hid (Below u.heap.size u x3) := W2.out.grown hgrow (by omega) HL.out
        clear own' hgrow hnn hat HE HC HLn HOn
        go_wp2
        go_roundw
        case rel => exact ⟨k + 1, by omega, by go_num, R3.out, W3.out⟩
        case measure => simp [intOf]; omega
    · have hl : ¬ ((k : Int) < N.W.n) := by omega
      obtain rfl : k = N.W.n := by omega
      rw [eoK_all] at hown
      have le := eoN_len HT.out
      obtain ⟨a, cap, rfl, hH, hZ⟩ := own_eh hown rfl (by omega)
      have HH : Hid (EHanded wr a (eoN N).length (egf (eoN N))) := hH
      clear hown hw hH hZ
      go_wp2
      go_ret2
      first
        | exact ⟨a, cap, rfl, HH.out, HW.out⟩
        | exact ⟨a, ⟨cap, rfl⟩, HH.out, HW.out⟩
end Go.Proofs.YtnagdjipmpjaaaiGreatDoor
namespace Go.Proofs.YtnagdjipmpjaaaiGreatDoor
open Go.ChangeShapes Go.WideShapes Go.ChangeAt Go.RowKit Go.Joins
set_option linter.unusedVariables false
set_option linter.unusedSimpArgs false

set_option maxRecDepth 100000 in
set_option maxHeartbeats 8000000 in
theorem rwide_at {w u : World} {mb sc rc lb lc : Nat} {sa ra : Option Addr} {N : Nn} {v : Value} {nb : Nat → Nat} (hR : RNt w u mb sa sc ra rc N v lb lc nb) (hT : N.T) (T : Tb) (hA : AllA (egf (eoN N)) (eoN N).length N.W.n 0 T) :
    Calls Tryz.prog 13 #[.pointer (some ⟨mb, 0, none⟩)] u fun o w' => o = .returned (.tuple #[.int .i64 (wid N.W.n T), .int .i64 0]) ∧ Below u.heap.size u w' := by
  have HR : Hid (RNt w u mb sa sc ra rc N v lb lc nb) := hR
  have m4 := hR.m.r.c 4 _ rfl
  have zM := hR.m.r.lt
  have h6 := hT.g.i.n6
  have cE := rnedges_net hR hT
  have cB : Hid (∀ (W : World) (ea : Option Addr) (ec : Nat), EHanded W ea (eoN N).length (egf (eoN N)) → Calls Tryz.prog 34 #[.int .i64 N.W.n, .slice ea (eoN N).length ec] W fun o w' => ∃ s h, o = .returned (.tuple #[s, h, .int .i64 0]) ∧ STab w' s h N.W.n T ∧ Below W.heap.size W w') := fun W ea ec hE => rbounds_at N.W.n ea (eoN N).length ec (egf (eoN N)) W (eoN_egs hT) hE T hA
  have HA : Hid (AllA (egf (eoN N)) (eoN N).length N.W.n 0 T) := hA
  have HWI : Hid (wid N.W.n T = wsum T N.W.n N.W.n) := rfl
  clear hR hT hA
  go_enter Tryz.func13, Tryz.ntmps13
  go_upto_region 7 with (first
    | (go_at_call 15; refine cE.mono ?_; rintro o x1 ⟨ea, ec, rfl, hE, hb⟩; have B1 : Hid (Below u.heap.size u x1) := hb; have HE : Hid (EHanded x1 ea (eoN N).length (egf (eoN N))) := hE; have n4 := (B1.out.cell (p := ⟨mb, 4, none⟩) zM).trans m4; have zM1 : mb < x1.heap.size := Nat.lt_of_lt_of_le zM B1.out.size; clear hb hE)
    | (go_at_call 34; refine (cB.out _ _ _ HE.out).mono ?_; rintro o x2 ⟨s, hh, rfl, hS, hb⟩; have B2 : Hid (Below u.heap.size u x2) := rbel_on hb B1.out; have HS : Hid (STab x2 s hh N.W.n T) := hS; clear hb hS))
  obtain ⟨sb, so, scc, hb, ho, hc, rb, ro, rcc, gb, go, gc, e1, e2, r1, r2⟩ := (show STab x2 s hh N.W.n T from HS.out)
  subst e1
  subst e2
  have Q1 : Hid (∀ i, i < N.W.n → x2.cell? ⟨sb, so + i, none⟩ = some (.slice (some ⟨rb i, ro i, none⟩) N.W.n (rcc i)) ∧ x2.cell? ⟨hb, ho + i, none⟩ = some (.slice (some ⟨gb i, go i, none⟩) N.W.n (gc i))) := r1
  have Q2 : Hid (∀ i k, i < N.W.n → k < N.W.n → x2.cell? ⟨rb i, ro i + k * 2, none⟩ = some (.int .i64 (spLo T i k)) ∧ x2.cell? ⟨rb i, ro i + k * 2 + 1, none⟩ = some (.int .i64 (spHi T i k)) ∧ x2.cell? ⟨gb i, go i + k, none⟩ = some (.bool (T i k).isSome)) := r2
  clear r1 r2 HS B1 HE n4 zM1 cE cB m4
  go_wp2
  go_loopw [8, 9, 10] (fun vs va _ wr => ∃ a : Nat, a ≤ N.W.n ∧ va = .int .i64 a ∧ vs = .int .i64 (wsum T N.W.n a) ∧ Below x2.heap.size x2 wr) (fun _ va _ _ => N.W.n - (intOf va).toNat)
  case atStart => exact ⟨0, Nat.zero_le _, rfl, rfl, Below.refl _ _⟩
  case round =>
    obtain ⟨a, ha, rfl, rfl, hw⟩ := hrel
    have HW : Hid (Below x2.heap.size x2 wr) := hw
    by_cases hlt : a < N.W.n
    · have hl : (a : Int) < N.W.n := by omega
      have sb1 := wsum_b HA.out h6 a ha
      have I0 : Hid (wsum T N.W.n a = wsum T N.W.n a + wrow T a (a + 1)) := by
        show wsum T N.W.n a = wsum T N.W.n a + wrow T a (a + 1)
        rw [wrow_low T a (a + 1) (Nat.le_refl _)]; omega
      have I1 : Hid (wsum T N.W.n (a + 1) = wsum T N.W.n a + wrow T a N.W.n) := wsum_succ T N.W.n a
      clear hw
      go_wp2
      go_loopw [8, 10] (fun vs vb wr => ∃ c : Nat, a + 1 ≤ c ∧ c ≤ N.W.n ∧ vb = .int .i64 c ∧ vs = .int .i64 (wsum T N.W.n a + wrow T a c) ∧ Below x2.heap.size x2 wr) (fun _ vb _ => N.W.n - (intOf vb).toNat)
      case atStart => exact ⟨a + 1, Nat.le_refl _, by omega, by go_num, by rw [← I0.out], HW.out⟩
      case round =>
        clear HW
        obtain ⟨c, hac, hcn, rfl, rfl, hw⟩ := hrel
        have HW : Hid (Below x2.heap.size x2 wr) := hw
        by_cases hlc : c < N.W.n
        · have hl2 : (c : Int) < N.W.n := by omega
          have on : ∀ (p : Addr) (x : Value), x2.cell? p = some x → wr.cell? p = some x := fun p x e => by rw [hw.cell (World.block_lt_of_cell? _ _ e)]; exact e
          have a1 := on _ _ (Q1.out a hlt).1
          have a2 := on _ _ (Q1.out a hlt).2
          obtain ⟨q1, q2, q3⟩ := Q2.out a c hlt hlc
          have b1 := on _ _ q1
          have b2 := on _ _ q2
          have b3 := on _ _ q3
          have y1 := World.block_lt_of_cell? _ _ a1
          have y2 := World.block_lt_of_cell? _ _ a2
          have y3 := World.block_lt_of_cell? _ _ b1
          have y4 := World.block_lt_of_cell? _ _ b3
          have rw1 := wrow_b HA.out hlt c hcn
          have tb := wt_b HA.out hlt hlc
          have I2 : Hid (wrow T a (c + 1) = wrow T a c + wt T a c) := wrow_succ T a c
          cases e : (T a c).isSome with
          | false =>
            rw [e] at b3
            have I3 : Hid (wrow T a (c + 1) = wrow T a c) := by
              show wrow T a (c + 1) = wrow T a c
              rw [I2.out]
              unfold wt
              rw [if_neg (by rw [e]; exact fun q => by cases q.2)]
              omega
            clear hw on q1 q2 q3 b1 b2 a1 tb I2
            go_wp2
            go_roundw
            case rel => exact ⟨c + 1, by omega, by omega, by go_num, by rw [I3.out], HW.out⟩
            case measure => simp [intOf]; omega
          | true =>
            rw [e] at b3
            obtain ⟨t1, t2, t3⟩ := tb.2.2 e
            have I3 : Hid (wrow T a (c + 1) = wrow T a c + (spHi T a c - spLo T a c)) := by
              show wrow T a (c + 1) = wrow T a c + (spHi T a c - spLo T a c)
              rw [I2.out]
              unfold wt
              rw [if_pos ⟨by omega, e⟩]
            clear hw on q1 q2 q3 tb I2
            generalize spHi T a c = hi at *
            generalize spLo T a c = lo at *
            have w1 : IntKind.i64.wrap (wsum T N.W.n a + wrow T a c + hi) = wsum T N.W.n a + wrow T a c + hi := IntWalk.i64_in _ (by omega)
            have w2 : IntKind.i64.wrap (wsum T N.W.n a + wrow T a c + hi - lo) = wsum T N.W.n a + wrow T a c + hi - lo := IntWalk.i64_in _ (by omega)
            go_wp2
            go_quiet (fail)
            go_wp2
            go_roundw
            case rel => exact ⟨c + 1, by omega, by omega, by go_num, by rw [I3.out, show wsum T N.W.n a + wrow T a c + hi - lo = wsum T N.W.n a + (wrow T a c + (hi - lo)) by omega], rbel_drn HW.out⟩
            case measure => simp [intOf]; omega
        · have hl2 : ¬ ((c : Int) < N.W.n) := by omega
          obtain rfl : c = N.W.n := by omega
          clear hw
          go_wp2
          go_roundw
          case rel => exact ⟨a + 1, by omega, by go_num, by rw [I1.out], HW.out⟩
          case measure => simp [intOf]; omega
    · have hl : ¬ ((a : Int) < N.W.n) := by omega
      obtain rfl : a = N.W.n := by omega
      clear hw
      go_wp2
      go_ret2
      exact ⟨by rw [HWI.out]; rfl, rbel_on HW.out B2.out⟩
end Go.Proofs.YtnagdjipmpjaaaiGreatDoor
