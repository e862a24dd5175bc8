/- The document's own world (package noonref2) in memory: its clocks, how late it is, its letters in a row of the call's own. -/
import Derived.Test.YtkmbllkkccelaahDoorWorldLcs
import Derived.Test.YtkmbllkkccelaahDoorKeeps
import Derived.Test.YtkmbllkkccelaahDoorErrC
import Derived.Test.YtkmbllkkccelaahDoorInts
import Derived.Test.YtkmbllkkccelaahDoorWorldRefR
import Derived.Test.YtkmbllkkccelaahDoorAppStep
import Derived.Maps.AppendAt
import Derived.Deep.RegionLaw
import Derived.Laws.AppendOwnNone
import Derived.OneCell
import Derived.BigRegion
namespace Go.Proofs.YtkmbllkkccelaahDoor
open Go.ChangeShapes Go.WideShapes Go.ChangeAt Go.RowKit Go.Joins
set_option linter.unusedVariables false
set_option linter.unusedSimpArgs false

/-- The document's world in memory, behind a world w. -/
structure RW (Ex : List Value) (w u : World) (mb : Nat) (sa : Option Addr) (sc : Nat) (ra : Option Addr) (rc : Nat) (S : Ws) (v : Value) : Prop where
  r : Row u mb (.slice sa S.n sc :: .slice ra S.n rc :: .int .i64 S.time :: v :: Ex)
  o : u.ownsRow w.heap.size 37 6 v S.under.length (lcs S.under)
  hs : NHanded w sa S.n S.starts
  hr : NHanded w ra S.n S.rates
  hw : Below w.heap.size w u
  ne : v.ownBlock ≠ some mb
  lo : w.heap.size ≤ mb
/-- What a call of it keeps, and where its letters lie then. -/
def Kp (u u' : World) (mb : Nat) (v v' : Value) : Prop := Keeps (fun k => k = mb ∨ v.ownBlock = some k) u u' ∧ ∀ g, v'.ownBlock = some g → v.ownBlock = some g ∨ u.heap.size ≤ g
section
variable {Ex : List Value} {w u u' : World} {mb sc rc : Nat} {sa ra : Option Addr} {S : Ws} {v : Value}
theorem RW.form (h : RW Ex w u mb sa sc ra rc S v) : (v = .slice none 0 0 ∧ S.under = []) ∨ ∃ g cap, v = .slice (some ⟨g, 0, none⟩) S.under.length cap ∧ S.under.length ≤ cap ∧ w.heap.size ≤ g ∧ g < u.heap.size ∧ g ≠ mb ∧ Lts u g 0 S.under := by
  rcases h.o.2 with ⟨e, l⟩ | ⟨g, cap, cur, e, hb, hg, hc, _, hcs, htk⟩
  · exact Or.inl ⟨e, List.eq_nil_of_length_eq_zero l⟩
  · have glt : g < u.heap.size := by
      rcases Nat.lt_or_ge g u.heap.size with hlt | hge
      · exact hlt
      · rw [Array.getElem?_eq_none hge] at hg; cases hg
    refine Or.inr ⟨g, cap, e, hc, hb, glt, fun q => h.ne (by rw [e]; show some g = some mb; rw [q]), fun i q hq j x hx => ?_⟩
    have := h.o.cells (g := g) (by rw [e]; rfl) (i * 6 + j) x (lcs_at hq hx)
    rw [Addr.add_lit] at this
    rw [show 0 + i * 6 + j = 0 + (i * 6 + j) by omega]
    exact this
theorem RW.len (h : RW Ex w u mb sa sc ra rc S v) : ∃ a cap, v = .slice a S.under.length cap ∧ (a = none ∧ S.under = [] ∧ cap = 0 ∨ ∃ g, a = some ⟨g, 0, none⟩ ∧ S.under.length ≤ cap ∧ w.heap.size ≤ g ∧ g < u.heap.size ∧ g ≠ mb ∧ Lts u g 0 S.under) := by
  rcases h.form with ⟨e, l⟩ | ⟨g, cap, e, q⟩
  · exact ⟨none, 0, by rw [e, l]; rfl, Or.inl ⟨rfl, l, rfl⟩⟩
  · exact ⟨_, cap, e, Or.inr ⟨g, rfl, q⟩⟩
theorem RW.on (hb : Below u.heap.size u u') (h : RW Ex w u mb sa sc ra rc S v) : RW Ex w u' mb sa sc ra rc S v := by
  refine ⟨Row.on hb h.r, h.o.kept (row := none) ⟨hb.os, hb.tape, hb.output, hb.size, fun k hk _ => hb.block k hk⟩ ?_, h.hs, h.hr, rbel_on hb h.hw, h.ne, h.lo⟩
  cases v.ownBlock with
  | none => exact Or.inl rfl
  | some k => exact Or.inr (by simp)
theorem RW.kp (hb : Below u.heap.size u u') : Kp u u' mb v v := ⟨.of hb, fun _ h => Or.inl h⟩
theorem RW.hand (h : RW Ex w u mb sa sc ra rc S v) (hI : S.I) : ∃ a cap, v = .slice a S.under.length cap ∧ WHanded u a S.under := by
  have := hI.un
  obtain ⟨a, cap, e, q⟩ := h.len
  refine ⟨a, cap, e, by omega, ?_⟩
  rcases q with ⟨_, l, _⟩ | ⟨g, e, _, _, _, _, hL⟩
  · exact Or.inl l
  · exact Or.inr ⟨g, 0, e, hL⟩
/-- What it keeps is as it was. -/
theorem RW.keep (hm : u'.heap[mb]? = u.heap[mb]?) (hv : ∀ g, v.ownBlock = some g → u'.heap[g]? = u.heap[g]?) (hw' : Below w.heap.size w u') (h : RW Ex w u mb sa sc ra rc S v) : RW Ex w u' mb sa sc ra rc S v := by
  refine ⟨row_block hm h.r, ⟨h.o.1, ?_⟩, h.hs, h.hr, hw', h.ne, h.lo⟩
  rcases h.o.2 with q | ⟨g, cap, cur, e, hb, hg, q⟩
  · exact Or.inl q
  · exact Or.inr ⟨g, cap, cur, e, hb, (hv g (by rw [e]; rfl)).trans hg, q⟩
/-- Six cells of a block. -/
def six (u : World) (b : Nat) (a0 a1 a2 a3 a4 a5 : Value) : World := (((((u.setCell ⟨b, 0, none⟩ a0).setCell ⟨b, 1, none⟩ a1).setCell ⟨b, 2, none⟩ a2).setCell ⟨b, 3, none⟩ a3).setCell ⟨b, 4, none⟩ a4).setCell ⟨b, 5, none⟩ a5
theorem six_keeps {T : Nat → Prop} {u1 : World} {b : Nat} {a0 a1 a2 a3 a4 a5 : Value} (hb : T b) (h : Keeps T u u1) : Keeps T u (six u1 b a0 a1 a2 a3 a4 a5) :=
  .put hb (.put hb (.put hb (.put hb (.put hb (.put hb h)))))
theorem RW.six {b : Nat} {a0 a1 a2 a3 a4 a5 : Value} (h : RW Ex w u mb sa sc ra rc S v) (h1 : b ≠ mb) (h2 : v.ownBlock ≠ some b) (h3 : w.heap.size ≤ b) : RW Ex w (six u b a0 a1 a2 a3 a4 a5) mb sa sc ra rc S v := by
  have k : Keeps (fun k => k = b) u (Go.Proofs.YtkmbllkkccelaahDoor.six u b a0 a1 a2 a3 a4 a5) := six_keeps rfl (.refl _ _)
  refine RW.keep (k.block mb h.r.lt (fun e => h1 e.symm)) (fun g hg => k.block g (h.o.lt g hg).2 (fun e => h2 (by rw [hg, e]))) (h.hw.trans (k.below h.hw.size (fun i hi => by rw [hi]; exact h3))) h
theorem Kp.six {u1 : World} {v' : Value} {b : Nat} {a0 a1 a2 a3 a4 a5 : Value} (h : Kp u u1 mb v v') (hb : u.heap.size ≤ b) : Kp u (six u1 b a0 a1 a2 a3 a4 a5) mb v v' := by
  refine ⟨?_, h.2⟩
  have k : Keeps (fun k => k = b) u1 (Go.Proofs.YtkmbllkkccelaahDoor.six u1 b a0 a1 a2 a3 a4 a5) := six_keeps rfl (.refl _ _)
  exact ⟨k.os.trans h.1.os, k.tape.trans h.1.tape, k.output.trans h.1.output, Nat.le_trans h.1.size k.size, fun i hi hn => (k.block i (Nat.lt_of_lt_of_le hi h.1.size) (fun e => by omega)).trans (h.1.block i hi hn)⟩
/-- Later. -/
theorem RW.late {W : World} {t : Int} (h : RW Ex w u mb sa sc ra rc S v) (hW : Below u.heap.size u W) : RW Ex w (W.setCell ⟨mb, 2, none⟩ (.int .i64 t)) mb sa sc ra rc { S with time := t } v ∧ Kp u (W.setCell ⟨mb, 2, none⟩ (.int .i64 t)) mb v v := by
  have k0 : Keeps (fun k => k = mb ∨ v.ownBlock = some k) u (W.setCell ⟨mb, 2, none⟩ (.int .i64 t)) := Keeps.put (Or.inl rfl) (Keeps.of hW)
  have h0 := RW.on hW h
  exact ⟨⟨Row.put 2 h0.r, ownsRow_setCell_other h0.o (a := ⟨mb, 2, none⟩) h0.ne _, h.hs, h.hr, h.hw.trans (k0.below h.hw.size (by
    rintro k (e | e)
    · rw [e]; exact h.lo
    · exact (h.o.lt k e).1)), h.ne, h.lo⟩, k0, fun _ h => Or.inl h⟩
/-- Behind calls that lay blocks and turn none. -/
theorem RW.has (h : RW Ex w u mb sa sc ra rc S v) (i : Int) : Calls Tryd.prog 23 #[.pointer (some ⟨mb, 0, none⟩), .int .i64 i] u fun o w' => o = .returned (.bool (decide (0 ≤ i ∧ i < S.n))) ∧ Below u.heap.size u w' :=
  rhas mb S.n sc sa i u h.hs.1 (h.r.c 0 _ rfl)
theorem RW.read (h : RW Ex w u mb sa sc ra rc S v) (hI : S.I) {i : Nat} (hi : i < S.n) : Calls Tryd.prog 15 #[.pointer (some ⟨mb, 0, none⟩), .int .i64 i] u fun o w' => o = .returned (.int .i64 (S.rd i)) ∧ Below u.heap.size u w' :=
  rread mb S.n sc rc sa ra S i u hI rfl hi (h.r.c 0 _ rfl) (h.r.c 1 _ rfl) (h.r.c 2 _ rfl) (h.hs.on h.hw) (h.hr.on h.hw)
/-- Letters in a row of this call's own. -/
theorem RW.turn {X : World} {v' : Value} {l : List Lt} {m : Nat} (h : RW Ex w u mb sa sc ra rc S v) (hX : Below u.heap.size u X) (ho : X.ownsRow w.heap.size 37 6 v' m (lcs l)) (hm : m = l.length) (hb : ∀ g, v'.ownBlock = some g → u.heap.size ≤ g) :
    RW Ex w (X.setCell ⟨mb, 3, none⟩ v') mb sa sc ra rc { S with under := l } v' ∧ Kp u (X.setCell ⟨mb, 3, none⟩ v') mb v v' := by
  subst hm
  have lt : mb < u.heap.size := h.r.lt
  have ne' : v'.ownBlock ≠ some mb := fun e => by have := hb mb e; omega
  have K : Keeps (fun k => k = mb ∨ v.ownBlock = some k) u (X.setCell ⟨mb, 3, none⟩ v') := Keeps.put (Or.inl rfl) (Keeps.of hX)
  refine ⟨⟨Row.put 3 (RW.on hX h).r, ownsRow_setCell_other ho (a := ⟨mb, 3, none⟩) ne' v', h.hs, h.hr, h.hw.trans (K.below h.hw.size ?_), ne', h.lo⟩, K, ?_⟩
  · rintro k (e | e)
    · rw [e]; exact h.lo
    · exact (h.o.lt k e).1
  · exact fun g hg => Or.inr (hb g hg)
/-- A letter more, behind all. -/
theorem RW.more {W w1 : World} {v' : Value} {l : Lt} (h : RW Ex w u mb sa sc ra rc S v) (hW : Below u.heap.size u W) (ho : w1.ownsRow w.heap.size 37 6 v' (S.under.length + 1) (lcs S.under ++ ltc l)) (hg : W.grownBy w1 v.ownBlock) (ha : v'.ownBlock = v.ownBlock ∨ v'.ownBlock = some W.heap.size) :
    RW Ex w (w1.setCell ⟨mb, 3, none⟩ v') mb sa sc ra rc { S with under := S.under ++ [l] } v' ∧ Kp u (w1.setCell ⟨mb, 3, none⟩ v') mb v v' := by
  have hW' := RW.on hW h
  have lt : mb < u.heap.size := h.r.lt
  have sz := hW.size
  have sz1 := hg.size
  have ne' : v'.ownBlock ≠ some mb := by
    rcases ha with e | e
    · rw [e]; exact h.ne
    · rw [e]; intro q; injection q with q; omega
  have kg : Keeps (fun k => k = mb ∨ v.ownBlock = some k) W w1 := ⟨hg.os, hg.tape, hg.output, hg.size, fun k hk hn => hg.block k hk (fun e => hn (Or.inr e.symm))⟩
  have K : Keeps (fun k => k = mb ∨ v.ownBlock = some k) u (w1.setCell ⟨mb, 3, none⟩ v') := Keeps.put (Or.inl rfl) ((Keeps.of hW).trans kg)
  have rw1 : Row w1 mb (.slice sa S.n sc :: .slice ra S.n rc :: .int .i64 S.time :: v :: Ex) := by
    refine (Keeps.row (S := fun k => v.ownBlock = some k) ⟨hg.os, hg.tape, hg.output, hg.size, fun k hk hn => hg.block k hk (fun e => hn e.symm)⟩ h.ne hW'.r)
  refine ⟨⟨Row.put 3 rw1, ?_, h.hs, h.hr, h.hw.trans (K.below h.hw.size ?_), ne', h.lo⟩, K, ?_⟩
  · show (w1.setCell ⟨mb, 3, none⟩ v').ownsRow w.heap.size 37 6 v' (S.under ++ [l]).length (lcs (S.under ++ [l]))
    rw [lcs_app, List.length_append]
    exact ownsRow_setCell_other (by simpa [lcs] using ho) (a := ⟨mb, 3, none⟩) ne' v'
  · rintro k (e | e)
    · rw [e]; exact h.lo
    · exact (h.o.lt k e).1
  · intro g hg
    rcases ha with e | e
    · exact Or.inl (e.symm.trans hg)
    · rw [e] at hg; injection hg with hg; exact Or.inr (by omega)
end
end Go.Proofs.YtkmbllkkccelaahDoor
