/- Two nodes side by side, the program's and the document's. -/
import Derived.Test.YtmomcaodmdlnpahDoorNodeRefN
import Derived.Test.YtmomcaodmdlnpahDoorNodeRefD
import Derived.Test.YtmomcaodmdlnpahDoorNodeOpen
import Derived.Test.YtmomcaodmdlnpahDoorNodeRefF
import Derived.Test.YtmomcaodmdlnpahDoorSameBSE
namespace Go.Proofs.YtmomcaodmdlnpahDoor
open Go.ChangeShapes Go.WideShapes Go.ChangeAt Go.RowKit Go.Joins
set_option linter.unusedVariables false

theorem StS.hand {u : World} {s : Nat} {c : Nd} {t : Int} (h6 : c.n ≤ 6) (h : StS u s c.n c t) : SHanded u (some ⟨s, 0, none⟩) c.n (c.so t) ∧ BHanded u (some ⟨s + 1, 0, none⟩) c.n c.ho := by
  refine ⟨⟨by omega, Or.inr ⟨s, 0, rfl, fun j hj => ⟨?_, ?_⟩⟩⟩, ⟨by omega, Or.inr ⟨s + 1, 0, rfl, fun j hj => ?_⟩⟩⟩
  · have := h.a j hj; rw [if_pos hj] at this; simpa using this
  · have := h.b j hj; rw [if_pos hj] at this; simpa using this
  · have := h.h j hj; rw [if_pos hj] at this; simpa using this
/-- What the document's Spans answers, as it is handed over. -/
theorem rnspans_h (b : Nat) (c : Nd) (t e : Int) (u : World) (hR : RN u b c) (hI : c.I) (h : SpR c t e) :
    Calls Tryd.prog 23 #[.pointer (some ⟨b, 0, none⟩), .int .i64 t] u fun o w' => (∃ (sa : Option Addr) (sc : Nat) (ha : Option Addr) (hc : Nat), o = .returned (.tuple #[.slice sa (nOf e c.n) sc, .slice ha (nOf e c.n) hc, .int .i64 e]) ∧ SHanded w' sa (nOf e c.n) (c.so t) ∧ BHanded w' ha (nOf e c.n) c.ho) ∧ Below u.heap.size u w' :=
  (rnspans_at b c t e u hR hI h).mono fun o w' ⟨q, hw⟩ => by
    refine ⟨?_, hw⟩
    rcases q with ⟨rfl, q, s⟩ | ⟨hz, q⟩
    · obtain ⟨h1, h2⟩ := s.hand hI.n6
      exact ⟨_, c.n, _, c.n, q, h1, h2⟩
    · have n0 : nOf e c.n = 0 := if_neg hz
      rw [n0]
      exact ⟨none, 0, none, 0, q, ⟨by omega, Or.inl rfl⟩, ⟨by omega, Or.inl rfl⟩⟩
/-- Both, side by side. -/
structure Ns (w : World) (C : Np w) (u : World) (b : Nat) (F : Nat → Prop) (c : Nd) (mb : Nat) (m : Nd) : Prop where
  r : C.R u b F c
  i : c.I
  im : m.I
  lo : ∀ k, F k → w.heap.size ≤ k
  hw : Below w.heap.size w u
  m : RN u mb m
  nf : ¬ F mb
  lm : w.heap.size ≤ mb
section
variable {w u u' : World} {C : Np w} {b mb : Nat} {F F' : Nat → Prop} {c c' m m' : Nd}
theorem Ns.on (g : Ns w C u b F c mb m) (hb : Below u.heap.size u u') : Ns w C u' b F c mb m := ⟨C.on g.r hb.size (fun k hk => hb.block k (C.lt g.r k hk)), g.i, g.im, g.lo, rbel_on hb g.hw, RN.on hb g.m, g.nf, g.lm⟩
/-- The document's one goes on. -/
theorem Ns.goM (g : Ns w C u b F c mb m) (h : RN u' mb m') (hi : m'.I) (k : Keeps (fun i => i = mb) u u') : Ns w C u' b F c mb m' :=
  ⟨C.on g.r k.size (fun i hi => k.block i (C.lt g.r i hi) (fun e => g.nf (e ▸ hi))), g.i, hi, g.lo, g.hw.trans (k.below g.hw.size (fun i hi => by rw [hi]; exact g.lm)), h, g.nf, g.lm⟩
/-- The program's one goes on. -/
theorem Ns.go (g : Ns w C u b F c mb m) (h : C.R u' b F' c') (hi : c'.I) (k : Keeps F u u') (hF : ∀ i, F' i → F i ∨ u.heap.size ≤ i) : Ns w C u' b F' c' mb m :=
  ⟨h, hi, g.im, fun i hi => (hF i hi).elim (g.lo i) (fun q => Nat.le_trans g.hw.size q), g.hw.trans (k.below g.hw.size g.lo), RN.block (k.block mb g.m.lt g.nf) g.m, fun q => by
    have := g.m.lt
    rcases hF mb q with e | e
    · exact g.nf e
    · omega, g.lm⟩
end
end Go.Proofs.YtmomcaodmdlnpahDoor
