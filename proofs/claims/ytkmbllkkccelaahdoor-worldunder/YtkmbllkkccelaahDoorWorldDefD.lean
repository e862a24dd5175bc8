/- What package world must answer of letters. -/
import Derived.Test.YtkmbllkkccelaahDoorWorldDef
namespace Go.Proofs.YtkmbllkkccelaahDoor
open Go.ChangeShapes Go.WideShapes Go.ChangeAt Go.RowKit
set_option linter.unusedVariables false

/-- Package world, whole. -/
structure WpD (w0 : World) extends Wp w0 where
  answer : ∀ (b : Nat) (F : Nat → Prop) (S S' : Ws) (l : Lt) (e : Int) (u : World), R u b F S → S.I → In64 l.frm → In64 l.to → AnR S l S' e → Calls Tryd.prog 11 #[.pointer (some ⟨b, 0, none⟩), ltv l] u fun o w' => ∃ F', o = .returned (errc e) ∧ R w' b F' S' ∧ Keeps F u w' ∧ ∀ k, F' k → F k ∨ u.heap.size ≤ k
  way : ∀ (b : Nat) (F : Nat → Prop) (S : Ws) (u : World), R u b F S → S.I → Calls Tryd.prog 8 #[.pointer (some ⟨b, 0, none⟩)] u fun o w' => ∃ (la : Option Addr) (cap : Nat), o = .returned (.slice la S.under.length cap) ∧ WHanded w' la S.under ∧ Below u.heap.size u w'
/-- A world of clocks as a law has it on the way. -/
structure Dwd (w : World) (C : WpD w) (u : World) (b : Nat) (F : Nat → Prop) (S : Ws) : Prop where
  h : C.R u b F S
  i : S.I
  lo : ∀ k, F k → w.heap.size ≤ k
  hw : Below w.heap.size w u
section
variable {w u v : World} {C : WpD w} {b : Nat} {F : Nat → Prop} {S S' : Ws}
theorem Dwd.on (g : Dwd w C u b F S) (hb : Below u.heap.size u v) : Dwd w C v b F S := ⟨C.on g.h hb.size (fun k hk => hb.block k (C.lt g.h k hk)), g.i, g.lo, rbel_on hb g.hw⟩
theorem Dwd.made (C : WpD w) {sa ra : Option Addr} {n sc m rc : Nat} {z r : Nat → Int} {ppm : Int} (hu : Below w.heap.size w u) (h1 : NHanded u sa n z) (h2 : NHanded u ra m r) (hp : In64 ppm) (hE : BeE n z m r ppm 0) : Calls Tryd.prog 5 #[.slice sa n sc, .slice ra m rc, .int .i64 ppm] u fun o w' => ∃ b F, o = .returned (.tuple #[.pointer (some ⟨b, 0, none⟩), .nilIface]) ∧ Dwd w C w' b F (ws0 n z r) :=
  (C.new sa n sc z ra m rc r ppm 0 u hu h1 h2 hp hE).mono (by
    rintro o w' ⟨pv, rfl, hb, h⟩
    obtain ⟨b, F, rfl, h1, h2⟩ := h rfl
    rw [errc_zero]
    exact ⟨b, F, rfl, h1, ws0_i hE, fun k hk => Nat.le_trans hu.size (h2 k hk), rbel_on hb hu⟩)
theorem Dwd.act (g : Dwd w C u b F S) {wh x y e : Int} {r : Option Lt} (h1 : In64 wh) (h2 : In64 x) (h3 : In64 y) (hD : DoR S wh x y S' r e) : Calls Tryd.prog 6 #[.pointer (some ⟨b, 0, none⟩), .agg #[.int .i64 wh, .int .i64 x, .int .i64 y]] u fun o w' => ∃ pv F', o = .returned (.tuple #[pv, errc e]) ∧ Cme u w' F' pv r ∧ Dwd w C w' b F' S' ∧ Keeps F u w' ∧ ∀ k, F' k → F k ∨ u.heap.size ≤ k :=
  (C.act b F S S' wh x y e r u g.h g.i h1 h2 h3 hD).mono (by
    rintro o w' ⟨pv, F', rfl, hc, h1, hK, hF⟩
    have sz := g.hw.size
    exact ⟨pv, F', rfl, hc, ⟨h1, hD.i g.i, fun k hk => (hF k hk).elim (g.lo k) (fun h => Nat.le_trans sz h), g.hw.trans (hK.below sz g.lo)⟩, hK, hF⟩)
theorem Dwd.answer (g : Dwd w C u b F S) {l : Lt} {e : Int} (h1 : In64 l.frm) (h2 : In64 l.to) (hD : AnR S l S' e) : Calls Tryd.prog 11 #[.pointer (some ⟨b, 0, none⟩), ltv l] u fun o w' => ∃ F', o = .returned (errc e) ∧ Dwd w C w' b F' S' ∧ Keeps F u w' ∧ ∀ k, F' k → F k ∨ u.heap.size ≤ k :=
  (C.answer b F S S' l e u g.h g.i h1 h2 hD).mono (by
    rintro o w' ⟨F', rfl, h1, hK, hF⟩
    have sz := g.hw.size
    exact ⟨F', rfl, ⟨h1, hD.i g.i, fun k hk => (hF k hk).elim (g.lo k) (fun h => Nat.le_trans sz h), g.hw.trans (hK.below sz g.lo)⟩, hK, hF⟩)
end
end Go.Proofs.YtkmbllkkccelaahDoor
