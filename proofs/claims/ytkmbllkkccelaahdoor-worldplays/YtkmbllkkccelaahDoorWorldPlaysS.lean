/- Two worlds of clocks side by side, the program's and the document's. -/
import Derived.Test.YtkmbllkkccelaahDoorWorldRefX
import Derived.Test.YtkmbllkkccelaahDoorWorldDefD
import Derived.Test.YtkmbllkkccelaahDoorTold
import Derived.Test.YtkmbllkkccelaahDoorSameLetters
import Derived.Test.YtkmbllkkccelaahDoorWorldOpenA
namespace Go.Proofs.YtkmbllkkccelaahDoor
open Go.ChangeShapes Go.WideShapes Go.ChangeAt Go.RowKit Go.Joins
set_option linter.unusedVariables false

/-- Letters under way go from clock to clock. -/
def Ws.U (S : Ws) : Prop := ∀ q ∈ S.under, S.hs q.frm ∧ S.hs q.to
theorem ws0_u {n : Nat} {z r : Nat → Int} : (ws0 n z r).U := fun q hq => by cases hq
theorem U.app {S : Ws} {l : Lt} (g : S.U) (h1 : S.hs l.frm) (h2 : S.hs l.to) : ({ S with under := S.under ++ [l] } : Ws).U := fun q hq => by
  rcases List.mem_append.1 hq with h | h
  · exact g q h
  · rw [List.mem_singleton.1 h]; exact ⟨h1, h2⟩
theorem U.era {S : Ws} {k : Nat} (g : S.U) : ({ S with under := S.under.eraseIdx k } : Ws).U := fun q hq => g q (List.mem_of_mem_eraseIdx hq)
theorem DoR.u {S S' : Ws} {wh a b e : Int} {r : Option Lt} (h : DoR S wh a b S' r e) (g : S.U) : S'.U ∧ ∀ l, r = some l → S'.hs l.frm ∧ S'.hs l.to := by
  rcases h with ⟨_, _, rfl, rfl, _⟩ | ⟨_, c, rfl, rfl, _⟩ | ⟨_, _, rfl, rfl, _⟩ | ⟨_, _, _, rfl, rfl, _⟩ | ⟨_, _, _, _, rfl, rfl, _⟩ | ⟨_, h, _, l, rfl, rfl, _⟩ | ⟨_, _, rfl, rfl, _⟩ | ⟨_, _, rfl, rfl, _⟩ | ⟨_, _, rfl, rfl, _⟩ | ⟨_, _, rfl, rfl, _⟩ | ⟨_, rfl, rfl, _⟩
  · exact ⟨g, fun l h => by cases h⟩
  · exact ⟨g, fun l h => by cases h⟩
  · exact ⟨g, fun l h => by cases h⟩
  · exact ⟨g, fun l h => by cases h⟩
  · exact ⟨g, fun l h => by cases h⟩
  · exact ⟨U.app g h.1 h.2, fun l h => by cases h⟩
  · exact ⟨g, fun l h => by cases h⟩
  · exact ⟨U.era g, fun l h => g l (List.mem_of_getElem? h)⟩
  · exact ⟨U.era g, fun l h => by cases h⟩
  · exact ⟨g, fun l h => g l (List.mem_of_getElem? h)⟩
  · exact ⟨g, fun l h => by cases h⟩
theorem AnR.u {S S' : Ws} {l : Lt} {e : Int} (h : AnR S l S' e) (g : S.U) : S'.U := by
  rcases h with ⟨_, rfl, _⟩ | ⟨_, _, rfl, _⟩ | ⟨_, _, _, rfl, _⟩ | ⟨_, q, _, rfl, _⟩
  · exact g
  · exact g
  · exact g
  · exact U.app g q.2 q.1
theorem hs_in {S : Ws} {i : Int} (hI : S.I) (h : S.hs i) : In64 i := by
  have := hI.n6
  obtain ⟨a, b⟩ := h
  exact WalkArith.wf_i64 (by omega)
theorem DoR.n {S S' : Ws} {wh a b e : Int} {r : Option Lt} (h : DoR S wh a b S' r e) : S'.n = S.n := by
  rcases h with ⟨_, _, rfl, _⟩ | ⟨_, c, rfl, _⟩ | ⟨_, _, rfl, _⟩ | ⟨_, _, _, rfl, _⟩ | ⟨_, _, _, _, rfl, _⟩ | ⟨_, _, _, l, rfl, _⟩ | ⟨_, _, rfl, _⟩ | ⟨_, _, rfl, _⟩ | ⟨_, _, rfl, _⟩ | ⟨_, _, rfl, _⟩ | ⟨_, rfl, _⟩ <;> rfl
theorem AnR.n {S S' : Ws} {l : Lt} {e : Int} (h : AnR S l S' e) : S'.n = S.n := by
  rcases h with ⟨_, rfl, _⟩ | ⟨_, _, rfl, _⟩ | ⟨_, _, _, rfl, _⟩ | ⟨_, q, _, rfl, _⟩ <;> rfl
/-- Both, side by side. -/
structure Ps (w : World) (C : WpD w) (u : World) (b : Nat) (F : Nat → Prop) (S : Ws) (mb : Nat) (sa : Option Addr) (sc : Nat) (ra : Option Addr) (rc : Nat) (M : Ws) (v : Value) : Prop where
  d : Dwd w C u b F S
  m : RW [] w u mb sa sc ra rc M v
  nf : ¬ F mb
  ng : ∀ g, v.ownBlock = some g → ¬ F g
section
variable {w u u' : World} {C : WpD w} {b mb sc rc : Nat} {F F' : Nat → Prop} {S S' M M' : Ws} {sa ra : Option Addr} {v v' : Value}
theorem Ps.on (g : Ps w C u b F S mb sa sc ra rc M v) (hb : Below u.heap.size u u') : Ps w C u' b F S mb sa sc ra rc M v := ⟨g.d.on hb, g.m.on hb, g.nf, g.ng⟩
/-- The document's one goes on. -/
theorem Ps.goM (g : Ps w C u b F S mb sa sc ra rc M v) (h : RW [] w u' mb sa sc ra rc M' v') (k : Kp u u' mb v v') : Ps w C u' b F S mb sa sc ra rc M' v' := by
  refine ⟨⟨C.on g.d.h k.1.size (fun i hi => k.1.block i (C.lt g.d.h i hi) ?_), g.d.i, g.d.lo, h.hw⟩, h, g.nf, fun i hi hf => ?_⟩
  · rintro (e | e)
    · exact g.nf (e ▸ hi)
    · exact g.ng i e hi
  · rcases k.2 i hi with e | e
    · exact g.ng i e hf
    · have := C.lt g.d.h i hf; omega
/-- The program's one goes on. -/
theorem Ps.go (g : Ps w C u b F S mb sa sc ra rc M v) (h : Dwd w C u' b F' S') (k : Keeps F u u') (hF : ∀ i, F' i → F i ∨ u.heap.size ≤ i) : Ps w C u' b F' S' mb sa sc ra rc M v := by
  have lt : mb < u.heap.size := g.m.r.lt
  refine ⟨h, RW.keep (k.block mb lt g.nf) (fun i hi => k.block i (g.m.o.lt i hi).2 (g.ng i hi)) h.hw g.m, fun q => ?_, fun i hi q => ?_⟩
  · rcases hF mb q with e | e
    · exact g.nf e
    · omega
  · have := (g.m.o.lt i hi).2
    rcases hF i q with e | e
    · exact g.ng i hi e
    · omega
/-- A row of the law's own stands. -/
theorem Ps.row {V : Nat} {vs : List Value} (g : Ps w C u b F S mb sa sc ra rc M v) (k : Keeps F u u') (hV : ¬ F V) (r : Row u V vs) : Row u' V vs := k.row hV r
theorem Kp.row {V : Nat} {vs : List Value} (k : Kp u u' mb v v') (h1 : V ≠ mb) (h2 : v.ownBlock ≠ some V) (r : Row u V vs) : Row u' V vs := k.1.row (fun e => e.elim h1 h2) r
/-- A block of the law's own beside them. -/
structure Lb (u : World) (F : Nat → Prop) (mb : Nat) (v : Value) (V : Nat) (vs : List Value) : Prop where
  r : Row u V vs
  nf : ¬ F V
  nv : v.ownBlock ≠ some V
  nm : V ≠ mb
theorem Lb.on {V : Nat} {x : Value} {vs : List Value} (h : Lb u F mb v V (x :: vs)) (hb : Below u.heap.size u u') : Lb u' F mb v V (x :: vs) := ⟨Row.on hb h.r, h.nf, h.nv, h.nm⟩
theorem Lb.goM {V : Nat} {x : Value} {vs : List Value} (h : Lb u F mb v V (x :: vs)) (k : Kp u u' mb v v') : Lb u' F mb v' V (x :: vs) :=
  ⟨Kp.row k h.nm h.nv h.r, h.nf, fun e => by
    have := h.r.lt
    rcases k.2 V e with q | q
    · exact h.nv q
    · omega, h.nm⟩
theorem Lb.go {V : Nat} {x : Value} {vs : List Value} (h : Lb u F mb v V (x :: vs)) (k : Keeps F u u') (hF : ∀ i, F' i → F i ∨ u.heap.size ≤ i) : Lb u' F' mb v V (x :: vs) :=
  ⟨k.row h.nf h.r, fun e => by
    have := h.r.lt
    rcases hF V e with q | q
    · exact h.nf q
    · omega, h.nv, h.nm⟩
theorem Lb.made {V : Nat} {x : Value} {vs : List Value} (g : Ps w C u b F S mb sa sc ra rc M v) (e : V = u.heap.size) (t : TypeId) : Lb (u.alloc (.cells (x :: vs).toArray t)) F mb v V (x :: vs) :=
  ⟨Row.made e, fun h => by have := C.lt g.d.h V h; omega, fun h => by have := (g.m.o.lt V h).2; omega, fun h => by have := g.m.r.lt; omega⟩
end
end Go.Proofs.YtkmbllkkccelaahDoor
