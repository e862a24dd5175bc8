/- What a block of two cells holds behind makings, stores, draws and calls, as one fact: so that a walk carries each span in one name. -/
import Derived.Test.YtdhgfdbghfefnaaDoorSpan
import Derived.WalkKit
import Derived.Deep.Draws
import Derived.Deep.RegionHeld
import Derived.RowKit3
namespace Go.Proofs.YtdhgfdbghfefnaaDoor
open Go.ChangeShapes Go.WideShapes Go.ChangeAt Go.RowKit
set_option linter.unusedVariables false

structure Two (u : World) (b : Nat) (v0 v1 : Value) : Prop where
  c0 : u.cell? ⟨b, 0, none⟩ = some v0
  c1 : u.cell? ⟨b, 1, none⟩ = some v1
  f0 : u.frozen? ⟨b, 0, none⟩ = false
  f1 : u.frozen? ⟨b, 1, none⟩ = false

section
variable {W u w : World} {cs : Array Value} {t : TypeId} {b b' : Nat} {v0 v1 x0 x1 : Value} {n : Nat} {a : Addr} {x : Value} {ob : Obj}
theorem Two.lt (h : Two u b v0 v1) : b < u.heap.size := World.block_lt_of_cell? _ _ h.c0
theorem Two.on (hb : Below W.heap.size W u) (h : Two W b v0 v1) : Two u b v0 v1 :=
  ⟨by rw [hb.cell (World.block_lt_of_cell? _ _ h.c0)]; exact h.c0, by rw [hb.cell (World.block_lt_of_cell? _ _ h.c1)]; exact h.c1,
   by rw [hb.frozen (World.block_lt_of_cell? _ _ h.c0)]; exact h.f0, by rw [hb.frozen (World.block_lt_of_cell? _ _ h.c1)]; exact h.f1⟩
theorem Two.al (h : Two W b v0 v1) : Two (W.alloc (.cells cs t)) b v0 v1 :=
  ⟨by rw [World.cell?_alloc_lt _ _ _ (World.block_lt_of_cell? _ _ h.c0)]; exact h.c0, by rw [World.cell?_alloc_lt _ _ _ (World.block_lt_of_cell? _ _ h.c1)]; exact h.c1,
   by rw [frozen?_alloc_cells]; exact h.f0, by rw [frozen?_alloc_cells]; exact h.f1⟩
theorem Two.made (hb : b = W.heap.size) : Two (W.alloc (.cells #[v0, v1] t)) b v0 v1 :=
  ⟨by rw [World.cell?_alloc_at _ _ _ _ hb]; rfl, by rw [World.cell?_alloc_at _ _ _ _ hb]; rfl, World.frozen?_alloc_at _ _ _ _ hb, World.frozen?_alloc_at _ _ _ _ hb⟩
theorem Two.dr (h : Two W b v0 v1) : Two W.drew b v0 v1 := ⟨h.c0, h.c1, h.f0, h.f1⟩
theorem Two.drn (h : Two W b v0 v1) : Two (W.drewN n) b v0 v1 := ⟨h.c0, h.c1, h.f0, h.f1⟩
theorem Two.put (h : Two W b x0 x1) : Two ((W.setCell ⟨b, 0, none⟩ v0).setCell ⟨b, 1, none⟩ v1) b v0 v1 := by
  have h2 : (W.setCell ⟨b, 0, none⟩ v0).cell? ⟨b, 1, none⟩ = some x1 := by rw [World.cell?_setCell_other _ _ _ _ (by simp)]; exact h.c1
  refine ⟨?_, ?_, ?_, ?_⟩
  · rw [World.cell?_setCell_other _ _ _ _ (by simp), World.cell?_setCell_same _ _ _ h.c0]
  · rw [World.cell?_setCell_same _ _ _ h2]
  · rw [World.frozen?_setCell, World.frozen?_setCell]; exact h.f0
  · rw [World.frozen?_setCell, World.frozen?_setCell]; exact h.f1
theorem Two.far (hne : b' ≠ b) (h : Two W b v0 v1) : Two ((W.setCell ⟨b', 0, none⟩ x0).setCell ⟨b', 1, none⟩ x1) b v0 v1 := by
  refine ⟨?_, ?_, ?_, ?_⟩
  · rw [World.cell?_setCell_far _ _ _ _ hne, World.cell?_setCell_far _ _ _ _ hne]; exact h.c0
  · rw [World.cell?_setCell_far _ _ _ _ hne, World.cell?_setCell_far _ _ _ _ hne]; exact h.c1
  · rw [World.frozen?_setCell, World.frozen?_setCell]; exact h.f0
  · rw [World.frozen?_setCell, World.frozen?_setCell]; exact h.f1
theorem bel_on (hb : Below W.heap.size W u) (h : Below w.heap.size w W) : Below w.heap.size w u := h.trans (hb.mono h.size)
theorem bel_al (h : Below w.heap.size w W) : Below w.heap.size w (W.alloc ob) := h.alloc h.size _
theorem bel_put (hne : w.heap.size ≤ b) (h : Below w.heap.size w W) : Below w.heap.size w ((W.setCell ⟨b, 0, none⟩ x0).setCell ⟨b, 1, none⟩ x1) :=
  (h.setCell (p := ⟨b, 0, none⟩) hne _).setCell (p := ⟨b, 1, none⟩) hne _
theorem bel_dr (h : Below w.heap.size w W) : Below w.heap.size w W.drew := h.drew
theorem bel_drn (h : Below w.heap.size w W) : Below w.heap.size w (W.drewN n) := ⟨h.os, h.tape, h.output, h.size, h.block⟩
end
end Go.Proofs.YtdhgfdbghfefnaaDoor
