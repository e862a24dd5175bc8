/- What a block of the call's own holds behind makings, stores, draws and calls, as one fact, of however many cells: so that a walk carries each struct in one name. -/
import Derived.Test.YthejaecljkjliabDoorSpan
import Derived.WalkKit
import Derived.Deep.Draws
import Derived.RowKit3
import Derived.Deep.RegionHeld
namespace Go.Proofs.YthejaecljkjliabDoor
open Go.ChangeShapes Go.WideShapes Go.ChangeAt Go.RowKit
set_option linter.unusedVariables false

structure Row (u : World) (b : Nat) (vs : List Value) : Prop where
  c : ∀ i v, vs[i]? = some v → u.cell? ⟨b, i, none⟩ = some v
  f : ∀ i v, vs[i]? = some v → u.frozen? ⟨b, i, none⟩ = false

section
variable {W u w : World} {cs : Array Value} {t : TypeId} {b b' : Nat} {vs : List Value} {n i : Nat} {a : Addr} {x : Value} {ob : Obj}
theorem Row.lt (h : Row u b (x :: vs)) : b < u.heap.size := World.block_lt_of_cell? _ _ (h.c 0 x rfl)
theorem Row.on (hb : Below W.heap.size W u) (h : Row W b vs) : Row u b vs :=
  ⟨fun i v hv => by rw [hb.cell (World.block_lt_of_cell? _ _ (h.c i v hv))]; exact h.c i v hv, fun i v hv => by rw [hb.frozen (World.block_lt_of_cell? _ _ (h.c i v hv))]; exact h.f i v hv⟩
theorem Row.al (h : Row W b vs) : Row (W.alloc (.cells cs t)) b vs :=
  ⟨fun i v hv => by rw [World.cell?_alloc_lt _ _ _ (World.block_lt_of_cell? _ _ (h.c i v hv))]; exact h.c i v hv, fun i v hv => by rw [frozen?_alloc_cells]; exact h.f i v hv⟩
theorem Row.made (hb : b = W.heap.size) : Row (W.alloc (.cells vs.toArray t)) b vs :=
  ⟨fun i v hv => by rw [World.cell?_alloc_at _ _ _ _ hb]; simpa using hv, fun i v hv => World.frozen?_alloc_at _ _ _ _ hb⟩
theorem Row.dr (h : Row W b vs) : Row W.drew b vs := ⟨fun i v hv => h.c i v hv, fun i v hv => h.f i v hv⟩
theorem Row.drn (h : Row W b vs) : Row (W.drewN n) b vs := ⟨fun i v hv => h.c i v hv, fun i v hv => h.f i v hv⟩
theorem Row.put (i : Nat) (h : Row W b vs) : Row (W.setCell ⟨b, i, none⟩ x) b (vs.set i x) := by
  refine ⟨fun j v hv => ?_, fun j v hv => ?_⟩
  · by_cases e : i = j
    · subst e
      rw [List.getElem?_set_self'] at hv
      cases hx : vs[i]? with
      | none => rw [hx] at hv; cases hv
      | some y =>
        rw [hx] at hv
        obtain rfl := Option.some.inj hv
        exact World.cell?_setCell_same _ _ _ (h.c i y hx)
    · rw [List.getElem?_set_ne e] at hv
      rw [World.cell?_setCell_other _ _ _ _ (fun q => e (by injection q))]; exact h.c j v hv
  · rw [World.frozen?_setCell]
    by_cases e : i = j
    · subst e
      rw [List.getElem?_set_self'] at hv
      cases hx : vs[i]? with
      | none => rw [hx] at hv; cases hv
      | some y => exact h.f i y hx
    · rw [List.getElem?_set_ne e] at hv; exact h.f j v hv
theorem Row.far (hne : b' ≠ b) (h : Row W b vs) : Row (W.setCell ⟨b', i, none⟩ x) b vs :=
  ⟨fun j v hv => by rw [World.cell?_setCell_far _ _ _ _ hne]; exact h.c j v hv, fun j v hv => by rw [World.frozen?_setCell]; exact h.f j v hv⟩
theorem rbel_on (hb : Below W.heap.size W u) (h : Below w.heap.size w W) : Below w.heap.size w u := h.trans (hb.mono h.size)
theorem rbel_al (h : Below w.heap.size w W) : Below w.heap.size w (W.alloc ob) := h.alloc h.size _
theorem rbel_put (hne : w.heap.size ≤ b) (h : Below w.heap.size w W) : Below w.heap.size w (W.setCell ⟨b, i, none⟩ x) := h.setCell (p := ⟨b, i, none⟩) hne _
theorem rbel_dr (h : Below w.heap.size w W) : Below w.heap.size w W.drew := h.drew
theorem rbel_drn (h : Below w.heap.size w W) : Below w.heap.size w (W.drewN n) := ⟨h.os, h.tape, h.output, h.size, h.block⟩
end
end Go.Proofs.YthejaecljkjliabDoor
