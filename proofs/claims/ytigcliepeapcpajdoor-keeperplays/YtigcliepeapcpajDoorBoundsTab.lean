/- A block as it is, with its type; tables of ints and bools, row by row, as they lie in memory. -/
import Derived.Test.YtigcliepeapcpajDoorBoundsMath
import Derived.Test.YtigcliepeapcpajDoorRow
import Derived.OwnWalk
import Derived.Deep.Heap
import Derived.Deep.AppendLies
namespace Go.Proofs.YtigcliepeapcpajDoor
open Go.ChangeShapes Go.WideShapes Go.ChangeAt Go.RowKit
set_option linter.unusedVariables false

/-- A block holds just these cells, of this type. -/
def Blk (u : World) (e : TypeId) (b : Nat) (vs : List Value) : Prop := u.heap[b]? = some (.cells vs.toArray e (0, 0))
section
variable {W u w : World} {e e' : TypeId} {b b' n i : Nat} {vs vs' : List Value} {x : Value} {ob : Obj}
theorem Blk.lt (h : Blk u e b vs) : b < u.heap.size := by
  apply Classical.byContradiction
  intro k
  unfold Blk at h
  rw [Array.getElem?_eq_none (by omega)] at h
  cases h
theorem Blk.c (h : Blk u e b vs) (i : Nat) (v : Value) (hv : vs[i]? = some v) : u.cell? ⟨b, i, none⟩ = some v := by
  unfold World.cell?
  rw [show u.heap[(⟨b, i, none⟩ : Addr).block]? = some (.cells vs.toArray e (0, 0)) from h]
  simpa using hv
theorem Blk.f (h : Blk u e b vs) (i : Nat) : u.frozen? ⟨b, i, none⟩ = false := by
  unfold World.frozen?
  rw [show u.heap[(⟨b, i, none⟩ : Addr).block]? = some (.cells vs.toArray e (0, 0)) from h]
  simp
theorem Blk.ne (h : Blk u e b vs) (h' : Blk u e' b' vs') (ne : e ≠ e') : b ≠ b' := by
  rintro rfl
  unfold Blk at h h'
  rw [h] at h'
  simp at h'
  exact ne h'.2
theorem Blk.al (h : Blk W e b vs) : Blk (W.alloc ob) e b vs := (Below.heap_alloc _ _ _ h.lt).trans h
theorem Blk.made (hb : b = W.heap.size) : Blk (W.alloc (.cells vs.toArray e)) e b vs := by
  subst hb
  show (W.heap.push _)[W.heap.size]? = _
  simp
theorem Blk.dr (h : Blk W e b vs) : Blk W.drew e b vs := h
theorem Blk.drn (h : Blk W e b vs) : Blk (W.drewN n) e b vs := h
theorem Blk.on (hb : Below W.heap.size W u) (h : Blk W e b vs) : Blk u e b vs := (hb.block b h.lt).trans h
theorem Blk.grown {row : Option Nat} (hg : W.grownBy u row) (hne : some b ≠ row) (h : Blk W e b vs) : Blk u e b vs := (hg.block b h.lt hne).trans h
theorem Blk.far (hne : b ≠ b') (h : Blk W e b vs) : Blk (W.setCell ⟨b', i, none⟩ x) e b vs := (Deep.blk_setCell_other W ⟨b', i, none⟩ x b hne).trans h
theorem Blk.put (i : Nat) (h : Blk W e b vs) : Blk (W.setCell ⟨b, i, none⟩ x) e b (vs.set i x) := by
  unfold Blk at *
  show (W.heap.modify b _)[b]? = _
  rw [Array.getElem?_modify, if_pos rfl, h]
  simp
end
/-- A row of a table: its numbers; whether there is any. -/
def rowD (S : Tb) (n i : Nat) : List Value := (List.range n).map fun k => .int .i64 ((S i k).getD 0)
def rowH (S : Tb) (n i : Nat) : List Value := (List.range n).map fun k => .bool (S i k).isSome
theorem rowD_at (S : Tb) (n i k : Nat) (h : k < n) : (rowD S n i)[k]? = some (.int .i64 ((S i k).getD 0)) := by simp [rowD, h]
theorem rowH_at (S : Tb) (n i k : Nat) (h : k < n) : (rowH S n i)[k]? = some (.bool (S i k).isSome) := by simp [rowH, h]
/-- One bound turned. -/
def upd (S : Tb) (i b : Nat) (x : Int) : Tb := fun i' k => if i' = i ∧ k = b then some x else S i' k
theorem upd_rowD (S : Tb) (n i b : Nat) (x : Int) : rowD (upd S i b x) n i = (rowD S n i).set b (.int .i64 x) := by
  apply List.ext_getElem?
  intro k
  by_cases hk : k < n
  · rw [rowD_at _ _ _ _ hk]
    by_cases e : b = k
    · subst e
      rw [List.getElem?_set_self (by simp [rowD]; exact hk)]
      simp [upd]
    · rw [List.getElem?_set_ne e, rowD_at _ _ _ _ hk]
      simp [upd, show ¬ k = b from fun h => e h.symm]
  · rw [List.getElem?_eq_none (by simp [rowD]; omega), List.getElem?_eq_none (by simp [rowD]; omega)]
theorem upd_rowH (S : Tb) (n i b : Nat) (x : Int) : rowH (upd S i b x) n i = (rowH S n i).set b (.bool true) := by
  apply List.ext_getElem?
  intro k
  by_cases hk : k < n
  · rw [rowH_at _ _ _ _ hk]
    by_cases e : b = k
    · subst e
      rw [List.getElem?_set_self (by simp [rowH]; exact hk)]
      simp [upd]
    · rw [List.getElem?_set_ne e, rowH_at _ _ _ _ hk]
      simp [upd, show ¬ k = b from fun h => e h.symm]
  · rw [List.getElem?_eq_none (by simp [rowH]; omega), List.getElem?_eq_none (by simp [rowH]; omega)]
theorem upd_rowD_other (S : Tb) (n i j b : Nat) (x : Int) (h : j ≠ i) : rowD (upd S i b x) n j = rowD S n j := by simp [rowD, upd, h]
theorem upd_rowH_other (S : Tb) (n i j b : Nat) (x : Int) (h : j ≠ i) : rowH (upd S i b x) n j = rowH S n j := by simp [rowH, upd, h]
/-- A table in memory: two slices of rows. -/
structure Tab (u : World) (gd gh n : Nat) (Db Hb : Nat → Nat) (S : Tb) : Prop where
  outD : ∀ i, i < n → u.cell? ⟨gd, i, none⟩ = some (.slice (some ⟨Db i, 0, none⟩) n n)
  outH : ∀ i, i < n → u.cell? ⟨gh, i, none⟩ = some (.slice (some ⟨Hb i, 0, none⟩) n n)
  inD : ∀ i, i < n → Blk u 3 (Db i) (rowD S n i)
  inH : ∀ i, i < n → Blk u 4 (Hb i) (rowH S n i)
  oneD : ∀ i j, i < n → j < n → i ≠ j → Db i ≠ Db j
  oneH : ∀ i j, i < n → j < n → i ≠ j → Hb i ≠ Hb j
  apD : ∀ i, i < n → gd ≠ Db i ∧ gd ≠ Hb i
  apH : ∀ i, i < n → gh ≠ Db i ∧ gh ≠ Hb i
section
variable {u W : World} {gd gh n : Nat} {Db Hb : Nat → Nat} {S : Tb}
theorem Tab.ap (h : Tab u gd gh n Db Hb S) {i j : Nat} (hi : i < n) (hj : j < n) : Db i ≠ Hb j := (h.inD i hi).ne (h.inH j hj) (by decide)
theorem Tab.on (hb : Below W.heap.size W u) (h : Tab W gd gh n Db Hb S) : Tab u gd gh n Db Hb S :=
  ⟨fun i hi => by rw [hb.cell (World.block_lt_of_cell? _ _ (h.outD i hi))]; exact h.outD i hi, fun i hi => by rw [hb.cell (World.block_lt_of_cell? _ _ (h.outH i hi))]; exact h.outH i hi,
    fun i hi => (h.inD i hi).on hb, fun i hi => (h.inH i hi).on hb, h.oneD, h.oneH, h.apD, h.apH⟩
theorem Tab.drn {m : Nat} (h : Tab W gd gh n Db Hb S) : Tab (W.drewN m) gd gh n Db Hb S := ⟨h.outD, h.outH, h.inD, h.inH, h.oneD, h.oneH, h.apD, h.apH⟩
theorem Tab.dr (h : Tab W gd gh n Db Hb S) : Tab W.drew gd gh n Db Hb S := ⟨h.outD, h.outH, h.inD, h.inH, h.oneD, h.oneH, h.apD, h.apH⟩
/-- A number is stored, and that there is one. -/
theorem Tab.put (h : Tab W gd gh n Db Hb S) {i b : Nat} (hi : i < n) (x : Int) : Tab ((W.setCell ⟨Db i, b, none⟩ (.int .i64 x)).setCell ⟨Hb i, b, none⟩ (.bool true)) gd gh n Db Hb (upd S i b x) := by
  refine ⟨fun j hj => ?_, fun j hj => ?_, fun j hj => ?_, fun j hj => ?_, h.oneD, h.oneH, h.apD, h.apH⟩
  · rw [World.cell?_setCell_far _ _ _ _ (fun k => (h.apD i hi).2 k.symm), World.cell?_setCell_far _ _ _ _ (fun k => (h.apD i hi).1 k.symm)]; exact h.outD j hj
  · rw [World.cell?_setCell_far _ _ _ _ (fun k => (h.apH i hi).2 k.symm), World.cell?_setCell_far _ _ _ _ (fun k => (h.apH i hi).1 k.symm)]; exact h.outH j hj
  · by_cases e : j = i
    · subst e
      rw [upd_rowD]
      exact ((h.inD j hj).put b).far (h.ap hj hj)
    · rw [upd_rowD_other _ _ _ _ _ _ e]
      exact ((h.inD j hj).far (h.oneD j i hj hi e)).far (h.ap hj hi)
  · by_cases e : j = i
    · subst e
      rw [upd_rowH]
      exact ((h.inH j hj).far (fun k => h.ap hj hj k.symm)).put b
    · rw [upd_rowH_other _ _ _ _ _ _ e]
      exact ((h.inH j hj).far (fun k => h.ap hi hj k.symm)).far (h.oneH j i hj hi e)
end
/-- A step along an arc, as a store or none. -/
theorem rlx_upd (S : Tb) (i a b : Nat) (c x : Int) (h : S i a = some x) (g : S i b = none ∨ ∃ y, S i b = some y ∧ x + c < y) : rlx S i a b c = upd S i b (x + c) := by
  funext i' k
  unfold rlx upd
  by_cases e : i' = i ∧ k = b
  · rw [if_pos e, if_pos e, h]
    rcases g with g | ⟨y, g, lt⟩
    · rw [g]
    · rw [g]; simp only; rw [if_pos lt]
  · rw [if_neg e, if_neg e]
theorem rlx_same (S : Tb) (i a b : Nat) (c : Int) (g : S i a = none ∨ ∃ x y, S i a = some x ∧ S i b = some y ∧ ¬ x + c < y) : rlx S i a b c = S := by
  funext i' k
  unfold rlx
  by_cases e : i' = i ∧ k = b
  · obtain ⟨rfl, rfl⟩ := e
    rw [if_pos ⟨rfl, rfl⟩]
    rcases g with g | ⟨x, y, g1, g2, nl⟩
    · rw [g]
    · rw [g1, g2]; simp only; rw [if_neg nl]
  · rw [if_neg e]
end Go.Proofs.YtigcliepeapcpajDoor
