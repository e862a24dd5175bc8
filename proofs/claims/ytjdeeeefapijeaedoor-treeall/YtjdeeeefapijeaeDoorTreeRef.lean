/- What the document's own reckoning (package noonref1) answers of trees: Parents. -/
import Derived.Test.YtjdeeeefapijeaeDoorTreeDef
import Derived.Lib.SmallJoins
import Derived.Deep.CutRange
import Derived.BigRegion
import Derived.BigQuiet
import Derived.Deep.QuietTactic
import Derived.IntWalk
namespace Go.Proofs.YtjdeeeefapijeaeDoor
open Go.ChangeShapes Go.WideShapes Go.ChangeAt Go.RowKit Go.Joins
set_option linter.unusedVariables false
set_option linter.unusedSimpArgs false

theorem tinfoInt : (Tryd.prog.info? 3).map (fun i => (i.zero, i.size, i.bytes)) = some (some (.int .i64 0), 1, 8) := by kernel_rfl
theorem tinfoBool : (Tryd.prog.info? 4).map (fun i => (i.zero, i.size, i.bytes)) = some (some (.bool false), 1, 1) := by kernel_rfl
theorem tmade_cells (z : Value) (hz : z.cells = #[z]) (n : Nat) : madeCells z.cells (n * 1) = (List.replicate n z).toArray := by
  rw [hz, Nat.mul_one]
  apply Array.ext
  · simp [madeCells]
  · intro i h1 h2
    simp [madeCells, Nat.mod_one]
theorem tmk_ints (n : Nat) (h6 : n ≤ 6) (W : World) : (Instr.makeSlice 23 (.int .i64 n) (.int .i64 n)).run Tryd.prog W = .ok (.slice (some ⟨W.heap.size, 0, none⟩) n n) (W.alloc (.cells (List.replicate n (.int .i64 0)).toArray 3)) := by
  obtain ⟨i0, hi0, hz0, hz1, hz2⟩ := info_parts tinfoInt
  have h := run_makeSlice W 23 3 i0 _ Tryd.underlying23 hi0 hz0 .i64 .i64 n n (by omega) (by omega) (by rw [hz1]; simp; omega) (by rw [hz2]; simp; omega) (by omega)
  rw [hz1, Int.toNat_natCast, tmade_cells _ rfl n] at h
  exact h
theorem tmk_bools (n : Nat) (h6 : n ≤ 6) (W : World) : (Instr.makeSlice 56 (.int .i64 n) (.int .i64 n)).run Tryd.prog W = .ok (.slice (some ⟨W.heap.size, 0, none⟩) n n) (W.alloc (.cells (List.replicate n (.bool false)).toArray 4)) := by
  obtain ⟨i0, hi0, hz0, hz1, hz2⟩ := info_parts tinfoBool
  have h := run_makeSlice W 56 4 i0 _ Tryd.underlying56 hi0 hz0 .i64 .i64 n n (by omega) (by omega) (by rw [hz1]; simp; omega) (by rw [hz2]; simp; omega) (by omega)
  rw [hz1, Int.toNat_natCast, tmade_cells _ rfl n] at h
  exact h
/-- The cells of a tree: by which edge each came; who is in it; its nodes. -/
def byR (n : Nat) (t : Tr) : List Value := (List.range n).map fun i => .int .i64 (t.by_ i)
def inR (n : Nat) (t : Tr) : List Value := (List.range n).map fun i => .bool (decide (i ∈ t.row))
def roR (t : Tr) : List Value := t.row.map fun x => .int .i64 (x : Nat)
def fiR (n i : Nat) : List Value := (List.range n).map fun j => .int .i64 (if j < i then -1 else 0)
theorem map_range_ext {n : Nat} {l : List Value} {f : Nat → Value} (h1 : ∀ j, j < n → l[j]? = some (f j)) (h2 : l.length = n) : (List.range n).map f = l := by
  apply List.ext_getElem?
  intro j
  by_cases hj : j < n
  · rw [List.getElem?_map, List.getElem?_range hj, h1 j hj]; rfl
  · rw [List.getElem?_eq_none (by simp; omega), List.getElem?_eq_none (by omega)]
theorem fiR_zero (n : Nat) : fiR n 0 = List.replicate n (.int .i64 0) := map_range_ext (fun j hj => by simp [hj]) (by simp)
theorem fiR_set (n i : Nat) (h : i < n) : (fiR n i).set i (.int .i64 (-1)) = fiR n (i + 1) := by
  symm
  refine map_range_ext (fun j hj => ?_) (by simp [fiR])
  by_cases e : i = j
  · subst e
    rw [List.getElem?_set_self (by simp [fiR]; exact h), if_pos (by omega)]
  · rw [List.getElem?_set_ne e]
    simp only [fiR, List.getElem?_map, List.getElem?_range hj, Option.map_some]
    by_cases c : j < i
    · rw [if_pos c, if_pos (by omega)]
    · rw [if_neg c, if_neg (by omega)]
theorem fiR_all (n r : Nat) : fiR n n = byR n (rootT r) := by
  unfold fiR byR
  apply List.map_congr_left
  intro y hy
  rw [if_pos (List.mem_range.1 hy)]
  rfl
theorem inR_root (n r : Nat) (h : r < n) : (List.replicate n (.bool false)).set r (.bool true) = inR n (rootT r) := by
  symm
  refine map_range_ext (fun j hj => ?_) (by simp)
  by_cases e : r = j
  · subst e
    rw [List.getElem?_set_self (by simpa using h)]
    simp [rootT]
  · rw [List.getElem?_set_ne e]
    have : ¬ j = r := fun x => e x.symm
    simp [rootT, hj, this]
theorem byR_at (n : Nat) (t : Tr) (i : Nat) (h : i < n) : (byR n t)[i]? = some (.int .i64 (t.by_ i)) := by simp [byR, h]
theorem inR_at (n : Nat) (t : Tr) (i : Nat) (h : i < n) : (inR n t)[i]? = some (.bool (decide (i ∈ t.row))) := by simp [inR, h]
/-- One node more. -/
def addT (t : Tr) (k y : Nat) : Tr := ⟨t.row ++ [y], fun i => if i = y then (k : Int) else t.by_ i⟩
theorem byR_add (n : Nat) (t : Tr) (k y : Nat) (h : y < n) : (byR n t).set y (.int .i64 k) = byR n (addT t k y) := by
  symm
  refine map_range_ext (fun j hj => ?_) (by simp [byR])
  by_cases e : y = j
  · subst e
    rw [List.getElem?_set_self (by simp [byR]; exact h)]
    simp [addT]
  · rw [List.getElem?_set_ne e, byR_at _ _ _ hj]
    have : ¬ j = y := fun x => e x.symm
    simp [addT, this]
theorem inR_add (n : Nat) (t : Tr) (k y : Nat) (h : y < n) : (inR n t).set y (.bool true) = inR n (addT t k y) := by
  symm
  refine map_range_ext (fun j hj => ?_) (by simp [inR])
  by_cases e : y = j
  · subst e
    rw [List.getElem?_set_self (by simp [inR]; exact h)]
    simp [addT]
  · rw [List.getElem?_set_ne e, inR_at _ _ _ hj]
    have : ¬ j = y := fun x => e x.symm
    simp [addT, this]
theorem own_form {u : World} {base n : Nat} {e : TypeId} {v : Value} {xs : List Value} (h : u.ownsRow base e 1 v n xs) (hn : 0 < n) : ∃ g cap, v = .slice (some ⟨g, 0, none⟩) n cap ∧ base ≤ g ∧ g < u.heap.size ∧ n ≤ cap ∧ ∀ j c, xs[j]? = some c → u.cell? ⟨g, j, none⟩ = some c := by
  rcases h.2 with ⟨_, h0⟩ | ⟨g, cap, cur, hv, hb, hg, hcc, _, _, htk⟩
  · omega
  · refine ⟨g, cap, hv, hb, ?_, hcc, fun j c hc => ?_⟩
    · rcases Nat.lt_or_ge g u.heap.size with hlt | hge
      · exact hlt
      · rw [Array.getElem?_eq_none hge] at hg; cases hg
    · rw [← htk, List.getElem?_take] at hc
      split at hc
      case isFalse => cases hc
      unfold World.cell?
      rw [show u.heap[(⟨g, j, none⟩ : Addr).block]? = _ from hg]
      simpa using hc
theorem own_far {u : World} {base n b i size : Nat} {e : TypeId} {v x : Value} {xs : List Value} (h : u.ownsRow base e size v n xs) (hb : b < base) : (u.setCell ⟨b, i, none⟩ x).ownsRow base e size v n xs := by
  refine ⟨h.1, ?_⟩
  rcases h.2 with h' | ⟨g, cap, cur, h1, h2, h3, h4⟩
  · exact Or.inl h'
  · exact Or.inr ⟨g, cap, cur, h1, h2, (Deep.blk_setCell_other u ⟨b, i, none⟩ x g (by show g ≠ b; omega)).trans h3, h4⟩
theorem out_stay {q : Nat → Eg} {m r j : Nat} (h : (outT q m r j).row.length ≤ j) : ∀ d, outT q m r (j + d) = outT q m r j
  | 0 => rfl
  | d + 1 => by
    have ih := out_stay h d
    show (match (outT q m r (j + d)).row[j + d]? with
      | none => outT q m r (j + d)
      | some x => innT q x m (outT q m r (j + d))) = _
    rw [ih, List.getElem?_eq_none (by omega)]
/-- What Parents answers. -/
def ParR (q : Nat → Eg) (m n r : Nat) (w : World) (e : Ending) (w' : World) : Prop := ∃ (v : Value), e = .returned (.tuple #[.slice (some ⟨w.heap.size, 0, none⟩) n n, v]) ∧ Blk w' 3 w.heap.size (byR n (treeT q m n r)) ∧ w'.ownsRow (w.heap.size + 2) 3 1 v (treeT q m n r).row.length (roR (treeT q m n r)) ∧ Below w.heap.size w w'
end Go.Proofs.YtjdeeeefapijeaeDoor
