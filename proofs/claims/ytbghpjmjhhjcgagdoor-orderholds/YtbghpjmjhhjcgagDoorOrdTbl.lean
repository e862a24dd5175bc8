/- A table of numbers in a block of the call's own. -/
import Derived.Test.YtbghpjmjhhjcgagDoorOrdSet
import Derived.Test.YtbghpjmjhhjcgagDoorRow
import Derived.Lib.SmallJoins
import Derived.IntWalk
import Derived.OwnWalk
namespace Go.Proofs.YtbghpjmjhhjcgagDoor
open Go.ChangeShapes Go.WideShapes Go.ChangeAt Go.RowKit Go.Joins
set_option linter.unusedVariables false
set_option linter.unusedSimpArgs false

theorem infoIntM : (Tryd.prog.info? 3).map (fun i => (i.zero, i.size, i.bytes)) = some (some (.int .i64 0), 1, 8) := by kernel_rfl
theorem made_cellsM (z : Value) (hz : z.cells = #[z]) (n : Nat) : madeCells z.cells (n * 1) = (List.replicate n z).toArray := by
  rw [hz, Nat.mul_one]
  apply Array.ext
  · simp [madeCells]
  · intro i h1 h2
    simp [madeCells, Nat.mod_one]
theorem mk_intsM (n : Nat) (h6 : n ≤ 4096) (W : World) : (Instr.makeSlice 41 (.int .i64 n) (.int .i64 n)).run Tryd.prog W = .ok (.slice (some ⟨W.heap.size, 0, none⟩) n n) (W.alloc (.cells (Array.replicate n (.int .i64 0)) 3)) := by
  obtain ⟨i0, hi0, hz0, hz1, hz2⟩ := info_parts infoIntM
  have h := run_makeSlice W 41 3 i0 _ Tryd.underlying41 hi0 hz0 .i64 .i64 n n (by omega) (by omega) (by rw [hz1]; simp; omega) (by rw [hz2]; simp; omega) (by omega)
  rw [hz1, Int.toNat_natCast, made_cellsM _ rfl n, List.toArray_replicate] at h
  exact h
/-- A table of N numbers in a block. -/
def Tbl (w : World) (g N : Nat) (A : Nat → Nat) : Prop := ∀ U, U < N → w.cell? ⟨g, U, none⟩ = some (.int .i64 (A U : Nat)) ∧ w.frozen? ⟨g, U, none⟩ = false
theorem Tbl.on {W u : World} {g N : Nat} {A : Nat → Nat} (hb : Below W.heap.size W u) (h : Tbl W g N A) : Tbl u g N A := fun U hU => by
  obtain ⟨a, b⟩ := h U hU
  have l := World.block_lt_of_cell? _ _ a
  exact ⟨(hb.cell (p := ⟨g, U, none⟩) l).trans a, (hb.frozen (p := ⟨g, U, none⟩) l).trans b⟩
theorem Tbl.dr {W : World} {g N : Nat} {A : Nat → Nat} (h : Tbl W g N A) : Tbl W.drew g N A := h
theorem Tbl.same {W : World} {g N : Nat} {A A' : Nat → Nat} (h : Tbl W g N A) (e : ∀ U, U < N → A U = A' U) : Tbl W g N A' := fun U hU => by rw [← e U hU]; exact h U hU
theorem Tbl.put {W : World} {g N V x : Nat} {A : Nat → Nat} (h : Tbl W g N A) (hV : V < N) : Tbl (W.setCell ⟨g, V, none⟩ (.int .i64 (x : Nat))) g N (fun U => if U = V then x else A U) := fun U hU => by
  obtain ⟨a, b⟩ := h U hU
  refine ⟨?_, by rw [World.frozen?_setCell]; exact b⟩
  show (W.setCell ⟨g, V, none⟩ (.int .i64 (x : Nat))).cell? ⟨g, U, none⟩ = some (.int .i64 ((if U = V then x else A U : Nat) : Int))
  by_cases e : U = V
  · subst e
    rw [if_pos rfl]
    exact World.cell?_setCell_same _ _ _ a
  · rw [if_neg e, World.cell?_setCell_other _ _ _ _ (fun q => by injection q; omega)]
    exact a
theorem tbl_made (W : World) (N : Nat) : Tbl (W.alloc (.cells (Array.replicate N (.int .i64 0)) 3)) W.heap.size N (fun _ => 0) := fun U hU => by
  have r := Row.made (W := W) (vs := List.replicate N (.int .i64 0)) (t := 3) rfl
  rw [List.toArray_replicate] at r
  have e : (List.replicate N (Value.int .i64 0))[U]? = some (.int .i64 0) := by simp [hU]
  exact ⟨r.c U _ e, r.f U _ e⟩
theorem tbl_made1 (W : World) (N : Nat) : Tbl (W.alloc (.cells ((Array.replicate N (.int .i64 0)).setIfInBounds 0 (.int .i64 1)) 3)) W.heap.size N (fun U => if U = 0 then 1 else 0) := fun U hU => by
  have r := Row.made (W := W) (vs := (List.replicate N (Value.int .i64 0)).set 0 (.int .i64 1)) (t := 3) rfl
  have q : ((List.replicate N (Value.int .i64 0)).set 0 (.int .i64 1)).toArray = (Array.replicate N (.int .i64 0)).setIfInBounds 0 (.int .i64 1) := by
    rw [← List.toArray_replicate, List.setIfInBounds_toArray]
  rw [q] at r
  have e : ((List.replicate N (Value.int .i64 0)).set 0 (.int .i64 1))[U]? = some (.int .i64 ((if U = 0 then 1 else 0 : Nat) : Int)) := by
    by_cases c : U = 0
    · subst c
      rw [List.getElem?_set_self (by simpa using hU), if_pos rfl]
      rfl
    · rw [List.getElem?_set_ne (by omega), if_neg c]
      simp [hU]
  exact ⟨r.c U _ e, r.f U _ e⟩
theorem pow_le_4096 {n : Nat} (h : n ≤ 12) : 2 ^ n ≤ 4096 := by
  have : 2 ^ n ≤ 2 ^ 12 := Nat.pow_le_pow_right (by omega) h
  omega
end Go.Proofs.YtbghpjmjhhjcgagDoor
