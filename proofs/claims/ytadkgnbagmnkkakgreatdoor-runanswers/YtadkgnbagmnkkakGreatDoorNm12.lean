/- What strings.Cut reads of the package variables: some number. Letters' cells, one behind the other. -/
import Derived.Test.YtadkgnbagmnkkakGreatDoorNm03
import Derived.Lib.SmallJoins
import Derived.Shelf.Vars
import Derived.WalkKit
import Derived.OneCell
import Derived.OwnWalk
namespace Go.Proofs.YtadkgnbagmnkkakGreatDoor
open Go.ChangeShapes Go.WideShapes Go.ChangeAt Go.RowKit Go.Joins
set_option linter.unusedVariables false

def ShE (w : World) : Prop := ∃ m, w.cell? ⟨1, 0, none⟩ = some (.int .i64 m)
theorem ShE.below {w w' : World} (h : ShE w) (hb : Below w.heap.size w w') : ShE w' := h.imp fun m hm => by rw [hb.cell (World.block_lt_of_cell? _ _ hm)]; exact hm
theorem shaped_of {W : World} (h : W.ShapedOpen Tryz.prog) : ShE W := Go.Proofs.cell_of_shapedOpen_int (zero := #[.int .i64 0]) (t := 3) h (of_decide_eq_true (by kernel_rfl)) (by kernel_rfl) rfl (by kernel_rfl) (by kernel_rfl) Tryz.underlying3
end Go.Proofs.YtadkgnbagmnkkakGreatDoor
namespace Go.Proofs.YtadkgnbagmnkkakGreatDoor
open Go.ChangeShapes Go.WideShapes Go.ChangeAt Go.RowKit Go.Joins
set_option linter.unusedVariables false
set_option linter.unusedSimpArgs false

theorem infoLetter : (Tryz.prog.info? 113).map (fun i => (i.zero, i.size, i.bytes)) = some (some (.agg #[.int .i64 0, .int .i64 0, .bool false, .int .i64 0, .int .i64 0, .int .i64 0]), 6, 48) := by kernel_rfl
def lcs : List Lt → List Value
 | [] => []
 | l :: r => ltc l ++ lcs r
theorem lcs_app (a b : List Lt) : lcs (a ++ b) = lcs a ++ lcs b := by
 induction a with
 | nil => rfl
 | cons l r ih => show ltc l ++ lcs (r ++ b) = ltc l ++ lcs r ++ lcs b; rw [ih, List.append_assoc]
theorem lcs_len (a : List Lt) : (lcs a).length = a.length * 6 := by
 induction a with
 | nil => rfl
 | cons l r ih => show (ltc l ++ lcs r).length = (r.length + 1) * 6; rw [List.length_append, ih]; show 6 + _ = _; omega
theorem ltc_one (l : Lt) : ∀ u ∈ ltc l, u.oneCell' = true := by
 intro u hu
 simp [ltc] at hu
 rcases hu with rfl | rfl | rfl | rfl | rfl | rfl <;> rfl
theorem lcs_one (a : List Lt) : ∀ u ∈ lcs a, u.oneCell' = true := by
 induction a with
 | nil => intro u hu; cases hu
 | cons l r ih =>
  intro u hu
  rcases List.mem_append.1 hu with h | h
  ·exact ltc_one l u h
  ·exact ih u h
theorem lcs_at {a : List Lt} {i : Nat} {q : Lt} (h : a[i]? = some q) {j : Nat} {v : Value} (hv : (ltc q)[j]? = some v) : (lcs a)[i * 6 + j]? = some v := by
 induction a generalizing i with
 | nil => cases h
 | cons l r ih =>
  show (ltc l ++ lcs r)[i * 6 + j]? = some v
  cases i with
  | zero =>
   obtain rfl := Option.some.inj h
   have lt : j < (ltc l).length := by
    rcases Nat.lt_or_ge j (ltc l).length with h | h
    ·exact h
    ·rw [List.getElem?_eq_none h] at hv; cases hv
   rw [Nat.zero_mul, Nat.zero_add, List.getElem?_append_left lt]
   exact hv
  | succ i =>
   have l6 : (ltc l).length = 6 := rfl
   rw [List.getElem?_append_right (by rw [l6]; omega), l6, show (i + 1) * 6 + j - 6 = i * 6 + j by omega]
   exact ih h
end Go.Proofs.YtadkgnbagmnkkakGreatDoor
