/- Rows of rows of numbers, as they are handed over. -/
import Derived.Test.YtigcliepeapcpajDoorInts
import Derived.Test.YtigcliepeapcpajDoorErrC
namespace Go.Proofs.YtigcliepeapcpajDoor
open Go.ChangeShapes Go.WideShapes Go.ChangeAt Go.RowKit
set_option linter.unusedVariables false

/-- n rows of numbers, as they are handed over. -/
def RHanded (w : World) (a : Option Addr) (n : Nat) (ga : Nat → Option Addr) (k cc : Nat → Nat) (z : Nat → Nat → Int) : Prop :=
  n ≤ 9223372036854775807 ∧ (n = 0 ∨ ∃ b off : Nat, a = some ⟨b, off, none⟩ ∧ ∀ i, i < n → w.cell? ⟨b, off + i, none⟩ = some (.slice (ga i) (k i) (cc i)) ∧ NHanded w (ga i) (k i) (z i) ∧ ∀ j, j < k i → In64 (z i j))
theorem RHanded.on {W u : World} {a : Option Addr} {n : Nat} {ga : Nat → Option Addr} {k cc : Nat → Nat} {z : Nat → Nat → Int} (hb : Below W.heap.size W u) (h : RHanded W a n ga k cc z) : RHanded u a n ga k cc z :=
  ⟨h.1, h.2.imp id (fun ⟨b, off, e, s⟩ => ⟨b, off, e, fun i hi => by
    obtain ⟨s1, s2, s3⟩ := s i hi
    exact ⟨by rw [hb.cell (World.block_lt_of_cell? _ _ s1)]; exact s1, s2.on hb, s3⟩⟩)⟩
/-- What is taken of a row: three numbers, 0 where there is none. -/
def vT (z : Nat → Int) (j l : Nat) : Int := if l < j then z l else 0
theorem vT_set (z : Nat → Int) (j : Nat) (h : j < 3) : ([Value.int .i64 (vT z j 0), .int .i64 (vT z j 1), .int .i64 (vT z j 2)] : List Value).set j (.int .i64 (z j)) = [.int .i64 (vT z (j + 1) 0), .int .i64 (vT z (j + 1) 1), .int .i64 (vT z (j + 1) 2)] := by
  rcases (show j = 0 ∨ j = 1 ∨ j = 2 by omega) with rfl | rfl | rfl <;> simp [vT]
theorem vT_in {z : Nat → Int} {j k l : Nat} (hj : j ≤ k) (h : ∀ i, i < k → In64 (z i)) : In64 (vT z j l) := by
  unfold vT
  split
  · exact h _ (by omega)
  · decide
end Go.Proofs.YtigcliepeapcpajDoor
