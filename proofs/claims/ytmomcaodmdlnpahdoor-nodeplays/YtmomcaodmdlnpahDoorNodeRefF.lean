/- The document's own node (package noonref2) at first. -/
import Derived.Test.YtmomcaodmdlnpahDoorNodeRefA
namespace Go.Proofs.YtmomcaodmdlnpahDoor
open Go.ChangeShapes Go.WideShapes Go.ChangeAt Go.RowKit
set_option linter.unusedVariables false

/-- The document's node at first. -/
theorem RN.first {u : World} {id n : Nat} {p : Int} {t : TypeId} : RN (u.alloc (.cells #[.int .i64 id, .int .i64 n, .int .i64 p, .int .i64 (-1), .bool false, .bool false, .bool false, .bool false, .bool false, .bool false, .int .i64 0, .int .i64 0, .int .i64 0, .int .i64 0, .int .i64 0, .int .i64 0, .int .i64 0, .int .i64 0, .int .i64 0, .int .i64 0, .int .i64 0, .int .i64 0, .int .i64 0, .int .i64 0, .int .i64 0, .int .i64 0, .int .i64 0, .int .i64 0] t)) u.heap.size (Nd.made id n p) := by
  have r : Row (u.alloc (.cells #[.int .i64 id, .int .i64 n, .int .i64 p, .int .i64 (-1), .bool false, .bool false, .bool false, .bool false, .bool false, .bool false, .int .i64 0, .int .i64 0, .int .i64 0, .int .i64 0, .int .i64 0, .int .i64 0, .int .i64 0, .int .i64 0, .int .i64 0, .int .i64 0, .int .i64 0, .int .i64 0, .int .i64 0, .int .i64 0, .int .i64 0, .int .i64 0, .int .i64 0, .int .i64 0] t)) u.heap.size [.int .i64 id, .int .i64 n, .int .i64 p, .int .i64 (-1), .bool false, .bool false, .bool false, .bool false, .bool false, .bool false, .int .i64 0, .int .i64 0, .int .i64 0, .int .i64 0, .int .i64 0, .int .i64 0, .int .i64 0, .int .i64 0, .int .i64 0, .int .i64 0, .int .i64 0, .int .i64 0, .int .i64 0, .int .i64 0, .int .i64 0, .int .i64 0, .int .i64 0, .int .i64 0] := Row.made rfl
  have six : ∀ {i : Nat}, i < 6 → i = 0 ∨ i = 1 ∨ i = 2 ∨ i = 3 ∨ i = 4 ∨ i = 5 := fun h => by omega
  refine ⟨r.c 0 _ rfl, r.c 1 _ rfl, r.c 2 _ rfl, r.c 3 _ rfl, fun i hi => ?_, fun i hi => ?_, fun i hi => ?_, fun i hi => ?_, fun j => World.frozen?_alloc_at _ _ _ _ rfl⟩
  · rcases six hi with rfl | rfl | rfl | rfl | rfl | rfl
    · exact r.c 4 _ rfl
    · exact r.c 5 _ rfl
    · exact r.c 6 _ rfl
    · exact r.c 7 _ rfl
    · exact r.c 8 _ rfl
    · exact r.c 9 _ rfl
  · rcases six hi with rfl | rfl | rfl | rfl | rfl | rfl
    · exact r.c 10 _ rfl
    · exact r.c 12 _ rfl
    · exact r.c 14 _ rfl
    · exact r.c 16 _ rfl
    · exact r.c 18 _ rfl
    · exact r.c 20 _ rfl
  · rcases six hi with rfl | rfl | rfl | rfl | rfl | rfl
    · exact r.c 11 _ rfl
    · exact r.c 13 _ rfl
    · exact r.c 15 _ rfl
    · exact r.c 17 _ rfl
    · exact r.c 19 _ rfl
    · exact r.c 21 _ rfl
  · rcases six hi with rfl | rfl | rfl | rfl | rfl | rfl
    · exact r.c 22 _ rfl
    · exact r.c 23 _ rfl
    · exact r.c 24 _ rfl
    · exact r.c 25 _ rfl
    · exact r.c 26 _ rfl
    · exact r.c 27 _ rfl
end Go.Proofs.YtmomcaodmdlnpahDoor
