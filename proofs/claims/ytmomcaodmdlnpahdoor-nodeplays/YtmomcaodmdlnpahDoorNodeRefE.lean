/- What the document's own node (package noonref2) answers: Edges. -/
import Derived.Test.YtmomcaodmdlnpahDoorNodeRefS
import Derived.Test.YtmomcaodmdlnpahDoorAppStep
import Derived.Test.YtmomcaodmdlnpahDoorNodeEl
namespace Go.Proofs.YtmomcaodmdlnpahDoor
open Go.ChangeShapes Go.WideShapes Go.ChangeAt Go.RowKit Go.Joins
set_option linter.unusedVariables false
set_option linter.unusedSimpArgs false

/-- What Spans answers, the fault known. -/
theorem rnspans_at (b : Nat) (c : Nd) (t e : Int) (u : World) (hR : RN u b c) (hI : c.I) (h : SpR c t e) :
    Calls Tryd.prog 23 #[.pointer (some ⟨b, 0, none⟩), .int .i64 t] u fun o w' => ((e = 0 ∧ o = .returned (.tuple #[.slice (some ⟨u.heap.size, 0, none⟩) c.n c.n, .slice (some ⟨u.heap.size + 1, 0, none⟩) c.n c.n, .int .i64 0]) ∧ StS w' u.heap.size c.n c t) ∨ (e ≠ 0 ∧ o = .returned (.tuple #[.slice none 0 0, .slice none 0 0, .int .i64 e]))) ∧ Below u.heap.size u w' := by
  by_cases hb : c.bk t
  · refine (rnspans_bk b c t u hR hb).mono fun _ _ ⟨he, hw⟩ => ⟨Or.inr ?_, hw⟩
    obtain rfl : e = 8 := spR_uniq h (Or.inl ⟨hb, rfl⟩)
    exact ⟨by decide, he⟩
  · refine (rnspans_go b c t u hR hI hb).mono fun _ _ ⟨⟨e', h', q⟩, hw⟩ => ⟨?_, hw⟩
    obtain rfl := spR_uniq h h'
    exact q
end Go.Proofs.YtmomcaodmdlnpahDoor
