/- What all texts of this seat lean on: marks by which a walk tells its calls apart, and worlds behind calls. -/
import Derived.Test.YthejaecljkjliacDoorRows
import Derived.WalkKit
import Derived.ProofKit
import Derived.OpenShut
import Derived.Outline
import Derived.WalkLawsBesides
namespace Go.Proofs.YthejaecljkjliacDoor
open Go.ChangeShapes Go.WideShapes Go.ChangeAt Go.RowKit
set_option linter.unusedVariables false

def okB (lo hi : Int) : Bool := decide (lo ≤ hi ∧ -1000000000000 ≤ lo ∧ hi ≤ 1000000000000)
theorem okB_t {lo hi : Int} (h : okB lo hi = true) : lo ≤ hi ∧ -1000000000000 ≤ lo ∧ hi ≤ 1000000000000 := of_decide_eq_true h
theorem okB_f {lo hi : Int} (h : okB lo hi = false) : hi < lo ∨ lo < -1000000000000 ∨ 1000000000000 < hi := by
  have := of_decide_eq_false h; omega
theorem okB_mk {lo hi : Int} (h : lo ≤ hi ∧ -1000000000000 ≤ lo ∧ hi ≤ 1000000000000) : okB lo hi = true := decide_eq_true h
theorem okB_no {lo hi : Int} (h : hi < lo ∨ lo < -1000000000000 ∨ 1000000000000 < hi) : okB lo hi = false := decide_eq_false (by omega)

abbrev sp (lo hi : Int) : Value := .agg #[.int .i64 lo, .int .i64 hi]
abbrev eRange : Value := .iface 81 (.int .i64 1)
abbrev eNone : Value := .iface 81 (.int .i64 5)

theorem bcell {W w1 : World} (hb : Below W.heap.size W w1) : (∀ b o, b < W.heap.size → w1.cell? ⟨b, o, none⟩ = W.cell? ⟨b, o, none⟩) ∧ (∀ b o, b < W.heap.size → w1.frozen? ⟨b, o, none⟩ = W.frozen? ⟨b, o, none⟩) :=
  ⟨fun b o h => hb.cell (p := ⟨b, o, none⟩) h, fun b o h => hb.frozen (p := ⟨b, o, none⟩) h⟩

structure Mark (n : Nat) : Prop where
  of ::
theorem Mark.mk (n : Nat) : Mark n := Mark.of

theorem nlt {a c x y z : Int} (h : (a < c ∧ x = y) ∨ (c ≤ a ∧ x = z)) : (a < c ∧ x = y) ∨ (¬ a < c ∧ x = z) := by omega

theorem below_tr {w W w1 : World} (hb : Below W.heap.size W w1) (h : Below w.heap.size w W) : Below w.heap.size w w1 := h.trans (hb.mono h.size)
end Go.Proofs.YthejaecljkjliacDoor
