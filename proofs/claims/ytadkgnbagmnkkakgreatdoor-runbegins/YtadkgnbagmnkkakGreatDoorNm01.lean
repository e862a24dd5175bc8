/- What all texts of this seat lean on: marks by which a walk tells its calls apart, and worlds behind calls. What package span answers: Check. Is it so of one of the first n: plain mathematics. What package span answers: checked (cut out of SpanAddC: for seats without Add). -/
import Derived.Test.YtadkgnbagmnkkakGreatDoorRows
import Derived.WalkKit
import Derived.ProofKit
import Derived.OpenShut
import Derived.Outline
import Derived.WalkLawsBesides
import Derived.Deep.Draws
namespace Go.Proofs.YtadkgnbagmnkkakGreatDoor
open Go.ChangeShapes Go.WideShapes Go.ChangeAt Go.RowKit
set_option linter.unusedVariables false

def okB (lo hi : Int) : Bool := decide (lo ≤ hi ∧ -1000000000000 ≤ lo ∧ hi ≤ 1000000000000)
theorem okB_t {lo hi : Int} (h : okB lo hi = true) : lo ≤ hi ∧ -1000000000000 ≤ lo ∧ hi ≤ 1000000000000 := of_decide_eq_true h
theorem okB_f {lo hi : Int} (h : okB lo hi = false) : hi < lo ∨ lo < -1000000000000 ∨ 1000000000000 < hi := by
 have := of_decide_eq_false h; omega
theorem okB_mk {lo hi : Int} (h : lo ≤ hi ∧ -1000000000000 ≤ lo ∧ hi ≤ 1000000000000) : okB lo hi = true := decide_eq_true h
theorem okB_no {lo hi : Int} (h : hi < lo ∨ lo < -1000000000000 ∨ 1000000000000 < hi) : okB lo hi = false := decide_eq_false (by omega)

abbrev sp (lo hi : Int) : Value := .agg #[.int .i64 lo, .int .i64 hi]

theorem bcell {W w1 : World} (hb : Below W.heap.size W w1) : (∀ b o, b < W.heap.size → w1.cell? ⟨b, o, none⟩ = W.cell? ⟨b, o, none⟩) ∧ (∀ b o, b < W.heap.size → w1.frozen? ⟨b, o, none⟩ = W.frozen? ⟨b, o, none⟩) :=
 ⟨fun b o h => hb.cell (p := ⟨b, o, none⟩) h, fun b o h => hb.frozen (p := ⟨b, o, none⟩) h⟩

structure Mark (n : Nat) : Prop where
 of ::
theorem Mark.mk (n : Nat) : Mark n := Mark.of


theorem below_tr {w W w1 : World} (hb : Below W.heap.size W w1) (h : Below w.heap.size w W) : Below w.heap.size w w1 := h.trans (hb.mono h.size)
theorem check_ok (lo hi : Int) (w : World) (h : okB lo hi = true) :
  Calls Tryz.prog 32 #[.agg #[.int .i64 lo, .int .i64 hi]] w fun e w' => e = .returned .nilIface ∧ Below w.heap.size w w' := by
 have h' := okB_t h
 obtain ⟨h1, h2, h3⟩ := h'
 clear h
 go_enter Tryz.func32, Tryz.ntmps32
 go_wp2
 go_ret
 exact ⟨rfl, (Below.refl _ _).alloc (Nat.le_refl _) _⟩

theorem check_no (lo hi : Int) (w : World) (h : okB lo hi = false) :
  Calls Tryz.prog 32 #[.agg #[.int .i64 lo, .int .i64 hi]] w fun e w' => e = .returned (.iface 86 (.int .i64 1)) ∧ Below w.heap.size w w' := by
 have h' := okB_f h
 clear h
 by_cases h1 : hi < lo
 ·go_enter Tryz.func32, Tryz.ntmps32
  go_wp2
  go_ret
  exact ⟨rfl, (Below.refl _ _).alloc (Nat.le_refl _) _⟩
 ·by_cases h2 : lo < -1000000000000
  ·go_enter Tryz.func32, Tryz.ntmps32
   go_wp2
   go_ret
   exact ⟨rfl, (Below.refl _ _).alloc (Nat.le_refl _) _⟩
  ·have h3 : 1000000000000 < hi := by omega
   clear h'
   go_enter Tryz.func32, Tryz.ntmps32
   go_wp2
   go_ret
   exact ⟨rfl, (Below.refl _ _).alloc (Nat.le_refl _) _⟩
end Go.Proofs.YtadkgnbagmnkkakGreatDoor
namespace Go.Proofs.YtadkgnbagmnkkakGreatDoor
set_option linter.unusedVariables false

def anyB (p : Nat → Bool) : Nat → Bool
 | 0 => false
 | n + 1 => anyB p n || p n
theorem anyB_no {p : Nat → Bool} : ∀ {n : Nat}, (∀ i, i < n → p i = false) → anyB p n = false
 | 0, _ => rfl
 | n + 1, h => by simp only [anyB]; rw [anyB_no (fun i hi => h i (by omega)), h n (by omega)]; rfl
theorem anyB_yes {p : Nat → Bool} : ∀ {n k : Nat}, k < n → p k = true → anyB p n = true
 | 0, k, h, _ => by omega
 | n + 1, k, h, e => by
  simp only [anyB]
  by_cases q : k = n
  ·rw [← q, e, Bool.or_true]
  ·rw [anyB_yes (show k < n by omega) e]; rfl
theorem anyB_iff {p : Nat → Bool} {n : Nat} : anyB p n = true ↔ ∃ k, k < n ∧ p k = true := by
 constructor
 ·intro h
  apply Classical.byContradiction
  intro no
  have := anyB_no (p := p) (n := n) (fun i hi => by
   cases e : p i with
   | false => rfl
   | true => exact absurd ⟨i, hi, e⟩ no)
  rw [this] at h
  cases h
 ·rintro ⟨k, h1, h2⟩
  exact anyB_yes h1 h2
end Go.Proofs.YtadkgnbagmnkkakGreatDoor
namespace Go.Proofs.YtadkgnbagmnkkakGreatDoor
open Go.ChangeShapes Go.WideShapes Go.ChangeAt Go.RowKit
set_option linter.unusedVariables false




end Go.Proofs.YtadkgnbagmnkkakGreatDoor
