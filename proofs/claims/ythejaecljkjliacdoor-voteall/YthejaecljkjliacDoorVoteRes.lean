/- What package vote answers, as the laws have it. -/
import Derived.Test.YthejaecljkjliacDoorVoteWalkS
import Derived.Test.YthejaecljkjliacDoorVoteToldS
namespace Go.Proofs.YthejaecljkjliacDoor
open Go.ChangeShapes Go.WideShapes Go.ChangeAt Go.RowKit
set_option linter.unusedVariables false
set_option linter.unusedSimpArgs false

/-- What vote.Most must answer. -/
def MostRes (q : Nat → Int × Int) (n : Nat) (lo hi m e : Int) : Prop := (vE q n ≠ 0 ∧ e = vE q n ∧ lo = 0 ∧ hi = 0 ∧ m = 0) ∨ (vE q n = 0 ∧ e = 0 ∧ IsMost (cnt q n) lo hi m)
/-- What vote.Safe must answer. -/
def SafeRes (q : Nat → Int × Int) (n : Nat) (d lo hi e : Int) : Prop :=
  (vE q n ≠ 0 ∧ e = vE q n ∧ lo = 0 ∧ hi = 0) ∨ (vE q n = 0 ∧ (d < 0 ∨ (n : Int) ≤ d) ∧ e = 1 ∧ lo = 0 ∧ hi = 0) ∨
  (vE q n = 0 ∧ 0 ≤ d ∧ d < n ∧ (∀ x, cnt q n x < n - d) ∧ e = 7 ∧ lo = 0 ∧ hi = 0) ∨ (vE q n = 0 ∧ 0 ≤ d ∧ d < n ∧ e = 0 ∧ IsSafe (cnt q n) (n - d) lo hi)
theorem Handed.row {w : World} {a : Option Addr} {n : Nat} {q : Nat → Int × Int} (h : Handed w a n q) (h0 : 0 < n) : ∃ b off : Nat, a = some ⟨b, off, none⟩ ∧ Sps w b off n q := by
  rcases h.2 with e | h
  · omega
  · exact h
end Go.Proofs.YthejaecljkjliacDoor
