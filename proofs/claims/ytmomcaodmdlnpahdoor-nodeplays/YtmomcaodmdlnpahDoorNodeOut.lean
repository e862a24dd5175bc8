/- Letters as they are handed over, edges by their places. -/
import Derived.Test.YtmomcaodmdlnpahDoorWorldMath
import Derived.Test.YtmomcaodmdlnpahDoorBoundsMath
import Derived.Test.YtmomcaodmdlnpahDoorErrC
namespace Go.Proofs.YtmomcaodmdlnpahDoor
open Go.ChangeShapes Go.WideShapes Go.ChangeAt Go.RowKit
set_option linter.unusedVariables false

/-- A letter's numbers are such that an int can be. -/
structure Lt.In6 (l : Lt) : Prop where
  a : In64 l.frm
  b : In64 l.to
  c : In64 l.t1
  d : In64 l.t2
  e : In64 l.t
/-- How many there are behind a fault: none. -/
def nOf (e : Int) (n : Nat) : Nat := if e = 0 then n else 0
/-- Edges by their places. -/
def egf (l : List Eg) (i : Nat) : Eg := l.getD i ⟨0, 0, 0, 0⟩
/-- A row lies in none of these blocks. -/
def Apt (F : Nat → Prop) (a : Option Addr) : Prop := ∀ (b off : Nat), a = some ⟨b, off, none⟩ → ¬ F b
end Go.Proofs.YtmomcaodmdlnpahDoor
