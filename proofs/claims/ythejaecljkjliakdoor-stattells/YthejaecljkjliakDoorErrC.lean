/- Errors by their numbers. -/
import Derived.Test.YthejaecljkjliakDoorRow
import Derived.WalkArith
namespace Go.Proofs.YthejaecljkjliakDoor
open Go.ChangeShapes Go.WideShapes Go.ChangeAt Go.RowKit
set_option linter.unusedVariables false

/-- An error by its number; 0: none. -/
def errc (e : Int) : Value := if e = 0 then .nilIface else .iface 41 (.int .i64 e)
theorem errc_zero : errc 0 = .nilIface := if_pos rfl
theorem errc_not {e : Int} (h : e ≠ 0) : errc e = .iface 41 (.int .i64 e) := if_neg h
/-- A number that an int can be. -/
abbrev In64 (n : Int) : Prop := (Lit.int .i64 n).wf = true
end Go.Proofs.YthejaecljkjliakDoor
