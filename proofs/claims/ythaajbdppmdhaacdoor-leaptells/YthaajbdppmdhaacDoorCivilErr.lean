/- Errors by their numbers, and what is wrong with a date. -/
import Derived.Test.YthaajbdppmdhaacDoorRow
import Derived.Test.YthaajbdppmdhaacDoorCivilRound
import Derived.WalkArith
namespace Go.Proofs.YthaajbdppmdhaacDoor
open Go.ChangeShapes Go.WideShapes Go.ChangeAt Go.RowKit
set_option linter.unusedVariables false

/-- An error by its number; 0: none. -/
def errc (e : Int) : Value := if e = 0 then .nilIface else .iface 81 (.int .i64 e)
theorem errc_zero : errc 0 = .nilIface := if_pos rfl
theorem errc_not {e : Int} (h : e ≠ 0) : errc e = .iface 81 (.int .i64 e) := if_neg h
/-- A number that an int can be. -/
abbrev In64 (n : Int) : Prop := (Lit.int .i64 n).wf = true
/-- What is wrong with a date. -/
def eD (y m d : Int) : Int := if okD y m d = true then 0 else 1
theorem ok64 {y m d : Int} (h : okD y m d = true) : In64 y ∧ In64 m ∧ In64 d := by
  obtain ⟨h1, h2, h3, h4, h5, h6⟩ := okD_t h
  have := mdays_le y m
  exact ⟨WalkArith.wf_i64 (by omega), WalkArith.wf_i64 (by omega), WalkArith.wf_i64 (by omega)⟩
theorem eD_ok {y m d : Int} (h : okD y m d = true) : eD y m d = 0 := if_pos h
theorem eD_no {y m d : Int} (h : okD y m d = false) : eD y m d = 1 := if_neg (by rw [h]; decide)
end Go.Proofs.YthaajbdppmdhaacDoor
