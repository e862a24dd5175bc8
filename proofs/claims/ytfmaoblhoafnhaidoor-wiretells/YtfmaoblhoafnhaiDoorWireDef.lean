/- What package wire must answer: Letter. -/
import Derived.Test.YtfmaoblhoafnhaiDoorWireMath
import Derived.Test.YtfmaoblhoafnhaiDoorWorldLt
import Derived.Test.YtfmaoblhoafnhaiDoorErrC
namespace Go.Proofs.YtfmaoblhoafnhaiDoor
open Go.ChangeShapes Go.WideShapes Go.ChangeAt Go.RowKit
set_option linter.unusedVariables false

/-- Bytes as a string. -/
def wst (l : List UInt8) : ByteArray := ⟨l.toArray⟩
theorem wst_size (l : List UInt8) : (wst l).size = l.length := by simp [wst, ByteArray.size]
theorem wst_back (s : ByteArray) : wst s.data.toList = s := by
  unfold wst
  cases s
  simp
theorem wst_inj {l m : List UInt8} (h : wst l = wst m) : l = m := by
  unfold wst at h
  injection h with h
  simpa using congrArg Array.toList h
/-- Each number of a letter is one that an int can be. -/
structure LtW (l : Lt) : Prop where
  f : In64 l.frm
  t : In64 l.to
  a : In64 l.t1
  b : In64 l.t2
  c : In64 l.t
/-- What package wire must answer, behind a world w0. -/
structure Wr (w0 : World) : Prop where
  letter : ∀ (l : Lt) (u : World), Below w0.heap.size w0 u → LtW l → Calls Tryd.prog 8 #[ltv l] u fun o w' => o = .returned (.tuple #[.string (wst (if ltE l = 0 then wb l else [])), errc (ltE l)]) ∧ Below u.heap.size u w'
end Go.Proofs.YtfmaoblhoafnhaiDoor
