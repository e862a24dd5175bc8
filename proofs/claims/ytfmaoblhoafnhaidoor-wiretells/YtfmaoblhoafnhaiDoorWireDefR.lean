/- What package wire must answer: ReadLetter, Span, ReadSpan. -/
import Derived.Test.YtfmaoblhoafnhaiDoorWireDef
namespace Go.Proofs.YtfmaoblhoafnhaiDoor
open Go.ChangeShapes Go.WideShapes Go.ChangeAt Go.RowKit
set_option linter.unusedVariables false

def lt0 : Lt := ⟨0, 0, false, 0, 0, 0⟩
structure WrR (w0 : World) : Prop extends Wr w0 where
  readLetter : ∀ (s : ByteArray) (u : World), Below w0.heap.size w0 u → s.size ≤ maxLen → Calls Tryd.prog 10 #[.string s] u fun o w' => o = .returned (.tuple #[ltv ((rdL s.data.toList).getD lt0), errc (if (rdL s.data.toList).isSome then 0 else 2)]) ∧ Below u.heap.size u w'
  span : ∀ (lo hi : Int) (u : World), Below w0.heap.size w0 u → In64 lo → In64 hi → Calls Tryd.prog 13 #[.agg #[.int .i64 lo, .int .i64 hi]] u fun o w' => o = .returned (.tuple #[.string (wst (if okB lo hi = true then sb lo hi else [])), errc (if okB lo hi = true then 0 else 1)]) ∧ Below u.heap.size u w'
  readSpan : ∀ (s : ByteArray) (u : World), Below w0.heap.size w0 u → s.size ≤ maxLen → Calls Tryd.prog 15 #[.string s] u fun o w' => o = .returned (.tuple #[.agg #[.int .i64 ((rdS s.data.toList).getD (0, 0)).1, .int .i64 ((rdS s.data.toList).getD (0, 0)).2], errc (if (rdS s.data.toList).isSome then 0 else 2)]) ∧ Below u.heap.size u w'
end Go.Proofs.YtfmaoblhoafnhaiDoor
