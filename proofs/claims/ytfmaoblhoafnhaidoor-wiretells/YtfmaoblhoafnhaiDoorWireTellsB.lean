/- The law WireTells, over what package wire must answer. -/
import Derived.Test.YtfmaoblhoafnhaiDoorWireTellsA
import Derived.Test.YtfmaoblhoafnhaiDoorWireRefF
import Derived.Test.YtfmaoblhoafnhaiDoorWireRefT
namespace Go.Proofs.YtfmaoblhoafnhaiDoor.wireTells
open Go.ChangeShapes Go.WideShapes Go.ChangeAt Go.RowKit Go.Joins Go.Proofs.YtfmaoblhoafnhaiDoor.told
set_option linter.unusedVariables false
set_option linter.unusedSimpArgs false

theorem all_ways (l : Lt) (s : ByteArray) (x1 x2 : Int) (t : ByteArray) (w : World) (he : EnvE w) (C : WrC w) (hl : LtW l) (hs : s.size ≤ maxLen) (h1 : In64 x1) (h2 : In64 x2) (ht : t.size ≤ maxLen) :
    Calls Tryd.prog 3 #[ltv l, .string s, .agg #[.int .i64 x1, .int .i64 x2], .string t] w fun o w' => o = .returned (.bool true) ∧ Below w.heap.size w w' := by
  refine ways l.frm l.to l.ans l.t1 l.t2 l.t s x1 x2 t w he (ltE l) (wst (if ltE l = 0 then wb l else [])) ((rdL s.data.toList).getD lt0).frm ((rdL s.data.toList).getD lt0).to ((rdL s.data.toList).getD lt0).ans ((rdL s.data.toList).getD lt0).t1 ((rdL s.data.toList).getD lt0).t2 ((rdL s.data.toList).getD lt0).t (rdL s.data.toList).isSome (if (rdL s.data.toList).isSome = true then 0 else 2) (okB x1 x2) (if okB x1 x2 = true then 0 else 1) (wst (if okB x1 x2 = true then sb x1 x2 else [])) ((rdS t.data.toList).getD (0, 0)).1 ((rdS t.data.toList).getD (0, 0)).2 (rdS t.data.toList).isSome (if (rdS t.data.toList).isSome = true then 0 else 2)
    (fun z => by rw [if_neg z]; rfl) rfl rfl (fun z => by rw [z]; rfl) rfl ?_ ?_ ?_ ?_ ?_ ?_ ?_ ?_ ?_ ?_ ?_
  · exact fun u hu => rletter l u
  · exact fun u hu => C.check l u hu hl
  · intro z u hu
    rw [if_pos z]
    exact rbytes l z u
  · exact fun u hu => C.letter l u hu hl
  · exact fun u hu => rreadBytes s u hs
  · exact fun u hu => C.readLetter s u hu hs
  · exact fun u hu => rspan_any x1 x2 u
  · intro z u hu
    rw [if_pos z]
    exact rspanBytes x1 x2 z u
  · exact fun u hu => C.span x1 x2 u hu h1 h2
  · exact fun u hu => rreadSpan t u ht
  · exact fun u hu => C.readSpan t u hu ht
end Go.Proofs.YtfmaoblhoafnhaiDoor.wireTells
