/- What the law SpanHolds takes of package span, put as it is used there: Add with its sum named, Parse that fails. -/
import Derived.Test.YtonlhhkepclnpaaDoorSpanMore
import Derived.Test.YtonlhhkepclnpaaDoorSpanText
import Derived.WalkKit
import Derived.ProofKit
import Derived.OpenShut
import Derived.Outline
import Derived.ShutString
import Derived.ChangeOld
import Derived.Below
import Derived.WalkLawsBesides
import Derived.Lib.SmallJoins
namespace Go.Proofs.YtonlhhkepclnpaaDoor.spanHolds
open Go.ChangeShapes Go.WideShapes Go.ChangeAt Go.RowKit Go.Joins
open Go.ChangeMaps (open_string shut_string)
set_option linter.unusedVariables false

theorem add_okH (a b c d : Int) (w : World) (h1 : okB a b = true) (h2 : okB c d = true) (s t : Int) (hs : Hid (s = a + c)) (ht : Hid (t = b + d)) (h3 : okB s t = true) :
    Calls Tryd.prog 20 #[.agg #[.int .i64 a, .int .i64 b], .agg #[.int .i64 c, .int .i64 d]] w fun e w' => e = .returned (.tuple #[.agg #[.int .i64 s, .int .i64 t], .nilIface]) ∧ Below w.heap.size w w' := by
  have hs := hs.out; have ht := ht.out
  subst hs ht
  exact add_ok a b c d w h1 h2 h3

theorem add_outH (a b c d : Int) (w : World) (h1 : okB a b = true) (h2 : okB c d = true) (s t : Int) (hs : Hid (s = a + c)) (ht : Hid (t = b + d)) (h3 : okB s t = false) :
    Calls Tryd.prog 20 #[.agg #[.int .i64 a, .int .i64 b], .agg #[.int .i64 c, .int .i64 d]] w fun e w' => e = .returned (.tuple #[.agg #[.int .i64 0, .int .i64 0], .iface 54 (.int .i64 1)]) ∧ Below w.heap.size w w' := by
  have hs := hs.out; have ht := ht.out
  subst hs ht
  exact add_out a b c d w h1 h2 h3

/-- How a text is no span: by which error. -/
def perr (l : List UInt8) (ec : Int) : Prop := (parseL l = none ∧ ec = 2) ∨ ∃ x y, parseL l = some (x, y) ∧ okB x y = false ∧ ec = 1

theorem parse_err (s : ByteArray) (ec : Int) (w : World) (hs : s.size < 4294967281) (he : Env w) (h : perr s.data.toList ec) :
    Calls Tryd.prog 22 #[.string s] w fun e w' => e = .returned (.tuple #[.agg #[.int .i64 0, .int .i64 0], .iface 54 (.int .i64 ec)]) ∧ Below w.heap.size w w' := by
  rcases h with ⟨h, rfl⟩ | ⟨x, y, h, h3, rfl⟩
  · exact parse_syntax s w hs he h
  · exact parse_range s x y w hs he h h3

end Go.Proofs.YtonlhhkepclnpaaDoor.spanHolds
