/- What an argument of type api.Date is: three numbers. -/
import Derived.Test.YthaajbdppmdhaacDoorCivilErr
import Derived.Lib.SmallJoins
import Derived.OpenShut
namespace Go.Proofs.YthaajbdppmdhaacDoor
open Go.ChangeShapes Go.WideShapes Go.ChangeAt Go.RowKit Go.Joins
set_option linter.unusedVariables false

theorem cellsDate : Tryd.prog.cellsOf 39 = 3 := by kernel_rfl
section
variable {H : Type} {enc : TypeId × Value → H} {w : World} {base : Nat} {spare : Nat → Bool} {held : Bool}
set_option maxRecDepth 100000 in
theorem open_date {r : Reach} {b0 : Nat} {v : Value} {d : DataW H} {p : List MemPlace} (hv : Value.okWide Tryd.prog w r b0 39 v) (h : DataW.Trod enc Tryd.prog w base spare held 39 v d p) :
    ∃ a b c : Int, v = .agg #[.int .i64 a, .int .i64 b, .int .i64 c] ∧ In64 a ∧ In64 b ∧ In64 c := by
  obtain ⟨v0, v1, v2, y0, y1, y2, n, rfl, _, _, h0, h1, h2⟩ := open_agg3 Tryd.underlying39 (by kernel_rfl) cellsDate hv h
  obtain ⟨n0, e0, _, f0⟩ := DataW.trod_int Tryd.underlying3 h0
  obtain ⟨n1, e1, _, f1⟩ := DataW.trod_int Tryd.underlying3 h1
  obtain ⟨n2, e2, _, f2⟩ := DataW.trod_int Tryd.underlying3 h2
  simp at e0 e1 e2
  subst e0 e1 e2
  exact ⟨n0, n1, n2, rfl, f0, f1, f2⟩
end
end Go.Proofs.YthaajbdppmdhaacDoor
