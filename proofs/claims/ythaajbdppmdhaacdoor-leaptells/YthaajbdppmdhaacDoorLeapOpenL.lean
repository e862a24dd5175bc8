/- What an argument of type api.Label is: six numbers. -/
import Derived.Test.YthaajbdppmdhaacDoorLeapOpen
namespace Go.Proofs.YthaajbdppmdhaacDoor
open Go.ChangeShapes Go.WideShapes Go.ChangeAt Go.RowKit Go.Joins Go.Deep
set_option linter.unusedVariables false

theorem cellsLabel : Tryd.prog.cellsOf 62 = 6 := by kernel_rfl
theorem cells6 {α : Type} {cs : List α} (h : cs.length = 6) : ∃ a b c d e f, cs = [a, b, c, d, e, f] := by
  match cs, h with
  | [a, b, c, d, e, f], _ => exact ⟨a, b, c, d, e, f, rfl⟩
section
variable {H : Type} {enc : TypeId × Value → H} {w : World} {base : Nat} {spare : Nat → Bool} {held : Bool}
set_option maxRecDepth 100000 in
theorem open_label {r : Reach} {b0 : Nat} {v : Value} {d : DataW H} {p : List MemPlace} (hv : Value.okWide Tryd.prog w r b0 62 v) (h : DataW.Trod enc Tryd.prog w base spare held 62 v d p) :
    ∃ y m e h i s : Int, v = lbl y m e h i s ∧ In64 y ∧ In64 m ∧ In64 e ∧ In64 h ∧ In64 i ∧ In64 s := by
  obtain ⟨cs, rfl, hsz⟩ := okWide_struct Tryd.underlying62 hv
  obtain ⟨fuel, hf⟩ := h
  obtain ⟨l⟩ := cs
  have hl : l.length = 6 := by simpa using hsz.trans cellsLabel
  obtain ⟨v0, v1, v2, v3, v4, v5, rfl⟩ := cells6 hl
  have hf' : DataW.trod enc Tryd.prog w base spare held fuel 62 [v0, v1, v2, v3, v4, v5] = some (d, p) := by simpa [Value.cells] using hf
  obtain ⟨y0, y1, y2, y3, n, hx, _, h0, h1, h2, h3⟩ := trod_struct4 Tryd.underlying62 hf'
  have k : Tryd.prog.cellsOf 3 = 1 := by kernel_rfl
  have kd : Tryd.prog.cellsOf 39 = 3 := by kernel_rfl
  have g0 : DataW.trod enc Tryd.prog w base spare held n 39 [v0, v1, v2] = some y0 := by simpa [k, kd] using h0
  have g1 : DataW.trod enc Tryd.prog w base spare held n 3 [v3] = some y1 := by simpa [k, kd] using h1
  have g2 : DataW.trod enc Tryd.prog w base spare held n 3 [v4] = some y2 := by simpa [k, kd] using h2
  have g3 : DataW.trod enc Tryd.prog w base spare held n 3 [v5] = some y3 := by simpa [k, kd] using h3
  obtain ⟨x0, x1, x2, n', hx', _, j0, j1, j2⟩ := trod_struct3 Tryd.underlying39 g0
  have i0 : DataW.trod enc Tryd.prog w base spare held n' 3 [v0] = some x0 := by simpa [k] using j0
  have i1 : DataW.trod enc Tryd.prog w base spare held n' 3 [v1] = some x1 := by simpa [k] using j1
  have i2 : DataW.trod enc Tryd.prog w base spare held n' 3 [v2] = some x2 := by simpa [k] using j2
  obtain ⟨n0, e0, _, f0⟩ := DataW.trod_int Tryd.underlying3 i0
  obtain ⟨n1, e1, _, f1⟩ := DataW.trod_int Tryd.underlying3 i1
  obtain ⟨n2, e2, _, f2⟩ := DataW.trod_int Tryd.underlying3 i2
  obtain ⟨n3, e3, _, f3⟩ := DataW.trod_int Tryd.underlying3 g1
  obtain ⟨n4, e4, _, f4⟩ := DataW.trod_int Tryd.underlying3 g2
  obtain ⟨n5, e5, _, f5⟩ := DataW.trod_int Tryd.underlying3 g3
  simp at e0 e1 e2 e3 e4 e5
  subst e0 e1 e2 e3 e4 e5
  exact ⟨n0, n1, n2, n3, n4, n5, rfl, f0, f1, f2, f3, f4, f5⟩
end
end Go.Proofs.YthaajbdppmdhaacDoor
