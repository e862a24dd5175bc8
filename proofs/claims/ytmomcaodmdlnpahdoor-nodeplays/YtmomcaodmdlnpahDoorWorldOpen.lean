/- What arguments of types []int are. -/
import Derived.Test.YtmomcaodmdlnpahDoorInts
import Derived.Test.YtmomcaodmdlnpahDoorErrC
import Derived.Deep.Slices
import Derived.Deep.Strs
import Derived.ChangeSlices
import Derived.Lib.SmallJoins
import Derived.OpenShut
namespace Go.Proofs.YtmomcaodmdlnpahDoor
open Go.ChangeShapes Go.WideShapes Go.ChangeAt Go.RowKit Go.Joins Go.Deep
set_option linter.unusedVariables false

section
variable {H : Type} {enc : TypeId × Value → H} {w : World} {base : Nat} {spare : Nat → Bool} {held : Bool}
set_option maxRecDepth 100000 in
theorem open_nums {fuel : Nat} {cs : List Value} {x : DataW H × List MemPlace} (h : DataW.trod enc Tryd.prog w base spare held fuel 27 cs = some x) :
    ∃ (a : Option Addr) (n cap : Nat) (z : Nat → Int), cs = [.slice a n cap] ∧ NHanded w a n z ∧ ∀ j, j < n → In64 (z j) := by
  have k : Tryd.prog.cellsOf 3 = 1 := by kernel_rfl
  rcases Go.ChangeShapes.open_ints Tryd.underlying27 Tryd.underlying3 k h with ⟨hcs, hx⟩ | ⟨a', len', cap', zs, hcs, hb, hl, hm, hlen, hx, hcell, hwf⟩
  · exact ⟨none, 0, 0, fun _ => 0, hcs, ⟨by omega, Or.inl rfl⟩, fun j hj => by omega⟩
  · unfold maxLen at hm
    have hnz : len' ≤ zs.length := by rw [hlen]; split <;> omega
    by_cases h0 : len' = 0
    · exact ⟨_, len', cap', fun _ => 0, hcs, ⟨by omega, Or.inl h0⟩, fun j hj => by omega⟩
    obtain ⟨b, off, spot⟩ := a'
    have hspot : spot = none := by simpa [Addr.add] using World.cell?_spot (hcell 0 (by omega))
    subst hspot
    refine ⟨_, len', cap', fun i => zs.getD i 0, hcs, ⟨by omega, Or.inr ⟨b, off, rfl, fun i hi => ?_⟩⟩, fun j hj => ?_⟩
    · have g := hcell i (by omega)
      rwa [add_plain] at g
    · have jl : j < zs.length := by omega
      show In64 (zs.getD j 0)
      rw [List.getD_eq_getElem?_getD, List.getElem?_eq_getElem jl]
      exact hwf _ (List.getElem_mem jl)
set_option maxRecDepth 100000 in
theorem open_ns {r : Reach} {b0 : Nat} {v : Value} {d : DataW H} {p : List MemPlace} (hv : Value.okWide Tryd.prog w r b0 27 v) (h : DataW.Trod enc Tryd.prog w base spare held 27 v d p) :
    ∃ (a : Option Addr) (n cap : Nat) (z : Nat → Int), v = .slice a n cap ∧ NHanded w a n z ∧ ∀ j, j < n → In64 (z j) := by
  obtain ⟨a, n, cap, rfl⟩ := okWide_slice Tryd.underlying27 hv
  obtain ⟨fuel, hf⟩ := h
  have hf' : DataW.trod enc Tryd.prog w base spare held fuel 27 [.slice a n cap] = some (d, p) := by simpa [Value.cells] using hf
  obtain ⟨a2, n2, c2, z, e, h1⟩ := open_nums hf'
  simp at e
  obtain ⟨rfl, rfl, rfl⟩ := e
  exact ⟨a, n, cap, z, rfl, h1⟩
end
end Go.Proofs.YtmomcaodmdlnpahDoor
