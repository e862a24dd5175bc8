/- What an argument of type []int is: a slice behind whose address numbers lie in a row; its capacity, and how much it weighs. -/
import Derived.Test.YthejaecljkjliakDoorInts
import Derived.Test.YthejaecljkjliakDoorErrC
import Derived.Deep.Slices
import Derived.Deep.Strs
import Derived.ChangeSlices
import Derived.SizedLaws
import Derived.Lib.SmallJoins
import Derived.OpenShut
namespace Go.Proofs.YthejaecljkjliakDoor
open Go.ChangeShapes Go.WideShapes Go.ChangeAt Go.RowKit Go.Joins Go.Deep
set_option linter.unusedVariables false

section
variable {H : Type} {enc : TypeId × Value → H} {w : World} {base : Nat} {spare : Nat → Bool} {held : Bool}
theorem bytesIntO : Tryd.prog.bytesOf 3 = 8 := by kernel_rfl
set_option maxRecDepth 100000 in
theorem open_numS {r : Reach} {b0 : Nat} {v : Value} {d : DataW H} {p : List MemPlace} (hv : Value.okWide Tryd.prog w r b0 23 v) (h : DataW.Trod enc Tryd.prog w base spare held 23 v d p) :
    ∃ (a : Option Addr) (n cap : Nat) (z : Nat → Int), v = .slice a n cap ∧ NHanded w a n z ∧ n ≤ cap ∧ (∀ j, j < n → In64 (z j)) ∧ (n = 0 ∨ ∃ es sp, d = .slice es sp ∧ n ≤ es.length + sp.length) := by
  obtain ⟨a, n, cap, rfl⟩ := okWide_slice Tryd.underlying23 hv
  obtain ⟨fuel, hf⟩ := h
  have hf' : DataW.trod enc Tryd.prog w base spare held fuel 23 [.slice a n cap] = some (d, p) := by simpa [Value.cells] using hf
  have k : Tryd.prog.cellsOf 3 = 1 := by kernel_rfl
  rcases Go.ChangeShapes.open_ints Tryd.underlying23 Tryd.underlying3 k hf' with ⟨hcs, hx⟩ | ⟨a', len', cap', zs, hcs, hb, hl, hm, hlen, hx, hcell, hwf⟩
  · simp at hcs
    obtain ⟨rfl, rfl, rfl⟩ := hcs
    exact ⟨none, 0, 0, fun _ => 0, rfl, ⟨by omega, Or.inl rfl⟩, Nat.le_refl _, fun j hj => by omega, Or.inl rfl⟩
  · simp at hcs
    obtain ⟨rfl, rfl, rfl⟩ := hcs
    unfold maxLen at hm
    have hnz : n ≤ zs.length := by rw [hlen]; split <;> omega
    simp only [Prod.mk.injEq] at hx
    have hd : n = 0 ∨ ∃ es sp, d = .slice es sp ∧ n ≤ es.length + sp.length := Or.inr ⟨_, _, hx.1, by simp [lits]; omega⟩
    by_cases h0 : n = 0
    · exact ⟨_, n, cap, fun _ => 0, rfl, ⟨by omega, Or.inl h0⟩, hl, fun j hj => by omega, hd⟩
    obtain ⟨b, off, spot⟩ := a'
    have hspot : spot = none := by simpa [Addr.add] using World.cell?_spot (hcell 0 (by omega))
    subst hspot
    refine ⟨_, n, cap, fun i => zs.getD i 0, rfl, ⟨by omega, Or.inr ⟨b, off, rfl, fun i hi => ?_⟩⟩, hl, fun j hj => ?_, hd⟩
    · have g := hcell i (by omega)
      rwa [add_plain] at g
    · have jl : j < zs.length := by omega
      show In64 (zs.getD j 0)
      rw [List.getD_eq_getElem?_getD, List.getElem?_eq_getElem jl]
      exact hwf _ (List.getElem_mem jl)
set_option maxRecDepth 100000 in
theorem open_numC {r : Reach} {b0 : Nat} {v : Value} {d : DataW H} {p : List MemPlace} (hv : Value.okWide Tryd.prog w r b0 23 v) (h : DataW.Trod enc Tryd.prog w base spare held 23 v d p) :
    ∃ (a : Option Addr) (n cap : Nat) (z : Nat → Int), v = .slice a n cap ∧ NHanded w a n z ∧ n ≤ cap := by
  obtain ⟨a, n, cap, z, e, h1, h2, _⟩ := open_numS hv h
  exact ⟨a, n, cap, z, e, h1, h2⟩
end
end Go.Proofs.YthejaecljkjliakDoor
