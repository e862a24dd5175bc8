/- What an argument of type []api.Letter is. -/
import Derived.Test.YtmomcaodmdlnpahDoorNodeDef
import Derived.Deep.Slices
import Derived.Deep.Strs
import Derived.ChangeSlices
import Derived.Lib.SmallJoins
import Derived.OpenShut
namespace Go.Proofs.YtmomcaodmdlnpahDoor
open Go.ChangeShapes Go.WideShapes Go.ChangeAt Go.RowKit Go.Joins Go.Deep
set_option linter.unusedVariables false

/-- Letters lie in a row behind an address. -/
def Lns (w : World) (b off n : Nat) (q : Nat → Lt) : Prop := ∀ i, i < n → (∀ j v, (ltc (q i))[j]? = some v → w.cell? ⟨b, off + i * 6 + j, none⟩ = some v) ∧ (q i).In6
def LnHanded (w : World) (a : Option Addr) (n : Nat) (q : Nat → Lt) : Prop := n ≤ 9223372036854775807 ∧ (n = 0 ∨ ∃ b off : Nat, a = some ⟨b, off, none⟩ ∧ Lns w b off n q)
theorem cellsLetterN : Tryd.prog.cellsOf 37 = 6 := by kernel_rfl
theorem cells6n {α : Type} {cs : List α} (h : cs.length = 6) : ∃ a b c d e f, cs = [a, b, c, d, e, f] := by
  match cs, h with
  | [a, b, c, d, e, f], _ => exact ⟨a, b, c, d, e, f, rfl⟩
section
variable {H : Type} {enc : TypeId × Value → H} {w : World} {base : Nat} {spare : Nat → Bool} {held : Bool}
theorem trod_struct6n {P : Program} {t : TypeId} {f0 f1 f2 f3 f4 f5 : Field} {fuel : Nat} {cs : List Value} {x : DataW H × List MemPlace} (ht : P.underlying t = some (.struct #[f0, f1, f2, f3, f4, f5])) (h : DataW.trod enc P w base spare held fuel t cs = some x) :
    ∃ y0 y1 y2 y3 y4 y5 n, DataW.trod enc P w base spare held n f0.type ((cs.drop f0.offset).take (P.cellsOf f0.type)) = some y0 ∧
      DataW.trod enc P w base spare held n f1.type ((cs.drop f1.offset).take (P.cellsOf f1.type)) = some y1 ∧ DataW.trod enc P w base spare held n f2.type ((cs.drop f2.offset).take (P.cellsOf f2.type)) = some y2 ∧
      DataW.trod enc P w base spare held n f3.type ((cs.drop f3.offset).take (P.cellsOf f3.type)) = some y3 ∧ DataW.trod enc P w base spare held n f4.type ((cs.drop f4.offset).take (P.cellsOf f4.type)) = some y4 ∧
      DataW.trod enc P w base spare held n f5.type ((cs.drop f5.offset).take (P.cellsOf f5.type)) = some y5 := by
  obtain ⟨xs, n, _, rfl, hl, hlen, hf⟩ := DataW.trod_struct ht h
  match xs, hlen with
  | [y0, y1, y2, y3, y4, y5], _ => exact ⟨y0, y1, y2, y3, y4, y5, n, by simpa using hf 0 f0 rfl, by simpa using hf 1 f1 rfl, by simpa using hf 2 f2 rfl, by simpa using hf 3 f3 rfl, by simpa using hf 4 f4 rfl, by simpa using hf 5 f5 rfl⟩
set_option maxRecDepth 100000 in
theorem open_letter_cells {fuel : Nat} {cs : List Value} {x : DataW H × List MemPlace} (hl : cs.length = 6) (h : DataW.trod enc Tryd.prog w base spare held fuel 37 cs = some x) :
    ∃ q : Lt, cs = ltc q ∧ q.In6 := by
  obtain ⟨v0, v1, v2, v3, v4, v5, rfl⟩ := cells6n hl
  obtain ⟨y0, y1, y2, y3, y4, y5, n, h0, h1, h2, h3, h4, h5⟩ := trod_struct6n Tryd.underlying37 h
  have k : Tryd.prog.cellsOf 3 = 1 := by kernel_rfl
  have kb : Tryd.prog.cellsOf 4 = 1 := by kernel_rfl
  have g0 : DataW.trod enc Tryd.prog w base spare held n 3 [v0] = some y0 := by simpa [k, kb] using h0
  have g1 : DataW.trod enc Tryd.prog w base spare held n 3 [v1] = some y1 := by simpa [k, kb] using h1
  have g2 : DataW.trod enc Tryd.prog w base spare held n 4 [v2] = some y2 := by simpa [k, kb] using h2
  have g3 : DataW.trod enc Tryd.prog w base spare held n 3 [v3] = some y3 := by simpa [k, kb] using h3
  have g4 : DataW.trod enc Tryd.prog w base spare held n 3 [v4] = some y4 := by simpa [k, kb] using h4
  have g5 : DataW.trod enc Tryd.prog w base spare held n 3 [v5] = some y5 := by simpa [k, kb] using h5
  obtain ⟨n0, e0, _, f0⟩ := DataW.trod_int Tryd.underlying3 g0
  obtain ⟨n1, e1, _, f1⟩ := DataW.trod_int Tryd.underlying3 g1
  obtain ⟨n2, e2, _⟩ := DataW.trod_bool Tryd.underlying4 g2
  obtain ⟨n3, e3, _, f3⟩ := DataW.trod_int Tryd.underlying3 g3
  obtain ⟨n4, e4, _, f4⟩ := DataW.trod_int Tryd.underlying3 g4
  obtain ⟨n5, e5, _, f5⟩ := DataW.trod_int Tryd.underlying3 g5
  simp at e0 e1 e2 e3 e4 e5
  exact ⟨⟨n0, n1, n2, n3, n4, n5⟩, by rw [e0, e1, e2, e3, e4, e5]; rfl, f0, f1, f3, f4, f5⟩
set_option maxRecDepth 100000 in
theorem open_letters {r : Reach} {b0 : Nat} {v : Value} {d : DataW H} {p : List MemPlace} (hv : Value.okWide Tryd.prog w r b0 34 v) (h : DataW.Trod enc Tryd.prog w base spare held 34 v d p) :
    ∃ (a : Option Addr) (n cap : Nat) (q : Nat → Lt), v = .slice a n cap ∧ LnHanded w a n q := by
  obtain ⟨a, n, cap, rfl⟩ := okWide_slice Tryd.underlying34 hv
  obtain ⟨fuel, hf⟩ := h
  have hf' : DataW.trod enc Tryd.prog w base spare held fuel 34 [.slice a n cap] = some (d, p) := by simpa [Value.cells] using hf
  rcases open_slice Tryd.underlying34 hf' with ⟨hcs, hx⟩ | ⟨a', len', cap', m, nf, D, Pl, hcs, hb, hl, hm, hmm, hx, hx2⟩
  · simp at hcs
    exact ⟨a, n, cap, fun _ => ⟨0, 0, false, 0, 0, 0⟩, rfl, by omega, Or.inl hcs.2.1⟩
  · simp at hcs
    obtain ⟨rfl, rfl, rfl⟩ := hcs
    unfold maxLen at hm
    by_cases h0 : n = 0
    · exact ⟨_, n, cap, fun _ => ⟨0, 0, false, 0, 0, 0⟩, rfl, by omega, Or.inl h0⟩
    have hnm : n ≤ m := by rw [hmm]; split <;> omega
    have each : ∀ i, i < n → ∃ q : Lt, (∀ j x, (ltc q)[j]? = some x → w.cell? (a'.add (i * 6 + j)) = some x) ∧ q.In6 := by
      intro i hi
      obtain ⟨cs', h1, h2⟩ := hx2 i (by omega)
      rw [cellsLetterN] at h1
      obtain ⟨_, hlen, hcell⟩ := World.cells?_some h1
      obtain ⟨q, rfl, hq⟩ := open_letter_cells hlen h2
      refine ⟨q, fun j x hx => ?_, hq⟩
      have lj : j < 6 := by
        rcases Nat.lt_or_ge j 6 with g | g
        · exact g
        · rw [List.getElem?_eq_none g] at hx; cases hx
      have := hcell j (by omega)
      rw [add_add] at this
      rw [this]
      exact hx
    haveI : Inhabited Lt := ⟨⟨0, 0, false, 0, 0, 0⟩⟩
    obtain ⟨q, hq⟩ := choose_lt each
    obtain ⟨b, off, spot⟩ := a'
    have hspot : spot = none := by simpa [Addr.add] using World.cell?_spot ((hq 0 (by omega)).1 0 _ rfl)
    subst hspot
    refine ⟨_, n, cap, q, rfl, by omega, Or.inr ⟨b, off, rfl, fun i hi => ⟨fun j x hx => ?_, (hq i hi).2⟩⟩⟩
    have g0 := (hq i hi).1 j x hx
    rw [add_plain] at g0
    rw [show off + i * 6 + j = off + (i * 6 + j) by omega]
    exact g0
end
end Go.Proofs.YtmomcaodmdlnpahDoor
