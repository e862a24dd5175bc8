/- What arguments of types []api.Event and []int are: slices behind whose addresses events, numbers lie in a row. -/
import Derived.Test.YtbghpjmjhhjcgagDoorOrdDef
import Derived.Deep.Slices
import Derived.Deep.Strs
import Derived.ChangeSlices
import Derived.Lib.SmallJoins
import Derived.OpenShut
namespace Go.Proofs.YtbghpjmjhhjcgagDoor
open Go.ChangeShapes Go.WideShapes Go.ChangeAt Go.RowKit Go.Joins Go.Deep
set_option linter.unusedVariables false

theorem cellsEvent : Tryd.prog.cellsOf 46 = 3 := by kernel_rfl
theorem cells3e {α : Type} {cs : List α} (h : cs.length = 3) : ∃ a b c, cs = [a, b, c] := by
  match cs, h with
  | [a, b, c], _ => exact ⟨a, b, c, rfl⟩
section
variable {H : Type} {enc : TypeId × Value → H} {w : World} {base : Nat} {spare : Nat → Bool} {held : Bool}
set_option maxRecDepth 100000 in
theorem open_event_cells {fuel : Nat} {cs : List Value} {x : DataW H × List MemPlace} (hl : cs.length = 3) (h : DataW.trod enc Tryd.prog w base spare held fuel 46 cs = some x) :
    ∃ q : Ev, cs = [.int .i64 q.id, .int .i64 q.lo, .int .i64 q.hi] ∧ In64 q.id := by
  obtain ⟨v0, v1, v2, rfl⟩ := cells3e hl
  obtain ⟨y0, y1, n, hx, _, h0, h1⟩ := trod_struct2 Tryd.underlying46 h
  have k : Tryd.prog.cellsOf 3 = 1 := by kernel_rfl
  have ks : Tryd.prog.cellsOf 23 = 2 := by kernel_rfl
  have g0 : DataW.trod enc Tryd.prog w base spare held n 3 [v0] = some y0 := by simpa [k, ks] using h0
  have g1 : DataW.trod enc Tryd.prog w base spare held n 23 [v1, v2] = some y1 := by simpa [k, ks] using h1
  obtain ⟨x0, x1, n', hx', _, j0, j1⟩ := trod_struct2 Tryd.underlying23 g1
  have i0 : DataW.trod enc Tryd.prog w base spare held n' 3 [v1] = some x0 := by simpa [k] using j0
  have i1 : DataW.trod enc Tryd.prog w base spare held n' 3 [v2] = some x1 := by simpa [k] using j1
  obtain ⟨n0, e0, _, f0⟩ := DataW.trod_int Tryd.underlying3 g0
  obtain ⟨n1, e1, _, f1⟩ := DataW.trod_int Tryd.underlying3 i0
  obtain ⟨n2, e2, _, f2⟩ := DataW.trod_int Tryd.underlying3 i1
  simp at e0 e1 e2
  exact ⟨⟨n0, n1, n2⟩, by rw [e0, e1, e2], by first | exact f0 | assumption⟩

set_option maxRecDepth 100000 in
theorem open_events {r : Reach} {b0 : Nat} {v : Value} {d : DataW H} {p : List MemPlace} (hv : Value.okWide Tryd.prog w r b0 40 v) (h : DataW.Trod enc Tryd.prog w base spare held 40 v d p) :
    ∃ (a : Option Addr) (n cap : Nat) (q : Nat → Ev), v = .slice a n cap ∧ VHanded w a n q ∧ IdW n q ∧ n ≤ cap := by
  obtain ⟨a, n, cap, rfl⟩ := okWide_slice Tryd.underlying40 hv
  obtain ⟨fuel, hf⟩ := h
  have hf' : DataW.trod enc Tryd.prog w base spare held fuel 40 [.slice a n cap] = some (d, p) := by simpa [Value.cells] using hf
  rcases open_slice Tryd.underlying40 hf' with ⟨hcs, hx⟩ | ⟨a', len', cap', m, nf, D, Pl, hcs, hb, hl, hm, hmm, hx, hx2⟩
  · simp at hcs
    exact ⟨a, n, cap, fun _ => ⟨0, 0, 0⟩, rfl, ⟨by omega, Or.inl hcs.2.1⟩, fun i hi => by show In64 0; decide, by omega⟩
  · simp at hcs
    obtain ⟨rfl, rfl, rfl⟩ := hcs
    unfold maxLen at hm
    by_cases h0 : n = 0
    · exact ⟨_, n, cap, fun _ => ⟨0, 0, 0⟩, rfl, ⟨by omega, Or.inl h0⟩, fun i hi => by show In64 0; decide, by omega⟩
    have hnm : n ≤ m := by rw [hmm]; split <;> omega
    have each : ∀ i, i < n → ∃ q : Ev, w.cell? (a'.add (i * 3)) = some (.int .i64 q.id) ∧ w.cell? (a'.add (i * 3 + 1)) = some (.int .i64 q.lo) ∧ w.cell? (a'.add (i * 3 + 1 + 1)) = some (.int .i64 q.hi) ∧ In64 q.id := by
      intro i hi
      obtain ⟨cs', h1, h2⟩ := hx2 i (by omega)
      rw [cellsEvent] at h1
      obtain ⟨_, hlen, hcell⟩ := World.cells?_some h1
      obtain ⟨q, rfl, hwf⟩ := open_event_cells hlen h2
      refine ⟨q, ?_, ?_, ?_, hwf⟩
      · have := hcell 0 (by omega); rw [add_add] at this; simpa using this
      · have := hcell 1 (by omega); rw [add_add] at this; simpa using this
      · have := hcell 2 (by omega); rw [add_add] at this; simpa using this
    haveI : Inhabited Ev := ⟨⟨0, 0, 0⟩⟩
    obtain ⟨q, hq⟩ := choose_lt each
    obtain ⟨b, off, spot⟩ := a'
    have hspot : spot = none := by simpa [Addr.add] using World.cell?_spot (hq 0 (by omega)).1
    subst hspot
    refine ⟨_, n, cap, q, rfl, ⟨by omega, Or.inr ⟨b, off, rfl, fun i hi => ?_⟩⟩, fun i hi => (hq i hi).2.2.2, by omega⟩
    obtain ⟨g0, g1, g2, _⟩ := hq i hi
    rw [add_plain] at g0 g1 g2
    exact ⟨g0, g1, g2⟩
set_option maxRecDepth 100000 in
theorem open_numsO {fuel : Nat} {cs : List Value} {x : DataW H × List MemPlace} (h : DataW.trod enc Tryd.prog w base spare held fuel 41 cs = some x) :
    ∃ (a : Option Addr) (n cap : Nat) (z : Nat → Int), cs = [.slice a n cap] ∧ NHanded w a n z ∧ (∀ j, j < n → In64 (z j)) ∧ n ≤ cap := by
  have k : Tryd.prog.cellsOf 3 = 1 := by kernel_rfl
  rcases Go.ChangeShapes.open_ints Tryd.underlying41 Tryd.underlying3 k h with ⟨hcs, hx⟩ | ⟨a', len', cap', zs, hcs, hb, hl, hm, hlen, hx, hcell, hwf⟩
  · exact ⟨none, 0, 0, fun _ => 0, hcs, ⟨by omega, Or.inl rfl⟩, fun j hj => by omega, Nat.le_refl _⟩
  · unfold maxLen at hm
    have hnz : len' ≤ zs.length := by rw [hlen]; split <;> omega
    by_cases h0 : len' = 0
    · exact ⟨_, len', cap', fun _ => 0, hcs, ⟨by omega, Or.inl h0⟩, fun j hj => by omega, by omega⟩
    obtain ⟨b, off, spot⟩ := a'
    have hspot : spot = none := by simpa [Addr.add] using World.cell?_spot (hcell 0 (by omega))
    subst hspot
    refine ⟨_, len', cap', fun i => zs.getD i 0, hcs, ⟨by omega, Or.inr ⟨b, off, rfl, fun i hi => ?_⟩⟩, fun j hj => ?_, by omega⟩
    · have g := hcell i (by omega)
      rwa [add_plain] at g
    · have jl : j < zs.length := by omega
      show In64 (zs.getD j 0)
      rw [List.getD_eq_getElem?_getD, List.getElem?_eq_getElem jl]
      exact hwf _ (List.getElem_mem jl)
set_option maxRecDepth 100000 in
theorem open_order {r : Reach} {b0 : Nat} {v : Value} {d : DataW H} {p : List MemPlace} (hv : Value.okWide Tryd.prog w r b0 41 v) (h : DataW.Trod enc Tryd.prog w base spare held 41 v d p) :
    ∃ (a : Option Addr) (n cap : Nat) (z : Nat → Int), v = .slice a n cap ∧ NHanded w a n z ∧ n ≤ cap := by
  obtain ⟨a, n, cap, rfl⟩ := okWide_slice Tryd.underlying41 hv
  obtain ⟨fuel, hf⟩ := h
  have hf' : DataW.trod enc Tryd.prog w base spare held fuel 41 [.slice a n cap] = some (d, p) := by simpa [Value.cells] using hf
  obtain ⟨a2, n2, c2, z, e, h1, _, h3⟩ := open_numsO hf'
  simp at e
  obtain ⟨rfl, rfl, rfl⟩ := e
  exact ⟨a, n, cap, z, rfl, h1, h3⟩
end
end Go.Proofs.YtbghpjmjhhjcgagDoor
