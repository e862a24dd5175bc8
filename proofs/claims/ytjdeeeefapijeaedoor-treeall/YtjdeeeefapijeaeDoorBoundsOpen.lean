/- What arguments of types []api.Edge, api.Edge and []int are. -/
import Derived.Test.YtjdeeeefapijeaeDoorBoundsDefA
import Derived.Deep.Slices
import Derived.Deep.Strs
import Derived.ChangeSlices
import Derived.Lib.SmallJoins
import Derived.OpenShut
namespace Go.Proofs.YtjdeeeefapijeaeDoor
open Go.ChangeShapes Go.WideShapes Go.ChangeAt Go.RowKit Go.Joins Go.Deep
set_option linter.unusedVariables false

theorem cellsEdge : Tryd.prog.cellsOf 43 = 4 := by kernel_rfl
theorem cells4 {α : Type} {cs : List α} (h : cs.length = 4) : ∃ a b c d, cs = [a, b, c, d] := by
  match cs, h with
  | [a, b, c, d], _ => exact ⟨a, b, c, d, rfl⟩
abbrev egv (e : Eg) : Value := .agg #[.int .i64 e.a, .int .i64 e.b, .int .i64 e.lo, .int .i64 e.hi]
section
variable {H : Type} {enc : TypeId × Value → H} {w : World} {base : Nat} {spare : Nat → Bool} {held : Bool}
set_option maxRecDepth 100000 in
theorem open_edge_cells {fuel : Nat} {cs : List Value} {x : DataW H × List MemPlace} (hl : cs.length = 4) (h : DataW.trod enc Tryd.prog w base spare held fuel 43 cs = some x) :
    ∃ q : Eg, cs = [.int .i64 q.a, .int .i64 q.b, .int .i64 q.lo, .int .i64 q.hi] ∧ In64 q.a ∧ In64 q.b ∧ In64 q.lo ∧ In64 q.hi := by
  obtain ⟨v0, v1, v2, v3, rfl⟩ := cells4 hl
  obtain ⟨y0, y1, y2, n, hx, _, h0, h1, h2⟩ := trod_struct3 Tryd.underlying43 h
  have k : Tryd.prog.cellsOf 3 = 1 := by kernel_rfl
  have ks : Tryd.prog.cellsOf 41 = 2 := by kernel_rfl
  have g0 : DataW.trod enc Tryd.prog w base spare held n 3 [v0] = some y0 := by simpa [k, ks] using h0
  have g1 : DataW.trod enc Tryd.prog w base spare held n 3 [v1] = some y1 := by simpa [k, ks] using h1
  have g2 : DataW.trod enc Tryd.prog w base spare held n 41 [v2, v3] = some y2 := by simpa [k, ks] using h2
  obtain ⟨x0, x1, n', hx', _, j0, j1⟩ := trod_struct2 Tryd.underlying41 g2
  have i0 : DataW.trod enc Tryd.prog w base spare held n' 3 [v2] = some x0 := by simpa [k] using j0
  have i1 : DataW.trod enc Tryd.prog w base spare held n' 3 [v3] = some x1 := by simpa [k] using j1
  obtain ⟨n0, e0, _, f0⟩ := DataW.trod_int Tryd.underlying3 g0
  obtain ⟨n1, e1, _, f1⟩ := DataW.trod_int Tryd.underlying3 g1
  obtain ⟨n2, e2, _, f2⟩ := DataW.trod_int Tryd.underlying3 i0
  obtain ⟨n3, e3, _, f3⟩ := DataW.trod_int Tryd.underlying3 i1
  simp at e0 e1 e2 e3
  exact ⟨⟨n0, n1, n2, n3⟩, by rw [e0, e1, e2, e3], f0, f1, f2, f3⟩

set_option maxRecDepth 100000 in
theorem open_edge {r : Reach} {b0 : Nat} {v : Value} {d : DataW H} {p : List MemPlace} (hv : Value.okWide Tryd.prog w r b0 43 v) (h : DataW.Trod enc Tryd.prog w base spare held 43 v d p) :
    ∃ q : Eg, v = egv q ∧ In64 q.a ∧ In64 q.b ∧ In64 q.lo ∧ In64 q.hi := by
  obtain ⟨cs, rfl, hsz⟩ := okWide_struct Tryd.underlying43 hv
  obtain ⟨fuel, hf⟩ := h
  obtain ⟨l⟩ := cs
  have hl : l.length = 4 := by simpa using hsz.trans cellsEdge
  have hf' : DataW.trod enc Tryd.prog w base spare held fuel 43 l = some (d, p) := by simpa [Value.cells] using hf
  obtain ⟨q, rfl, a, b, c, e⟩ := open_edge_cells hl hf'
  exact ⟨q, rfl, a, b, c, e⟩

set_option maxRecDepth 100000 in
theorem open_edges {r : Reach} {b0 : Nat} {v : Value} {d : DataW H} {p : List MemPlace} (hv : Value.okWide Tryd.prog w r b0 22 v) (h : DataW.Trod enc Tryd.prog w base spare held 22 v d p) :
    ∃ (a : Option Addr) (n cap : Nat) (q : Nat → Eg), v = .slice a n cap ∧ EHanded w a n q := by
  obtain ⟨a, n, cap, rfl⟩ := okWide_slice Tryd.underlying22 hv
  obtain ⟨fuel, hf⟩ := h
  have hf' : DataW.trod enc Tryd.prog w base spare held fuel 22 [.slice a n cap] = some (d, p) := by simpa [Value.cells] using hf
  rcases open_slice Tryd.underlying22 hf' with ⟨hcs, hx⟩ | ⟨a', len', cap', m, nf, D, Pl, hcs, hb, hl, hm, hmm, hx, hx2⟩
  · simp at hcs
    exact ⟨a, n, cap, fun _ => ⟨0, 0, 0, 0⟩, rfl, by omega, Or.inl hcs.2.1⟩
  · simp at hcs
    obtain ⟨rfl, rfl, rfl⟩ := hcs
    unfold maxLen at hm
    by_cases h0 : n = 0
    · exact ⟨_, n, cap, fun _ => ⟨0, 0, 0, 0⟩, rfl, by omega, Or.inl h0⟩
    have hnm : n ≤ m := by rw [hmm]; split <;> omega
    have each : ∀ i, i < n → ∃ q : Eg, w.cell? (a'.add (i * 4)) = some (.int .i64 q.a) ∧ w.cell? (a'.add (i * 4 + 1)) = some (.int .i64 q.b) ∧ w.cell? (a'.add (i * 4 + 2)) = some (.int .i64 q.lo) ∧ w.cell? (a'.add (i * 4 + 3)) = some (.int .i64 q.hi) := by
      intro i hi
      obtain ⟨cs', h1, h2⟩ := hx2 i (by omega)
      rw [cellsEdge] at h1
      obtain ⟨_, hlen, hcell⟩ := World.cells?_some h1
      obtain ⟨q, rfl, _⟩ := open_edge_cells hlen h2
      refine ⟨q, ?_, ?_, ?_, ?_⟩
      · have := hcell 0 (by omega); rw [add_add] at this; simpa using this
      · have := hcell 1 (by omega); rw [add_add] at this; simpa using this
      · have := hcell 2 (by omega); rw [add_add] at this; simpa using this
      · have := hcell 3 (by omega); rw [add_add] at this; simpa using this
    haveI : Inhabited Eg := ⟨⟨0, 0, 0, 0⟩⟩
    obtain ⟨q, hq⟩ := choose_lt each
    obtain ⟨b, off, spot⟩ := a'
    have hspot : spot = none := by simpa [Addr.add] using World.cell?_spot (hq 0 (by omega)).1
    subst hspot
    refine ⟨_, n, cap, q, rfl, by omega, Or.inr ⟨b, off, rfl, fun i hi => ?_⟩⟩
    obtain ⟨g0, g1, g2, g3⟩ := hq i hi
    rw [add_plain] at g0 g1 g2 g3
    exact ⟨g0, g1, g2, g3⟩

set_option maxRecDepth 100000 in
theorem open_clocks {r : Reach} {b0 : Nat} {v : Value} {d : DataW H} {p : List MemPlace} (hv : Value.okWide Tryd.prog w r b0 23 v) (h : DataW.Trod enc Tryd.prog w base spare held 23 v d p) :
    ∃ (a : Option Addr) (n cap : Nat) (z : Nat → Int), v = .slice a n cap ∧ NHanded w a n z := by
  obtain ⟨a, n, cap, rfl⟩ := okWide_slice Tryd.underlying23 hv
  obtain ⟨fuel, hf⟩ := h
  have hf' : DataW.trod enc Tryd.prog w base spare held fuel 23 [.slice a n cap] = some (d, p) := by simpa [Value.cells] using hf
  have k : Tryd.prog.cellsOf 3 = 1 := by kernel_rfl
  rcases Go.ChangeShapes.open_ints Tryd.underlying23 Tryd.underlying3 k hf' with ⟨hcs, hx⟩ | ⟨a', len', cap', zs, hcs, hb, hl, hm, hlen, hx, hcell, hwf⟩
  · simp at hcs
    exact ⟨a, n, cap, fun _ => 0, rfl, by omega, Or.inl hcs.2.1⟩
  · simp at hcs
    obtain ⟨rfl, rfl, rfl⟩ := hcs
    unfold maxLen at hm
    have hnz : n ≤ zs.length := by rw [hlen]; split <;> omega
    by_cases h0 : n = 0
    · exact ⟨_, n, cap, fun _ => 0, rfl, by omega, Or.inl h0⟩
    obtain ⟨b, off, spot⟩ := a'
    have hspot : spot = none := by simpa [Addr.add] using World.cell?_spot (hcell 0 (by omega))
    subst hspot
    refine ⟨_, n, cap, fun i => zs.getD i 0, rfl, by omega, Or.inr ⟨b, off, rfl, fun i hi => ?_⟩⟩
    have g := hcell i (by omega)
    rwa [add_plain] at g
end
end Go.Proofs.YtjdeeeefapijeaeDoor
