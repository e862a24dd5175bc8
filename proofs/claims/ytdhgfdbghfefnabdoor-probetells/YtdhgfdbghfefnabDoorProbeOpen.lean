/- What an argument of type []api.Probe is: a slice behind whose address the probes lie in a row, four numbers each. -/
import Derived.Test.YtdhgfdbghfefnabDoorProbeBst
import Derived.Deep.Slices
import Derived.Lib.SmallJoins
import Derived.OpenShut
namespace Go.Proofs.YtdhgfdbghfefnabDoor
open Go.ChangeShapes Go.WideShapes Go.ChangeAt Go.RowKit Go.Joins Go.Deep
set_option linter.unusedVariables false

theorem cellsProbe : Tryd.prog.cellsOf 31 = 4 := by kernel_rfl
theorem cells4 {α : Type} {cs : List α} (h : cs.length = 4) : ∃ a b c d, cs = [a, b, c, d] := by
  match cs, h with
  | [a, b, c, d], _ => exact ⟨a, b, c, d, rfl⟩
section
variable {H : Type} {enc : TypeId × Value → H} {w : World} {base : Nat} {spare : Nat → Bool} {held : Bool}
theorem open_probe_cells {fuel : Nat} {cs : List Value} {x : DataW H × List MemPlace} (hl : cs.length = 4) (h : DataW.trod enc Tryd.prog w base spare held fuel 31 cs = some x) :
    ∃ q : P4, cs = [.int .i64 q.a, .int .i64 q.b, .int .i64 q.c, .int .i64 q.d] := by
  obtain ⟨v0, v1, v2, v3, rfl⟩ := cells4 hl
  obtain ⟨y0, y1, y2, y3, n, hx, _, h0, h1, h2, h3⟩ := trod_struct4 Tryd.underlying31 h
  have k : Tryd.prog.cellsOf 3 = 1 := by kernel_rfl
  have g0 : DataW.trod enc Tryd.prog w base spare held n 3 [v0] = some y0 := by simpa [k] using h0
  have g1 : DataW.trod enc Tryd.prog w base spare held n 3 [v1] = some y1 := by simpa [k] using h1
  have g2 : DataW.trod enc Tryd.prog w base spare held n 3 [v2] = some y2 := by simpa [k] using h2
  have g3 : DataW.trod enc Tryd.prog w base spare held n 3 [v3] = some y3 := by simpa [k] using h3
  obtain ⟨n0, e0, _, _⟩ := DataW.trod_int Tryd.underlying3 g0
  obtain ⟨n1, e1, _, _⟩ := DataW.trod_int Tryd.underlying3 g1
  obtain ⟨n2, e2, _, _⟩ := DataW.trod_int Tryd.underlying3 g2
  obtain ⟨n3, e3, _, _⟩ := DataW.trod_int Tryd.underlying3 g3
  simp at e0 e1 e2 e3
  exact ⟨⟨n0, n1, n2, n3⟩, by rw [e0, e1, e2, e3]⟩

theorem open_probe {r : Reach} {b0 : Nat} {v : Value} {d : DataW H} {p : List MemPlace} (hv : Value.okWide Tryd.prog w r b0 31 v) (h : DataW.Trod enc Tryd.prog w base spare held 31 v d p) :
    ∃ q : P4, v = .agg #[.int .i64 q.a, .int .i64 q.b, .int .i64 q.c, .int .i64 q.d] := by
  obtain ⟨cs, rfl, hsz⟩ := okWide_struct Tryd.underlying31 hv
  obtain ⟨fuel, hf⟩ := h
  obtain ⟨q, hq⟩ := open_probe_cells (cs := cs.toList) (by simpa using hsz.trans cellsProbe) (by simpa [Value.cells] using hf)
  refine ⟨q, ?_⟩
  obtain ⟨l⟩ := cs
  simp at hq
  rw [hq]

theorem open_probes {r : Reach} {b0 : Nat} {v : Value} {d : DataW H} {p : List MemPlace} (hv : Value.okWide Tryd.prog w r b0 32 v) (h : DataW.Trod enc Tryd.prog w base spare held 32 v d p) :
    ∃ (a : Option Addr) (n cap : Nat), v = .slice a n cap ∧ n ≤ 9223372036854775807 ∧ (n = 0 ∨ ∃ (b off : Nat) (q : Nat → P4), a = some ⟨b, off, none⟩ ∧ Prs w b off n q) := by
  obtain ⟨a, n, cap, rfl⟩ := okWide_slice Tryd.underlying32 hv
  obtain ⟨fuel, hf⟩ := h
  have hf' : DataW.trod enc Tryd.prog w base spare held fuel 32 [.slice a n cap] = some (d, p) := by simpa [Value.cells] using hf
  rcases open_slice Tryd.underlying32 hf' with ⟨hcs, hx⟩ | ⟨a', len', cap', m, nf, D, Pl, hcs, hb, hl, hm, hmm, hx, hx2⟩
  · simp at hcs
    exact ⟨a, n, cap, rfl, by omega, Or.inl hcs.2.1⟩
  · simp at hcs
    obtain ⟨rfl, rfl, rfl⟩ := hcs
    unfold maxLen at hm
    refine ⟨_, n, cap, rfl, by omega, ?_⟩
    by_cases h0 : n = 0
    · exact Or.inl h0
    right
    have hnm : n ≤ m := by rw [hmm]; split <;> omega
    have each : ∀ i, i < n → ∃ q : P4, w.cell? (a'.add (i * 4)) = some (.int .i64 q.a) ∧ w.cell? (a'.add (i * 4 + 1)) = some (.int .i64 q.b) ∧ w.cell? (a'.add (i * 4 + 2)) = some (.int .i64 q.c) ∧ w.cell? (a'.add (i * 4 + 3)) = some (.int .i64 q.d) := by
      intro i hi
      obtain ⟨cs', h1, h2⟩ := hx2 i (by omega)
      rw [cellsProbe] at h1
      obtain ⟨_, hlen, hcell⟩ := World.cells?_some h1
      obtain ⟨q, rfl⟩ := open_probe_cells hlen h2
      refine ⟨q, ?_, ?_, ?_, ?_⟩
      · have := hcell 0 (by omega); rw [add_add] at this; simpa using this
      · have := hcell 1 (by omega); rw [add_add] at this; simpa using this
      · have := hcell 2 (by omega); rw [add_add] at this; simpa using this
      · have := hcell 3 (by omega); rw [add_add] at this; simpa using this
    haveI : Inhabited P4 := ⟨⟨0, 0, 0, 0⟩⟩
    obtain ⟨q, hq⟩ := choose_lt each
    obtain ⟨b, off, spot⟩ := a'
    have hspot : spot = none := by simpa [Addr.add] using World.cell?_spot (hq 0 (by omega)).1
    subst hspot
    refine ⟨b, off, q, rfl, fun i hi => ?_⟩
    obtain ⟨g0, g1, g2, g3⟩ := hq i hi
    rw [add_plain] at g0 g1 g2 g3
    exact ⟨g0, g1, g2, g3⟩
end
end Go.Proofs.YtdhgfdbghfefnabDoor
