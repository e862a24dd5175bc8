/- Bytes in a row of the call's own. -/
import Derived.Test.YtfmaoblhoafnhaiWireRefM
import Derived.Test.YtfmaoblhoafnhaiKeeps
import Derived.Laws.IdiomStrings
import Derived.BigQuiet
import Derived.IntWalk
import Derived.Laws.OwnMore
import Derived.Deep.CutRange
import Derived.Deep.CutBlock
import Derived.Deep.RegionWith
import Derived.BigRegion
namespace Go.Proofs.Ytfmaoblhoafnhai
open Go.ChangeShapes Go.WideShapes Go.ChangeAt Go.RowKit Go.Joins
set_option linter.unusedVariables false
set_option linter.unusedSimpArgs false

theorem infoByte : (Try.prog.info? 5).map (fun i => (i.zero, i.size, i.bytes)) = some (some (.int .u8 0), 1, 1) := by kernel_rfl
/-- Bytes in a row of the call's own. -/
abbrev OwB (u : World) (base : Nat) (v : Value) (l : List UInt8) : Prop := u.ownsRow base 5 1 v l.length (bcs l)
theorem grown_keeps {u w : World} {ob : Option Nat} (h : u.grownBy w ob) : Keeps (fun k => ob = some k) u w := ⟨h.os, h.tape, h.output, h.size, fun k hk hn => h.block k hk (fun e => hn e.symm)⟩
theorem OwB.form {u : World} {base : Nat} {v : Value} {l : List UInt8} (h : OwB u base v l) (hl : 1 ≤ l.length) : ∃ g cap, v = .slice (some ⟨g, 0, none⟩) l.length cap ∧ base ≤ g ∧ g < u.heap.size ∧ l.length ≤ cap ∧ ∀ i (hi : i < l.length), u.cell? ⟨g, i, none⟩ = some (.int .u8 (l[i].toNat : Int)) := by
  rcases h.2 with ⟨_, e⟩ | ⟨g, cap, cur, rfl, hb, hg, hc, _⟩
  · omega
  · refine ⟨g, cap, rfl, hb, (h.lt g rfl).2, hc, fun i hi => ?_⟩
    have := h.cells (g := g) rfl i _ (bcs_at hi)
    rw [Addr.add_lit, Nat.zero_add] at this
    exact this
theorem OwB.text {u : World} {base : Nat} {v : Value} {l : List UInt8} (h : OwB u base v l) (hl : 1 ≤ l.length) : (convert 56 9 v).run Try.prog u = .ok (.string (wst l)) u := by
  obtain ⟨g, cap, rfl, _, _, _, hc⟩ := h.form hl
  exact run_convert_bytes_back (P := Try.prog) u 56 9 5 ⟨g, 0, none⟩ cap l Try.underlying56 Try.underlying5 Try.underlying9 (fun j hj => by
    rw [Addr.add_lit, Nat.zero_add]
    exact hc j hj)
theorem OwB.put {u : World} {base : Nat} {v : Value} {l m : List UInt8} (h : OwB u base v l) (e : l = m) : OwB u base v m := e ▸ h
end Go.Proofs.Ytfmaoblhoafnhai
