/- Letters in memory, and as values. -/
import Derived.Test.YtfmaoblhoafnhaiDoorWorldMath
namespace Go.Proofs.YtfmaoblhoafnhaiDoor
open Go.ChangeShapes Go.WideShapes Go.ChangeAt Go.RowKit
set_option linter.unusedVariables false

/-- A letter's cells. -/
def ltc (l : Lt) : List Value := [.int .i64 l.frm, .int .i64 l.to, .bool l.ans, .int .i64 l.t1, .int .i64 l.t2, .int .i64 l.t]
/-- Letters lie in a row behind an address. -/
def Lts (w : World) (b off : Nat) (l : List Lt) : Prop := ∀ i q, l[i]? = some q → ∀ j v, (ltc q)[j]? = some v → w.cell? ⟨b, off + i * 6 + j, none⟩ = some v
theorem Lts.on {W u : World} {b off : Nat} {l : List Lt} (hb : Below W.heap.size W u) (h : Lts W b off l) : Lts u b off l := fun i q hq j v hv => by
  have c := h i q hq j v hv
  rw [hb.cell (World.block_lt_of_cell? _ _ c)]; exact c
def WHanded (w : World) (a : Option Addr) (l : List Lt) : Prop := l.length ≤ 9223372036854775807 ∧ (l = [] ∨ ∃ b off : Nat, a = some ⟨b, off, none⟩ ∧ Lts w b off l)
theorem WHanded.on {W u : World} {a : Option Addr} {l : List Lt} (hb : Below W.heap.size W u) (h : WHanded W a l) : WHanded u a l :=
  ⟨h.1, h.2.imp id (fun ⟨b, off, e, s⟩ => ⟨b, off, e, s.on hb⟩)⟩
/-- A letter as a value. -/
def ltv (l : Lt) : Value := .agg #[.int .i64 l.frm, .int .i64 l.to, .bool l.ans, .int .i64 l.t1, .int .i64 l.t2, .int .i64 l.t]
end Go.Proofs.YtfmaoblhoafnhaiDoor
