/- Spans in a row, as they are handed over; the error of some. -/
import Derived.Test.YthejaecljkjliakDoorRow
namespace Go.Proofs.YthejaecljkjliakDoor
open Go.ChangeShapes Go.WideShapes Go.ChangeAt Go.RowKit
set_option linter.unusedVariables false

/-- n spans lie in a row behind an address. -/
def SpT (w : World) (b off n : Nat) (q : Nat → Int × Int) : Prop := ∀ i, i < n → w.cell? ⟨b, off + i * 2, none⟩ = some (.int .i64 (q i).1) ∧ w.cell? ⟨b, off + i * 2 + 1, none⟩ = some (.int .i64 (q i).2)
theorem SpT.on {W u : World} {b off n : Nat} {q : Nat → Int × Int} (hb : Below W.heap.size W u) (h : SpT W b off n q) : SpT u b off n q := fun i hi => by
  obtain ⟨h0, h1⟩ := h i hi
  exact ⟨by rw [hb.cell (World.block_lt_of_cell? _ _ h0)]; exact h0, by rw [hb.cell (World.block_lt_of_cell? _ _ h1)]; exact h1⟩
/-- Spans as they are handed over. -/
def SHd (w : World) (a : Option Addr) (n : Nat) (q : Nat → Int × Int) : Prop := n ≤ 9223372036854775807 ∧ (n = 0 ∨ ∃ b off : Nat, a = some ⟨b, off, none⟩ ∧ SpT w b off n q)
theorem SHd.on {W u : World} {a : Option Addr} {n : Nat} {q : Nat → Int × Int} (hb : Below W.heap.size W u) (h : SHd W a n q) : SHd u a n q :=
  ⟨h.1, h.2.imp id (fun ⟨b, off, e, s⟩ => ⟨b, off, e, s.on hb⟩)⟩
/-- The error of spans. -/
def svE (q : Nat → Int × Int) (n : Nat) : Int := if 40 < n then 4 else if n = 0 then 5 else if ∀ i, i < n → okB (q i).1 (q i).2 = true then 0 else 1
theorem first_badT (q : Nat → Int × Int) : ∀ n : Nat, ¬ (∀ i, i < n → okB (q i).1 (q i).2 = true) → ∃ m, m < n ∧ okB (q m).1 (q m).2 = false ∧ ∀ i, i < m → okB (q i).1 (q i).2 = true
  | 0, h => absurd (fun i hi => by omega) h
  | n + 1, h => by
    by_cases c : ∀ i, i < n → okB (q i).1 (q i).2 = true
    · refine ⟨n, by omega, ?_, c⟩
      cases e : okB (q n).1 (q n).2 with
      | false => rfl
      | true => exact absurd (fun i hi => by
          by_cases g : i = n
          · rw [g]; exact e
          · exact c i (by omega)) h
    · obtain ⟨m, h1, h2, h3⟩ := first_badT q n c
      exact ⟨m, by omega, h2, h3⟩
theorem svE_zero {q : Nat → Int × Int} {n : Nat} (h : svE q n = 0) : 0 < n ∧ n ≤ 40 ∧ ∀ i, i < n → okB (q i).1 (q i).2 = true := by
  unfold svE at h
  split at h
  · cases h
  · split at h
    · cases h
    · split at h
      · exact ⟨by omega, by omega, by assumption⟩
      · cases h
theorem svE_ok {q : Nat → Int × Int} {n : Nat} (h0 : 0 < n) (h40 : n ≤ 40) (h : ∀ i, i < n → okB (q i).1 (q i).2 = true) : svE q n = 0 := by
  unfold svE; rw [if_neg (by omega), if_neg (by omega), if_pos h]
end Go.Proofs.YthejaecljkjliakDoor
