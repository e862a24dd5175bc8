/- Leaps in a row, and what is wrong with some. -/
import Derived.Test.YthaajbdppmdhaacDoorRow
import Derived.Test.YthaajbdppmdhaacDoorLeapMath
namespace Go.Proofs.YthaajbdppmdhaacDoor
open Go.ChangeShapes Go.WideShapes Go.ChangeAt Go.RowKit
set_option linter.unusedVariables false

/-- n leaps lie in a row behind an address. -/
def Lsp (w : World) (b off n : Nat) (q : Nat → Int × Bool) : Prop := ∀ i, i < n → w.cell? ⟨b, off + i * 2, none⟩ = some (.int .i64 (q i).1) ∧ w.cell? ⟨b, off + i * 2 + 1, none⟩ = some (.bool (q i).2)
theorem Lsp.on {W u : World} {b off n : Nat} {q : Nat → Int × Bool} (hb : Below W.heap.size W u) (h : Lsp W b off n q) : Lsp u b off n q := fun i hi => by
  obtain ⟨h0, h1⟩ := h i hi
  exact ⟨by rw [hb.cell (World.block_lt_of_cell? _ _ h0)]; exact h0, by rw [hb.cell (World.block_lt_of_cell? _ _ h1)]; exact h1⟩
/-- Leaps as they are handed over: none, or a row. -/
def LHanded (w : World) (a : Option Addr) (n : Nat) (q : Nat → Int × Bool) : Prop := n ≤ 9223372036854775807 ∧ (n = 0 ∨ ∃ b off : Nat, a = some ⟨b, off, none⟩ ∧ Lsp w b off n q)
theorem LHanded.on {W u : World} {a : Option Addr} {n : Nat} {q : Nat → Int × Bool} (hb : Below W.heap.size W u) (h : LHanded W a n q) : LHanded u a n q :=
  ⟨h.1, h.2.imp id (fun ⟨b, off, e, s⟩ => ⟨b, off, e, s.on hb⟩)⟩
/-- What is wrong with the leap at a place. -/
def lEr (q : Nat → Int × Bool) (i : Nat) : Int := if (q i).1 < 1 ∨ 84005 ≤ (q i).1 then 1 else if 0 < i ∧ (q i).1 - 2 < (q (i - 1)).1 then 3 else 0
theorem lEr_zero {q : Nat → Int × Bool} {i : Nat} (h : lEr q i = 0) : 1 ≤ (q i).1 ∧ (q i).1 < 84005 ∧ (0 < i → (q (i - 1)).1 + 2 ≤ (q i).1) := by
  unfold lEr at h
  split at h
  · cases h
  · split at h
    · cases h
    · exact ⟨by omega, by omega, fun _ => by omega⟩
/-- The first fault of the first n. -/
def lFr (q : Nat → Int × Bool) : Nat → Int
  | 0 => 0
  | n + 1 => if lFr q n = 0 then lEr q n else lFr q n
theorem lFr_zero {q : Nat → Int × Bool} : ∀ {n : Nat}, lFr q n = 0 → ∀ i, i < n → lEr q i = 0
  | 0, _, i, hi => by omega
  | n + 1, h, i, hi => by
    simp only [lFr] at h
    split at h
    · by_cases e : i = n
      · subst e; exact h
      · exact lFr_zero (by assumption) i (by omega)
    · contradiction
theorem lFr_first {q : Nat → Int × Bool} {m : Nat} (hg : ∀ i, i < m → lEr q i = 0) (hb : lEr q m ≠ 0) : ∀ n, m < n → lFr q n = lEr q m
  | 0, h => by omega
  | n + 1, h => by
    simp only [lFr]
    by_cases e : m = n
    · subst e
      have z : ∀ k, k ≤ m → lFr q k = 0 := by
        intro k
        induction k with
        | zero => intro _; rfl
        | succ k ih => intro hk; simp only [lFr]; rw [if_pos (ih (by omega))]; exact hg k (by omega)
      rw [if_pos (z m (Nat.le_refl _))]
    · have ih := lFr_first hg hb n (by omega)
      rw [ih, if_neg hb]
/-- What is wrong with leaps. -/
def lE (q : Nat → Int × Bool) (n : Nat) : Int := if 20 < n then 4 else lFr q n
theorem lE_zero {q : Nat → Int × Bool} {n : Nat} (h : lE q n = 0) : n ≤ 20 ∧ Lps q n := by
  unfold lE at h
  split at h
  · cases h
  · have z := lFr_zero h
    exact ⟨by omega, fun i hi => ⟨(lEr_zero (z i hi)).1, (lEr_zero (z i hi)).2.1⟩, fun i hi => (lEr_zero (z (i + 1) hi)).2.2 (by omega)⟩
theorem first_lEr (q : Nat → Int × Bool) : ∀ n, (∀ i, i < n → lEr q i = 0) ∨ ∃ m, m < n ∧ lEr q m ≠ 0 ∧ ∀ i, i < m → lEr q i = 0
  | 0 => Or.inl fun i hi => by omega
  | n + 1 => by
    rcases first_lEr q n with h | ⟨m, h1, h2, h3⟩
    · by_cases c : lEr q n = 0
      · refine Or.inl fun i hi => ?_
        by_cases e : i = n
        · subst e; exact c
        · exact h i (by omega)
      · exact Or.inr ⟨n, by omega, c, h⟩
    · exact Or.inr ⟨m, by omega, h2, h3⟩
theorem lFr_ok {q : Nat → Int × Bool} : ∀ {n : Nat}, (∀ i, i < n → lEr q i = 0) → lFr q n = 0
  | 0, _ => rfl
  | n + 1, h => by simp only [lFr]; rw [if_pos (lFr_ok (fun i hi => h i (by omega)))]; exact h n (by omega)
end Go.Proofs.YthaajbdppmdhaacDoor
