/- Edges in a row, and what is wrong with some. -/
import Derived.Test.YtmomcaodmdlnpahDoorRow
import Derived.Test.YtmomcaodmdlnpahDoorBoundsMath
namespace Go.Proofs.YtmomcaodmdlnpahDoor
open Go.ChangeShapes Go.WideShapes Go.ChangeAt Go.RowKit
set_option linter.unusedVariables false

/-- m edges lie in a row behind an address. -/
def Esp (w : World) (b off m : Nat) (q : Nat → Eg) : Prop := ∀ i, i < m → w.cell? ⟨b, off + i * 4, none⟩ = some (.int .i64 (q i).a) ∧ w.cell? ⟨b, off + i * 4 + 1, none⟩ = some (.int .i64 (q i).b) ∧ w.cell? ⟨b, off + i * 4 + 2, none⟩ = some (.int .i64 (q i).lo) ∧ w.cell? ⟨b, off + i * 4 + 3, none⟩ = some (.int .i64 (q i).hi)
theorem Esp.on {W u : World} {b off m : Nat} {q : Nat → Eg} (hb : Below W.heap.size W u) (h : Esp W b off m q) : Esp u b off m q := fun i hi => by
  obtain ⟨h0, h1, h2, h3⟩ := h i hi
  exact ⟨by rw [hb.cell (World.block_lt_of_cell? _ _ h0)]; exact h0, by rw [hb.cell (World.block_lt_of_cell? _ _ h1)]; exact h1, by rw [hb.cell (World.block_lt_of_cell? _ _ h2)]; exact h2, by rw [hb.cell (World.block_lt_of_cell? _ _ h3)]; exact h3⟩
/-- Edges as they are handed over: none, or a row. -/
def EHanded (w : World) (a : Option Addr) (m : Nat) (q : Nat → Eg) : Prop := m ≤ 9223372036854775807 ∧ (m = 0 ∨ ∃ b off : Nat, a = some ⟨b, off, none⟩ ∧ Esp w b off m q)
theorem EHanded.on {W u : World} {a : Option Addr} {m : Nat} {q : Nat → Eg} (hb : Below W.heap.size W u) (h : EHanded W a m q) : EHanded u a m q :=
  ⟨h.1, h.2.imp id (fun ⟨b, off, e, s⟩ => ⟨b, off, e, s.on hb⟩)⟩
/-- Is an edge between nodes? -/
def inN (n : Int) (e : Eg) : Prop := 0 ≤ e.a ∧ e.a < n ∧ 0 ≤ e.b ∧ e.b < n
/-- What is wrong with the edge at a place. -/
def eEr (n : Int) (q : Nat → Eg) (i : Nat) : Int := if (q i).a < 0 ∨ n ≤ (q i).a ∨ (q i).b < 0 ∨ n ≤ (q i).b then 1 else if (q i).a = (q i).b then 3 else if okB (q i).lo (q i).hi = true then 0 else 1
theorem eEr_zero {n : Int} {q : Nat → Eg} {i : Nat} (h : eEr n q i = 0) : inN n (q i) ∧ (q i).a ≠ (q i).b ∧ okB (q i).lo (q i).hi = true := by
  unfold eEr at h
  split at h
  · cases h
  · split at h
    · cases h
    · split at h
      · exact ⟨⟨by omega, by omega, by omega, by omega⟩, by assumption, by assumption⟩
      · cases h
/-- The first fault of the first m. -/
def eFr (n : Int) (q : Nat → Eg) : Nat → Int
  | 0 => 0
  | m + 1 => if eFr n q m = 0 then eEr n q m else eFr n q m
theorem eFr_zero {n : Int} {q : Nat → Eg} : ∀ {m : Nat}, eFr n q m = 0 → ∀ i, i < m → eEr n q i = 0
  | 0, _, i, hi => by omega
  | m + 1, h, i, hi => by
    simp only [eFr] at h
    split at h
    · by_cases e : i = m
      · subst e; exact h
      · exact eFr_zero (by assumption) i (by omega)
    · contradiction
theorem eFr_ok {n : Int} {q : Nat → Eg} : ∀ {m : Nat}, (∀ i, i < m → eEr n q i = 0) → eFr n q m = 0
  | 0, _ => rfl
  | m + 1, h => by simp only [eFr]; rw [if_pos (eFr_ok (fun i hi => h i (by omega)))]; exact h m (by omega)
theorem eFr_first {n : Int} {q : Nat → Eg} {k : Nat} (hg : ∀ i, i < k → eEr n q i = 0) (hb : eEr n q k ≠ 0) : ∀ m, k < m → eFr n q m = eEr n q k
  | 0, h => by omega
  | m + 1, h => by
    simp only [eFr]
    by_cases e : k = m
    · subst e
      rw [if_pos (eFr_ok hg)]
    · rw [eFr_first hg hb m (by omega), if_neg hb]
theorem first_eEr (n : Int) (q : Nat → Eg) : ∀ m, (∀ i, i < m → eEr n q i = 0) ∨ ∃ k, k < m ∧ eEr n q k ≠ 0 ∧ ∀ i, i < k → eEr n q i = 0
  | 0 => Or.inl fun i hi => by omega
  | m + 1 => by
    rcases first_eEr n q m with h | ⟨k, h1, h2, h3⟩
    · by_cases c : eEr n q m = 0
      · refine Or.inl fun i hi => ?_
        by_cases e : i = m
        · subst e; exact c
        · exact h i (by omega)
      · exact Or.inr ⟨m, by omega, c, h⟩
    · exact Or.inr ⟨k, by omega, h2, h3⟩
/-- What is wrong with edges. -/
def eE (n : Int) (q : Nat → Eg) (m : Nat) : Int := if n < 1 ∨ 6 < n then 1 else if 40 < m then 4 else eFr n q m
/-- Edges as they may be. -/
structure Egs (n : Int) (q : Nat → Eg) (m : Nat) : Prop where
  n1 : 1 ≤ n
  n6 : n ≤ 6
  m40 : m ≤ 40
  each : ∀ i, i < m → inN n (q i) ∧ (q i).a ≠ (q i).b ∧ okB (q i).lo (q i).hi = true
theorem eE_zero {n : Int} {q : Nat → Eg} {m : Nat} (h : eE n q m = 0) : Egs n q m := by
  unfold eE at h
  split at h
  · cases h
  · split at h
    · cases h
    · exact ⟨by omega, by omega, by omega, fun i hi => eEr_zero (eFr_zero h i hi)⟩
theorem Egs.arc {n : Nat} {q : Nat → Eg} {m : Nat} (h : Egs n q m) : ∀ u v c, Arc q m u v c → u < n ∧ v < n := by
  rintro u v c ⟨j, hj, ⟨h1, h2, _⟩ | ⟨h1, h2, _⟩⟩
  · obtain ⟨⟨a1, a2, a3, a4⟩, _⟩ := h.each j hj
    omega
  · obtain ⟨⟨a1, a2, a3, a4⟩, _⟩ := h.each j hj
    omega
theorem Egs.small {n : Int} {q : Nat → Eg} {m : Nat} (h : Egs n q m) {u v : Nat} {c : Int} (g : Arc q m u v c) : -1000000000000 ≤ c ∧ c ≤ 1000000000000 := by
  obtain ⟨j, hj, ⟨h1, h2, rfl⟩ | ⟨h1, h2, rfl⟩⟩ := g
  · obtain ⟨_, _, o⟩ := h.each j hj
    have := okB_t o
    omega
  · obtain ⟨_, _, o⟩ := h.each j hj
    have := okB_t o
    omega
end Go.Proofs.YtmomcaodmdlnpahDoor
