/- What there is to be answered of bounds. -/
import Derived.Test.YtjdeeeefapijeaeDoorBoundsSpn
import Derived.Test.YtjdeeeefapijeaeDoorBoundsTab
import Derived.Test.YtjdeeeefapijeaeDoorInts
import Derived.Test.YtjdeeeefapijeaeDoorErrC
namespace Go.Proofs.YtjdeeeefapijeaeDoor
open Go.ChangeShapes Go.WideShapes Go.ChangeAt Go.RowKit
set_option linter.unusedVariables false

/-- The table of the least ways, just so. -/
def IsT (q : Nat → Eg) (m n : Nat) (T : Tb) : Prop := ∀ i k, i < n → (∀ x, T i k = some x → Dst (Arc q m) i k x) ∧ (T i k = none → ∀ r c, ¬ Wk (Arc q m) r i k c)
section
variable {q : Nat → Eg} {m n : Nat} {T T' : Tb}
theorem IsT.one (h : IsT q m n T) (h' : IsT q m n T') {i : Nat} (hi : i < n) (k : Nat) : T i k = T' i k := by
  cases e : T i k with
  | none =>
    cases e' : T' i k with
    | none => rfl
    | some y =>
      obtain ⟨⟨r, w⟩, _⟩ := (h' i k hi).1 y e'
      exact absurd w ((h i k hi).2 e r y)
  | some x =>
    cases e' : T' i k with
    | none =>
      obtain ⟨⟨r, w⟩, _⟩ := (h i k hi).1 x e
      exact absurd w ((h' i k hi).2 e' r x)
    | some y => rw [((h i k hi).1 x e).one ((h' i k hi).1 y e')]
theorem IsT.back (h : IsT q m n T) {i k : Nat} (hi : i < n) (hk : k < n) {x : Int} (e : T i k = some x) : ∃ y, T k i = some y := by
  obtain ⟨⟨r, w⟩, _⟩ := (h i k hi).1 x e
  obtain ⟨r', c', w'⟩ := wk_back w
  cases e' : T k i with
  | none => exact absurd w' ((h k i hk).2 e' r' c')
  | some y => exact ⟨y, rfl⟩
/-- An end beyond the greatest time. -/
def Far (n : Nat) (T : Tb) : Prop := ∃ i k x, i < n ∧ k < n ∧ T i k = some x ∧ (x < -1000000000000 ∨ 1000000000000 < x)
theorem Far.same (h : IsT q m n T) (h' : IsT q m n T') (f : Far n T) : Far n T' := by
  obtain ⟨i, k, x, hi, hk, e, g⟩ := f
  exact ⟨i, k, x, hi, hk, by rw [← h.one h' hi k]; exact e, g⟩
theorem not_far (h : ¬ Far n T) {i k : Nat} {x : Int} (hi : i < n) (hk : k < n) (e : T i k = some x) : -1000000000000 ≤ x ∧ x ≤ 1000000000000 := by
  apply Classical.byContradiction
  intro c
  exact h ⟨i, k, x, hi, hk, e, by omega⟩
end
/-- The span of two nodes: none is told by zeros. -/
def spLo (T : Tb) (i k : Nat) : Int := match T i k with
  | none => 0
  | some _ => -((T k i).getD 0)
def spHi (T : Tb) (i k : Nat) : Int := (T i k).getD 0
/-- What All answers, of edges as they may be: its error, and the table that is told if there is none. -/
def AllA (q : Nat → Eg) (m n : Nat) (e : Int) (T : Tb) : Prop := (Neg (Arc q m) n ∧ e = 7) ∨ (¬ Neg (Arc q m) n ∧ IsT q m n T ∧ ((Far n T ∧ e = 1) ∨ (¬ Far n T ∧ e = 0)))
theorem AllA.e_one {q : Nat → Eg} {m n : Nat} {e e' : Int} {T T' : Tb} (h : AllA q m n e T) (h' : AllA q m n e' T') : e = e' := by
  rcases h with ⟨g, rfl⟩ | ⟨g, t, f⟩
  · rcases h' with ⟨_, rfl⟩ | ⟨g', _⟩
    · rfl
    · exact absurd g g'
  · rcases h' with ⟨g', _⟩ | ⟨_, t', f'⟩
    · exact absurd g' g
    · rcases f with ⟨f, rfl⟩ | ⟨f, rfl⟩
      · rcases f' with ⟨_, rfl⟩ | ⟨f', _⟩
        · rfl
        · exact absurd (f.same t t') f'
      · rcases f' with ⟨f', _⟩ | ⟨_, rfl⟩
        · exact absurd (f'.same t' t) f
        · rfl
/-- All, of any edges. -/
def AllE (z : Int) (q : Nat → Eg) (m : Nat) (e : Int) (T : Tb) : Prop := (eE z q m ≠ 0 ∧ e = eE z q m) ∨ (eE z q m = 0 ∧ AllA q m z.toNat e T)
/-- Between, of any edges and any two nodes. -/
def BetA (z : Int) (q : Nat → Eg) (m : Nat) (a b lo hi e : Int) : Prop :=
  (eE z q m ≠ 0 ∧ lo = 0 ∧ hi = 0 ∧ e = eE z q m) ∨ (eE z q m = 0 ∧ (a < 0 ∨ z ≤ a ∨ b < 0 ∨ z ≤ b) ∧ lo = 0 ∧ hi = 0 ∧ e = 1) ∨
  (eE z q m = 0 ∧ (0 ≤ a ∧ a < z ∧ 0 ≤ b ∧ b < z) ∧ ∃ f T, AllA q m z.toNat f T ∧
    ((f ≠ 0 ∧ lo = 0 ∧ hi = 0 ∧ e = f) ∨ (f = 0 ∧ T a.toNat b.toNat = none ∧ lo = 0 ∧ hi = 0 ∧ e = 5) ∨ (f = 0 ∧ (∃ x, T a.toNat b.toNat = some x) ∧ lo = spLo T a.toNat b.toNat ∧ hi = spHi T a.toNat b.toNat ∧ e = 0)))
/-- The first clock that is no time. -/
def badC (c : Nat → Int) (k : Nat) : Prop := ∃ i, i < k ∧ (c i < -1000000000000 ∨ 1000000000000 < c i)
/-- Do clocks fit the first m edges? -/
def fitB (q : Nat → Eg) (c : Nat → Int) : Nat → Bool
  | 0 => true
  | m + 1 => fitB q c m && (decide ((q m).lo ≤ c (q m).b.toNat - c (q m).a.toNat) && decide (c (q m).b.toNat - c (q m).a.toNat ≤ (q m).hi))
/-- Fits, of any edges and any clocks. -/
def FitA (z : Int) (q : Nat → Eg) (m k : Nat) (c : Nat → Int) (b : Bool) (e : Int) : Prop :=
  (eE z q m ≠ 0 ∧ b = false ∧ e = eE z q m) ∨ (eE z q m = 0 ∧ (k : Int) ≠ z ∧ b = false ∧ e = 3) ∨ (eE z q m = 0 ∧ (k : Int) = z ∧ badC c k ∧ b = false ∧ e = 1) ∨
  (eE z q m = 0 ∧ (k : Int) = z ∧ ¬ badC c k ∧ b = fitB q c m ∧ e = 0)
/-- What is told of all, as it lies in memory. -/
def STab (u : World) (s h : Value) (n : Nat) (T : Tb) : Prop :=
  ∃ (sb so sc hb ho hc : Nat) (rb ro rc gb go gc : Nat → Nat), s = .slice (some ⟨sb, so, none⟩) n sc ∧ h = .slice (some ⟨hb, ho, none⟩) n hc ∧
    (∀ i, i < n → u.cell? ⟨sb, so + i, none⟩ = some (.slice (some ⟨rb i, ro i, none⟩) n (rc i)) ∧ u.cell? ⟨hb, ho + i, none⟩ = some (.slice (some ⟨gb i, go i, none⟩) n (gc i))) ∧
    (∀ i k, i < n → k < n → u.cell? ⟨rb i, ro i + k * 2, none⟩ = some (.int .i64 (spLo T i k)) ∧ u.cell? ⟨rb i, ro i + k * 2 + 1, none⟩ = some (.int .i64 (spHi T i k)) ∧ u.cell? ⟨gb i, go i + k, none⟩ = some (.bool (T i k).isSome))
theorem STab.on {W u : World} {s h : Value} {n : Nat} {T : Tb} (hb : Below W.heap.size W u) (t : STab W s h n T) : STab u s h n T := by
  obtain ⟨sb, so, sc, hb', ho, hc, rb, ro, rc, gb, go, gc, e1, e2, r1, r2⟩ := t
  have on : ∀ (a : Addr) (v : Value), W.cell? a = some v → u.cell? a = some v := fun a v e => by rw [hb.cell (World.block_lt_of_cell? _ _ e)]; exact e
  exact ⟨sb, so, sc, hb', ho, hc, rb, ro, rc, gb, go, gc, e1, e2, fun i hi => ⟨on _ _ (r1 i hi).1, on _ _ (r1 i hi).2⟩, fun i k hi hk => ⟨on _ _ (r2 i k hi hk).1, on _ _ (r2 i k hi hk).2.1, on _ _ (r2 i k hi hk).2.2⟩⟩

end Go.Proofs.YtjdeeeefapijeaeDoor
