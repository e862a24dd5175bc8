/- Leaps one behind the other, as days say: plain mathematics of the law LeapCounts. -/
import Derived.Test.YthaajbdppmdhaadLeapDef
import Derived.OwnWalk
import Derived.WalkSmall
namespace Go.Proofs.Ythaajbdppmdhaad
open Go.ChangeShapes Go.WideShapes Go.ChangeAt Go.RowKit
set_option linter.unusedVariables false

def celL (L : List (Int × Bool)) : List Value := L.flatMap fun p => [.int .i64 p.1, .bool p.2]
theorem celL_app (L M : List (Int × Bool)) : celL (L ++ M) = celL L ++ celL M := by simp [celL]
theorem celL_at : ∀ (L : List (Int × Bool)) (i : Nat), i < L.length → (celL L)[i * 2]? = some (.int .i64 (L.getD i (0, false)).1) ∧ (celL L)[i * 2 + 1]? = some (.bool (L.getD i (0, false)).2)
  | [], i, h => by simp at h
  | p :: L, 0, h => ⟨rfl, rfl⟩
  | p :: L, i + 1, h => by
    have ih := celL_at L i (by simpa using h)
    have e : celL (p :: L) = .int .i64 p.1 :: .bool p.2 :: celL L := rfl
    rw [e, show (i + 1) * 2 = i * 2 + 1 + 1 by omega, show i * 2 + 1 + 1 + 1 = (i * 2 + 1) + 1 + 1 by omega, List.getElem?_cons_succ, List.getElem?_cons_succ, List.getElem?_cons_succ, List.getElem?_cons_succ]
    simpa using ih
/-- The last day, and the leaps, behind the first of some days. -/
def cdy (z : Nat → Int) : Nat → Int
  | 0 => 0
  | k + 1 => if z k < 0 ∨ 1000 < z k then cdy z k else cdy z k + 2 + z k
def cLs (z : Nat → Int) (up : Bool) : Nat → List (Int × Bool)
  | 0 => []
  | k + 1 => if z k < 0 ∨ 1000 < z k then cLs z up k else cLs z up k ++ [(cdy z k + 2 + z k, up)]
theorem cdy_in (z : Nat → Int) : ∀ k, 0 ≤ cdy z k ∧ cdy z k ≤ 1002 * k
  | 0 => by simp [cdy]
  | k + 1 => by
    have := cdy_in z k
    simp only [cdy]
    split <;> omega
theorem cLs_len (z : Nat → Int) (up : Bool) : ∀ k, (cLs z up k).length ≤ k
  | 0 => Nat.le_refl _
  | k + 1 => by
    have := cLs_len z up k
    simp only [cLs]
    split
    · omega
    · simp; omega
/-- What is known of them. -/
theorem cLs_at (z : Nat → Int) (up : Bool) : ∀ k, (∀ i, i < (cLs z up k).length → ((cLs z up k).getD i (0, false)).2 = up ∧ 2 ≤ ((cLs z up k).getD i (0, false)).1 ∧ ((cLs z up k).getD i (0, false)).1 ≤ cdy z k) ∧
    (∀ i, i + 1 < (cLs z up k).length → ((cLs z up k).getD i (0, false)).1 + 2 ≤ ((cLs z up k).getD (i + 1) (0, false)).1)
  | 0 => ⟨fun i hi => by simp [cLs] at hi, fun i hi => by simp [cLs] at hi⟩
  | k + 1 => by
    obtain ⟨h1, h2⟩ := cLs_at z up k
    have cd := cdy_in z k
    by_cases c : z k < 0 ∨ 1000 < z k
    · have e1 : cLs z up (k + 1) = cLs z up k := if_pos c
      have e2 : cdy z (k + 1) = cdy z k := if_pos c
      rw [e1, e2]
      exact ⟨h1, h2⟩
    · have e1 : cLs z up (k + 1) = cLs z up k ++ [(cdy z k + 2 + z k, up)] := if_neg c
      have e2 : cdy z (k + 1) = cdy z k + 2 + z k := if_neg c
      have old : ∀ i, i < (cLs z up k).length → (cLs z up k ++ [(cdy z k + 2 + z k, up)]).getD i (0, false) = (cLs z up k).getD i (0, false) := fun i hi => by
        simp only [List.getD]; rw [List.getElem?_append_left hi]
      have new : (cLs z up k ++ [(cdy z k + 2 + z k, up)]).getD (cLs z up k).length (0, false) = (cdy z k + 2 + z k, up) := by
        simp [List.getD]
      rw [e1, e2]
      refine ⟨fun i hi => ?_, fun i hi => ?_⟩
      · by_cases e : i < (cLs z up k).length
        · obtain ⟨a, b, d⟩ := h1 i e
          rw [old i e]
          exact ⟨a, b, by omega⟩
        · have ei : i = (cLs z up k).length := by simp at hi; omega
          rw [ei, new]
          exact ⟨rfl, by show 2 ≤ cdy z k + 2 + z k; omega, Int.le_refl _⟩
      · by_cases e : i + 1 < (cLs z up k).length
        · rw [old i (by omega), old (i + 1) e]; exact h2 i e
        · have ei : i + 1 = (cLs z up k).length := by simp at hi; omega
          rw [old i (by omega), ei, new]
          obtain ⟨_, _, d⟩ := h1 i (by omega)
          show _ ≤ cdy z k + 2 + z k
          omega
def qL (L : List (Int × Bool)) : Nat → Int × Bool := fun i => L.getD i (0, false)
theorem cLs_lps (z : Nat → Int) (up : Bool) (k : Nat) (hk : k ≤ 20) : Lps (qL (cLs z up k)) (cLs z up k).length := by
  obtain ⟨h1, h2⟩ := cLs_at z up k
  have cd := cdy_in z k
  exact ⟨fun i hi => ⟨by have := (h1 i hi).2.1; unfold qL; omega, by have := (h1 i hi).2.2; unfold qL; omega⟩, fun i hi => h2 i hi⟩
theorem lE_of {q : Nat → Int × Bool} {n : Nat} (h : Lps q n) (h20 : n ≤ 20) : lE q n = 0 := by
  unfold lE
  rw [if_neg (by omega)]
  apply lFr_ok
  intro i hi
  unfold lEr
  have r := h.rng i hi
  rw [if_neg (by omega)]
  rw [if_neg]
  rintro ⟨a, b⟩
  have g := h.gap (i - 1) (by omega)
  rw [show i - 1 + 1 = i by omega] at g
  omega
theorem mor_all {q : Nat → Int × Bool} {up : Bool} {D : Int} : ∀ n, (∀ i, i < n → (q i).2 = up ∧ (q i).1 < D) → mor q n D = n * sgn up
  | 0, _ => by simp [mor]
  | n + 1, h => by
    have ih := mor_all n (fun i hi => h i (by omega))
    obtain ⟨a, b⟩ := h n (by omega)
    simp only [mor]
    rw [ih, if_pos b, a]
    have : ((n + 1 : Nat) : Int) = n + 1 := by omega
    rw [this, Int.add_mul]
    omega
/-- Behind the last one there were as many seconds more as they say. -/
theorem counts_ahead (z : Nat → Int) (up : Bool) (k : Nat) (hk : k ≤ 20) :
    AheadA (qL (cLs z up k)) (cLs z up k).length (86400 * (cdy z k + 3) + 100) ((cLs z up k).length * sgn up) 0 := by
  obtain ⟨h1, _⟩ := cLs_at z up k
  have L := cLs_lps z up k hk
  have cd := cdy_in z k
  have len := cLs_len z up k
  have m : ∀ D, cdy z k < D → mor (qL (cLs z up k)) (cLs z up k).length D = (cLs z up k).length * sgn up := fun D hD => mor_all _ fun i hi => ⟨(h1 i hi).1, by have := (h1 i hi).2.2; unfold qL; omega⟩
  have s : -20 ≤ ((cLs z up k).length : Int) * sgn up ∧ ((cLs z up k).length : Int) * sgn up ≤ 20 := by
    unfold sgn
    split <;> omega
  refine Or.inr ⟨lE_of L (by omega), ⟨by omega, ?_⟩, rfl, cdy z k + 3, ⟨?_, ?_⟩, (m _ (by omega)).symm⟩
  · unfold bg; rw [m _ (by omega)]; omega
  · unfold bg; rw [m _ (by omega)]; omega
  · unfold bg; rw [m _ (by omega)]; omega
/-- Numbers in a row. -/
def Ird (w : World) (b off n : Nat) (z : Nat → Int) : Prop := ∀ i, i < n → w.cell? ⟨b, off + i, none⟩ = some (.int .i64 (z i))
theorem Ird.on {W u : World} {b off n : Nat} {z : Nat → Int} (hb : Below W.heap.size W u) (h : Ird W b off n z) : Ird u b off n z := fun i hi => by
  rw [hb.cell (World.block_lt_of_cell? _ _ (h i hi))]; exact h i hi
/-- Numbers as they are handed over: none, or a row. -/
def IHanded (w : World) (a : Option Addr) (n : Nat) (z : Nat → Int) : Prop := n ≤ 9223372036854775807 ∧ (n = 0 ∨ ∃ b off : Nat, a = some ⟨b, off, none⟩ ∧ Ird w b off n z)
/-- A row of leaps that the call made, as it hands them over. -/
theorem lhanded_own {w : World} {base : Nat} {e : TypeId} {v : Value} {L : List (Int × Bool)} (h : w.ownsRow base e 2 v L.length (celL L)) (h20 : L.length ≤ 20) : ∃ a cap, v = .slice a L.length cap ∧ LHanded w a L.length (qL L) := by
  rcases h.2 with ⟨h1, h2⟩ | ⟨g, cap, cur, h1, _⟩
  · exact ⟨none, 0, by rw [h1, h2], by omega, Or.inl h2⟩
  · subst h1
    refine ⟨_, cap, rfl, by omega, Or.inr ⟨g, 0, rfl, fun i hi => ?_⟩⟩
    obtain ⟨c1, c2⟩ := celL_at L i hi
    exact ⟨by rw [h.cellAt (0 + i * 2) (by omega), show 0 + i * 2 = i * 2 by omega, c1]; rfl, by rw [h.cellAt (0 + i * 2 + 1) (by omega), show 0 + i * 2 + 1 = i * 2 + 1 by omega, c2]; rfl⟩
end Go.Proofs.Ythaajbdppmdhaad
