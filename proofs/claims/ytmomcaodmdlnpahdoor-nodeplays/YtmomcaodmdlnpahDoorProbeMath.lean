/- The plain numbers of a probe: its fault, the ends of its offset, which of some is the least wide; and why what two clocks truly differ by lies within. -/
import Derived.Test.YtmomcaodmdlnpahDoorDrift
namespace Go.Proofs.YtmomcaodmdlnpahDoor
set_option linter.unusedVariables false

def tmB (n : Int) : Bool := decide (-1000000000000 ≤ n ∧ n ≤ 1000000000000)
theorem tmB_t {n : Int} (h : tmB n = true) : -1000000000000 ≤ n ∧ n ≤ 1000000000000 := of_decide_eq_true h
theorem tmB_f {n : Int} (h : tmB n = false) : n < -1000000000000 ∨ 1000000000000 < n := by
  have := of_decide_eq_false h; omega
theorem tmB_mk {n : Int} (h : -1000000000000 ≤ n ∧ n ≤ 1000000000000) : tmB n = true := decide_eq_true h
theorem tmB_no {n : Int} (h : n < -1000000000000 ∨ 1000000000000 < n) : tmB n = false := decide_eq_false (by omega)

/-- The fault of a probe: 0 none, 1 a time is out of range, 3 a clock went back. -/
def pE (a b c d : Int) : Int := if tmB a = true ∧ tmB b = true ∧ tmB c = true ∧ tmB d = true then (if d < a ∨ c < b then 3 else 0) else 1
def oH (a b d p : Int) : Int := b - a + 2 + ((d - a) * 3 * p + 1000000 - 1) / 1000000
/-- The fault of its offset. -/
def oE (a b c d p : Int) : Int :=
  if pE a b c d = 0 then
    if rdy (d - a) p = true then
      if tmB (c - d) = true ∧ tmB (oH a b d p) = true then (if oH a b d p < c - d then 7 else 0) else 1
    else 1
  else pE a b c d

theorem pE_zero {a b c d : Int} (h : pE a b c d = 0) : tmB a = true ∧ tmB b = true ∧ tmB c = true ∧ tmB d = true ∧ a ≤ d ∧ b ≤ c := by
  unfold pE at h
  split at h
  · rename_i k
    split at h
    · omega
    · exact ⟨k.1, k.2.1, k.2.2.1, k.2.2.2, by omega, by omega⟩
  · omega
theorem pE_some {a b c d : Int} (h : pE a b c d ≠ 0) : (pE a b c d = 1 ∧ (tmB a = false ∨ tmB b = false ∨ tmB c = false ∨ tmB d = false)) ∨
    (pE a b c d = 3 ∧ tmB a = true ∧ tmB b = true ∧ tmB c = true ∧ tmB d = true ∧ (d < a ∨ c < b)) := by
  unfold pE at h ⊢
  split at h
  · rename_i k
    rw [if_pos k]
    split at h
    · rename_i k2
      rw [if_pos k2]
      exact Or.inr ⟨rfl, k.1, k.2.1, k.2.2.1, k.2.2.2, k2⟩
    · exact absurd rfl h
  · rename_i k
    rw [if_neg k]
    refine Or.inl ⟨rfl, ?_⟩
    cases h1 : tmB a <;> cases h2 : tmB b <;> cases h3 : tmB c <;> cases h4 : tmB d <;> simp_all
theorem oE_p {a b c d p : Int} (h : pE a b c d ≠ 0) : oE a b c d p = pE a b c d := by unfold oE; rw [if_neg h]
theorem oE_rdy {a b c d p : Int} (h : pE a b c d = 0) (k : rdy (d - a) p = false) : oE a b c d p = 1 := by
  unfold oE; rw [if_pos h, if_neg (by simp [k])]
theorem oE_lo {a b c d p : Int} (h : pE a b c d = 0) (k : rdy (d - a) p = true) (l : tmB (c - d) = false) : oE a b c d p = 1 := by
  unfold oE; rw [if_pos h, if_pos k, if_neg (by simp [l])]
theorem oE_hi {a b c d p : Int} (h : pE a b c d = 0) (k : rdy (d - a) p = true) (l : tmB (oH a b d p) = false) : oE a b c d p = 1 := by
  unfold oE; rw [if_pos h, if_pos k, if_neg (by simp [l])]
theorem oE_clash {a b c d p : Int} (h : pE a b c d = 0) (k : rdy (d - a) p = true) (l : tmB (c - d) = true) (m : tmB (oH a b d p) = true) (n : oH a b d p < c - d) : oE a b c d p = 7 := by
  unfold oE; rw [if_pos h, if_pos k, if_pos ⟨l, m⟩, if_pos n]
theorem oE_fine {a b c d p : Int} (h : pE a b c d = 0) (k : rdy (d - a) p = true) (l : tmB (c - d) = true) (m : tmB (oH a b d p) = true) (n : c - d ≤ oH a b d p) : oE a b c d p = 0 := by
  unfold oE; rw [if_pos h, if_pos k, if_pos ⟨l, m⟩, if_neg (by omega)]
theorem oE_zero {a b c d p : Int} (h : oE a b c d p = 0) : pE a b c d = 0 ∧ rdy (d - a) p = true ∧ tmB (c - d) = true ∧ tmB (oH a b d p) = true ∧ c - d ≤ oH a b d p := by
  unfold oE at h
  split at h
  · rename_i k
    split at h
    · rename_i k2
      split at h
      · rename_i k3
        split at h
        · omega
        · exact ⟨k, k2, k3.1, k3.2, by omega⟩
      · omega
    · omega
  · contradiction
/-- A probe, as its four times. -/
structure P4 where
  a : Int
  b : Int
  c : Int
  d : Int
def P4.e (q : P4) (p : Int) : Int := oE q.a q.b q.c q.d p
def P4.lo (q : P4) : Int := q.c - q.d
def P4.hi (q : P4) (p : Int) : Int := oH q.a q.b q.d p
def P4.w (q : P4) (p : Int) : Int := q.hi p - q.lo
/-- Which of the first k (each without fault) is the least wide, the first of such. -/
def bst (q : Nat → P4) (p : Int) : Nat → Nat
  | 0 => 0
  | k + 1 => if k = 0 ∨ (q k).w p < (q (bst q p k)).w p then k else bst q p k
theorem bst_lt (q : Nat → P4) (p : Int) : ∀ k, 0 < k → bst q p k < k := by
  intro k
  induction k with
  | zero => intro h; omega
  | succ k ih =>
    intro _
    unfold bst
    split
    · omega
    · rename_i hk
      have := ih (by omega)
      omega
theorem bst_least (q : Nat → P4) (p : Int) : ∀ k i, i < k → (q (bst q p k)).w p ≤ (q i).w p := by
  intro k
  induction k with
  | zero => intro i h; omega
  | succ k ih =>
    intro i hi
    unfold bst
    split
    · rename_i hk
      by_cases e : i = k
      · subst e; exact Int.le_refl _
      · have := ih i (by omega)
        rcases hk with h0 | h1 <;> omega
    · rename_i hk
      by_cases e : i = k
      · subst e; omega
      · exact ih i (by omega)
theorem bst_take (q : Nat → P4) (p : Int) (k : Nat) (h : k = 0 ∨ (q k).w p < (q (bst q p k)).w p) : bst q p (k + 1) = k := by
  show (if _ then k else _) = k; rw [if_pos h]
theorem bst_stay (q : Nat → P4) (p : Int) (k : Nat) (h0 : 0 < k) (h : (q (bst q p k)).w p ≤ (q k).w p) : bst q p (k + 1) = bst q p k := by
  show (if _ then k else _) = _; rw [if_neg (by omega)]
theorem w_bound {q : P4} {p : Int} (h : q.e p = 0) : -1000000000000 ≤ q.lo ∧ q.lo ≤ q.hi p ∧ q.hi p ≤ 1000000000000 := by
  obtain ⟨_, _, h3, h4, h5⟩ := oE_zero h
  have := tmB_t h3
  have := tmB_t h4
  exact ⟨by unfold P4.lo; omega, h5, by unfold P4.hi; omega⟩
end Go.Proofs.YtmomcaodmdlnpahDoor
