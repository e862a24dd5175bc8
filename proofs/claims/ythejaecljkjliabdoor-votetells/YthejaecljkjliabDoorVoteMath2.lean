/- What noonref1's Most, all and Safe tell of spans, and the statement's own Meet of all: plain numbers alone. -/
import Derived.Test.YthejaecljkjliabDoorVoteMath
namespace Go.Proofs.YthejaecljkjliabDoor
set_option linter.unusedVariables false

def mt (q : Nat → Int × Int) (n : Nat) : Nat → Int × Int
  | 0 => (0, 0)
  | k + 1 => if (mt q n k).1 < cnt q n (q k).1 ∨ (cnt q n (q k).1 = (mt q n k).1 ∧ (q k).1 < (mt q n k).2) then (cnt q n (q k).1, (q k).1) else mt q n k
section
variable {q : Nat → Int × Int} {n : Nat}
theorem mt_inv (ok : ∀ i, i < n → (q i).1 ≤ (q i).2) : ∀ k, k ≤ n → (k = 0 ∧ mt q n k = (0, 0)) ∨
    (1 ≤ (mt q n k).1 ∧ (∃ i, i < k ∧ (mt q n k).2 = (q i).1 ∧ (mt q n k).1 = cnt q n (q i).1) ∧ ∀ i, i < k → cnt q n (q i).1 ≤ (mt q n k).1 ∧ (cnt q n (q i).1 = (mt q n k).1 → (mt q n k).2 ≤ (q i).1))
  | 0, _ => Or.inl ⟨rfl, rfl⟩
  | k + 1, hk => by
    have ih := mt_inv ok k (by omega)
    have c1 : 1 ≤ cnt q n (q k).1 := cnt_one q _ n k (by omega) ((inn_one _ _).2 ⟨Int.le_refl _, ok k (by omega)⟩)
    right
    simp only [mt]
    generalize mt q n k = a at ih ⊢
    obtain ⟨t, at'⟩ := a
    simp only
    rcases ih with ⟨rfl, e⟩ | ⟨p, ⟨j, hj, e1, e2⟩, all⟩
    · injection e with e1 e2
      subst e1 e2
      rw [if_pos (Or.inl (by omega))]
      refine ⟨c1, ⟨0, by omega, rfl, rfl⟩, fun i hi => ?_⟩
      obtain rfl : i = 0 := by omega
      exact ⟨Int.le_refl _, fun _ => Int.le_refl _⟩
    · simp only at p e1 e2 all
      by_cases c : t < cnt q n (q k).1 ∨ (cnt q n (q k).1 = t ∧ (q k).1 < at')
      · rw [if_pos c]
        refine ⟨c1, ⟨k, by omega, rfl, rfl⟩, fun i hi => ?_⟩
        by_cases ik : i = k
        · subst ik; exact ⟨Int.le_refl _, fun _ => Int.le_refl _⟩
        · have := all i (by omega)
          simp only
          refine ⟨by omega, fun h => ?_⟩
          rcases c with c | c
          · omega
          · have := this.2 (by omega); omega
      · rw [if_neg c]
        refine ⟨p, ⟨j, by omega, e1, e2⟩, fun i hi => ?_⟩
        by_cases ik : i = k
        · subst ik; simp only; exact ⟨by omega, fun h => by omega⟩
        · exact all i (by omega)
theorem mt_best (ok : ∀ i, i < n → (q i).1 ≤ (q i).2) (h0 : 0 < n) : 1 ≤ (mt q n n).1 ∧ cnt q n (mt q n n).2 = (mt q n n).1 ∧ (∀ x, cnt q n x ≤ (mt q n n).1) ∧ ∀ x, x < (mt q n n).2 → cnt q n x < (mt q n n).1 := by
  rcases mt_inv ok n (Nat.le_refl _) with ⟨e, _⟩ | ⟨p, ⟨j, hj, e1, e2⟩, all⟩
  · omega
  · have top : ∀ x, cnt q n x ≤ (mt q n n).1 := fun x => by
      by_cases c : 0 < cnt q n x
      · obtain ⟨i, hi, _, _, le⟩ := lo_best q n x c
        have := (all i hi).1; omega
      · omega
    refine ⟨p, by rw [e1, e2], top, fun x hx => ?_⟩
    have t := top x
    apply Classical.byContradiction
    intro h
    obtain ⟨i, hi, l, _, le⟩ := lo_best q n x (by omega)
    have := (all i hi).2 (by have := (all i hi).1; omega)
    omega
/-- Where in how many turns, a span begins, or one has just ended. -/
theorem cnt_turn (x : Int) (h : cnt q n (x + 1) ≠ cnt q n x) : ∃ i, i < n ∧ ((q i).1 = x + 1 ∨ (q i).2 + 1 = x + 1) := by
  apply Classical.byContradiction
  intro hn
  refine h (cnt_congr q (x + 1) x n (fun i hi => ?_))
  have h1 : (q i).1 ≠ x + 1 := fun e => hn ⟨i, hi, Or.inl e⟩
  have h2 : (q i).2 + 1 ≠ x + 1 := fun e => hn ⟨i, hi, Or.inr e⟩
  unfold inn
  by_cases a : (q i).1 ≤ x + 1 ∧ x + 1 ≤ (q i).2
  · rw [if_pos a, if_pos (by omega)]
  · rw [if_neg a, if_neg (by omega)]
/-- What noonref1.all asks. -/
def allC (q : Nat → Int × Int) (n : Nat) (lo hi m : Int) : Prop :=
  cnt q n lo = m ∧ cnt q n hi = m ∧ ∀ i, i < n → (lo ≤ (q i).1 → (q i).1 ≤ hi → cnt q n (q i).1 = m) ∧ (lo ≤ (q i).2 + 1 → (q i).2 + 1 ≤ hi → cnt q n ((q i).2 + 1) = m)
theorem allC_iff (lo hi m : Int) (hl : lo ≤ hi) : allC q n lo hi m ↔ ∀ x, lo ≤ x → x ≤ hi → cnt q n x = m := by
  constructor
  · rintro ⟨a, b, h⟩
    have key : ∀ k : Nat, lo + k ≤ hi → cnt q n (lo + k) = m := by
      intro k
      induction k with
      | zero => intro _; simpa using a
      | succ k ih =>
        intro hk
        have e := ih (by omega)
        by_cases c : cnt q n (lo + k + 1) = cnt q n (lo + k)
        · rw [show lo + ((k + 1 : Nat) : Int) = lo + k + 1 by omega, c, e]
        · obtain ⟨i, hi', e1 | e1⟩ := cnt_turn _ c
          · have := (h i hi').1 (by omega) (by omega)
            rw [show lo + ((k + 1 : Nat) : Int) = (q i).1 by omega]; exact this
          · have := (h i hi').2 (by omega) (by omega)
            rw [show lo + ((k + 1 : Nat) : Int) = (q i).2 + 1 by omega]; exact this
    intro x h1 h2
    have := key (x - lo).toNat (by omega)
    rwa [show lo + ((x - lo).toNat : Int) = x by omega] at this
  · intro h
    exact ⟨h lo (Int.le_refl _) hl, h hi hl (Int.le_refl _), fun i _ => ⟨fun a b => h _ a b, fun a b => h _ a b⟩⟩
/-- Where nobody's end lies further, it is as wide as it is. -/
theorem most_ref (ok : ∀ i, i < n → (q i).1 ≤ (q i).2) (h0 : 0 < n) (hi : Int) (hl : (mt q n n).2 ≤ hi) (on : ∀ x, (mt q n n).2 ≤ x → x ≤ hi → cnt q n x = (mt q n n).1)
    (no : ∀ i, i < n → hi < (q i).2 → ¬ allC q n (mt q n n).2 (q i).2 (mt q n n).1) : IsMost (cnt q n) (mt q n n).2 hi (mt q n n).1 := by
  obtain ⟨p, a, top, bef⟩ := mt_best ok h0
  refine ⟨p, hl, top, on, bef, ?_⟩
  apply Classical.byContradiction
  intro h
  have t := top (hi + 1)
  have e : cnt q n (hi + 1) = (mt q n n).1 := by omega
  obtain ⟨i, hi', l, mo⟩ := hi_best q n (hi + 1) (by omega)
  refine no i hi' (by omega) ((allC_iff _ _ _ (by omega)).2 (fun x h1 h2 => ?_))
  by_cases c : x ≤ hi
  · exact on x h1 c
  · have := mo x (by omega) h2; have := top x; omega

def sf (q : Nat → Int × Int) (n : Nat) (m : Int) : Nat → Bool × Int
  | 0 => (false, 0)
  | k + 1 => if m ≤ cnt q n (q k).1 ∧ ((sf q n m k).1 = false ∨ (q k).1 < (sf q n m k).2) then (true, (q k).1) else sf q n m k
def sg (q : Nat → Int × Int) (n : Nat) (m : Int) : Nat → Bool × Int
  | 0 => (true, 0)
  | k + 1 => if m ≤ cnt q n (q k).2 ∧ ((sg q n m k).1 = true ∨ (sg q n m k).2 < (q k).2) then (false, (q k).2) else sg q n m k
theorem sf_inv (m : Int) : ∀ k, ((sf q n m k).1 = false ∧ ∀ i, i < k → cnt q n (q i).1 < m) ∨
    ((sf q n m k).1 = true ∧ m ≤ cnt q n (sf q n m k).2 ∧ ∀ i, i < k → m ≤ cnt q n (q i).1 → (sf q n m k).2 ≤ (q i).1)
  | 0 => Or.inl ⟨rfl, fun i hi => by omega⟩
  | k + 1 => by
    have ih := sf_inv m k
    simp only [sf]
    generalize sf q n m k = a at ih ⊢
    obtain ⟨f, l⟩ := a
    simp only at ih ⊢
    by_cases c : m ≤ cnt q n (q k).1 ∧ (f = false ∨ (q k).1 < l)
    · rw [if_pos c]
      refine Or.inr ⟨rfl, c.1, fun i hi h => ?_⟩
      by_cases ik : i = k
      · subst ik; exact Int.le_refl _
      · rcases ih with ⟨e, all⟩ | ⟨e, le, all⟩
        · have := all i (by omega); omega
        · have := all i (by omega) h
          rcases c.2 with c2 | c2
          · rw [e] at c2; cases c2
          · simp only; omega
    · rw [if_neg c]
      rcases ih with ⟨e, all⟩ | ⟨e, le, all⟩
      · refine Or.inl ⟨e, fun i hi => ?_⟩
        by_cases ik : i = k
        · subst ik
          apply Classical.byContradiction
          intro h; exact c ⟨by omega, Or.inl e⟩
        · exact all i (by omega)
      · refine Or.inr ⟨e, le, fun i hi h => ?_⟩
        by_cases ik : i = k
        · subst ik
          apply Classical.byContradiction
          intro h'; exact c ⟨h, Or.inr (by simp only at h'; omega)⟩
        · exact all i (by omega) h
theorem sg_inv (m : Int) : ∀ k, ((sg q n m k).1 = true ∧ ∀ i, i < k → cnt q n (q i).2 < m) ∨
    ((sg q n m k).1 = false ∧ m ≤ cnt q n (sg q n m k).2 ∧ ∀ i, i < k → m ≤ cnt q n (q i).2 → (q i).2 ≤ (sg q n m k).2)
  | 0 => Or.inl ⟨rfl, fun i hi => by omega⟩
  | k + 1 => by
    have ih := sg_inv m k
    simp only [sg]
    generalize sg q n m k = a at ih ⊢
    obtain ⟨f, l⟩ := a
    simp only at ih ⊢
    by_cases c : m ≤ cnt q n (q k).2 ∧ (f = true ∨ l < (q k).2)
    · rw [if_pos c]
      refine Or.inr ⟨rfl, c.1, fun i hi h => ?_⟩
      by_cases ik : i = k
      · subst ik; exact Int.le_refl _
      · rcases ih with ⟨e, all⟩ | ⟨e, le, all⟩
        · have := all i (by omega); omega
        · have := all i (by omega) h
          rcases c.2 with c2 | c2
          · rw [e] at c2; cases c2
          · simp only; omega
    · rw [if_neg c]
      rcases ih with ⟨e, all⟩ | ⟨e, le, all⟩
      · refine Or.inl ⟨e, fun i hi => ?_⟩
        by_cases ik : i = k
        · subst ik
          apply Classical.byContradiction
          intro h; exact c ⟨by omega, Or.inl e⟩
        · exact all i (by omega)
      · refine Or.inr ⟨e, le, fun i hi h => ?_⟩
        by_cases ik : i = k
        · subst ik
          apply Classical.byContradiction
          intro h'; exact c ⟨h, Or.inr (by simp only at h'; omega)⟩
        · exact all i (by omega) h
/-- What noonref1.Safe tells. -/
theorem safe_ref (m : Int) (hm : 1 ≤ m) : ((sf q n m n).1 = false ∧ ∀ x, cnt q n x < m) ∨ ((sf q n m n).1 = true ∧ IsSafe (cnt q n) m (sf q n m n).2 (sg q n m n).2) := by
  rcases sf_inv (q := q) (n := n) m n with ⟨e, all⟩ | ⟨e, le, all⟩
  · refine Or.inl ⟨e, fun x => ?_⟩
    apply Classical.byContradiction
    intro h
    obtain ⟨i, hi, _, _, l⟩ := lo_best q n x (by omega)
    have := all i hi; omega
  · refine Or.inr ⟨e, ?_⟩
    rcases sg_inv (q := q) (n := n) m n with ⟨_, all'⟩ | ⟨_, le', all'⟩
    · obtain ⟨i, hi, l, mo⟩ := hi_best q n _ (show 0 < cnt q n (sf q n m n).2 by omega)
      have := mo _ l (Int.le_refl _)
      have := all' i hi; omega
    · refine ⟨le, le', fun x hx => ⟨?_, ?_⟩⟩
      · obtain ⟨i, hi, l1, _, l⟩ := lo_best q n x (by omega)
        have := all i hi (by omega); omega
      · obtain ⟨i, hi, l1, mo⟩ := hi_best q n x (by omega)
        have := all' i hi (by have := mo _ l1 (Int.le_refl _); omega); omega
end

/-- What is in the first k + 1. -/
def ml (q : Nat → Int × Int) : Nat → Int × Int
  | 0 => q 0
  | k + 1 => (if (ml q k).1 < (q (k + 1)).1 then (q (k + 1)).1 else (ml q k).1, if (q (k + 1)).2 < (ml q k).2 then (q (k + 1)).2 else (ml q k).2)
section
variable {q : Nat → Int × Int} {n : Nat}
theorem ml_in (x : Int) : ∀ k, ((ml q k).1 ≤ x ∧ x ≤ (ml q k).2) ↔ ∀ i, i ≤ k → inn (q i) x = 1
  | 0 => by
    constructor
    · intro h i hi
      obtain rfl : i = 0 := by omega
      exact (inn_one _ _).2 h
    · intro h; exact (inn_one _ _).1 (h 0 (by omega))
  | k + 1 => by
    have ih := ml_in x k
    simp only [ml]
    constructor
    · intro h i hi
      by_cases e : i = k + 1
      · subst e
        refine (inn_one _ _).2 ?_
        obtain ⟨h1, h2⟩ := h
        split at h1 <;> split at h2 <;> omega
      · refine ih.1 ?_ i (by omega)
        obtain ⟨h1, h2⟩ := h
        split at h1 <;> split at h2 <;> omega
    · intro h
      have a := ih.2 (fun i hi => h i (by omega))
      have b := (inn_one _ _).1 (h (k + 1) (by omega))
      constructor <;> split <;> omega
/-- All agree: what is in all is what is in as many as there are. -/
theorem ml_safe (h0 : 0 < n) (h : (ml q (n - 1)).1 ≤ (ml q (n - 1)).2) : IsSafe (cnt q n) n (ml q (n - 1)).1 (ml q (n - 1)).2 := by
  have key : ∀ x, ((ml q (n - 1)).1 ≤ x ∧ x ≤ (ml q (n - 1)).2) ↔ (n : Int) ≤ cnt q n x := fun x => by
    rw [ml_in, cnt_all]
    exact ⟨fun h i hi => h i (by omega), fun h i hi => h i (by omega)⟩
  exact ⟨(key _).1 ⟨Int.le_refl _, h⟩, (key _).1 ⟨h, Int.le_refl _⟩, fun x hx => (key x).2 hx⟩
theorem ml_none (k : Nat) (hk : k < n) (h : ¬ (ml q k).1 ≤ (ml q k).2) (x : Int) : cnt q n x < n := by
  apply Classical.byContradiction
  intro hc
  have a := (cnt_all q x n).1 (by omega)
  have := (ml_in (q := q) x k).2 (fun i hi => a i (by omega))
  omega
end
end Go.Proofs.YthejaecljkjliabDoor
