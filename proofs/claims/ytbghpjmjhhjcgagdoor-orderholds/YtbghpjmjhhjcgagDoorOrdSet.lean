/- Sets as numbers, and in how many orders they can come: plain mathematics. -/
import Derived.Test.YtbghpjmjhhjcgagDoorOrdMath
namespace Go.Proofs.YtbghpjmjhhjcgagDoor
set_option linter.unusedVariables false

/-- The set that a number tells. -/
def bit (T : Nat) (i : Nat) : Bool := decide (T / 2 ^ i % 2 = 1)
theorem pow_pos2 (i : Nat) : 0 < 2 ^ i := Nat.pow_pos (by omega)
theorem add_bit {U i : Nat} (h : bit U i = false) (j : Nat) : bit (U + 2 ^ i) j = if j = i then true else bit U j := by
  have h0 : U / 2 ^ i % 2 = 0 := by
    have := of_decide_eq_false h
    omega
  have p := pow_pos2 i
  have e1 : (U + 2 ^ i) / 2 ^ i = U / 2 ^ i + 1 := Nat.add_div_right U p
  unfold bit
  by_cases c : j = i
  · subst c
    rw [if_pos rfl, e1]
    exact decide_eq_true (by omega)
  · rw [if_neg c]
    rcases Nat.lt_or_ge j i with lt | ge
    · obtain ⟨d, rfl⟩ : ∃ d, i = j + 1 + d := ⟨i - j - 1, by omega⟩
      have q : 2 ^ (j + 1 + d) = 2 ^ j * (2 * 2 ^ d) := by rw [Nat.pow_add, Nat.pow_add, Nat.pow_one, Nat.mul_assoc]
      rw [q, Nat.add_mul_div_left U _ (pow_pos2 j)]
      exact decide_eq_decide.2 (by omega)
    · obtain ⟨d, rfl⟩ : ∃ d, j = i + 1 + d := ⟨j - i - 1, by omega⟩
      have q : 2 ^ (i + 1 + d) = 2 ^ i * (2 * 2 ^ d) := by rw [Nat.pow_add, Nat.pow_add, Nat.pow_one, Nat.mul_assoc]
      have r : ∀ X : Nat, X / (2 ^ i * (2 * 2 ^ d)) = X / 2 ^ i / 2 / 2 ^ d := fun X => by rw [← Nat.div_div_eq_div_mul, ← Nat.div_div_eq_div_mul]
      rw [q, r, r, e1, show (U / 2 ^ i + 1) / 2 = U / 2 ^ i / 2 by omega]
theorem bit_zero (i : Nat) : bit 0 i = false := by simp [bit]
/-- What a set has is not above it. -/
theorem bit_le {T i : Nat} (h : bit T i = true) : 2 ^ i ≤ T := by
  apply Classical.byContradiction
  intro c
  have : T / 2 ^ i = 0 := Nat.div_eq_of_lt (by omega)
  have := of_decide_eq_true h
  omega
theorem bit_sub {T i : Nat} (h : bit T i = true) : bit (T - 2 ^ i) i = false := by
  have l := bit_le h
  have h1 := of_decide_eq_true h
  have e : (T - 2 ^ i) / 2 ^ i = T / 2 ^ i - 1 := by
    have := Nat.sub_mul_div T (2 ^ i) 1
    rwa [Nat.mul_one] at this
  unfold bit
  rw [e]
  exact decide_eq_false (by omega)
theorem bit_ers {T i : Nat} (h : bit T i = true) : bit (T - 2 ^ i) = ers (bit T) i := by
  funext j
  have l := bit_le h
  have a := add_bit (bit_sub h) j
  rw [show T - 2 ^ i + 2 ^ i = T by omega] at a
  unfold ers
  by_cases c : j = i
  · subst c
    simp [bit_sub h]
  · rw [if_neg c] at a
    simp [a, c]
theorem bit_full {n i : Nat} (h : i < n) : bit (2 ^ n - 1) i = true := by
  obtain ⟨d, rfl⟩ : ∃ d, n = i + 1 + d := ⟨n - i - 1, by omega⟩
  have q : 2 ^ (i + 1 + d) = 2 ^ i * (2 * 2 ^ d) := by rw [Nat.pow_add, Nat.pow_add, Nat.pow_one, Nat.mul_assoc]
  have p := pow_pos2 i
  have p2 := pow_pos2 d
  have e : (2 ^ i * (2 * 2 ^ d) - 1) / 2 ^ i = 2 * 2 ^ d - 1 := by
    have r : 2 ^ i * (2 * 2 ^ d) - 1 = 2 ^ i * (2 * 2 ^ d - 1) + (2 ^ i - 1) := by
      have : 2 ^ i * (2 * 2 ^ d - 1) + 2 ^ i = 2 ^ i * (2 * 2 ^ d) := by
        rw [← Nat.mul_succ]
        congr 1
        omega
      omega
    rw [r, Nat.mul_add_div p, Nat.div_eq_of_lt (show 2 ^ i - 1 < 2 ^ i by omega)]
    omega
  unfold bit
  rw [q, e]
  exact decide_eq_true (by omega)
theorem bit_out {T n i : Nat} (h : T < 2 ^ n) (g : n ≤ i) : bit T i = false := by
  have : 2 ^ n ≤ 2 ^ i := Nat.pow_le_pow_right (by omega) g
  unfold bit
  rw [Nat.div_eq_of_lt (by omega)]
  exact decide_eq_false (by omega)
theorem add_lt {T n i : Nat} (h : T < 2 ^ n) (hi : i < n) (hb : bit T i = false) : T + 2 ^ i < 2 ^ n := by
  apply Classical.byContradiction
  intro c
  have l : T + 2 ^ i < 2 ^ (n + 1) := by
    have : 2 ^ i ≤ 2 ^ n := Nat.pow_le_pow_right (by omega) (by omega)
    rw [Nat.pow_succ]
    omega
  have b : bit (T + 2 ^ i) n = true := by
    unfold bit
    have : (T + 2 ^ i) / 2 ^ n = 1 := by
      apply Nat.div_eq_of_lt_le
      · omega
      · rw [Nat.pow_succ] at l
        omega
    rw [this]
    rfl
  rw [add_bit hb, if_neg (by omega), bit_out h (Nat.le_refl _)] at b
  cases b
section
variable {f : Nat → Ev} {n : Nat}
/-- Are all that are surely ahead of an event in a set? -/
def rdyB (f : Nat → Ev) (n : Nat) (S : Nat → Bool) (i : Nat) : Bool := decide (∀ k, k < n → sur f k i = true → S k = true)
theorem rdyB_t {S : Nat → Bool} {i : Nat} : rdyB f n S i = true ↔ ∀ k, k < n → sur f k i = true → S k = true := by simp [rdyB]
/-- With each also all that are surely ahead of it. -/
abbrev dwn (f : Nat → Ev) (n : Nat) (S : Nat → Bool) : Prop := ∀ i, i < n → S i = true → rdyB f n S i = true
/-- In how many orders a set can come ahead of the others. -/
def wd (f : Nat → Ev) (n : Nat) (S : Nat → Bool) : Nat := if dwn f n S then waysL f n (cntN n S) S else 0
theorem dwn_ers {S : Nat → Bool} {i : Nat} (h : dwn f n S) (hi : i < n) (m : maxB f n S i = true) : dwn f n (ers S i) := fun j hj sj => by
  have ne : j ≠ i := fun e => by rw [e, ers_self] at sj; cases sj
  rw [ers_ne ne] at sj
  refine rdyB_t.2 (fun k hk e => ?_)
  have sk := rdyB_t.1 (h j hj sj) k hk e
  by_cases c : k = i
  · subst c
    have := (maxB_t.1 m).2 j hj sj
    rw [e] at this
    cases this
  · rw [ers_ne c]
    exact sk
theorem dwn_add {S : Nat → Bool} {i : Nat} (hi : i < n) (s : S i = true) (h : dwn f n (ers S i)) (r : rdyB f n (ers S i) i = true) : dwn f n S := fun j hj sj => by
  refine rdyB_t.2 (fun k hk e => ?_)
  by_cases c : j = i
  · subst c
    have := rdyB_t.1 r k hk e
    unfold ers at this
    simp at this
    exact this.1
  · have := rdyB_t.1 (h j hj (by rw [ers_ne c]; exact sj)) k hk e
    unfold ers at this
    simp at this
    exact this.1
/-- One by one, by who came last. -/
theorem wd_step (hI : Irr f n) {S : Nat → Bool} {m : Nat} (c : cntN n S = m + 1) : wd f n S = sumN n (fun i => if S i = true ∧ rdyB f n (ers S i) i = true then wd f n (ers S i) else 0) := by
  unfold wd
  by_cases h : dwn f n S
  · rw [if_pos h, c]
    refine sumN_congr (fun i hi => ?_)
    by_cases s : S i = true
    · have ce : cntN n (ers S i) = m := by have := cntN_ers hi s; omega
      by_cases x : maxB f n S i = true
      · have r : rdyB f n (ers S i) i = true := rdyB_t.2 (fun k hk e => by
          have ne : k ≠ i := fun q => by rw [q, hI i hi] at e; cases e
          rw [ers_ne ne]
          exact rdyB_t.1 (h i hi s) k hk e)
        rw [if_pos x, if_pos ⟨s, r⟩, if_pos (dwn_ers h hi x), ce]
      · rw [if_neg x]
        by_cases r : rdyB f n (ers S i) i = true
        · rw [if_pos ⟨s, r⟩, if_neg (fun d => x ?_)]
          refine maxB_t.2 ⟨s, fun k hk sk => ?_⟩
          cases e : sur f i k with
          | false => rfl
          | true =>
            have ne : k ≠ i := fun q => by rw [q, hI i hi] at e; cases e
            have := rdyB_t.1 (d k hk (by rw [ers_ne ne]; exact sk)) i hi e
            rw [ers_self] at this
            cases this
        · rw [if_neg (fun q => r q.2)]
    · rw [if_neg (fun q => s (maxB_t.1 q).1), if_neg (fun q => s q.1)]
  · rw [if_neg h, sumN_zero (fun i hi => ?_)]
    by_cases q : S i = true ∧ rdyB f n (ers S i) i = true
    · rw [if_pos q, if_neg (fun d => h (dwn_add hi q.1 d q.2))]
    · rw [if_neg q]
theorem wd_none (S : Nat → Bool) (c : cntN n S = 0) : wd f n S = 1 := by
  unfold wd
  have d : dwn f n S := fun i hi s => by rw [cntN_zero c i hi] at s; cases s
  rw [if_pos d, c]
  rfl
theorem wd_le (S : Nat → Bool) : wd f n S ≤ fac (cntN n S) := by
  unfold wd
  split
  · exact waysL_le _ _ rfl
  · exact Nat.zero_le _
theorem fac_mono : ∀ {a b : Nat}, a ≤ b → fac a ≤ fac b := by
  intro a b h
  induction h with
  | refl => exact Nat.le_refl _
  | step _ ih =>
    refine Nat.le_trans ih ?_
    show _ ≤ (_ + 1) * fac _
    exact Nat.le_mul_of_pos_left _ (by omega)
theorem wd_12 (h : n ≤ 12) (S : Nat → Bool) : wd f n S ≤ 479001600 := Nat.le_trans (wd_le S) (Nat.le_trans (fac_mono (Nat.le_trans (cntN_le n S) h)) (by decide))
theorem wd_full : wd f n (bit (2 ^ n - 1)) = mny f n := by
  have e : ∀ i, i < n → bit (2 ^ n - 1) i = true := fun i hi => bit_full hi
  have c : cntN n (bit (2 ^ n - 1)) = n := by
    rw [show cntN n (bit (2 ^ n - 1)) = cntN n (fun _ => true) from sumN_congr (fun i hi => by rw [e i hi])]
    exact cntN_all n
  unfold wd mny
  have d : dwn f n (bit (2 ^ n - 1)) := fun i hi _ => rdyB_t.2 (fun k hk _ => e k hk)
  rw [if_pos d, c]
  exact waysL_congr n (fun i hi => e i hi)
theorem mny_12 (h : n ≤ 12) : mny f n ≤ 479001600 := by rw [← wd_full]; exact wd_12 h _
/-- What a set without one gives while sets up to T, and of T the first k, have been gone over. -/
def trmW (f : Nat → Ev) (n T k U i : Nat) : Nat := if bit U i = true ∧ rdyB f n (bit (U - 2 ^ i)) i = true ∧ (U - 2 ^ i < T ∨ (U - 2 ^ i = T ∧ i < k)) then wd f n (bit (U - 2 ^ i)) else 0
theorem trmW_in {T k U i : Nat} (b : bit U i = true) (r : rdyB f n (bit (U - 2 ^ i)) i = true) (h : U - 2 ^ i < T ∨ (U - 2 ^ i = T ∧ i < k)) : trmW f n T k U i = wd f n (bit (U - 2 ^ i)) := if_pos ⟨b, r, h⟩
theorem trmW_out {T k U i : Nat} (h : bit U i = true → rdyB f n (bit (U - 2 ^ i)) i = true → (U - 2 ^ i < T ∨ (U - 2 ^ i = T ∧ i < k)) → False) : trmW f n T k U i = 0 := if_neg (fun q => h q.1 q.2.1 q.2.2)
theorem trmW_same {T k T' k' U i : Nat} (h : bit U i = true → rdyB f n (bit (U - 2 ^ i)) i = true → ((U - 2 ^ i < T ∨ (U - 2 ^ i = T ∧ i < k)) ↔ (U - 2 ^ i < T' ∨ (U - 2 ^ i = T' ∧ i < k')))) : trmW f n T k U i = trmW f n T' k' U i := by
  by_cases b : bit U i = true
  · by_cases r : rdyB f n (bit (U - 2 ^ i)) i = true
    · by_cases c : U - 2 ^ i < T ∨ (U - 2 ^ i = T ∧ i < k)
      · rw [trmW_in b r c, trmW_in b r ((h b r).1 c)]
      · rw [trmW_out (fun _ _ x => c x), trmW_out (fun _ _ x => c ((h b r).2 x))]
    · rw [trmW_out (fun _ x _ => r x), trmW_out (fun _ x _ => r x)]
  · rw [trmW_out (fun x _ _ => b x), trmW_out (fun x _ _ => b x)]
/-- What the table holds then. -/
def tabW (f : Nat → Ev) (n T k U : Nat) : Nat := (if U = 0 then 1 else 0) + sumN n (trmW f n T k U)
theorem tabW_zero (U : Nat) : tabW f n 0 0 U = if U = 0 then 1 else 0 := by
  unfold tabW
  rw [sumN_zero (fun i hi => trmW_out (fun _ _ q => by omega))]
  omega
/-- Of a set that is gone over next all is in. -/
theorem tabW_done (hI : Irr f n) {T U : Nat} (h : U ≤ T) (hU : U < 2 ^ n) : tabW f n T 0 U = wd f n (bit U) := by
  unfold tabW
  by_cases u : U = 0
  · subst u
    rw [if_pos rfl, sumN_zero (fun i hi => trmW_out (fun q _ _ => by rw [bit_zero] at q; cases q))]
    have c : cntN n (bit 0) = 0 := sumN_zero (fun i hi => by rw [bit_zero]; rfl)
    rw [wd_none _ c]
  · rw [if_neg u, Nat.zero_add]
    have ne : cntN n (bit U) ≠ 0 := fun c => by
      have z := cntN_zero c
      have : ∀ m, m ≤ n → U < 2 ^ m → (∀ i, i < m → bit U i = false) → U = 0 := by
        intro m
        induction m with
        | zero => intro _ h _; simpa using h
        | succ m ih =>
          intro hm h b
          refine ih (by omega) ?_ (fun i hi => b i (by omega))
          have := b m (by omega)
          apply Classical.byContradiction
          intro q
          have d : U / 2 ^ m = 1 := by
            apply Nat.div_eq_of_lt_le
            · omega
            · rw [Nat.pow_succ] at h
              omega
          unfold bit at this
          rw [d] at this
          simp at this
      exact u (this n (Nat.le_refl _) hU z)
    obtain ⟨m, c⟩ : ∃ m, cntN n (bit U) = m + 1 := ⟨cntN n (bit U) - 1, by omega⟩
    rw [wd_step hI c]
    refine sumN_congr (fun i hi => ?_)
    by_cases b : bit U i = true
    · have l := bit_le b
      have p := pow_pos2 i
      have e := bit_ers b
      by_cases r : rdyB f n (ers (bit U) i) i = true
      · rw [trmW_in b (by rw [e]; exact r) (Or.inl (by omega)), if_pos ⟨b, r⟩, e]
      · rw [trmW_out (fun _ x _ => r (by rw [← e]; exact x)), if_neg (fun q => r q.2)]
    · rw [trmW_out (fun x _ _ => b x), if_neg (fun q => b q.1)]
theorem tabW_le (hI : Irr f n) (h : n ≤ 12) {T k U : Nat} (hU : U < 2 ^ n) : tabW f n T k U ≤ 479001600 := by
  refine Nat.le_trans ?_ (wd_12 (f := f) h (bit U))
  rw [← tabW_done hI (T := T + U + 1) (U := U) (by omega) hU]
  unfold tabW
  have := sumN_le (n := n) (g := trmW f n T k U) (h := trmW f n (T + U + 1) 0 U) (fun i hi => by
    by_cases b : bit U i = true
    · by_cases r : rdyB f n (bit (U - 2 ^ i)) i = true
      · rw [trmW_in (T := T + U + 1) b r (Or.inl (by have := Nat.sub_le U (2 ^ i); omega))]
        by_cases c : U - 2 ^ i < T ∨ (U - 2 ^ i = T ∧ i < k)
        · rw [trmW_in b r c]
          exact Nat.le_refl _
        · rw [trmW_out (fun _ _ x => c x)]
          exact Nat.zero_le _
      · rw [trmW_out (fun _ x _ => r x)]
        exact Nat.zero_le _
    · rw [trmW_out (fun x _ _ => b x)]
      exact Nat.zero_le _)
  omega
/-- Of the set that is gone over all is in. -/
theorem tabW_self (hI : Irr f n) {T k : Nat} (hT : T < 2 ^ n) : tabW f n T k T = wd f n (bit T) := by
  rw [← tabW_done hI (Nat.le_refl T) hT]
  unfold tabW
  have m := sumN_congr (n := n) (g := trmW f n T k T) (h := trmW f n T 0 T) (fun j hj => trmW_same (fun bj _ => by have := bit_le bj; have := pow_pos2 j; omega))
  rw [m]
/-- One more is told of. -/
theorem tabW_put {T k : Nat} (hk : k < n) (b : bit T k = false) (r : rdyB f n (bit T) k = true) (U : Nat) : tabW f n T (k + 1) U = tabW f n T k U + if U = T + 2 ^ k then wd f n (bit T) else 0 := by
  unfold tabW
  by_cases u : U = T + 2 ^ k
  · subst u
    have bk : bit (T + 2 ^ k) k = true := by rw [add_bit b, if_pos rfl]
    have e : T + 2 ^ k - 2 ^ k = T := by omega
    rw [if_pos rfl]
    have m := sumN_more (n := n) (i := k) (g := trmW f n T k (T + 2 ^ k)) (h := trmW f n T (k + 1) (T + 2 ^ k)) (c := wd f n (bit T)) hk (fun j hj ne => trmW_same (fun bj _ => by have := bit_le bj; omega)) (by
      rw [trmW_in bk (by rw [e]; exact r) (Or.inr ⟨e, by omega⟩), trmW_out (fun _ _ q => by omega), e]
      omega)
    omega
  · rw [if_neg u]
    have m := sumN_congr (n := n) (g := trmW f n T (k + 1) U) (h := trmW f n T k U) (fun j hj => trmW_same (fun bj _ => by
      have := bit_le bj
      by_cases e : j = k
      · subst e
        constructor
        · rintro (q | ⟨q, _⟩)
          · exact Or.inl q
          · exact absurd (show U = T + 2 ^ j by omega) u
        · rintro (q | ⟨q, q'⟩)
          · exact Or.inl q
          · omega
      · omega))
    rw [m]
    rfl
/-- None more. -/
theorem tabW_skip {T k : Nat} (hk : k < n) (h : bit T k = true ∨ rdyB f n (bit T) k = false) (U : Nat) : tabW f n T (k + 1) U = tabW f n T k U := by
  unfold tabW
  have m := sumN_congr (n := n) (g := trmW f n T (k + 1) U) (h := trmW f n T k U) (fun j hj => trmW_same (fun bj rj => by
    by_cases e : j = k
    · subst e
      constructor
      · rintro (q | ⟨q, _⟩)
        · exact Or.inl q
        · exfalso
          rcases h with h | h
          · rw [← q, bit_sub bj] at h
            cases h
          · rw [← q, rj] at h
            cases h
      · rintro (q | ⟨q, q'⟩)
        · exact Or.inl q
        · omega
    · omega))
  rw [m]
theorem tabW_next (T U : Nat) : tabW f n T n U = tabW f n (T + 1) 0 U := by
  unfold tabW
  have m := sumN_congr (n := n) (g := trmW f n T n U) (h := trmW f n (T + 1) 0 U) (fun j hj => trmW_same (fun _ _ => by omega))
  rw [m]
end
end Go.Proofs.YtbghpjmjhhjcgagDoor
