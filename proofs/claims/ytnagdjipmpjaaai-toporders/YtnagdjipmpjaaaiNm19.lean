/- Sets as numbers, and in how many orders they can come: plain mathematics. Events in a row, as they are handed over; what package order must answer. Events at clocks of a net, each told as a span of one node's time: plain mathematics. -/
import Derived.Test.YtnagdjipmpjaaaiNm18
import Derived.Test.YtnagdjipmpjaaaiNm02
import Derived.Test.YtnagdjipmpjaaaiNm04
import Derived.Test.YtnagdjipmpjaaaiNm11
namespace Go.Proofs.Ytnagdjipmpjaaai
set_option linter.unusedVariables false

/-- The set that a number tells. -/
def bit (T : Nat) (i : Nat) : Bool := decide (T / 2 ^ i % 2 = 1)
theorem pow_pos2 (i : Nat) : 0 < 2 ^ i := Nat.pow_pos (by omega)
theorem add_bit {U i : Nat} (h : bit U i = false) (j : Nat) : bit (U + 2 ^ i) j = if j = i then true else bit U j := by
  have h0 : U / 2 ^ i % 2 = 0 := by
    have := of_decide_eq_false h
    omega
  have p := pow_pos2 i
  have e1 : (U + 2 ^ i) / 2 ^ i = U / 2 ^ i + 1 := Nat.add_div_right U p
  unfold bit
  by_cases c : j = i
  · subst c
    rw [if_pos rfl, e1]
    exact decide_eq_true (by omega)
  · rw [if_neg c]
    rcases Nat.lt_or_ge j i with lt | ge
    · obtain ⟨d, rfl⟩ : ∃ d, i = j + 1 + d := ⟨i - j - 1, by omega⟩
      have q : 2 ^ (j + 1 + d) = 2 ^ j * (2 * 2 ^ d) := by rw [Nat.pow_add, Nat.pow_add, Nat.pow_one, Nat.mul_assoc]
      rw [q, Nat.add_mul_div_left U _ (pow_pos2 j)]
      exact decide_eq_decide.2 (by omega)
    · obtain ⟨d, rfl⟩ : ∃ d, j = i + 1 + d := ⟨j - i - 1, by omega⟩
      have q : 2 ^ (i + 1 + d) = 2 ^ i * (2 * 2 ^ d) := by rw [Nat.pow_add, Nat.pow_add, Nat.pow_one, Nat.mul_assoc]
      have r : ∀ X : Nat, X / (2 ^ i * (2 * 2 ^ d)) = X / 2 ^ i / 2 / 2 ^ d := fun X => by rw [← Nat.div_div_eq_div_mul, ← Nat.div_div_eq_div_mul]
      rw [q, r, r, e1, show (U / 2 ^ i + 1) / 2 = U / 2 ^ i / 2 by omega]
theorem bit_zero (i : Nat) : bit 0 i = false := by simp [bit]
/-- What a set has is not above it. -/
theorem bit_le {T i : Nat} (h : bit T i = true) : 2 ^ i ≤ T := by
  apply Classical.byContradiction
  intro c
  have : T / 2 ^ i = 0 := Nat.div_eq_of_lt (by omega)
  have := of_decide_eq_true h
  omega
theorem bit_sub {T i : Nat} (h : bit T i = true) : bit (T - 2 ^ i) i = false := by
  have l := bit_le h
  have h1 := of_decide_eq_true h
  have e : (T - 2 ^ i) / 2 ^ i = T / 2 ^ i - 1 := by
    have := Nat.sub_mul_div T (2 ^ i) 1
    rwa [Nat.mul_one] at this
  unfold bit
  rw [e]
  exact decide_eq_false (by omega)
theorem bit_ers {T i : Nat} (h : bit T i = true) : bit (T - 2 ^ i) = ers (bit T) i := by
  funext j
  have l := bit_le h
  have a := add_bit (bit_sub h) j
  rw [show T - 2 ^ i + 2 ^ i = T by omega] at a
  unfold ers
  by_cases c : j = i
  · subst c
    simp [bit_sub h]
  · rw [if_neg c] at a
    simp [a, c]
theorem bit_full {n i : Nat} (h : i < n) : bit (2 ^ n - 1) i = true := by
  obtain ⟨d, rfl⟩ : ∃ d, n = i + 1 + d := ⟨n - i - 1, by omega⟩
  have q : 2 ^ (i + 1 + d) = 2 ^ i * (2 * 2 ^ d) := by rw [Nat.pow_add, Nat.pow_add, Nat.pow_one, Nat.mul_assoc]
  have p := pow_pos2 i
  have p2 := pow_pos2 d
  have e : (2 ^ i * (2 * 2 ^ d) - 1) / 2 ^ i = 2 * 2 ^ d - 1 := by
    have r : 2 ^ i * (2 * 2 ^ d) - 1 = 2 ^ i * (2 * 2 ^ d - 1) + (2 ^ i - 1) := by
      have : 2 ^ i * (2 * 2 ^ d - 1) + 2 ^ i = 2 ^ i * (2 * 2 ^ d) := by
        rw [← Nat.mul_succ]
        congr 1
        omega
      omega
    rw [r, Nat.mul_add_div p, Nat.div_eq_of_lt (show 2 ^ i - 1 < 2 ^ i by omega)]
    omega
  unfold bit
  rw [q, e]
  exact decide_eq_true (by omega)
theorem bit_out {T n i : Nat} (h : T < 2 ^ n) (g : n ≤ i) : bit T i = false := by
  have : 2 ^ n ≤ 2 ^ i := Nat.pow_le_pow_right (by omega) g
  unfold bit
  rw [Nat.div_eq_of_lt (by omega)]
  exact decide_eq_false (by omega)
theorem add_lt {T n i : Nat} (h : T < 2 ^ n) (hi : i < n) (hb : bit T i = false) : T + 2 ^ i < 2 ^ n := by
  apply Classical.byContradiction
  intro c
  have l : T + 2 ^ i < 2 ^ (n + 1) := by
    have : 2 ^ i ≤ 2 ^ n := Nat.pow_le_pow_right (by omega) (by omega)
    rw [Nat.pow_succ]
    omega
  have b : bit (T + 2 ^ i) n = true := by
    unfold bit
    have : (T + 2 ^ i) / 2 ^ n = 1 := by
      apply Nat.div_eq_of_lt_le
      · omega
      · rw [Nat.pow_succ] at l
        omega
    rw [this]
    rfl
  rw [add_bit hb, if_neg (by omega), bit_out h (Nat.le_refl _)] at b
  cases b
section
variable {f : Nat → Ev} {n : Nat}
/-- Are all that are surely ahead of an event in a set? -/
def rdyB (f : Nat → Ev) (n : Nat) (S : Nat → Bool) (i : Nat) : Bool := decide (∀ k, k < n → sur f k i = true → S k = true)
theorem rdyB_t {S : Nat → Bool} {i : Nat} : rdyB f n S i = true ↔ ∀ k, k < n → sur f k i = true → S k = true := by simp [rdyB]
/-- With each also all that are surely ahead of it. -/
abbrev dwn (f : Nat → Ev) (n : Nat) (S : Nat → Bool) : Prop := ∀ i, i < n → S i = true → rdyB f n S i = true
/-- In how many orders a set can come ahead of the others. -/
def wd (f : Nat → Ev) (n : Nat) (S : Nat → Bool) : Nat := if dwn f n S then waysL f n (cntN n S) S else 0
theorem dwn_ers {S : Nat → Bool} {i : Nat} (h : dwn f n S) (hi : i < n) (m : maxB f n S i = true) : dwn f n (ers S i) := fun j hj sj => by
  have ne : j ≠ i := fun e => by rw [e, ers_self] at sj; cases sj
  rw [ers_ne ne] at sj
  refine rdyB_t.2 (fun k hk e => ?_)
  have sk := rdyB_t.1 (h j hj sj) k hk e
  by_cases c : k = i
  · subst c
    have := (maxB_t.1 m).2 j hj sj
    rw [e] at this
    cases this
  · rw [ers_ne c]
    exact sk
theorem dwn_add {S : Nat → Bool} {i : Nat} (hi : i < n) (s : S i = true) (h : dwn f n (ers S i)) (r : rdyB f n (ers S i) i = true) : dwn f n S := fun j hj sj => by
  refine rdyB_t.2 (fun k hk e => ?_)
  by_cases c : j = i
  · subst c
    have := rdyB_t.1 r k hk e
    unfold ers at this
    simp at this
    exact this.1
  · have := rdyB_t.1 (h j hj (by rw [ers_ne c]; exact sj)) k hk e
    unfold ers at this
    simp at this
    exact this.1
/-- One by one, by who came last. -/
theorem wd_step (hI : Irr f n) {S : Nat → Bool} {m : Nat} (c : cntN n S = m + 1) : wd f n S = sumN n (fun i => if S i = true ∧ rdyB f n (ers S i) i = true then wd f n (ers S i) else 0) := by
  unfold wd
  by_cases h : dwn f n S
  · rw [if_pos h, c]
    refine sumN_congr (fun i hi => ?_)
    by_cases s : S i = true
    · have ce : cntN n (ers S i) = m := by have := cntN_ers hi s; omega
      by_cases x : maxB f n S i = true
      · have r : rdyB f n (ers S i) i = true := rdyB_t.2 (fun k hk e => by
          have ne : k ≠ i := fun q => by rw [q, hI i hi] at e; cases e
          rw [ers_ne ne]
          exact rdyB_t.1 (h i hi s) k hk e)
        rw [if_pos x, if_pos ⟨s, r⟩, if_pos (dwn_ers h hi x), ce]
      · rw [if_neg x]
        by_cases r : rdyB f n (ers S i) i = true
        · rw [if_pos ⟨s, r⟩, if_neg (fun d => x ?_)]
          refine maxB_t.2 ⟨s, fun k hk sk => ?_⟩
          cases e : sur f i k with
          | false => rfl
          | true =>
            have ne : k ≠ i := fun q => by rw [q, hI i hi] at e; cases e
            have := rdyB_t.1 (d k hk (by rw [ers_ne ne]; exact sk)) i hi e
            rw [ers_self] at this
            cases this
        · rw [if_neg (fun q => r q.2)]
    · rw [if_neg (fun q => s (maxB_t.1 q).1), if_neg (fun q => s q.1)]
  · rw [if_neg h, sumN_zero (fun i hi => ?_)]
    by_cases q : S i = true ∧ rdyB f n (ers S i) i = true
    · rw [if_pos q, if_neg (fun d => h (dwn_add hi q.1 d q.2))]
    · rw [if_neg q]
theorem wd_none (S : Nat → Bool) (c : cntN n S = 0) : wd f n S = 1 := by
  unfold wd
  have d : dwn f n S := fun i hi s => by rw [cntN_zero c i hi] at s; cases s
  rw [if_pos d, c]
  rfl
theorem wd_le (S : Nat → Bool) : wd f n S ≤ fac (cntN n S) := by
  unfold wd
  split
  · exact waysL_le _ _ rfl
  · exact Nat.zero_le _
theorem fac_mono : ∀ {a b : Nat}, a ≤ b → fac a ≤ fac b := by
  intro a b h
  induction h with
  | refl => exact Nat.le_refl _
  | step _ ih =>
    refine Nat.le_trans ih ?_
    show _ ≤ (_ + 1) * fac _
    exact Nat.le_mul_of_pos_left _ (by omega)
theorem wd_12 (h : n ≤ 12) (S : Nat → Bool) : wd f n S ≤ 479001600 := Nat.le_trans (wd_le S) (Nat.le_trans (fac_mono (Nat.le_trans (cntN_le n S) h)) (by decide))
theorem wd_full : wd f n (bit (2 ^ n - 1)) = mny f n := by
  have e : ∀ i, i < n → bit (2 ^ n - 1) i = true := fun i hi => bit_full hi
  have c : cntN n (bit (2 ^ n - 1)) = n := by
    rw [show cntN n (bit (2 ^ n - 1)) = cntN n (fun _ => true) from sumN_congr (fun i hi => by rw [e i hi])]
    exact cntN_all n
  unfold wd mny
  have d : dwn f n (bit (2 ^ n - 1)) := fun i hi _ => rdyB_t.2 (fun k hk _ => e k hk)
  rw [if_pos d, c]
  exact waysL_congr n (fun i hi => e i hi)
theorem mny_12 (h : n ≤ 12) : mny f n ≤ 479001600 := by rw [← wd_full]; exact wd_12 h _
/-- What a set without one gives while sets up to T, and of T the first k, have been gone over. -/
def trmW (f : Nat → Ev) (n T k U i : Nat) : Nat := if bit U i = true ∧ rdyB f n (bit (U - 2 ^ i)) i = true ∧ (U - 2 ^ i < T ∨ (U - 2 ^ i = T ∧ i < k)) then wd f n (bit (U - 2 ^ i)) else 0
theorem trmW_in {T k U i : Nat} (b : bit U i = true) (r : rdyB f n (bit (U - 2 ^ i)) i = true) (h : U - 2 ^ i < T ∨ (U - 2 ^ i = T ∧ i < k)) : trmW f n T k U i = wd f n (bit (U - 2 ^ i)) := if_pos ⟨b, r, h⟩
theorem trmW_out {T k U i : Nat} (h : bit U i = true → rdyB f n (bit (U - 2 ^ i)) i = true → (U - 2 ^ i < T ∨ (U - 2 ^ i = T ∧ i < k)) → False) : trmW f n T k U i = 0 := if_neg (fun q => h q.1 q.2.1 q.2.2)
theorem trmW_same {T k T' k' U i : Nat} (h : bit U i = true → rdyB f n (bit (U - 2 ^ i)) i = true → ((U - 2 ^ i < T ∨ (U - 2 ^ i = T ∧ i < k)) ↔ (U - 2 ^ i < T' ∨ (U - 2 ^ i = T' ∧ i < k')))) : trmW f n T k U i = trmW f n T' k' U i := by
  by_cases b : bit U i = true
  · by_cases r : rdyB f n (bit (U - 2 ^ i)) i = true
    · by_cases c : U - 2 ^ i < T ∨ (U - 2 ^ i = T ∧ i < k)
      · rw [trmW_in b r c, trmW_in b r ((h b r).1 c)]
      · rw [trmW_out (fun _ _ x => c x), trmW_out (fun _ _ x => c ((h b r).2 x))]
    · rw [trmW_out (fun _ x _ => r x), trmW_out (fun _ x _ => r x)]
  · rw [trmW_out (fun x _ _ => b x), trmW_out (fun x _ _ => b x)]
/-- What the table holds then. -/
def tabW (f : Nat → Ev) (n T k U : Nat) : Nat := (if U = 0 then 1 else 0) + sumN n (trmW f n T k U)
theorem tabW_zero (U : Nat) : tabW f n 0 0 U = if U = 0 then 1 else 0 := by
  unfold tabW
  rw [sumN_zero (fun i hi => trmW_out (fun _ _ q => by omega))]
  omega
/-- Of a set that is gone over next all is in. -/
theorem tabW_done (hI : Irr f n) {T U : Nat} (h : U ≤ T) (hU : U < 2 ^ n) : tabW f n T 0 U = wd f n (bit U) := by
  unfold tabW
  by_cases u : U = 0
  · subst u
    rw [if_pos rfl, sumN_zero (fun i hi => trmW_out (fun q _ _ => by rw [bit_zero] at q; cases q))]
    have c : cntN n (bit 0) = 0 := sumN_zero (fun i hi => by rw [bit_zero]; rfl)
    rw [wd_none _ c]
  · rw [if_neg u, Nat.zero_add]
    have ne : cntN n (bit U) ≠ 0 := fun c => by
      have z := cntN_zero c
      have : ∀ m, m ≤ n → U < 2 ^ m → (∀ i, i < m → bit U i = false) → U = 0 := by
        intro m
        induction m with
        | zero => intro _ h _; simpa using h
        | succ m ih =>
          intro hm h b
          refine ih (by omega) ?_ (fun i hi => b i (by omega))
          have := b m (by omega)
          apply Classical.byContradiction
          intro q
          have d : U / 2 ^ m = 1 := by
            apply Nat.div_eq_of_lt_le
            · omega
            · rw [Nat.pow_succ] at h
              omega
          unfold bit at this
          rw [d] at this
          simp at this
      exact u (this n (Nat.le_refl _) hU z)
    obtain ⟨m, c⟩ : ∃ m, cntN n (bit U) = m + 1 := ⟨cntN n (bit U) - 1, by omega⟩
    rw [wd_step hI c]
    refine sumN_congr (fun i hi => ?_)
    by_cases b : bit U i = true
    · have l := bit_le b
      have p := pow_pos2 i
      have e := bit_ers b
      by_cases r : rdyB f n (ers (bit U) i) i = true
      · rw [trmW_in b (by rw [e]; exact r) (Or.inl (by omega)), if_pos ⟨b, r⟩, e]
      · rw [trmW_out (fun _ x _ => r (by rw [← e]; exact x)), if_neg (fun q => r q.2)]
    · rw [trmW_out (fun x _ _ => b x), if_neg (fun q => b q.1)]
theorem tabW_le (hI : Irr f n) (h : n ≤ 12) {T k U : Nat} (hU : U < 2 ^ n) : tabW f n T k U ≤ 479001600 := by
  refine Nat.le_trans ?_ (wd_12 (f := f) h (bit U))
  rw [← tabW_done hI (T := T + U + 1) (U := U) (by omega) hU]
  unfold tabW
  have := sumN_le (n := n) (g := trmW f n T k U) (h := trmW f n (T + U + 1) 0 U) (fun i hi => by
    by_cases b : bit U i = true
    · by_cases r : rdyB f n (bit (U - 2 ^ i)) i = true
      · rw [trmW_in (T := T + U + 1) b r (Or.inl (by have := Nat.sub_le U (2 ^ i); omega))]
        by_cases c : U - 2 ^ i < T ∨ (U - 2 ^ i = T ∧ i < k)
        · rw [trmW_in b r c]
          exact Nat.le_refl _
        · rw [trmW_out (fun _ _ x => c x)]
          exact Nat.zero_le _
      · rw [trmW_out (fun _ x _ => r x)]
        exact Nat.zero_le _
    · rw [trmW_out (fun x _ _ => b x)]
      exact Nat.zero_le _)
  omega
/-- Of the set that is gone over all is in. -/
theorem tabW_self (hI : Irr f n) {T k : Nat} (hT : T < 2 ^ n) : tabW f n T k T = wd f n (bit T) := by
  rw [← tabW_done hI (Nat.le_refl T) hT]
  unfold tabW
  have m := sumN_congr (n := n) (g := trmW f n T k T) (h := trmW f n T 0 T) (fun j hj => trmW_same (fun bj _ => by have := bit_le bj; have := pow_pos2 j; omega))
  rw [m]
/-- One more is told of. -/
theorem tabW_put {T k : Nat} (hk : k < n) (b : bit T k = false) (r : rdyB f n (bit T) k = true) (U : Nat) : tabW f n T (k + 1) U = tabW f n T k U + if U = T + 2 ^ k then wd f n (bit T) else 0 := by
  unfold tabW
  by_cases u : U = T + 2 ^ k
  · subst u
    have bk : bit (T + 2 ^ k) k = true := by rw [add_bit b, if_pos rfl]
    have e : T + 2 ^ k - 2 ^ k = T := by omega
    rw [if_pos rfl]
    have m := sumN_more (n := n) (i := k) (g := trmW f n T k (T + 2 ^ k)) (h := trmW f n T (k + 1) (T + 2 ^ k)) (c := wd f n (bit T)) hk (fun j hj ne => trmW_same (fun bj _ => by have := bit_le bj; omega)) (by
      rw [trmW_in bk (by rw [e]; exact r) (Or.inr ⟨e, by omega⟩), trmW_out (fun _ _ q => by omega), e]
      omega)
    omega
  · rw [if_neg u]
    have m := sumN_congr (n := n) (g := trmW f n T (k + 1) U) (h := trmW f n T k U) (fun j hj => trmW_same (fun bj _ => by
      have := bit_le bj
      by_cases e : j = k
      · subst e
        constructor
        · rintro (q | ⟨q, _⟩)
          · exact Or.inl q
          · exact absurd (show U = T + 2 ^ j by omega) u
        · rintro (q | ⟨q, q'⟩)
          · exact Or.inl q
          · omega
      · omega))
    rw [m]
    rfl
/-- None more. -/
theorem tabW_skip {T k : Nat} (hk : k < n) (h : bit T k = true ∨ rdyB f n (bit T) k = false) (U : Nat) : tabW f n T (k + 1) U = tabW f n T k U := by
  unfold tabW
  have m := sumN_congr (n := n) (g := trmW f n T (k + 1) U) (h := trmW f n T k U) (fun j hj => trmW_same (fun bj rj => by
    by_cases e : j = k
    · subst e
      constructor
      · rintro (q | ⟨q, _⟩)
        · exact Or.inl q
        · exfalso
          rcases h with h | h
          · rw [← q, bit_sub bj] at h
            cases h
          · rw [← q, rj] at h
            cases h
      · rintro (q | ⟨q, q'⟩)
        · exact Or.inl q
        · omega
    · omega))
  rw [m]
theorem tabW_next (T U : Nat) : tabW f n T n U = tabW f n (T + 1) 0 U := by
  unfold tabW
  have m := sumN_congr (n := n) (g := trmW f n T n U) (h := trmW f n (T + 1) 0 U) (fun j hj => trmW_same (fun _ _ => by omega))
  rw [m]
end
end Go.Proofs.Ytnagdjipmpjaaai
namespace Go.Proofs.Ytnagdjipmpjaaai
open Go.ChangeShapes Go.WideShapes Go.ChangeAt Go.RowKit
set_option linter.unusedVariables false

/-- n events lie in a row behind an address. -/
def Evs (w : World) (b off n : Nat) (f : Nat → Ev) : Prop := ∀ i, i < n → w.cell? ⟨b, off + i * 3, none⟩ = some (.int .i64 (f i).id) ∧ w.cell? ⟨b, off + i * 3 + 1, none⟩ = some (.int .i64 (f i).lo) ∧ w.cell? ⟨b, off + i * 3 + 1 + 1, none⟩ = some (.int .i64 (f i).hi)
theorem Evs.on {W u : World} {b off n : Nat} {f : Nat → Ev} (hb : Below W.heap.size W u) (h : Evs W b off n f) : Evs u b off n f := fun i hi => by
  obtain ⟨h0, h1, h2⟩ := h i hi
  exact ⟨by rw [hb.cell (World.block_lt_of_cell? _ _ h0)]; exact h0, by rw [hb.cell (World.block_lt_of_cell? _ _ h1)]; exact h1, by rw [hb.cell (World.block_lt_of_cell? _ _ h2)]; exact h2⟩
def VHanded (w : World) (a : Option Addr) (n : Nat) (f : Nat → Ev) : Prop := n ≤ 9223372036854775807 ∧ (n = 0 ∨ ∃ b off : Nat, a = some ⟨b, off, none⟩ ∧ Evs w b off n f)
theorem VHanded.on {W u : World} {a : Option Addr} {n : Nat} {f : Nat → Ev} (hb : Below W.heap.size W u) (h : VHanded W a n f) : VHanded u a n f :=
  ⟨h.1, h.2.imp id (fun ⟨b, off, e, s⟩ => ⟨b, off, e, s.on hb⟩)⟩
theorem VHanded.same {w : World} {a : Option Addr} {n : Nat} {f g : Nat → Ev} (h : VHanded w a n f) (e : ∀ i, i < n → f i = g i) : VHanded w a n g :=
  ⟨h.1, h.2.imp id (fun ⟨b, off, e', s⟩ => ⟨b, off, e', fun i hi => by rw [← e i hi]; exact s i hi⟩)⟩
section
variable {f : Nat → Ev} {n : Nat} {e : Int}
/-- One is right by itself and by those ahead of it. -/
def okAt (f : Nat → Ev) (j : Nat) : Prop := okB (f j).lo (f j).hi = true ∧ ∀ k, k < j → (f k).id ≠ (f j).id
/-- What is wrong with events. -/
def EvE (n : Nat) (f : Nat → Ev) (e : Int) : Prop := (12 < n ∧ e = 4) ∨ (n ≤ 12 ∧ ∃ i, i < n ∧ (∀ j, j < i → okAt f j) ∧ ((okB (f i).lo (f i).hi = false ∧ e = 1) ∨ (okB (f i).lo (f i).hi = true ∧ (∃ k, k < i ∧ (f k).id = (f i).id) ∧ e = 3))) ∨ (n ≤ 12 ∧ (∀ j, j < n → okAt f j) ∧ e = 0)
theorem first_not {p : Nat → Prop} : ∀ {n : Nat}, (∀ j, j < n → p j) ∨ ∃ i, i < n ∧ ¬ p i ∧ ∀ j, j < i → p j
  | 0 => Or.inl (fun j hj => by omega)
  | n + 1 => by
    rcases first_not (p := p) (n := n) with h | ⟨i, hi, a, b⟩
    · by_cases q : p n
      · exact Or.inl (fun j hj => by by_cases c : j = n; exact c ▸ q; exact h j (by omega))
      · exact Or.inr ⟨n, by omega, q, h⟩
    · exact Or.inr ⟨i, by omega, a, b⟩
theorem evE_some (n : Nat) (f : Nat → Ev) : ∃ e, EvE n f e := by
  by_cases h : 12 < n
  · exact ⟨4, Or.inl ⟨h, rfl⟩⟩
  · rcases first_not (p := okAt f) (n := n) with g | ⟨i, hi, a, b⟩
    · exact ⟨0, Or.inr (Or.inr ⟨by omega, g, rfl⟩)⟩
    · cases o : okB (f i).lo (f i).hi with
      | false => exact ⟨1, Or.inr (Or.inl ⟨by omega, i, hi, b, Or.inl ⟨o, rfl⟩⟩)⟩
      | true =>
        refine ⟨3, Or.inr (Or.inl ⟨by omega, i, hi, b, Or.inr ⟨o, ?_, rfl⟩⟩)⟩
        apply Classical.byContradiction
        intro no
        exact a ⟨o, fun k hk e => no ⟨k, hk, e⟩⟩
theorem EvE.zero (h : EvE n f 0) : n ≤ 12 ∧ ∀ j, j < n → okAt f j := by
  rcases h with ⟨_, e⟩ | ⟨_, i, _, _, ⟨_, e⟩ | ⟨_, _, e⟩⟩ | ⟨a, b, _⟩
  · cases e
  · cases e
  · cases e
  · exact ⟨a, b⟩
theorem EvE.one {e' : Int} (h : EvE n f e) (g : EvE n f e') : e = e' := by
  have no : ∀ i, ((okB (f i).lo (f i).hi = false ∧ e = 1) ∨ (okB (f i).lo (f i).hi = true ∧ (∃ k, k < i ∧ (f k).id = (f i).id) ∧ e = 3)) → okAt f i → False := by
    rintro i (⟨a, _⟩ | ⟨_, ⟨k, hk, q⟩, _⟩) ⟨b, c⟩
    · rw [a] at b; cases b
    · exact c k hk q
  have no' : ∀ i, ((okB (f i).lo (f i).hi = false ∧ e' = 1) ∨ (okB (f i).lo (f i).hi = true ∧ (∃ k, k < i ∧ (f k).id = (f i).id) ∧ e' = 3)) → okAt f i → False := by
    rintro i (⟨a, _⟩ | ⟨_, ⟨k, hk, q⟩, _⟩) ⟨b, c⟩
    · rw [a] at b; cases b
    · exact c k hk q
  rcases h with ⟨a, rfl⟩ | ⟨a, i, hi, b, c⟩ | ⟨a, b, rfl⟩
  · rcases g with ⟨_, rfl⟩ | ⟨a', _⟩ | ⟨a', _⟩
    · rfl
    · omega
    · omega
  · rcases g with ⟨a', _⟩ | ⟨_, i', hi', b', c'⟩ | ⟨_, b', _⟩
    · omega
    · rcases Nat.lt_trichotomy i i' with lt | rfl | lt
      · exact absurd (b' i lt) (no i c)
      · rcases c with ⟨c1, rfl⟩ | ⟨c1, _, rfl⟩
        · rcases c' with ⟨_, rfl⟩ | ⟨c2, _⟩
          · rfl
          · rw [c1] at c2; cases c2
        · rcases c' with ⟨c2, _⟩ | ⟨_, _, rfl⟩
          · rw [c1] at c2; cases c2
          · rfl
      · exact absurd (b i' lt) (no' i' c')
    · exact absurd (b' i hi) (no i c)
  · rcases g with ⟨a', _⟩ | ⟨_, i', hi', b', c'⟩ | ⟨_, _, rfl⟩
    · omega
    · exact absurd (b i' hi') (no' i' c')
    · rfl
theorem EvE.le (h : EvE n f e) : (e = 4 ∧ 12 < n) ∨ (n ≤ 12 ∧ (e = 0 ∨ e = 1 ∨ e = 3)) := by
  rcases h with ⟨a, e⟩ | ⟨a, i, _, _, ⟨_, e⟩ | ⟨_, _, e⟩⟩ | ⟨a, b, e⟩
  · exact Or.inl ⟨e, a⟩
  · exact Or.inr ⟨a, Or.inr (Or.inl e)⟩
  · exact Or.inr ⟨a, Or.inr (Or.inr e)⟩
  · exact Or.inr ⟨a, Or.inl e⟩
theorem okAt.irr (h : ∀ j, j < n → okAt f j) : Irr f n := fun i hi => decide_eq_false (by have := (okB_t (h i hi).1).1; omega)
/-- An order names each once. -/
def EachP (n : Nat) (o : Nat → Int) (m : Nat) : Prop := m = n ∧ ∀ i, i < n → 0 ≤ o i ∧ o i < n ∧ ∀ k, k < i → o k ≠ o i
/-- The earliest times along an order. -/
def tmO (f : Nat → Ev) (o : Nat → Int) : Nat → Int
  | 0 => (f (o 0).toNat).lo
  | i + 1 => max (tmO f o i) (f (o (i + 1)).toNat).lo
def CouldP (f : Nat → Ev) (o : Nat → Int) (m : Nat) : Prop := ∀ i, i < m → tmO f o i ≤ (f (o i).toNat).hi
theorem tmO_ge (f : Nat → Ev) (o : Nat → Int) : ∀ {i k : Nat}, k ≤ i → (f (o k).toNat).lo ≤ tmO f o i
  | 0, k, h => by
    have : k = 0 := by omega
    subst this
    exact Int.le_refl _
  | i + 1, k, h => by
    show _ ≤ max _ _
    by_cases c : k = i + 1
    · subst c
      omega
    · have := tmO_ge f o (i := i) (k := k) (by omega)
      omega
theorem tmO_at (f : Nat → Ev) (o : Nat → Int) : ∀ i, ∃ k, k ≤ i ∧ tmO f o i = (f (o k).toNat).lo
  | 0 => ⟨0, Nat.le_refl _, rfl⟩
  | i + 1 => by
    obtain ⟨k, hk, e⟩ := tmO_at f o i
    show ∃ k, k ≤ i + 1 ∧ max (tmO f o i) _ = _
    by_cases c : tmO f o i ≤ (f (o (i + 1)).toNat).lo
    · exact ⟨i + 1, Nat.le_refl _, by omega⟩
    · exact ⟨k, by omega, by omega⟩
/-- It could be so just if nobody sure stands behind. -/
theorem could_iff {o : Nat → Int} {m : Nat} (ok : ∀ i, i < m → (f (o i).toNat).lo ≤ (f (o i).toNat).hi) : CouldP f o m ↔ ∀ i k, i < m → k < i → sur f (o i).toNat (o k).toNat = false := by
  constructor
  · intro h i k hi hk
    have := h i hi
    have := tmO_ge f o (i := i) (k := k) (by omega)
    exact decide_eq_false (by omega)
  · intro h i hi
    obtain ⟨k, hk, e⟩ := tmO_at f o i
    rw [e]
    by_cases c : k = i
    · subst c
      exact ok k hi
    · have := of_decide_eq_false (h i k hi (by omega))
      omega
/-- How long the longest rows are that end with each. -/
def RkI (f : Nat → Ev) (n : Nat) (r : Nat → Int) : Prop := ∀ i, i < n → 1 ≤ r i ∧ (∀ k, k < n → sur f k i = true → r k < r i) ∧ (r i = 1 ∨ ∃ k, k < n ∧ sur f k i = true ∧ r i = r k + 1)
/-- How many begin earlier. -/
def erl (f : Nat → Ev) (n i : Nat) : Nat := cntN n (fun k => decide ((f k).lo < (f i).lo))
theorem erl_lt (h : ∀ j, j < n → okAt f j) {k i : Nat} (hk : k < n) (s : sur f k i = true) : erl f n k < erl f n i := by
  have s' : (f k).hi < (f i).lo := of_decide_eq_true s
  have o := (okB_t (h k hk).1).1
  exact cntN_lt (i := k) hk (fun j hj e => by have : (f j).lo < (f k).lo := of_decide_eq_true e; exact decide_eq_true (by omega)) (decide_eq_true (by omega)) (decide_eq_false (by omega))
theorem RkI.one (h : ∀ j, j < n → okAt f j) {r r' : Nat → Int} (g : RkI f n r) (g' : RkI f n r') : ∀ i, i < n → r i = r' i := by
  have st : ∀ m i, i < n → erl f n i ≤ m → r i = r' i := by
    intro m
    induction m with
    | zero =>
      intro i hi c
      obtain ⟨a1, a2, a3⟩ := g i hi
      obtain ⟨b1, b2, b3⟩ := g' i hi
      rcases a3 with a3 | ⟨k, hk, s, e⟩
      · rcases b3 with b3 | ⟨k, hk, s, e⟩
        · omega
        · have := erl_lt h hk s
          omega
      · have := erl_lt h hk s
        omega
    | succ m ih =>
      intro i hi c
      obtain ⟨a1, a2, a3⟩ := g i hi
      obtain ⟨b1, b2, b3⟩ := g' i hi
      have low : r i ≤ r' i := by
        rcases a3 with a3 | ⟨k, hk, s, e⟩
        · omega
        · have := erl_lt h hk s
          have := ih k hk (by omega)
          have := b2 k hk s
          omega
      have high : r' i ≤ r i := by
        rcases b3 with b3 | ⟨k, hk, s, e⟩
        · omega
        · have := erl_lt h hk s
          have := ih k hk (by omega)
          have := a2 k hk s
          omega
      omega
  exact fun i hi => st _ i hi (Nat.le_refl _)
/-- The greatest of those among the first m that are so, 0 at least. -/
def maxO (p : Nat → Bool) (g : Nat → Int) : Nat → Int
  | 0 => 0
  | m + 1 => if p m = true ∧ maxO p g m < g m then g m else maxO p g m
theorem maxO_ge {p : Nat → Bool} {g : Nat → Int} : ∀ {m : Nat}, 0 ≤ maxO p g m ∧ ∀ k, k < m → p k = true → g k ≤ maxO p g m
  | 0 => ⟨Int.le_refl _, fun k hk => by omega⟩
  | m + 1 => by
    obtain ⟨a, b⟩ := maxO_ge (p := p) (g := g) (m := m)
    show 0 ≤ (if p m = true ∧ maxO p g m < g m then g m else maxO p g m) ∧ ∀ k, k < m + 1 → p k = true → g k ≤ (if p m = true ∧ maxO p g m < g m then g m else maxO p g m)
    by_cases c : p m = true ∧ maxO p g m < g m
    · rw [if_pos c]
      refine ⟨by omega, fun k hk e => ?_⟩
      by_cases q : k = m
      · subst q; exact Int.le_refl _
      · have := b k (by omega) e; omega
    · rw [if_neg c]
      refine ⟨a, fun k hk e => ?_⟩
      by_cases q : k = m
      · subst q
        apply Classical.byContradiction
        intro no
        exact c ⟨e, by omega⟩
      · exact b k (by omega) e
theorem maxO_at {p : Nat → Bool} {g : Nat → Int} : ∀ {m : Nat}, maxO p g m = 0 ∨ ∃ k, k < m ∧ p k = true ∧ maxO p g m = g k
  | 0 => Or.inl rfl
  | m + 1 => by
    show (if p m = true ∧ maxO p g m < g m then g m else maxO p g m) = 0 ∨ ∃ k, k < m + 1 ∧ p k = true ∧ (if p m = true ∧ maxO p g m < g m then g m else maxO p g m) = g k
    by_cases c : p m = true ∧ maxO p g m < g m
    · rw [if_pos c]
      exact Or.inr ⟨m, by omega, c.1, rfl⟩
    · rw [if_neg c]
      rcases maxO_at (p := p) (g := g) (m := m) with h | ⟨k, hk, a, b⟩
      · exact Or.inl h
      · exact Or.inr ⟨k, by omega, a, b⟩
theorem maxO_congr {p : Nat → Bool} {g g' : Nat → Int} : ∀ {m : Nat}, (∀ k, k < m → p k = true → g k = g' k) → maxO p g m = maxO p g' m
  | 0, _ => rfl
  | m + 1, h => by
    show (if p m = true ∧ maxO p g m < g m then g m else maxO p g m) = (if p m = true ∧ maxO p g' m < g' m then g' m else maxO p g' m)
    rw [maxO_congr (fun k hk => h k (by omega))]
    by_cases c : p m = true
    · rw [h m (by omega) c]
    · rw [if_neg (fun q => c q.1), if_neg (fun q => c q.1)]
/-- Ranks, reckoned. -/
def rkF (f : Nat → Ev) (n : Nat) : Nat → Nat → Int
  | 0, _ => 1
  | t + 1, i => maxO (fun k => sur f k i) (rkF f n t) n + 1
theorem rkF_same (h : ∀ j, j < n → okAt f j) : ∀ (t t' i : Nat), i < n → erl f n i < t → erl f n i < t' → rkF f n t i = rkF f n t' i
  | 0, _, i, _, c, _ => by omega
  | t + 1, 0, i, _, _, c => by omega
  | t + 1, t' + 1, i, hi, c, c' => by
    show maxO _ _ _ + 1 = maxO _ _ _ + 1
    rw [maxO_congr (g' := rkF f n t') (fun k hk s => rkF_same h t t' k hk (by have := erl_lt h hk s; omega) (by have := erl_lt h hk s; omega))]
/-- The ranks. -/
def rkO (f : Nat → Ev) (n i : Nat) : Int := rkF f n (n + 1) i
theorem rkO_eq (h : ∀ j, j < n → okAt f j) {i : Nat} (hi : i < n) : rkO f n i = maxO (fun k => sur f k i) (rkO f n) n + 1 := by
  show maxO _ (rkF f n n) n + 1 = maxO _ (rkF f n (n + 1)) n + 1
  rw [maxO_congr (g' := rkF f n (n + 1)) (fun k hk s => rkF_same h n (n + 1) k hk (by have := erl_lt h hk s; have := cntN_le n (fun k => decide ((f k).lo < (f i).lo)); unfold erl at *; omega) (by have := cntN_le n (fun j => decide ((f j).lo < (f k).lo)); unfold erl; omega))]
theorem rkO_is (h : ∀ j, j < n → okAt f j) : RkI f n (rkO f n) := fun i hi => by
  have e := rkO_eq h hi
  obtain ⟨a, b⟩ := maxO_ge (p := fun k => sur f k i) (g := rkO f n) (m := n)
  refine ⟨by omega, fun k hk s => by have := b k hk s; omega, ?_⟩
  rcases maxO_at (p := fun k => sur f k i) (g := rkO f n) (m := n) with c | ⟨k, hk, s, c⟩
  · exact Or.inl (by omega)
  · exact Or.inr ⟨k, hk, s, by omega⟩
theorem rkO_le (h : ∀ j, j < n → okAt f j) : ∀ i, i < n → rkO f n i ≤ erl f n i + 1 := by
  have st : ∀ m i, i < n → erl f n i ≤ m → rkO f n i ≤ erl f n i + 1 := by
    intro m
    induction m with
    | zero =>
      intro i hi c
      rcases (rkO_is h i hi).2.2 with e | ⟨k, hk, s, e⟩
      · omega
      · have := erl_lt h hk s; omega
    | succ m ih =>
      intro i hi c
      rcases (rkO_is h i hi).2.2 with e | ⟨k, hk, s, e⟩
      · omega
      · have := erl_lt h hk s
        have := ih k hk (by omega)
        omega
  exact fun i hi => st _ i hi (Nat.le_refl _)
end
/-- Each Id is a number that an int can be. -/
def IdW (n : Nat) (f : Nat → Ev) : Prop := ∀ i, i < n → In64 (f i).id
/-- The error of an order, of times along it. -/
def OrE (n : Nat) (f : Nat → Ev) (o : Nat → Int) (m : Nat) (e : Int) : Prop := (EvE n f e ∧ e ≠ 0) ∨ (EvE n f 0 ∧ ¬ EachP n o m ∧ e = 3) ∨ (EvE n f 0 ∧ EachP n o m ∧ e = 0)
end Go.Proofs.Ytnagdjipmpjaaai
namespace Go.Proofs.Ytnagdjipmpjaaai
set_option linter.unusedVariables false

/-- What is told of two is not far. -/
theorem eoN_near {N : Nn} (g : N.T) {i k : Nat} (hi : i < N.W.n) (hk : k < N.W.n) {x : Int} (d : Dst (Arc (egf (eoN N)) (eoN N).length) i k x) : N.W.rd k - N.W.rd i ≤ x ∧ x ≤ 20000000000 := by
  obtain ⟨⟨r, w⟩, m⟩ := d
  have lo := wk_fit (x := fun i => N.W.rd i) (fun u v c q => (eoN_arc g u v c q).1) w
  obtain ⟨r', c', h1, h2, w'⟩ := short (eoN_egs g).arc (not_neg (eoN_nn g N.W.n)) r i k x hi w
  have h3 := m r' c' w'
  have h4 := wk_top (K := 4000000000) (fun u v c q => (eoN_arc g u v c q).2) w'
  have h6 := g.g.i.n6
  have h5 : (r' : Int) * 4000000000 ≤ 5 * 4000000000 := Int.mul_le_mul_of_nonneg_right (by omega) (by omega)
  exact ⟨lo, by omega⟩
/-- No clock goes back. -/
theorem NDoR.rise {N N' : Nn} {wh a b e : Int} (h : NDoR N wh a b N' e) (g : N.T) {i : Nat} (hi : i < N.W.n) : N.W.rd i ≤ N'.W.rd i := by
  have up : ∀ S' : Ws, S'.n = N.W.n → S'.starts = N.W.starts → S'.rates = N.W.rates → N.W.time ≤ S'.time → N.W.rd i ≤ S'.rd i := fun S' h1 h2 h3 h4 => by
    have m := shw_mono g.g hi h4
    rw [shw_rd] at m
    have e : shw N.W i S'.time = S'.rd i := by unfold shw sh Ws.rd; rw [h2, h3]
    omega
  obtain ⟨S', r, e1, hD, q⟩ := h
  have sm := hD.same
  rcases q with ⟨_, rfl, _⟩ | ⟨l, c', _, _, _, _, q⟩
  · exact up S' sm.1 sm.2.1 sm.2.2.1 (sm.2.2.2 g.g.i)
  · rcases q with ⟨_, rfl, _⟩ | ⟨_, S'', hA, rfl⟩
    · exact up S' sm.1 sm.2.1 sm.2.2.1 (sm.2.2.2 g.g.i)
    · have sa := hA.same
      exact up S'' (sa.1.trans sm.1) (sa.2.1.trans sm.2.1) (sa.2.2.1.trans sm.2.2.1) (by rw [sa.2.2.2]; exact sm.2.2.2 g.g.i)
/-- Events that were told, when one node's clock showed c, one behind the other. -/
structure EvI (m : Nat) (f : Nat → Ev) (c : Nat → Int) (i : Nat) (now : Int) : Prop where
  m12 : m ≤ 12
  mi : m ≤ i
  ok : ∀ j, j < m → okB (f j).lo (f j).hi = true ∧ (f j).lo ≤ c j ∧ c j ≤ (f j).hi ∧ (f j).id < i ∧ c j ≤ now
  up : ∀ j k, j < k → k < m → c j ≤ c k ∧ (f j).id < (f k).id
theorem EvI.none {i : Nat} {now : Int} {f : Nat → Ev} {c : Nat → Int} : EvI 0 f c i now := ⟨by omega, by omega, fun j hj => by omega, fun j k _ hk => by omega⟩
theorem EvI.later {m i i' : Nat} {f : Nat → Ev} {c : Nat → Int} {now now' : Int} (h : EvI m f c i now) (h1 : i ≤ i') (h2 : now ≤ now') : EvI m f c i' now' := ⟨h.m12, by have := h.mi; omega, fun j hj => by
  obtain ⟨a, b, d, e, g⟩ := h.ok j hj
  exact ⟨a, b, d, by omega, by omega⟩, h.up⟩
/-- One more. -/
theorem EvI.more {m i : Nat} {f : Nat → Ev} {c : Nat → Int} {now lo hi : Int} (h : EvI m f c i now) (h12 : m < 12) (hok : okB lo hi = true) (h1 : lo ≤ now) (h2 : now ≤ hi) : EvI (m + 1) (fun j => if j = m then ⟨i, lo, hi⟩ else f j) (fun j => if j = m then now else c j) (i + 1) now := by
  refine ⟨by omega, by have := h.mi; omega, fun j hj => ?_, fun j k hjk hk => ?_⟩
  · by_cases e : j = m
    · subst e
      simp only [if_true]
      exact ⟨hok, h1, h2, by omega, Int.le_refl _⟩
    · simp only [if_neg e]
      obtain ⟨a, b, d, e', g⟩ := h.ok j (by omega)
      exact ⟨a, b, d, by omega, g⟩
  · have ej : j ≠ m := by omega
    simp only [if_neg ej]
    by_cases e : k = m
    · subst e
      simp only [if_true]
      obtain ⟨a, b, d, e', g⟩ := h.ok j hjk
      exact ⟨g, e'⟩
    · simp only [if_neg e]
      exact h.up j k hjk (by omega)
/-- As it truly was, it could be. -/
theorem EvI.could {m i : Nat} {f : Nat → Ev} {c : Nat → Int} {now : Int} (h : EvI m f c i now) : EvE m f 0 ∧ EachP m (fun j => (j : Int)) m ∧ CouldP f (fun j => (j : Int)) m := by
  refine ⟨Or.inr (Or.inr ⟨h.m12, fun j hj => ⟨(h.ok j hj).1, fun k hk e => ?_⟩, rfl⟩), ⟨rfl, fun j hj => ⟨by show (0 : Int) ≤ j; omega, by show (j : Int) < m; omega, fun k hk e => ?_⟩⟩, ?_⟩
  · have := (h.up k j hk hj).2
    omega
  · have e' : (k : Int) = (j : Int) := e
    omega
  · refine (could_iff (fun j hj => ?_)).2 (fun j k hj hk => ?_)
    · show (f ((j : Int)).toNat).lo ≤ (f ((j : Int)).toNat).hi
      rw [Int.toNat_natCast]
      have := h.ok j hj
      omega
    · show sur f ((j : Int)).toNat ((k : Int)).toNat = false
      rw [Int.toNat_natCast, Int.toNat_natCast]
      have a := h.ok j hj
      have b := h.ok k (by omega)
      have u := (h.up k j hk hj).1
      exact decide_eq_false (by omega)
end Go.Proofs.Ytnagdjipmpjaaai
