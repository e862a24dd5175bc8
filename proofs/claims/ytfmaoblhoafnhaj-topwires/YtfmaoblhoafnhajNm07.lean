/- Ways along arcs, and the least of them: plain mathematics. An arc from u to v of c says: what v shows less what u shows is at most c. A node that knows of others: plain mathematics. What a node knows of another one stays true while clocks go on: plain numbers alone. Edges in a row, and what is wrong with some. -/
import Derived.Test.YtfmaoblhoafnhajNm06
import Derived.Test.YtfmaoblhoafnhajNm01
namespace Go.Proofs.Ytfmaoblhoafnhaj
set_option linter.unusedVariables false

theorem pigeon : ∀ (n : Nat) (f : Nat → Nat), (∀ t, t ≤ n → f t < n) → ∃ s t, s < t ∧ t ≤ n ∧ f s = f t
  | 0, f, h => absurd (h 0 (Nat.le_refl _)) (by omega)
  | n + 1, f, h => by
    by_cases c : ∃ s, s ≤ n ∧ f s = f (n + 1)
    · obtain ⟨s, hs, e⟩ := c
      exact ⟨s, n + 1, by omega, Nat.le_refl _, e⟩
    · have ne : ∀ s, s ≤ n → f s ≠ f (n + 1) := fun s hs e => c ⟨s, hs, e⟩
      have hm := h (n + 1) (Nat.le_refl _)
      obtain ⟨s, t, h1, h2, h3⟩ := pigeon n (fun t => if f (n + 1) < f t then f t - 1 else f t) (fun t ht => by
        have := h t (by omega)
        have := ne t ht
        show (if f (n + 1) < f t then f t - 1 else f t) < n
        split <;> omega)
      refine ⟨s, t, h1, by omega, ?_⟩
      have a := ne s (by omega)
      have b := ne t h2
      split at h3 <;> split at h3 <;> omega

section
variable {R : Nat → Nat → Int → Prop} {n : Nat}
/-- A way of r arcs from i to k, of c in all. -/
def Wk (R : Nat → Nat → Int → Prop) (r i k : Nat) (c : Int) : Prop := ∃ (v : Nat → Nat) (p : Nat → Int), v 0 = i ∧ v r = k ∧ p 0 = 0 ∧ p r = c ∧ ∀ t, t < r → R (v t) (v (t + 1)) (p (t + 1) - p t)
theorem Wk.nil (i : Nat) : Wk R 0 i i 0 := ⟨fun _ => i, fun _ => 0, rfl, rfl, rfl, rfl, fun t ht => by omega⟩
theorem Wk.zero {i k : Nat} {c : Int} (h : Wk R 0 i k c) : i = k ∧ c = 0 := by
  obtain ⟨v, p, a, b, d, e, _⟩ := h
  exact ⟨a.symm.trans b, e.symm.trans d⟩
theorem Wk.snoc {r i j k : Nat} {a b : Int} (h : Wk R r i j a) (g : R j k b) : Wk R (r + 1) i k (a + b) := by
  obtain ⟨v, p, h1, h2, h3, h4, h5⟩ := h
  refine ⟨fun t => if t ≤ r then v t else k, fun t => if t ≤ r then p t else a + b, ?_, ?_, ?_, ?_, fun t ht => ?_⟩
  · simp only [Nat.zero_le, if_true]; exact h1
  · exact if_neg (by omega)
  · simp only [Nat.zero_le, if_true]; exact h3
  · exact if_neg (by omega)
  · by_cases e : t = r
    · subst e
      simp only [Nat.le_refl, if_true]
      rw [if_neg (by omega), if_neg (by omega), h2, h4, show a + b - a = b by omega]
      exact g
    · simp only
      rw [if_pos (by omega), if_pos (by omega), if_pos (by omega), if_pos (by omega)]
      exact h5 t (by omega)
theorem Wk.last {r i k : Nat} {c : Int} (h : Wk R (r + 1) i k c) : ∃ j a b, Wk R r i j a ∧ R j k b ∧ c = a + b := by
  obtain ⟨v, p, h1, h2, h3, h4, h5⟩ := h
  refine ⟨v r, p r, p (r + 1) - p r, ⟨v, p, h1, rfl, h3, rfl, fun t ht => h5 t (by omega)⟩, ?_, by omega⟩
  have := h5 r (by omega)
  rwa [h2] at this
theorem Wk.app {r i j k : Nat} {a : Int} (h : Wk R r i j a) : ∀ {s : Nat} {b : Int}, Wk R s j k b → Wk R (r + s) i k (a + b) := by
  intro s
  induction s generalizing k with
  | zero =>
    intro b g
    obtain ⟨rfl, rfl⟩ := g.zero
    rw [Int.add_zero]
    exact h
  | succ s ih =>
    intro b g
    obtain ⟨j', a', b', g1, g2, rfl⟩ := g.last
    have := (ih g1).snoc g2
    rwa [Int.add_assoc] at this
/-- A piece of a way. -/
theorem wk_sub {v : Nat → Nat} {p : Nat → Int} {r s t : Nat} (h : ∀ t, t < r → R (v t) (v (t + 1)) (p (t + 1) - p t)) (h1 : s ≤ t) (h2 : t ≤ r) : Wk R (t - s) (v s) (v t) (p t - p s) := by
  refine ⟨fun x => v (s + x), fun x => p (s + x) - p s, rfl, ?_, by simp, ?_, fun x hx => ?_⟩
  · show v (s + (t - s)) = v t
    rw [show s + (t - s) = t by omega]
  · show p (s + (t - s)) - p s = _
    rw [show s + (t - s) = t by omega]
  · have := h (s + x) (by omega)
    show R (v (s + x)) (v (s + (x + 1))) (p (s + (x + 1)) - p s - (p (s + x) - p s))
    rw [show s + (x + 1) = s + x + 1 by omega, show p (s + x + 1) - p s - (p (s + x) - p s) = p (s + x + 1) - p (s + x) by omega]
    exact this
theorem wk_in (hR : ∀ u v c, R u v c → u < n ∧ v < n) {v : Nat → Nat} {p : Nat → Int} {r t : Nat} (h : ∀ t, t < r → R (v t) (v (t + 1)) (p (t + 1) - p t)) (h0 : v 0 < n) (ht : t ≤ r) : v t < n := by
  cases t with
  | zero => exact h0
  | succ t => exact (hR _ _ _ (h t (by omega))).2
/-- A long way comes by a node again. -/
theorem wk_again (hR : ∀ u v c, R u v c → u < n ∧ v < n) {r i k : Nat} {c : Int} (h : Wk R r i k c) (hi : i < n) (hr : n ≤ r) : ∃ (s q x : Nat) (j : Nat) (a b d : Int), 0 < q ∧ q ≤ n ∧ s + q + x = r ∧ Wk R s i j a ∧ Wk R q j j b ∧ Wk R x j k d ∧ c = a + b + d := by
  obtain ⟨v, p, h1, h2, h3, h4, h5⟩ := h
  obtain ⟨s, t, st, tn, e⟩ := pigeon n v (fun t ht => wk_in hR h5 (by rw [h1]; exact hi) (by omega))
  have w1 := wk_sub h5 (show 0 ≤ s by omega) (show s ≤ r by omega)
  have w2 := wk_sub h5 (show s ≤ t by omega) (show t ≤ r by omega)
  have w3 := wk_sub h5 (show t ≤ r by omega) (Nat.le_refl r)
  rw [h1] at w1
  rw [← e] at w2 w3
  rw [h2] at w3
  refine ⟨s - 0, t - s, r - t, v s, p s - p 0, p t - p s, p r - p t, by omega, by omega, by omega, w1, w2, w3, by omega⟩
/-- If no way around is below 0 that is no longer than there are nodes, none is. -/
theorem no_neg (hR : ∀ u v c, R u v c → u < n ∧ v < n) (h : ∀ r i c, r ≤ n → i < n → Wk R r i i c → 0 ≤ c) : ∀ r i c, i < n → Wk R r i i c → 0 ≤ c := by
  intro r
  induction r using Nat.strongRecOn with
  | _ r ih =>
    intro i c hi w
    by_cases hr : r ≤ n
    · exact h r i c hr hi w
    · obtain ⟨s, q, x, j, a, b, d, q0, qn, e, w1, w2, w3, rfl⟩ := wk_again hR w hi (by omega)
      have hj : j < n := by
        cases s with
        | zero => obtain ⟨rfl, _⟩ := w1.zero; exact hi
        | succ s => obtain ⟨_, _, _, _, g, _⟩ := w1.last; exact (hR _ _ _ g).2
      have k1 := h q j b qn hj w2
      have k2 := ih (s + x) (by omega) i (a + d) hi (w1.app w3)
      omega
/-- Then the least ways are short. -/
theorem short (hR : ∀ u v c, R u v c → u < n ∧ v < n) (h : ∀ r i c, i < n → Wk R r i i c → 0 ≤ c) : ∀ r i k c, i < n → Wk R r i k c → ∃ r' c', r' < n ∧ c' ≤ c ∧ Wk R r' i k c' := by
  intro r
  induction r using Nat.strongRecOn with
  | _ r ih =>
    intro i k c hi w
    by_cases hr : r < n
    · exact ⟨r, c, hr, Int.le_refl _, w⟩
    · obtain ⟨s, q, x, j, a, b, d, q0, qn, e, w1, w2, w3, rfl⟩ := wk_again hR w hi (by omega)
      have hj : j < n := by
        cases s with
        | zero => obtain ⟨rfl, _⟩ := w1.zero; exact hi
        | succ s => obtain ⟨_, _, _, _, g, _⟩ := w1.last; exact (hR _ _ _ g).2
      have k1 := h q j b hj w2
      obtain ⟨r', c', a1, a2, a3⟩ := ih (s + x) (by omega) i k (a + d) hi (w1.app w3)
      exact ⟨r', c', a1, by omega, a3⟩
/-- What fits is within. -/
theorem wk_fit {x : Nat → Int} (hx : ∀ u v c, R u v c → x v - x u ≤ c) : ∀ {r i k : Nat} {c : Int}, Wk R r i k c → x k - x i ≤ c := by
  intro r
  induction r with
  | zero =>
    intro i k c w
    obtain ⟨rfl, rfl⟩ := w.zero
    omega
  | succ r ih =>
    intro i k c w
    obtain ⟨j, a, b, w1, g, rfl⟩ := w.last
    have := ih w1
    have := hx _ _ _ g
    omega
theorem wk_more {R' : Nat → Nat → Int → Prop} (h : ∀ u v c, R u v c → R' u v c) {r i k : Nat} {c : Int} (w : Wk R r i k c) : Wk R' r i k c := by
  obtain ⟨v, p, h1, h2, h3, h4, h5⟩ := w
  exact ⟨v, p, h1, h2, h3, h4, fun t ht => h _ _ _ (h5 t ht)⟩

/-- The least of the ways from i to k. -/
def Dst (R : Nat → Nat → Int → Prop) (i k : Nat) (c : Int) : Prop := (∃ r, Wk R r i k c) ∧ ∀ r c', Wk R r i k c' → c ≤ c'
theorem Dst.one {i k : Nat} {c c' : Int} (h : Dst R i k c) (h' : Dst R i k c') : c = c' := by
  obtain ⟨⟨r, w⟩, m⟩ := h
  obtain ⟨⟨r', w'⟩, m'⟩ := h'
  have := m _ _ w'
  have := m' _ _ w
  omega
theorem Dst.tri {i j k : Nat} {a b c : Int} (h1 : Dst R i j a) (h2 : Dst R j k b) (h : Dst R i k c) : c ≤ a + b := by
  obtain ⟨⟨r, w⟩, _⟩ := h1
  obtain ⟨⟨s, w'⟩, _⟩ := h2
  exact h.2 _ _ (w.app w')
theorem Dst.fit {x : Nat → Int} (hx : ∀ u v c, R u v c → x v - x u ≤ c) {i k : Nat} {c : Int} (h : Dst R i k c) : x k - x i ≤ c := by
  obtain ⟨⟨r, w⟩, _⟩ := h
  exact wk_fit hx w
theorem Dst.more {R' : Nat → Nat → Int → Prop} (hm : ∀ u v c, R u v c → R' u v c) {i k : Nat} {c c' : Int} (h : Dst R i k c) (h' : Dst R' i k c') : c' ≤ c := by
  obtain ⟨⟨r, w⟩, _⟩ := h
  exact h'.2 _ _ (wk_more hm w)
/-- Is there a way around below 0? -/
def Neg (R : Nat → Nat → Int → Prop) (n : Nat) : Prop := ∃ r i c, i < n ∧ Wk R r i i c ∧ c < 0
theorem Neg.unfit {x : Nat → Int} (hx : ∀ u v c, R u v c → x v - x u ≤ c) (h : Neg R n) : False := by
  obtain ⟨r, i, c, _, w, lt⟩ := h
  have := wk_fit hx w
  omega
theorem Neg.more {R' : Nat → Nat → Int → Prop} (hm : ∀ u v c, R u v c → R' u v c) (h : Neg R n) : Neg R' n := by
  obtain ⟨r, i, c, a, w, lt⟩ := h
  exact ⟨r, i, c, a, wk_more hm w, lt⟩
theorem not_neg (h : ¬ Neg R n) : ∀ r i c, i < n → Wk R r i i c → 0 ≤ c := fun r i c hi w => by
  apply Classical.byContradiction
  intro k
  exact h ⟨r, i, c, hi, w, by omega⟩
theorem Dst.self (h : ¬ Neg R n) {i : Nat} (hi : i < n) : Dst R i i 0 := ⟨⟨0, Wk.nil i⟩, fun r c w => not_neg h r i c hi w⟩

/-! ### Tables of what is known, made tighter along arcs -/
/-- A table: of each two nodes the least way that was found, if any. -/
abbrev Tb := Nat → Nat → Option Int
def Sound (R : Nat → Nat → Int → Prop) (S : Tb) : Prop := ∀ i k x, S i k = some x → ∃ r, Wk R r i k x
def Upto (R : Nat → Nat → Int → Prop) (n r : Nat) (S : Tb) : Prop := ∀ i k c s, s ≤ r → i < n → Wk R s i k c → ∃ x, S i k = some x ∧ x ≤ c
/-- The second is as tight at least. -/
def Lower (S S' : Tb) : Prop := ∀ i k x, S i k = some x → ∃ y, S' i k = some y ∧ y ≤ x
theorem Lower.refl (S : Tb) : Lower S S := fun i k x h => ⟨x, h, Int.le_refl _⟩
theorem Lower.trans {S T U : Tb} (h : Lower S T) (g : Lower T U) : Lower S U := fun i k x e => by
  obtain ⟨y, h1, h2⟩ := h i k x e
  obtain ⟨z, g1, g2⟩ := g i k y h1
  exact ⟨z, g1, by omega⟩
theorem Upto.lower {r : Nat} {S S' : Tb} (h : Upto R n r S) (l : Lower S S') : Upto R n r S' := fun i k c s hs hi w => by
  obtain ⟨x, h1, h2⟩ := h i k c s hs hi w
  obtain ⟨y, g1, g2⟩ := l i k x h1
  exact ⟨y, g1, by omega⟩
/-- Along all arcs once more. -/
theorem Upto.next {r : Nat} {S S' : Tb} (h : Upto R n r S) (l : Lower S S') (g : ∀ i j k c x, i < n → R j k c → S i j = some x → ∃ y, S' i k = some y ∧ y ≤ x + c) : Upto R n (r + 1) S' := fun i k c s hs hi w => by
  by_cases e : s ≤ r
  · exact (h.lower l) i k c s e hi w
  · obtain rfl : s = r + 1 := by omega
    obtain ⟨j, a, b, w1, q, rfl⟩ := w.last
    obtain ⟨x, h1, h2⟩ := h i j a r (Nat.le_refl _) hi w1
    obtain ⟨y, g1, g2⟩ := g i j k b x hi q h1
    exact ⟨y, g1, by omega⟩
/-- A table of long enough ways, without a way around below 0: it has the least. -/
theorem Upto.least (hR : ∀ u v c, R u v c → u < n ∧ v < n) (hN : ¬ Neg R n) {r : Nat} (hr : n ≤ r + 1) {S : Tb} (h : Upto R n r S) (s : Sound R S) {i k : Nat} (hi : i < n) : (∀ x, S i k = some x → Dst R i k x) ∧ (S i k = none → ∀ r c, ¬ Wk R r i k c) := by
  constructor
  · intro x e
    refine ⟨s i k x e, fun r' c' w => ?_⟩
    obtain ⟨r2, c2, a1, a2, a3⟩ := short hR (not_neg hN) r' i k c' hi w
    obtain ⟨y, h1, h2⟩ := h i k c2 r2 (by omega) hi a3
    rw [e] at h1
    obtain rfl := Option.some.inj h1
    omega
  · intro e r' c' w
    obtain ⟨r2, c2, a1, a2, a3⟩ := short hR (not_neg hN) r' i k c' hi w
    obtain ⟨y, h1, h2⟩ := h i k c2 r2 (by omega) hi a3
    rw [e] at h1
    cases h1
/-- .. and there is one just if the table has one. -/
theorem Upto.neg (hR : ∀ u v c, R u v c → u < n ∧ v < n) {r : Nat} (hr : n ≤ r) {S : Tb} (h : Upto R n r S) (s : Sound R S) : Neg R n ↔ ∃ i x, i < n ∧ S i i = some x ∧ x < 0 := by
  constructor
  · intro hn
    apply Classical.byContradiction
    intro no
    have z : ∀ q i c, q ≤ n → i < n → Wk R q i i c → 0 ≤ c := fun q i c hq hi w => by
      obtain ⟨x, h1, h2⟩ := h i i c q (by omega) hi w
      apply Classical.byContradiction
      intro k
      exact no ⟨i, x, hi, h1, by omega⟩
    obtain ⟨q, i, c, hi, w, lt⟩ := hn
    have := no_neg hR z q i c hi w
    omega
  · rintro ⟨i, x, hi, e, lt⟩
    obtain ⟨q, w⟩ := s i i x e
    exact ⟨q, i, x, hi, w, lt⟩
/-- One step: from i by a to b. -/
def rlx (S : Tb) (i a b : Nat) (c : Int) : Tb := fun i' k =>
  if i' = i ∧ k = b then (match S i a with
    | none => S i b
    | some x => match S i b with
      | none => some (x + c)
      | some y => if x + c < y then some (x + c) else some y)
  else S i' k
theorem rlx_lower (S : Tb) (i a b : Nat) (c : Int) : Lower S (rlx S i a b c) := fun i' k x e => by
  unfold rlx
  by_cases h : i' = i ∧ k = b
  · obtain ⟨rfl, rfl⟩ := h
    rw [if_pos ⟨rfl, rfl⟩]
    cases S i' a with
    | none => exact ⟨x, e, Int.le_refl _⟩
    | some z =>
      rw [e]
      simp only
      split
      · exact ⟨_, rfl, by omega⟩
      · exact ⟨_, rfl, Int.le_refl _⟩
  · rw [if_neg h]; exact ⟨x, e, Int.le_refl _⟩
theorem rlx_sound {S : Tb} (s : Sound R S) {i a b : Nat} {c : Int} (g : R a b c) : Sound R (rlx S i a b c) := fun i' k x e => by
  unfold rlx at e
  by_cases h : i' = i ∧ k = b
  · obtain ⟨rfl, rfl⟩ := h
    rw [if_pos ⟨rfl, rfl⟩] at e
    cases ha : S i' a with
    | none => rw [ha] at e; exact s _ _ _ e
    | some z =>
      rw [ha] at e
      obtain ⟨r, w⟩ := s _ _ _ ha
      cases hb : S i' k with
      | none =>
        rw [hb] at e
        obtain rfl := Option.some.inj e
        exact ⟨_, w.snoc g⟩
      | some y =>
        rw [hb] at e
        simp only at e
        split at e
        · obtain rfl := Option.some.inj e
          exact ⟨_, w.snoc g⟩
        · obtain rfl := Option.some.inj e
          exact s _ _ _ hb
  · rw [if_neg h] at e; exact s _ _ _ e
theorem rlx_does (S : Tb) (i a b : Nat) (c x : Int) (e : S i a = some x) : ∃ y, rlx S i a b c i b = some y ∧ y ≤ x + c := by
  unfold rlx
  rw [if_pos ⟨rfl, rfl⟩, e]
  cases S i b with
  | none => exact ⟨_, rfl, Int.le_refl _⟩
  | some y =>
    simp only
    split
    · exact ⟨_, rfl, Int.le_refl _⟩
    · exact ⟨_, rfl, by omega⟩
/-- The table at the beginning: each node by itself. -/
def tb0 : Tb := fun i k => if i = k then some 0 else none
theorem tb0_sound : Sound R tb0 := fun i k x e => by
  unfold tb0 at e
  by_cases h : i = k
  · subst h
    rw [if_pos rfl] at e
    obtain rfl := Option.some.inj e
    exact ⟨0, Wk.nil i⟩
  · rw [if_neg h] at e; cases e
theorem tb0_upto : Upto R n 0 tb0 := fun i k c s hs hi w => by
  obtain rfl : s = 0 := by omega
  obtain ⟨rfl, rfl⟩ := w.zero
  exact ⟨0, if_pos rfl, Int.le_refl _⟩
end

/-! ### Edges -/
/-- An edge: from a to b at least lo and at most hi more. -/
structure Eg where
  a : Int
  b : Int
  lo : Int
  hi : Int
/-- The arcs of the first m edges. -/
def Arc (q : Nat → Eg) (m : Nat) (u v : Nat) (c : Int) : Prop := ∃ j, j < m ∧ (((u : Int) = (q j).a ∧ (v : Int) = (q j).b ∧ c = (q j).hi) ∨ ((u : Int) = (q j).b ∧ (v : Int) = (q j).a ∧ c = -(q j).lo))
theorem Arc.less {q : Nat → Eg} {m m' u v : Nat} {c : Int} (h : m ≤ m') (g : Arc q m u v c) : Arc q m' u v c := by
  obtain ⟨j, hj, k⟩ := g
  exact ⟨j, by omega, k⟩
theorem Arc.back {q : Nat → Eg} {m u v : Nat} {c : Int} (g : Arc q m u v c) : ∃ c', Arc q m v u c' := by
  obtain ⟨j, hj, ⟨h1, h2, _⟩ | ⟨h1, h2, _⟩⟩ := g
  · exact ⟨_, j, hj, Or.inr ⟨h2, h1, rfl⟩⟩
  · exact ⟨_, j, hj, Or.inl ⟨h2, h1, rfl⟩⟩
/-- A way back. -/
theorem wk_back {q : Nat → Eg} {m : Nat} : ∀ {r i k : Nat} {c : Int}, Wk (Arc q m) r i k c → ∃ r' c', Wk (Arc q m) r' k i c' := by
  intro r
  induction r with
  | zero =>
    intro i k c w
    obtain ⟨rfl, _⟩ := w.zero
    exact ⟨0, 0, Wk.nil i⟩
  | succ r ih =>
    intro i k c w
    obtain ⟨j, a, b, w1, g, _⟩ := w.last
    obtain ⟨r', c', w2⟩ := ih w1
    obtain ⟨c2, g2⟩ := g.back
    exact ⟨_, _, ((Wk.nil k).snoc g2).app w2⟩
/-- Clocks that fit. -/
def FitE (q : Nat → Eg) (m : Nat) (x : Nat → Int) : Prop := ∀ u v c, Arc q m u v c → x v - x u ≤ c
end Go.Proofs.Ytfmaoblhoafnhaj
namespace Go.Proofs.Ytfmaoblhoafnhaj
set_option linter.unusedVariables false

/-- Who it is, of how many, its rate, what it showed last; of which others it knows anything, what, and since when. -/
structure Nd where
  id : Nat
  n : Nat
  p : Int
  h : Int
  has : Nat → Bool
  lo : Nat → Int
  hi : Nat → Int
  at_ : Nat → Int
/-- Another value at one place. -/
def updN {α : Type} (f : Nat → α) (k : Nat) (x : α) : Nat → α := fun i => if i = k then x else f i
theorem updN_at {α : Type} (f : Nat → α) (k : Nat) (x : α) : updN f k x k = x := if_pos rfl
theorem updN_ne {α : Type} {f : Nat → α} {k i : Nat} {x : α} (h : i ≠ k) : updN f k x i = f i := if_neg h
namespace Nd
/-- How much wider it is by now. -/
def sk (c : Nd) (i : Nat) (t : Int) : Int := 2 + ((t - c.at_ i) * 3 * c.p + 1000000 - 1) / 1000000
def alo (c : Nd) (i : Nat) (t : Int) : Int := c.lo i - c.sk i t
def ahi (c : Nd) (i : Nat) (t : Int) : Int := c.hi i + c.sk i t
def made (id n : Nat) (p : Int) : Nd := ⟨id, n, p, -1, fun _ => false, fun _ => 0, fun _ => 0, fun _ => 0⟩
/-- It is no time to be told anything. -/
def bk (c : Nd) (t : Int) : Prop := t < 0 ∨ 1000000000000 < t ∨ t < c.h
/-- The letter is none for it. -/
def bad (c : Nd) (l : Lt) : Prop := l.to ≠ c.id ∨ l.frm = c.id ∨ l.frm < 0 ∨ (c.n : Int) ≤ l.frm
/-- What both have. -/
def bLo (c : Nd) (k : Nat) (t a : Int) : Int := if c.has k = true then (if a < c.alo k t then c.alo k t else a) else a
def bHi (c : Nd) (k : Nat) (t b : Int) : Int := if c.has k = true then (if c.ahi k t < b then c.ahi k t else b) else b
/-- What an answer says. -/
def oL (l : Lt) (t : Int) : Int := l.t - t
def oU (c : Nd) (l : Lt) (t : Int) : Int := oH l.t1 l.t2 t c.p
def kept (c : Nd) (k : Nat) (t a b : Int) : Nd := { c with h := t, has := updN c.has k true, lo := updN c.lo k a, hi := updN c.hi k b, at_ := updN c.at_ k t }
end Nd
/-- A letter is heard: what it is behind it, whether anything is kept, the fault. -/
def HearR (c : Nd) (l : Lt) (t : Int) (c' : Nd) (B : Bool) (e : Int) : Prop :=
  (c.bk t ∧ c' = c ∧ B = false ∧ e = 8) ∨
  (¬ c.bk t ∧ c.bad l ∧ c' = c ∧ B = false ∧ e = 3) ∨
  (¬ c.bk t ∧ ¬ c.bad l ∧ l.ans = false ∧ c' = { c with h := t } ∧ B = false ∧ e = 0) ∨
  (¬ c.bk t ∧ ¬ c.bad l ∧ l.ans = true ∧ oE l.t1 l.t2 l.t t c.p ≠ 0 ∧ c' = c ∧ B = false ∧ e = oE l.t1 l.t2 l.t t c.p) ∨
  (¬ c.bk t ∧ ¬ c.bad l ∧ l.ans = true ∧ oE l.t1 l.t2 l.t t c.p = 0 ∧ c.bHi l.frm.toNat t (c.oU l t) < c.bLo l.frm.toNat t (Nd.oL l t) ∧ c' = c ∧ B = false ∧ e = 7) ∨
  (¬ c.bk t ∧ ¬ c.bad l ∧ l.ans = true ∧ oE l.t1 l.t2 l.t t c.p = 0 ∧ c.bLo l.frm.toNat t (Nd.oL l t) ≤ c.bHi l.frm.toNat t (c.oU l t) ∧ c' = c.kept l.frm.toNat t (c.bLo l.frm.toNat t (Nd.oL l t)) (c.bHi l.frm.toNat t (c.oU l t)) ∧ B = true ∧ e = 0)
theorem hearR_some (c : Nd) (l : Lt) (t : Int) : ∃ c' B e, HearR c l t c' B e := by
  by_cases h1 : c.bk t
  · exact ⟨_, _, _, Or.inl ⟨h1, rfl, rfl, rfl⟩⟩
  by_cases h2 : c.bad l
  · exact ⟨_, _, _, Or.inr (Or.inl ⟨h1, h2, rfl, rfl, rfl⟩)⟩
  cases h3 : l.ans with
  | false => exact ⟨_, _, _, Or.inr (Or.inr (Or.inl ⟨h1, h2, h3, rfl, rfl, rfl⟩))⟩
  | true =>
    by_cases h4 : oE l.t1 l.t2 l.t t c.p = 0
    · by_cases h5 : c.bLo l.frm.toNat t (Nd.oL l t) ≤ c.bHi l.frm.toNat t (c.oU l t)
      · exact ⟨_, _, _, Or.inr (Or.inr (Or.inr (Or.inr (Or.inr ⟨h1, h2, h3, h4, h5, rfl, rfl, rfl⟩))))⟩
      · exact ⟨_, _, _, Or.inr (Or.inr (Or.inr (Or.inr (Or.inl ⟨h1, h2, h3, h4, by omega, rfl, rfl, rfl⟩))))⟩
    · exact ⟨_, _, _, Or.inr (Or.inr (Or.inr (Or.inl ⟨h1, h2, h3, h4, rfl, rfl, rfl⟩)))⟩
theorem hearR_uniq {c c1 c2 : Nd} {l : Lt} {t e1 e2 : Int} {B1 B2 : Bool} (h : HearR c l t c1 B1 e1) (h' : HearR c l t c2 B2 e2) : c1 = c2 ∧ B1 = B2 ∧ e1 = e2 := by
  rcases h with ⟨a, rfl, rfl, rfl⟩ | ⟨a, b, rfl, rfl, rfl⟩ | ⟨a, b, d, rfl, rfl, rfl⟩ | ⟨a, b, d, f, rfl, rfl, rfl⟩ | ⟨a, b, d, f, g, rfl, rfl, rfl⟩ | ⟨a, b, d, f, g, rfl, rfl, rfl⟩ <;>
  rcases h' with ⟨a', rfl, rfl, rfl⟩ | ⟨a', b', rfl, rfl, rfl⟩ | ⟨a', b', d', rfl, rfl, rfl⟩ | ⟨a', b', d', f', rfl, rfl, rfl⟩ | ⟨a', b', d', f', g', rfl, rfl, rfl⟩ | ⟨a', b', d', f', g', rfl, rfl, rfl⟩ <;>
  first | exact ⟨rfl, rfl, rfl⟩ | exact absurd a a' | exact absurd a' a | exact absurd b b' | exact absurd b' b | (rw [d] at d'; exact absurd d' (by decide)) | exact absurd f f' | exact absurd f' f | (exfalso; omega)
/-- What is always so. -/
structure Nd.I (c : Nd) : Prop where
  idn : c.id < c.n
  n6 : c.n ≤ 6
  p0 : 0 ≤ c.p
  p1 : c.p ≤ 1000
  h0 : -1 ≤ c.h
  h1 : c.h ≤ 1000000000000
  kn : ∀ i, c.has i = true → i < c.n ∧ i ≠ c.id ∧ okB (c.lo i) (c.hi i) = true ∧ 0 ≤ c.at_ i ∧ c.at_ i ≤ c.h
theorem Nd.made_i {id n : Nat} {p : Int} (h1 : id < n) (h2 : n ≤ 6) (h3 : 0 ≤ p) (h4 : p ≤ 1000) : (Nd.made id n p).I := ⟨h1, h2, h3, h4, by show (-1 : Int) ≤ -1; omega, by show (-1 : Int) ≤ 1000000000000; omega, fun i h => by cases h⟩
theorem HearR.i {c c' : Nd} {l : Lt} {t e : Int} {B : Bool} (h : HearR c l t c' B e) (g : c.I) : c'.I := by
  rcases h with ⟨_, rfl, _⟩ | ⟨_, _, rfl, _⟩ | ⟨a, _, _, rfl, _⟩ | ⟨_, _, _, _, rfl, _⟩ | ⟨_, _, _, _, _, rfl, _⟩ | ⟨a, b, _, f, q, rfl, _⟩
  · exact g
  · exact g
  · unfold Nd.bk at a
    exact ⟨g.idn, g.n6, g.p0, g.p1, by show -1 ≤ t; omega, by show t ≤ _; omega, fun i hi => by
      obtain ⟨k1, k2, k3, k4, k5⟩ := g.kn i hi
      exact ⟨k1, k2, k3, k4, by show c.at_ i ≤ t; omega⟩⟩
  · exact g
  · exact g
  · unfold Nd.bk at a
    unfold Nd.bad at b
    obtain ⟨z1, z2, z3, z4, z5⟩ := oE_zero f
    have m3 := tmB_t z3
    have m4 := tmB_t z4
    refine ⟨g.idn, g.n6, g.p0, g.p1, by show -1 ≤ t; omega, by show t ≤ _; omega, fun i hi => ?_⟩
    show i < c.n ∧ i ≠ c.id ∧ okB (updN c.lo _ _ i) (updN c.hi _ _ i) = true ∧ 0 ≤ updN c.at_ _ _ i ∧ updN c.at_ _ _ i ≤ t
    by_cases e : i = l.frm.toNat
    · subst e
      rw [updN_at, updN_at, updN_at]
      refine ⟨by omega, by omega, okB_mk ⟨q, ?_, ?_⟩, by omega, Int.le_refl _⟩
      · unfold Nd.bLo Nd.oL; split <;> (try split) <;> omega
      · unfold Nd.bHi Nd.oU; split <;> (try split) <;> omega
    · rw [updN_ne e, updN_ne e, updN_ne e]
      have hi' : c.has i = true := by
        have : updN c.has l.frm.toNat true i = true := hi
        rwa [updN_ne e] at this
      obtain ⟨k1, k2, k3, k4, k5⟩ := g.kn i hi'
      exact ⟨k1, k2, k3, k4, by omega⟩
/-- What it knows of all: the fault. -/
def SpR (c : Nd) (t e : Int) : Prop :=
  (c.bk t ∧ e = 8) ∨ (¬ c.bk t ∧ (∃ i, i < c.n ∧ c.has i = true ∧ okB (c.alo i t) (c.ahi i t) = false) ∧ e = 1) ∨ (¬ c.bk t ∧ (∀ i, i < c.n → c.has i = true → okB (c.alo i t) (c.ahi i t) = true) ∧ e = 0)
theorem spR_some (c : Nd) (t : Int) : ∃ e, SpR c t e := by
  by_cases h1 : c.bk t
  · exact ⟨8, Or.inl ⟨h1, rfl⟩⟩
  by_cases h2 : ∃ i, i < c.n ∧ c.has i = true ∧ okB (c.alo i t) (c.ahi i t) = false
  · exact ⟨1, Or.inr (Or.inl ⟨h1, h2, rfl⟩)⟩
  · refine ⟨0, Or.inr (Or.inr ⟨h1, fun i hi hh => ?_, rfl⟩)⟩
    cases e : okB (c.alo i t) (c.ahi i t) with
    | true => rfl
    | false => exact absurd ⟨i, hi, hh, e⟩ h2
theorem spR_uniq {c : Nd} {t e e' : Int} (h : SpR c t e) (h' : SpR c t e') : e = e' := by
  rcases h with ⟨a, rfl⟩ | ⟨a, ⟨i, hi, hh, b⟩, rfl⟩ | ⟨a, b, rfl⟩ <;> rcases h' with ⟨a', rfl⟩ | ⟨a', ⟨i', hi', hh', b'⟩, rfl⟩ | ⟨a', b', rfl⟩ <;>
  first | rfl | exact absurd a a' | exact absurd a' a | (have := b' i hi hh; rw [b] at this; cases this) | (have := b i' hi' hh'; rw [b'] at this; cases this)
/-- .. as spans, and whether anything is. -/
def Nd.so (c : Nd) (t : Int) (i : Nat) : Int × Int := if c.has i = true then (c.alo i t, c.ahi i t) else (0, 0)
def Nd.ho (c : Nd) (i : Nat) : Bool := c.has i || decide (i = c.id)
/-- .. as edges. -/
def Nd.eo (c : Nd) (t : Int) : List Eg := ((List.range c.n).filter (fun i => c.has i)).map (fun (i : Nat) => (⟨(c.id : Int), (i : Int), c.alo i t, c.ahi i t⟩ : Eg))
/-- How much wider it may be. -/
theorem Nd.sk_b {c : Nd} (g : c.I) {t : Int} (hb : ¬ c.bk t) {i : Nat} (hi : c.has i = true) : 0 ≤ (t - c.at_ i) * 3 * c.p ∧ (t - c.at_ i) * 3 * c.p ≤ 3000000000000000 ∧ 2 ≤ c.sk i t ∧ c.sk i t ≤ 3000000003 := by
  obtain ⟨k1, k2, k3, k4, k5⟩ := g.kn i hi
  unfold bk at hb
  have b1 : 0 ≤ (t - c.at_ i) * 3 := by omega
  have b2 : (t - c.at_ i) * 3 ≤ 3000000000000 := by omega
  have m1 := Int.mul_nonneg b1 g.p0
  have m2 : (t - c.at_ i) * 3 * c.p ≤ 3000000000000 * 1000 := Int.mul_le_mul b2 g.p1 g.p0 (by omega)
  unfold sk
  omega
end Go.Proofs.Ytfmaoblhoafnhaj
namespace Go.Proofs.Ytfmaoblhoafnhaj
set_option linter.unusedVariables false

/-- The other way round: how far the own clock goes on ahead of the other one. -/
theorem slack2 {x N d ppm rb ra : Int} (hd : 0 ≤ d) (hp0 : 0 ≤ ppm) (hp : ppm ≤ 1000) (a1 : -ppm ≤ ra) (a2 : ra ≤ ppm) (b1 : -ppm ≤ rb) (b2 : rb ≤ ppm) (hN0 : 0 ≤ N)
    (hx : d * 1000000 + d * rb - 999999 ≤ 1000000 * x) (hN : 1000000 * N ≤ d * 1000000 + d * ra + 999999) (hM : d * 1000000 + d * ra - 999999 ≤ 1000000 * N) : N - x ≤ 2 + (N * 3 * ppm + 1000000 - 1) / 1000000 := by
  have c1 := rate_b hd b1 b2
  have c2 := rate_b hd a1 a2
  have n0 : 0 ≤ N * ppm := Int.mul_nonneg hN0 hp0
  have e3 : N * 3 * ppm = 3 * (N * ppm) := by rw [Int.mul_comm N 3, Int.mul_assoc]
  have d0 : d * ppm ≤ d * 1000 := Int.mul_le_mul_of_nonneg_left hp hd
  rw [e3]
  by_cases h4 : 4 ≤ d
  · have x4 : 4 * ppm ≤ d * ppm := Int.mul_le_mul_of_nonneg_right h4 hp0
    have hN2 : 999000 * d - 999999 ≤ 1000000 * N := by omega
    have hN3 := Int.mul_le_mul_of_nonneg_right hN2 hp0
    have e1 : (999000 * d - 999999) * ppm = 999000 * (d * ppm) - 999999 * ppm := by rw [Int.sub_mul, Int.mul_assoc]
    have e2 : 1000000 * N * ppm = 1000000 * (N * ppm) := by rw [Int.mul_assoc]
    rw [e1, e2] at hN3
    generalize N * ppm = Y at *
    generalize d * ra = Z at *
    generalize d * rb = V at *
    generalize d * ppm = U at *
    omega
  · generalize N * ppm = Y at *
    generalize d * ra = Z at *
    generalize d * rb = V at *
    generalize d * ppm = U at *
    omega
/-- Two clocks, at one time and at a later one. -/
theorem aged_true {sa ra sb rb p t u lo hi : Int} (hp0 : 0 ≤ p) (hp : p ≤ 1000) (a1 : -p ≤ ra) (a2 : ra ≤ p) (b1 : -p ≤ rb) (b2 : rb ≤ p) (htu : t ≤ u)
    (h1 : lo ≤ sh sb rb t - sh sa ra t) (h2 : sh sb rb t - sh sa ra t ≤ hi) :
    lo - (2 + ((sh sa ra u - sh sa ra t) * 3 * p + 1000000 - 1) / 1000000) ≤ sh sb rb u - sh sa ra u ∧ sh sb rb u - sh sa ra u ≤ hi + (2 + ((sh sa ra u - sh sa ra t) * 3 * p + 1000000 - 1) / 1000000) := by
  obtain ⟨d, rfl⟩ : ∃ d, u = t + d := ⟨u - t, by omega⟩
  have hd : 0 ≤ d := by omega
  have sA := sh_step (s := sa) (r := ra) (t := t) (d := d)
  have sB := sh_step (s := sb) (r := rb) (t := t) (d := d)
  have mA := sh_mono (s := sa) (r := ra) (t := t) (d := d) hd (by omega) (by omega)
  have k1 := slack (x := sh sb rb (t + d) - sh sb rb t) (N := sh sa ra (t + d) - sh sa ra t) hd (Int.le_refl d) hp0 hp a1 a2 b1 b2 (by omega) sB.1 sA.2
  have k2 := slack2 (x := sh sb rb (t + d) - sh sb rb t) (N := sh sa ra (t + d) - sh sa ra t) hd hp0 hp a1 a2 b1 b2 (by omega) sB.2 sA.1 sA.2
  omega
/-- A probe, sent at t1, answered at t2, heard at u. -/
theorem probe_holds {sa ra sb rb p t1 t2 u : Int} (hp0 : 0 ≤ p) (hp : p ≤ 1000) (a1 : -p ≤ ra) (a2 : ra ≤ p) (b1 : -p ≤ rb) (b2 : rb ≤ p) (h1 : t1 ≤ t2) (h2 : t2 ≤ u) :
    sh sb rb t2 - sh sa ra u ≤ sh sb rb u - sh sa ra u ∧ sh sb rb u - sh sa ra u ≤ oH (sh sa ra t1) (sh sb rb t2) (sh sa ra u) p := by
  obtain ⟨d, rfl⟩ : ∃ d, t2 = t1 + d := ⟨t2 - t1, by omega⟩
  obtain ⟨g, rfl⟩ : ∃ g, u = t1 + d + g := ⟨u - (t1 + d), by omega⟩
  have mB := sh_mono (s := sb) (r := rb) (t := t1 + d) (d := g) (by omega) (by omega) (by omega)
  have e : t1 + (d + g) = t1 + d + g := by omega
  have mA := sh_mono (s := sa) (r := ra) (t := t1) (d := d + g) (by omega) (by omega) (by omega)
  have sA := sh_step (s := sa) (r := ra) (t := t1) (d := d + g)
  rw [e] at mA sA
  have sB := sh_step (s := sb) (r := rb) (t := t1 + d) (d := g)
  have k := slack (x := sh sb rb (t1 + d + g) - sh sb rb (t1 + d)) (N := sh sa ra (t1 + d + g) - sh sa ra t1) (d := g) (D := d + g) (by omega) (by omega) hp0 hp a1 a2 b1 b2 (by omega) sB.1 sA.2
  refine ⟨by omega, ?_⟩
  unfold oH
  omega
/-- What clocks show is a time. -/
theorem sh_time {s r t : Int} (s0 : 0 ≤ s) (s1 : s ≤ 1000000) (r0 : -1000 ≤ r) (r1 : r ≤ 1000) (t0 : 0 ≤ t) (t1 : t ≤ 1000000000) : 0 ≤ sh s r t ∧ sh s r t ≤ 1002000000 := by
  have h := rate_b (p := 1000) t0 r0 r1
  unfold sh
  generalize t * r = X at *
  omega
end Go.Proofs.Ytfmaoblhoafnhaj
namespace Go.Proofs.Ytfmaoblhoafnhaj
open Go.ChangeShapes Go.WideShapes Go.ChangeAt Go.RowKit
set_option linter.unusedVariables false

/-- m edges lie in a row behind an address. -/
def Esp (w : World) (b off m : Nat) (q : Nat → Eg) : Prop := ∀ i, i < m → w.cell? ⟨b, off + i * 4, none⟩ = some (.int .i64 (q i).a) ∧ w.cell? ⟨b, off + i * 4 + 1, none⟩ = some (.int .i64 (q i).b) ∧ w.cell? ⟨b, off + i * 4 + 2, none⟩ = some (.int .i64 (q i).lo) ∧ w.cell? ⟨b, off + i * 4 + 3, none⟩ = some (.int .i64 (q i).hi)
theorem Esp.on {W u : World} {b off m : Nat} {q : Nat → Eg} (hb : Below W.heap.size W u) (h : Esp W b off m q) : Esp u b off m q := fun i hi => by
  obtain ⟨h0, h1, h2, h3⟩ := h i hi
  exact ⟨by rw [hb.cell (World.block_lt_of_cell? _ _ h0)]; exact h0, by rw [hb.cell (World.block_lt_of_cell? _ _ h1)]; exact h1, by rw [hb.cell (World.block_lt_of_cell? _ _ h2)]; exact h2, by rw [hb.cell (World.block_lt_of_cell? _ _ h3)]; exact h3⟩
/-- Edges as they are handed over: none, or a row. -/
def EHanded (w : World) (a : Option Addr) (m : Nat) (q : Nat → Eg) : Prop := m ≤ 9223372036854775807 ∧ (m = 0 ∨ ∃ b off : Nat, a = some ⟨b, off, none⟩ ∧ Esp w b off m q)
theorem EHanded.on {W u : World} {a : Option Addr} {m : Nat} {q : Nat → Eg} (hb : Below W.heap.size W u) (h : EHanded W a m q) : EHanded u a m q :=
  ⟨h.1, h.2.imp id (fun ⟨b, off, e, s⟩ => ⟨b, off, e, s.on hb⟩)⟩
/-- Is an edge between nodes? -/
def inN (n : Int) (e : Eg) : Prop := 0 ≤ e.a ∧ e.a < n ∧ 0 ≤ e.b ∧ e.b < n
/-- What is wrong with the edge at a place. -/
def eEr (n : Int) (q : Nat → Eg) (i : Nat) : Int := if (q i).a < 0 ∨ n ≤ (q i).a ∨ (q i).b < 0 ∨ n ≤ (q i).b then 1 else if (q i).a = (q i).b then 3 else if okB (q i).lo (q i).hi = true then 0 else 1
theorem eEr_zero {n : Int} {q : Nat → Eg} {i : Nat} (h : eEr n q i = 0) : inN n (q i) ∧ (q i).a ≠ (q i).b ∧ okB (q i).lo (q i).hi = true := by
  unfold eEr at h
  split at h
  · cases h
  · split at h
    · cases h
    · split at h
      · exact ⟨⟨by omega, by omega, by omega, by omega⟩, by assumption, by assumption⟩
      · cases h
/-- The first fault of the first m. -/
def eFr (n : Int) (q : Nat → Eg) : Nat → Int
  | 0 => 0
  | m + 1 => if eFr n q m = 0 then eEr n q m else eFr n q m
theorem eFr_zero {n : Int} {q : Nat → Eg} : ∀ {m : Nat}, eFr n q m = 0 → ∀ i, i < m → eEr n q i = 0
  | 0, _, i, hi => by omega
  | m + 1, h, i, hi => by
    simp only [eFr] at h
    split at h
    · by_cases e : i = m
      · subst e; exact h
      · exact eFr_zero (by assumption) i (by omega)
    · contradiction
theorem eFr_ok {n : Int} {q : Nat → Eg} : ∀ {m : Nat}, (∀ i, i < m → eEr n q i = 0) → eFr n q m = 0
  | 0, _ => rfl
  | m + 1, h => by simp only [eFr]; rw [if_pos (eFr_ok (fun i hi => h i (by omega)))]; exact h m (by omega)
theorem eFr_first {n : Int} {q : Nat → Eg} {k : Nat} (hg : ∀ i, i < k → eEr n q i = 0) (hb : eEr n q k ≠ 0) : ∀ m, k < m → eFr n q m = eEr n q k
  | 0, h => by omega
  | m + 1, h => by
    simp only [eFr]
    by_cases e : k = m
    · subst e
      rw [if_pos (eFr_ok hg)]
    · rw [eFr_first hg hb m (by omega), if_neg hb]
theorem first_eEr (n : Int) (q : Nat → Eg) : ∀ m, (∀ i, i < m → eEr n q i = 0) ∨ ∃ k, k < m ∧ eEr n q k ≠ 0 ∧ ∀ i, i < k → eEr n q i = 0
  | 0 => Or.inl fun i hi => by omega
  | m + 1 => by
    rcases first_eEr n q m with h | ⟨k, h1, h2, h3⟩
    · by_cases c : eEr n q m = 0
      · refine Or.inl fun i hi => ?_
        by_cases e : i = m
        · subst e; exact c
        · exact h i (by omega)
      · exact Or.inr ⟨m, by omega, c, h⟩
    · exact Or.inr ⟨k, by omega, h2, h3⟩
/-- What is wrong with edges. -/
def eE (n : Int) (q : Nat → Eg) (m : Nat) : Int := if n < 1 ∨ 6 < n then 1 else if 40 < m then 4 else eFr n q m
/-- Edges as they may be. -/
structure Egs (n : Int) (q : Nat → Eg) (m : Nat) : Prop where
  n1 : 1 ≤ n
  n6 : n ≤ 6
  m40 : m ≤ 40
  each : ∀ i, i < m → inN n (q i) ∧ (q i).a ≠ (q i).b ∧ okB (q i).lo (q i).hi = true
theorem eE_zero {n : Int} {q : Nat → Eg} {m : Nat} (h : eE n q m = 0) : Egs n q m := by
  unfold eE at h
  split at h
  · cases h
  · split at h
    · cases h
    · exact ⟨by omega, by omega, by omega, fun i hi => eEr_zero (eFr_zero h i hi)⟩
theorem Egs.arc {n : Nat} {q : Nat → Eg} {m : Nat} (h : Egs n q m) : ∀ u v c, Arc q m u v c → u < n ∧ v < n := by
  rintro u v c ⟨j, hj, ⟨h1, h2, _⟩ | ⟨h1, h2, _⟩⟩
  · obtain ⟨⟨a1, a2, a3, a4⟩, _⟩ := h.each j hj
    omega
  · obtain ⟨⟨a1, a2, a3, a4⟩, _⟩ := h.each j hj
    omega
theorem Egs.small {n : Int} {q : Nat → Eg} {m : Nat} (h : Egs n q m) {u v : Nat} {c : Int} (g : Arc q m u v c) : -1000000000000 ≤ c ∧ c ≤ 1000000000000 := by
  obtain ⟨j, hj, ⟨h1, h2, rfl⟩ | ⟨h1, h2, rfl⟩⟩ := g
  · obtain ⟨_, _, o⟩ := h.each j hj
    have := okB_t o
    omega
  · obtain ⟨_, _, o⟩ := h.each j hj
    have := okB_t o
    omega
end Go.Proofs.Ytfmaoblhoafnhaj
