/- Ways along arcs, and the least of them: plain mathematics. An arc from u to v of c says: what v shows less what u shows is at most c. -/
namespace Go.Proofs.YtigcliepeapcpajDoor
set_option linter.unusedVariables false

theorem pigeon : ∀ (n : Nat) (f : Nat → Nat), (∀ t, t ≤ n → f t < n) → ∃ s t, s < t ∧ t ≤ n ∧ f s = f t
  | 0, f, h => absurd (h 0 (Nat.le_refl _)) (by omega)
  | n + 1, f, h => by
    by_cases c : ∃ s, s ≤ n ∧ f s = f (n + 1)
    · obtain ⟨s, hs, e⟩ := c
      exact ⟨s, n + 1, by omega, Nat.le_refl _, e⟩
    · have ne : ∀ s, s ≤ n → f s ≠ f (n + 1) := fun s hs e => c ⟨s, hs, e⟩
      have hm := h (n + 1) (Nat.le_refl _)
      obtain ⟨s, t, h1, h2, h3⟩ := pigeon n (fun t => if f (n + 1) < f t then f t - 1 else f t) (fun t ht => by
        have := h t (by omega)
        have := ne t ht
        show (if f (n + 1) < f t then f t - 1 else f t) < n
        split <;> omega)
      refine ⟨s, t, h1, by omega, ?_⟩
      have a := ne s (by omega)
      have b := ne t h2
      split at h3 <;> split at h3 <;> omega

section
variable {R : Nat → Nat → Int → Prop} {n : Nat}
/-- A way of r arcs from i to k, of c in all. -/
def Wk (R : Nat → Nat → Int → Prop) (r i k : Nat) (c : Int) : Prop := ∃ (v : Nat → Nat) (p : Nat → Int), v 0 = i ∧ v r = k ∧ p 0 = 0 ∧ p r = c ∧ ∀ t, t < r → R (v t) (v (t + 1)) (p (t + 1) - p t)
theorem Wk.nil (i : Nat) : Wk R 0 i i 0 := ⟨fun _ => i, fun _ => 0, rfl, rfl, rfl, rfl, fun t ht => by omega⟩
theorem Wk.zero {i k : Nat} {c : Int} (h : Wk R 0 i k c) : i = k ∧ c = 0 := by
  obtain ⟨v, p, a, b, d, e, _⟩ := h
  exact ⟨a.symm.trans b, e.symm.trans d⟩
theorem Wk.snoc {r i j k : Nat} {a b : Int} (h : Wk R r i j a) (g : R j k b) : Wk R (r + 1) i k (a + b) := by
  obtain ⟨v, p, h1, h2, h3, h4, h5⟩ := h
  refine ⟨fun t => if t ≤ r then v t else k, fun t => if t ≤ r then p t else a + b, ?_, ?_, ?_, ?_, fun t ht => ?_⟩
  · simp only [Nat.zero_le, if_true]; exact h1
  · exact if_neg (by omega)
  · simp only [Nat.zero_le, if_true]; exact h3
  · exact if_neg (by omega)
  · by_cases e : t = r
    · subst e
      simp only [Nat.le_refl, if_true]
      rw [if_neg (by omega), if_neg (by omega), h2, h4, show a + b - a = b by omega]
      exact g
    · simp only
      rw [if_pos (by omega), if_pos (by omega), if_pos (by omega), if_pos (by omega)]
      exact h5 t (by omega)
theorem Wk.last {r i k : Nat} {c : Int} (h : Wk R (r + 1) i k c) : ∃ j a b, Wk R r i j a ∧ R j k b ∧ c = a + b := by
  obtain ⟨v, p, h1, h2, h3, h4, h5⟩ := h
  refine ⟨v r, p r, p (r + 1) - p r, ⟨v, p, h1, rfl, h3, rfl, fun t ht => h5 t (by omega)⟩, ?_, by omega⟩
  have := h5 r (by omega)
  rwa [h2] at this
theorem Wk.app {r i j k : Nat} {a : Int} (h : Wk R r i j a) : ∀ {s : Nat} {b : Int}, Wk R s j k b → Wk R (r + s) i k (a + b) := by
  intro s
  induction s generalizing k with
  | zero =>
    intro b g
    obtain ⟨rfl, rfl⟩ := g.zero
    rw [Int.add_zero]
    exact h
  | succ s ih =>
    intro b g
    obtain ⟨j', a', b', g1, g2, rfl⟩ := g.last
    have := (ih g1).snoc g2
    rwa [Int.add_assoc] at this
/-- A piece of a way. -/
theorem wk_sub {v : Nat → Nat} {p : Nat → Int} {r s t : Nat} (h : ∀ t, t < r → R (v t) (v (t + 1)) (p (t + 1) - p t)) (h1 : s ≤ t) (h2 : t ≤ r) : Wk R (t - s) (v s) (v t) (p t - p s) := by
  refine ⟨fun x => v (s + x), fun x => p (s + x) - p s, rfl, ?_, by simp, ?_, fun x hx => ?_⟩
  · show v (s + (t - s)) = v t
    rw [show s + (t - s) = t by omega]
  · show p (s + (t - s)) - p s = _
    rw [show s + (t - s) = t by omega]
  · have := h (s + x) (by omega)
    show R (v (s + x)) (v (s + (x + 1))) (p (s + (x + 1)) - p s - (p (s + x) - p s))
    rw [show s + (x + 1) = s + x + 1 by omega, show p (s + x + 1) - p s - (p (s + x) - p s) = p (s + x + 1) - p (s + x) by omega]
    exact this
theorem wk_in (hR : ∀ u v c, R u v c → u < n ∧ v < n) {v : Nat → Nat} {p : Nat → Int} {r t : Nat} (h : ∀ t, t < r → R (v t) (v (t + 1)) (p (t + 1) - p t)) (h0 : v 0 < n) (ht : t ≤ r) : v t < n := by
  cases t with
  | zero => exact h0
  | succ t => exact (hR _ _ _ (h t (by omega))).2
/-- A long way comes by a node again. -/
theorem wk_again (hR : ∀ u v c, R u v c → u < n ∧ v < n) {r i k : Nat} {c : Int} (h : Wk R r i k c) (hi : i < n) (hr : n ≤ r) : ∃ (s q x : Nat) (j : Nat) (a b d : Int), 0 < q ∧ q ≤ n ∧ s + q + x = r ∧ Wk R s i j a ∧ Wk R q j j b ∧ Wk R x j k d ∧ c = a + b + d := by
  obtain ⟨v, p, h1, h2, h3, h4, h5⟩ := h
  obtain ⟨s, t, st, tn, e⟩ := pigeon n v (fun t ht => wk_in hR h5 (by rw [h1]; exact hi) (by omega))
  have w1 := wk_sub h5 (show 0 ≤ s by omega) (show s ≤ r by omega)
  have w2 := wk_sub h5 (show s ≤ t by omega) (show t ≤ r by omega)
  have w3 := wk_sub h5 (show t ≤ r by omega) (Nat.le_refl r)
  rw [h1] at w1
  rw [← e] at w2 w3
  rw [h2] at w3
  refine ⟨s - 0, t - s, r - t, v s, p s - p 0, p t - p s, p r - p t, by omega, by omega, by omega, w1, w2, w3, by omega⟩
/-- If no way around is below 0 that is no longer than there are nodes, none is. -/
theorem no_neg (hR : ∀ u v c, R u v c → u < n ∧ v < n) (h : ∀ r i c, r ≤ n → i < n → Wk R r i i c → 0 ≤ c) : ∀ r i c, i < n → Wk R r i i c → 0 ≤ c := by
  intro r
  induction r using Nat.strongRecOn with
  | _ r ih =>
    intro i c hi w
    by_cases hr : r ≤ n
    · exact h r i c hr hi w
    · obtain ⟨s, q, x, j, a, b, d, q0, qn, e, w1, w2, w3, rfl⟩ := wk_again hR w hi (by omega)
      have hj : j < n := by
        cases s with
        | zero => obtain ⟨rfl, _⟩ := w1.zero; exact hi
        | succ s => obtain ⟨_, _, _, _, g, _⟩ := w1.last; exact (hR _ _ _ g).2
      have k1 := h q j b qn hj w2
      have k2 := ih (s + x) (by omega) i (a + d) hi (w1.app w3)
      omega
/-- Then the least ways are short. -/
theorem short (hR : ∀ u v c, R u v c → u < n ∧ v < n) (h : ∀ r i c, i < n → Wk R r i i c → 0 ≤ c) : ∀ r i k c, i < n → Wk R r i k c → ∃ r' c', r' < n ∧ c' ≤ c ∧ Wk R r' i k c' := by
  intro r
  induction r using Nat.strongRecOn with
  | _ r ih =>
    intro i k c hi w
    by_cases hr : r < n
    · exact ⟨r, c, hr, Int.le_refl _, w⟩
    · obtain ⟨s, q, x, j, a, b, d, q0, qn, e, w1, w2, w3, rfl⟩ := wk_again hR w hi (by omega)
      have hj : j < n := by
        cases s with
        | zero => obtain ⟨rfl, _⟩ := w1.zero; exact hi
        | succ s => obtain ⟨_, _, _, _, g, _⟩ := w1.last; exact (hR _ _ _ g).2
      have k1 := h q j b hj w2
      obtain ⟨r', c', a1, a2, a3⟩ := ih (s + x) (by omega) i k (a + d) hi (w1.app w3)
      exact ⟨r', c', a1, by omega, a3⟩
/-- What fits is within. -/
theorem wk_fit {x : Nat → Int} (hx : ∀ u v c, R u v c → x v - x u ≤ c) : ∀ {r i k : Nat} {c : Int}, Wk R r i k c → x k - x i ≤ c := by
  intro r
  induction r with
  | zero =>
    intro i k c w
    obtain ⟨rfl, rfl⟩ := w.zero
    omega
  | succ r ih =>
    intro i k c w
    obtain ⟨j, a, b, w1, g, rfl⟩ := w.last
    have := ih w1
    have := hx _ _ _ g
    omega
theorem wk_more {R' : Nat → Nat → Int → Prop} (h : ∀ u v c, R u v c → R' u v c) {r i k : Nat} {c : Int} (w : Wk R r i k c) : Wk R' r i k c := by
  obtain ⟨v, p, h1, h2, h3, h4, h5⟩ := w
  exact ⟨v, p, h1, h2, h3, h4, fun t ht => h _ _ _ (h5 t ht)⟩

/-- The least of the ways from i to k. -/
def Dst (R : Nat → Nat → Int → Prop) (i k : Nat) (c : Int) : Prop := (∃ r, Wk R r i k c) ∧ ∀ r c', Wk R r i k c' → c ≤ c'
theorem Dst.one {i k : Nat} {c c' : Int} (h : Dst R i k c) (h' : Dst R i k c') : c = c' := by
  obtain ⟨⟨r, w⟩, m⟩ := h
  obtain ⟨⟨r', w'⟩, m'⟩ := h'
  have := m _ _ w'
  have := m' _ _ w
  omega
theorem Dst.tri {i j k : Nat} {a b c : Int} (h1 : Dst R i j a) (h2 : Dst R j k b) (h : Dst R i k c) : c ≤ a + b := by
  obtain ⟨⟨r, w⟩, _⟩ := h1
  obtain ⟨⟨s, w'⟩, _⟩ := h2
  exact h.2 _ _ (w.app w')
theorem Dst.fit {x : Nat → Int} (hx : ∀ u v c, R u v c → x v - x u ≤ c) {i k : Nat} {c : Int} (h : Dst R i k c) : x k - x i ≤ c := by
  obtain ⟨⟨r, w⟩, _⟩ := h
  exact wk_fit hx w
theorem Dst.more {R' : Nat → Nat → Int → Prop} (hm : ∀ u v c, R u v c → R' u v c) {i k : Nat} {c c' : Int} (h : Dst R i k c) (h' : Dst R' i k c') : c' ≤ c := by
  obtain ⟨⟨r, w⟩, _⟩ := h
  exact h'.2 _ _ (wk_more hm w)
/-- Is there a way around below 0? -/
def Neg (R : Nat → Nat → Int → Prop) (n : Nat) : Prop := ∃ r i c, i < n ∧ Wk R r i i c ∧ c < 0
theorem Neg.unfit {x : Nat → Int} (hx : ∀ u v c, R u v c → x v - x u ≤ c) (h : Neg R n) : False := by
  obtain ⟨r, i, c, _, w, lt⟩ := h
  have := wk_fit hx w
  omega
theorem Neg.more {R' : Nat → Nat → Int → Prop} (hm : ∀ u v c, R u v c → R' u v c) (h : Neg R n) : Neg R' n := by
  obtain ⟨r, i, c, a, w, lt⟩ := h
  exact ⟨r, i, c, a, wk_more hm w, lt⟩
theorem not_neg (h : ¬ Neg R n) : ∀ r i c, i < n → Wk R r i i c → 0 ≤ c := fun r i c hi w => by
  apply Classical.byContradiction
  intro k
  exact h ⟨r, i, c, hi, w, by omega⟩
theorem Dst.self (h : ¬ Neg R n) {i : Nat} (hi : i < n) : Dst R i i 0 := ⟨⟨0, Wk.nil i⟩, fun r c w => not_neg h r i c hi w⟩

/-! ### Tables of what is known, made tighter along arcs -/
/-- A table: of each two nodes the least way that was found, if any. -/
abbrev Tb := Nat → Nat → Option Int
def Sound (R : Nat → Nat → Int → Prop) (S : Tb) : Prop := ∀ i k x, S i k = some x → ∃ r, Wk R r i k x
def Upto (R : Nat → Nat → Int → Prop) (n r : Nat) (S : Tb) : Prop := ∀ i k c s, s ≤ r → i < n → Wk R s i k c → ∃ x, S i k = some x ∧ x ≤ c
/-- The second is as tight at least. -/
def Lower (S S' : Tb) : Prop := ∀ i k x, S i k = some x → ∃ y, S' i k = some y ∧ y ≤ x
theorem Lower.refl (S : Tb) : Lower S S := fun i k x h => ⟨x, h, Int.le_refl _⟩
theorem Lower.trans {S T U : Tb} (h : Lower S T) (g : Lower T U) : Lower S U := fun i k x e => by
  obtain ⟨y, h1, h2⟩ := h i k x e
  obtain ⟨z, g1, g2⟩ := g i k y h1
  exact ⟨z, g1, by omega⟩
theorem Upto.lower {r : Nat} {S S' : Tb} (h : Upto R n r S) (l : Lower S S') : Upto R n r S' := fun i k c s hs hi w => by
  obtain ⟨x, h1, h2⟩ := h i k c s hs hi w
  obtain ⟨y, g1, g2⟩ := l i k x h1
  exact ⟨y, g1, by omega⟩
/-- Along all arcs once more. -/
theorem Upto.next {r : Nat} {S S' : Tb} (h : Upto R n r S) (l : Lower S S') (g : ∀ i j k c x, i < n → R j k c → S i j = some x → ∃ y, S' i k = some y ∧ y ≤ x + c) : Upto R n (r + 1) S' := fun i k c s hs hi w => by
  by_cases e : s ≤ r
  · exact (h.lower l) i k c s e hi w
  · obtain rfl : s = r + 1 := by omega
    obtain ⟨j, a, b, w1, q, rfl⟩ := w.last
    obtain ⟨x, h1, h2⟩ := h i j a r (Nat.le_refl _) hi w1
    obtain ⟨y, g1, g2⟩ := g i j k b x hi q h1
    exact ⟨y, g1, by omega⟩
/-- A table of long enough ways, without a way around below 0: it has the least. -/
theorem Upto.least (hR : ∀ u v c, R u v c → u < n ∧ v < n) (hN : ¬ Neg R n) {r : Nat} (hr : n ≤ r + 1) {S : Tb} (h : Upto R n r S) (s : Sound R S) {i k : Nat} (hi : i < n) : (∀ x, S i k = some x → Dst R i k x) ∧ (S i k = none → ∀ r c, ¬ Wk R r i k c) := by
  constructor
  · intro x e
    refine ⟨s i k x e, fun r' c' w => ?_⟩
    obtain ⟨r2, c2, a1, a2, a3⟩ := short hR (not_neg hN) r' i k c' hi w
    obtain ⟨y, h1, h2⟩ := h i k c2 r2 (by omega) hi a3
    rw [e] at h1
    obtain rfl := Option.some.inj h1
    omega
  · intro e r' c' w
    obtain ⟨r2, c2, a1, a2, a3⟩ := short hR (not_neg hN) r' i k c' hi w
    obtain ⟨y, h1, h2⟩ := h i k c2 r2 (by omega) hi a3
    rw [e] at h1
    cases h1
/-- .. and there is one just if the table has one. -/
theorem Upto.neg (hR : ∀ u v c, R u v c → u < n ∧ v < n) {r : Nat} (hr : n ≤ r) {S : Tb} (h : Upto R n r S) (s : Sound R S) : Neg R n ↔ ∃ i x, i < n ∧ S i i = some x ∧ x < 0 := by
  constructor
  · intro hn
    apply Classical.byContradiction
    intro no
    have z : ∀ q i c, q ≤ n → i < n → Wk R q i i c → 0 ≤ c := fun q i c hq hi w => by
      obtain ⟨x, h1, h2⟩ := h i i c q (by omega) hi w
      apply Classical.byContradiction
      intro k
      exact no ⟨i, x, hi, h1, by omega⟩
    obtain ⟨q, i, c, hi, w, lt⟩ := hn
    have := no_neg hR z q i c hi w
    omega
  · rintro ⟨i, x, hi, e, lt⟩
    obtain ⟨q, w⟩ := s i i x e
    exact ⟨q, i, x, hi, w, lt⟩
/-- One step: from i by a to b. -/
def rlx (S : Tb) (i a b : Nat) (c : Int) : Tb := fun i' k =>
  if i' = i ∧ k = b then (match S i a with
    | none => S i b
    | some x => match S i b with
      | none => some (x + c)
      | some y => if x + c < y then some (x + c) else some y)
  else S i' k
theorem rlx_lower (S : Tb) (i a b : Nat) (c : Int) : Lower S (rlx S i a b c) := fun i' k x e => by
  unfold rlx
  by_cases h : i' = i ∧ k = b
  · obtain ⟨rfl, rfl⟩ := h
    rw [if_pos ⟨rfl, rfl⟩]
    cases S i' a with
    | none => exact ⟨x, e, Int.le_refl _⟩
    | some z =>
      rw [e]
      simp only
      split
      · exact ⟨_, rfl, by omega⟩
      · exact ⟨_, rfl, Int.le_refl _⟩
  · rw [if_neg h]; exact ⟨x, e, Int.le_refl _⟩
theorem rlx_sound {S : Tb} (s : Sound R S) {i a b : Nat} {c : Int} (g : R a b c) : Sound R (rlx S i a b c) := fun i' k x e => by
  unfold rlx at e
  by_cases h : i' = i ∧ k = b
  · obtain ⟨rfl, rfl⟩ := h
    rw [if_pos ⟨rfl, rfl⟩] at e
    cases ha : S i' a with
    | none => rw [ha] at e; exact s _ _ _ e
    | some z =>
      rw [ha] at e
      obtain ⟨r, w⟩ := s _ _ _ ha
      cases hb : S i' k with
      | none =>
        rw [hb] at e
        obtain rfl := Option.some.inj e
        exact ⟨_, w.snoc g⟩
      | some y =>
        rw [hb] at e
        simp only at e
        split at e
        · obtain rfl := Option.some.inj e
          exact ⟨_, w.snoc g⟩
        · obtain rfl := Option.some.inj e
          exact s _ _ _ hb
  · rw [if_neg h] at e; exact s _ _ _ e
theorem rlx_does (S : Tb) (i a b : Nat) (c x : Int) (e : S i a = some x) : ∃ y, rlx S i a b c i b = some y ∧ y ≤ x + c := by
  unfold rlx
  rw [if_pos ⟨rfl, rfl⟩, e]
  cases S i b with
  | none => exact ⟨_, rfl, Int.le_refl _⟩
  | some y =>
    simp only
    split
    · exact ⟨_, rfl, Int.le_refl _⟩
    · exact ⟨_, rfl, by omega⟩
/-- The table at the beginning: each node by itself. -/
def tb0 : Tb := fun i k => if i = k then some 0 else none
theorem tb0_sound : Sound R tb0 := fun i k x e => by
  unfold tb0 at e
  by_cases h : i = k
  · subst h
    rw [if_pos rfl] at e
    obtain rfl := Option.some.inj e
    exact ⟨0, Wk.nil i⟩
  · rw [if_neg h] at e; cases e
theorem tb0_upto : Upto R n 0 tb0 := fun i k c s hs hi w => by
  obtain rfl : s = 0 := by omega
  obtain ⟨rfl, rfl⟩ := w.zero
  exact ⟨0, if_pos rfl, Int.le_refl _⟩
end

/-! ### Edges -/
/-- An edge: from a to b at least lo and at most hi more. -/
structure Eg where
  a : Int
  b : Int
  lo : Int
  hi : Int
/-- The arcs of the first m edges. -/
def Arc (q : Nat → Eg) (m : Nat) (u v : Nat) (c : Int) : Prop := ∃ j, j < m ∧ (((u : Int) = (q j).a ∧ (v : Int) = (q j).b ∧ c = (q j).hi) ∨ ((u : Int) = (q j).b ∧ (v : Int) = (q j).a ∧ c = -(q j).lo))
theorem Arc.less {q : Nat → Eg} {m m' u v : Nat} {c : Int} (h : m ≤ m') (g : Arc q m u v c) : Arc q m' u v c := by
  obtain ⟨j, hj, k⟩ := g
  exact ⟨j, by omega, k⟩
theorem Arc.back {q : Nat → Eg} {m u v : Nat} {c : Int} (g : Arc q m u v c) : ∃ c', Arc q m v u c' := by
  obtain ⟨j, hj, ⟨h1, h2, _⟩ | ⟨h1, h2, _⟩⟩ := g
  · exact ⟨_, j, hj, Or.inr ⟨h2, h1, rfl⟩⟩
  · exact ⟨_, j, hj, Or.inl ⟨h2, h1, rfl⟩⟩
/-- A way back. -/
theorem wk_back {q : Nat → Eg} {m : Nat} : ∀ {r i k : Nat} {c : Int}, Wk (Arc q m) r i k c → ∃ r' c', Wk (Arc q m) r' k i c' := by
  intro r
  induction r with
  | zero =>
    intro i k c w
    obtain ⟨rfl, _⟩ := w.zero
    exact ⟨0, 0, Wk.nil i⟩
  | succ r ih =>
    intro i k c w
    obtain ⟨j, a, b, w1, g, _⟩ := w.last
    obtain ⟨r', c', w2⟩ := ih w1
    obtain ⟨c2, g2⟩ := g.back
    exact ⟨_, _, ((Wk.nil k).snoc g2).app w2⟩
/-- Clocks that fit. -/
def FitE (q : Nat → Eg) (m : Nat) (x : Nat → Int) : Prop := ∀ u v c, Arc q m u v c → x v - x u ≤ c
end Go.Proofs.YtigcliepeapcpajDoor
