/- Ways along arcs, and the least of them: plain mathematics. An arc from u to v of c says: what v shows less what u shows is at most c. Days of months and years, the number of a day and the day of a number: plain numbers alone. Seconds that are more or less: how long a day is, when it begins, which day and which second of it a number is, and smeared time: plain numbers alone. Dates as texts: plain mathematics of bytes. A date's text is read as that date, and a text that is read as a date is that date's text: plain mathematics of ten bytes. Labels as texts, and their order: plain mathematics of bytes. Texts that are just a form: plain mathematics of bytes. -/
import Derived.Laws.Strings
namespace Go.Proofs.YtadkgnbagmnkkakGreatDoor
set_option linter.unusedVariables false

theorem pigeon : ∀ (n : Nat) (f : Nat → Nat), (∀ t, t ≤ n → f t < n) → ∃ s t, s < t ∧ t ≤ n ∧ f s = f t
 | 0, f, h => absurd (h 0 (Nat.le_refl _)) (by omega)
 | n + 1, f, h => by
  by_cases c : ∃ s, s ≤ n ∧ f s = f (n + 1)
  ·obtain ⟨s, hs, e⟩ := c
   exact ⟨s, n + 1, by omega, Nat.le_refl _, e⟩
  ·have ne : ∀ s, s ≤ n → f s ≠ f (n + 1) := fun s hs e => c ⟨s, hs, e⟩
   have hm := h (n + 1) (Nat.le_refl _)
   obtain ⟨s, t, h1, h2, h3⟩ := pigeon n (fun t => if f (n + 1) < f t then f t - 1 else f t) (fun t ht => by
    have := h t (by omega)
    have := ne t ht
    show (if f (n + 1) < f t then f t - 1 else f t) < n
    split <;> omega)
   refine ⟨s, t, h1, by omega, ?_⟩
   have a := ne s (by omega)
   have b := ne t h2
   split at h3 <;> split at h3 <;> omega

section
variable {R : Nat → Nat → Int → Prop} {n : Nat}
def Wk (R : Nat → Nat → Int → Prop) (r i k : Nat) (c : Int) : Prop := ∃ (v : Nat → Nat) (p : Nat → Int), v 0 = i ∧ v r = k ∧ p 0 = 0 ∧ p r = c ∧ ∀ t, t < r → R (v t) (v (t + 1)) (p (t + 1) - p t)
theorem Wk.nil (i : Nat) : Wk R 0 i i 0 := ⟨fun _ => i, fun _ => 0, rfl, rfl, rfl, rfl, fun t ht => by omega⟩
theorem Wk.zero {i k : Nat} {c : Int} (h : Wk R 0 i k c) : i = k ∧ c = 0 := by
 obtain ⟨v, p, a, b, d, e, _⟩ := h
 exact ⟨a.symm.trans b, e.symm.trans d⟩
theorem Wk.snoc {r i j k : Nat} {a b : Int} (h : Wk R r i j a) (g : R j k b) : Wk R (r + 1) i k (a + b) := by
 obtain ⟨v, p, h1, h2, h3, h4, h5⟩ := h
 refine ⟨fun t => if t ≤ r then v t else k, fun t => if t ≤ r then p t else a + b, ?_, ?_, ?_, ?_, fun t ht => ?_⟩
 ·simp only [Nat.zero_le, if_true]; exact h1
 ·exact if_neg (by omega)
 ·simp only [Nat.zero_le, if_true]; exact h3
 ·exact if_neg (by omega)
 ·by_cases e : t = r
  ·subst e
   simp only [Nat.le_refl, if_true]
   rw [if_neg (by omega), if_neg (by omega), h2, h4, show a + b - a = b by omega]
   exact g
  ·simp only
   rw [if_pos (by omega), if_pos (by omega), if_pos (by omega), if_pos (by omega)]
   exact h5 t (by omega)
theorem Wk.last {r i k : Nat} {c : Int} (h : Wk R (r + 1) i k c) : ∃ j a b, Wk R r i j a ∧ R j k b ∧ c = a + b := by
 obtain ⟨v, p, h1, h2, h3, h4, h5⟩ := h
 refine ⟨v r, p r, p (r + 1) - p r, ⟨v, p, h1, rfl, h3, rfl, fun t ht => h5 t (by omega)⟩, ?_, by omega⟩
 have := h5 r (by omega)
 rwa [h2] at this
theorem Wk.app {r i j k : Nat} {a : Int} (h : Wk R r i j a) : ∀ {s : Nat} {b : Int}, Wk R s j k b → Wk R (r + s) i k (a + b) := by
 intro s
 induction s generalizing k with
 | zero =>
  intro b g
  obtain ⟨rfl, rfl⟩ := g.zero
  rw [Int.add_zero]
  exact h
 | succ s ih =>
  intro b g
  obtain ⟨j', a', b', g1, g2, rfl⟩ := g.last
  have := (ih g1).snoc g2
  rwa [Int.add_assoc] at this
theorem wk_sub {v : Nat → Nat} {p : Nat → Int} {r s t : Nat} (h : ∀ t, t < r → R (v t) (v (t + 1)) (p (t + 1) - p t)) (h1 : s ≤ t) (h2 : t ≤ r) : Wk R (t - s) (v s) (v t) (p t - p s) := by
 refine ⟨fun x => v (s + x), fun x => p (s + x) - p s, rfl, ?_, by simp, ?_, fun x hx => ?_⟩
 ·show v (s + (t - s)) = v t
  rw [show s + (t - s) = t by omega]
 ·show p (s + (t - s)) - p s = _
  rw [show s + (t - s) = t by omega]
 ·have := h (s + x) (by omega)
  show R (v (s + x)) (v (s + (x + 1))) (p (s + (x + 1)) - p s - (p (s + x) - p s))
  rw [show s + (x + 1) = s + x + 1 by omega, show p (s + x + 1) - p s - (p (s + x) - p s) = p (s + x + 1) - p (s + x) by omega]
  exact this
theorem wk_in (hR : ∀ u v c, R u v c → u < n ∧ v < n) {v : Nat → Nat} {p : Nat → Int} {r t : Nat} (h : ∀ t, t < r → R (v t) (v (t + 1)) (p (t + 1) - p t)) (h0 : v 0 < n) (ht : t ≤ r) : v t < n := by
 cases t with
 | zero => exact h0
 | succ t => exact (hR _ _ _ (h t (by omega))).2
theorem wk_again (hR : ∀ u v c, R u v c → u < n ∧ v < n) {r i k : Nat} {c : Int} (h : Wk R r i k c) (hi : i < n) (hr : n ≤ r) : ∃ (s q x : Nat) (j : Nat) (a b d : Int), 0 < q ∧ q ≤ n ∧ s + q + x = r ∧ Wk R s i j a ∧ Wk R q j j b ∧ Wk R x j k d ∧ c = a + b + d := by
 obtain ⟨v, p, h1, h2, h3, h4, h5⟩ := h
 obtain ⟨s, t, st, tn, e⟩ := pigeon n v (fun t ht => wk_in hR h5 (by rw [h1]; exact hi) (by omega))
 have w1 := wk_sub h5 (show 0 ≤ s by omega) (show s ≤ r by omega)
 have w2 := wk_sub h5 (show s ≤ t by omega) (show t ≤ r by omega)
 have w3 := wk_sub h5 (show t ≤ r by omega) (Nat.le_refl r)
 rw [h1] at w1
 rw [← e] at w2 w3
 rw [h2] at w3
 refine ⟨s - 0, t - s, r - t, v s, p s - p 0, p t - p s, p r - p t, by omega, by omega, by omega, w1, w2, w3, by omega⟩
theorem no_neg (hR : ∀ u v c, R u v c → u < n ∧ v < n) (h : ∀ r i c, r ≤ n → i < n → Wk R r i i c → 0 ≤ c) : ∀ r i c, i < n → Wk R r i i c → 0 ≤ c := by
 intro r
 induction r using Nat.strongRecOn with
 | _ r ih =>
  intro i c hi w
  by_cases hr : r ≤ n
  ·exact h r i c hr hi w
  ·obtain ⟨s, q, x, j, a, b, d, q0, qn, e, w1, w2, w3, rfl⟩ := wk_again hR w hi (by omega)
   have hj : j < n := by
    cases s with
    | zero => obtain ⟨rfl, _⟩ := w1.zero; exact hi
    | succ s => obtain ⟨_, _, _, _, g, _⟩ := w1.last; exact (hR _ _ _ g).2
   have k1 := h q j b qn hj w2
   have k2 := ih (s + x) (by omega) i (a + d) hi (w1.app w3)
   omega
theorem short (hR : ∀ u v c, R u v c → u < n ∧ v < n) (h : ∀ r i c, i < n → Wk R r i i c → 0 ≤ c) : ∀ r i k c, i < n → Wk R r i k c → ∃ r' c', r' < n ∧ c' ≤ c ∧ Wk R r' i k c' := by
 intro r
 induction r using Nat.strongRecOn with
 | _ r ih =>
  intro i k c hi w
  by_cases hr : r < n
  ·exact ⟨r, c, hr, Int.le_refl _, w⟩
  ·obtain ⟨s, q, x, j, a, b, d, q0, qn, e, w1, w2, w3, rfl⟩ := wk_again hR w hi (by omega)
   have hj : j < n := by
    cases s with
    | zero => obtain ⟨rfl, _⟩ := w1.zero; exact hi
    | succ s => obtain ⟨_, _, _, _, g, _⟩ := w1.last; exact (hR _ _ _ g).2
   have k1 := h q j b hj w2
   obtain ⟨r', c', a1, a2, a3⟩ := ih (s + x) (by omega) i k (a + d) hi (w1.app w3)
   exact ⟨r', c', a1, by omega, a3⟩
theorem wk_fit {x : Nat → Int} (hx : ∀ u v c, R u v c → x v - x u ≤ c) : ∀ {r i k : Nat} {c : Int}, Wk R r i k c → x k - x i ≤ c := by
 intro r
 induction r with
 | zero =>
  intro i k c w
  obtain ⟨rfl, rfl⟩ := w.zero
  omega
 | succ r ih =>
  intro i k c w
  obtain ⟨j, a, b, w1, g, rfl⟩ := w.last
  have := ih w1
  have := hx _ _ _ g
  omega
theorem wk_more {R' : Nat → Nat → Int → Prop} (h : ∀ u v c, R u v c → R' u v c) {r i k : Nat} {c : Int} (w : Wk R r i k c) : Wk R' r i k c := by
 obtain ⟨v, p, h1, h2, h3, h4, h5⟩ := w
 exact ⟨v, p, h1, h2, h3, h4, fun t ht => h _ _ _ (h5 t ht)⟩

def Dst (R : Nat → Nat → Int → Prop) (i k : Nat) (c : Int) : Prop := (∃ r, Wk R r i k c) ∧ ∀ r c', Wk R r i k c' → c ≤ c'
theorem Dst.one {i k : Nat} {c c' : Int} (h : Dst R i k c) (h' : Dst R i k c') : c = c' := by
 obtain ⟨⟨r, w⟩, m⟩ := h
 obtain ⟨⟨r', w'⟩, m'⟩ := h'
 have := m _ _ w'
 have := m' _ _ w
 omega
theorem Dst.fit {x : Nat → Int} (hx : ∀ u v c, R u v c → x v - x u ≤ c) {i k : Nat} {c : Int} (h : Dst R i k c) : x k - x i ≤ c := by
 obtain ⟨⟨r, w⟩, _⟩ := h
 exact wk_fit hx w
theorem Dst.more {R' : Nat → Nat → Int → Prop} (hm : ∀ u v c, R u v c → R' u v c) {i k : Nat} {c c' : Int} (h : Dst R i k c) (h' : Dst R' i k c') : c' ≤ c := by
 obtain ⟨⟨r, w⟩, _⟩ := h
 exact h'.2 _ _ (wk_more hm w)
def Neg (R : Nat → Nat → Int → Prop) (n : Nat) : Prop := ∃ r i c, i < n ∧ Wk R r i i c ∧ c < 0
theorem Neg.unfit {x : Nat → Int} (hx : ∀ u v c, R u v c → x v - x u ≤ c) (h : Neg R n) : False := by
 obtain ⟨r, i, c, _, w, lt⟩ := h
 have := wk_fit hx w
 omega
theorem Neg.more {R' : Nat → Nat → Int → Prop} (hm : ∀ u v c, R u v c → R' u v c) (h : Neg R n) : Neg R' n := by
 obtain ⟨r, i, c, a, w, lt⟩ := h
 exact ⟨r, i, c, a, wk_more hm w, lt⟩
theorem not_neg (h : ¬ Neg R n) : ∀ r i c, i < n → Wk R r i i c → 0 ≤ c := fun r i c hi w => by
 apply Classical.byContradiction
 intro k
 exact h ⟨r, i, c, hi, w, by omega⟩

/-! ### Tables of what is known, made tighter along arcs -/
abbrev Tb := Nat → Nat → Option Int
def Sound (R : Nat → Nat → Int → Prop) (S : Tb) : Prop := ∀ i k x, S i k = some x → ∃ r, Wk R r i k x
def Upto (R : Nat → Nat → Int → Prop) (n r : Nat) (S : Tb) : Prop := ∀ i k c s, s ≤ r → i < n → Wk R s i k c → ∃ x, S i k = some x ∧ x ≤ c
def Lower (S S' : Tb) : Prop := ∀ i k x, S i k = some x → ∃ y, S' i k = some y ∧ y ≤ x
theorem Lower.refl (S : Tb) : Lower S S := fun i k x h => ⟨x, h, Int.le_refl _⟩
theorem Lower.trans {S T U : Tb} (h : Lower S T) (g : Lower T U) : Lower S U := fun i k x e => by
 obtain ⟨y, h1, h2⟩ := h i k x e
 obtain ⟨z, g1, g2⟩ := g i k y h1
 exact ⟨z, g1, by omega⟩
theorem Upto.lower {r : Nat} {S S' : Tb} (h : Upto R n r S) (l : Lower S S') : Upto R n r S' := fun i k c s hs hi w => by
 obtain ⟨x, h1, h2⟩ := h i k c s hs hi w
 obtain ⟨y, g1, g2⟩ := l i k x h1
 exact ⟨y, g1, by omega⟩
theorem Upto.next {r : Nat} {S S' : Tb} (h : Upto R n r S) (l : Lower S S') (g : ∀ i j k c x, i < n → R j k c → S i j = some x → ∃ y, S' i k = some y ∧ y ≤ x + c) : Upto R n (r + 1) S' := fun i k c s hs hi w => by
 by_cases e : s ≤ r
 ·exact (h.lower l) i k c s e hi w
 ·obtain rfl : s = r + 1 := by omega
  obtain ⟨j, a, b, w1, q, rfl⟩ := w.last
  obtain ⟨x, h1, h2⟩ := h i j a r (Nat.le_refl _) hi w1
  obtain ⟨y, g1, g2⟩ := g i j k b x hi q h1
  exact ⟨y, g1, by omega⟩
theorem Upto.least (hR : ∀ u v c, R u v c → u < n ∧ v < n) (hN : ¬ Neg R n) {r : Nat} (hr : n ≤ r + 1) {S : Tb} (h : Upto R n r S) (s : Sound R S) {i k : Nat} (hi : i < n) : (∀ x, S i k = some x → Dst R i k x) ∧ (S i k = none → ∀ r c, ¬ Wk R r i k c) := by
 constructor
 ·intro x e
  refine ⟨s i k x e, fun r' c' w => ?_⟩
  obtain ⟨r2, c2, a1, a2, a3⟩ := short hR (not_neg hN) r' i k c' hi w
  obtain ⟨y, h1, h2⟩ := h i k c2 r2 (by omega) hi a3
  rw [e] at h1
  obtain rfl := Option.some.inj h1
  omega
 ·intro e r' c' w
  obtain ⟨r2, c2, a1, a2, a3⟩ := short hR (not_neg hN) r' i k c' hi w
  obtain ⟨y, h1, h2⟩ := h i k c2 r2 (by omega) hi a3
  rw [e] at h1
  cases h1
theorem Upto.neg (hR : ∀ u v c, R u v c → u < n ∧ v < n) {r : Nat} (hr : n ≤ r) {S : Tb} (h : Upto R n r S) (s : Sound R S) : Neg R n ↔ ∃ i x, i < n ∧ S i i = some x ∧ x < 0 := by
 constructor
 ·intro hn
  apply Classical.byContradiction
  intro no
  have z : ∀ q i c, q ≤ n → i < n → Wk R q i i c → 0 ≤ c := fun q i c hq hi w => by
   obtain ⟨x, h1, h2⟩ := h i i c q (by omega) hi w
   apply Classical.byContradiction
   intro k
   exact no ⟨i, x, hi, h1, by omega⟩
  obtain ⟨q, i, c, hi, w, lt⟩ := hn
  have := no_neg hR z q i c hi w
  omega
 ·rintro ⟨i, x, hi, e, lt⟩
  obtain ⟨q, w⟩ := s i i x e
  exact ⟨q, i, x, hi, w, lt⟩
def rlx (S : Tb) (i a b : Nat) (c : Int) : Tb := fun i' k =>
 if i' = i ∧ k = b then (match S i a with
  | none => S i b
  | some x => match S i b with
   | none => some (x + c)
   | some y => if x + c < y then some (x + c) else some y)
 else S i' k
theorem rlx_lower (S : Tb) (i a b : Nat) (c : Int) : Lower S (rlx S i a b c) := fun i' k x e => by
 unfold rlx
 by_cases h : i' = i ∧ k = b
 ·obtain ⟨rfl, rfl⟩ := h
  rw [if_pos ⟨rfl, rfl⟩]
  cases S i' a with
  | none => exact ⟨x, e, Int.le_refl _⟩
  | some z =>
   rw [e]
   simp only
   split
   ·exact ⟨_, rfl, by omega⟩
   ·exact ⟨_, rfl, Int.le_refl _⟩
 ·rw [if_neg h]; exact ⟨x, e, Int.le_refl _⟩
theorem rlx_sound {S : Tb} (s : Sound R S) {i a b : Nat} {c : Int} (g : R a b c) : Sound R (rlx S i a b c) := fun i' k x e => by
 unfold rlx at e
 by_cases h : i' = i ∧ k = b
 ·obtain ⟨rfl, rfl⟩ := h
  rw [if_pos ⟨rfl, rfl⟩] at e
  cases ha : S i' a with
  | none => rw [ha] at e; exact s _ _ _ e
  | some z =>
   rw [ha] at e
   obtain ⟨r, w⟩ := s _ _ _ ha
   cases hb : S i' k with
   | none =>
    rw [hb] at e
    obtain rfl := Option.some.inj e
    exact ⟨_, w.snoc g⟩
   | some y =>
    rw [hb] at e
    simp only at e
    split at e
    ·obtain rfl := Option.some.inj e
     exact ⟨_, w.snoc g⟩
    ·obtain rfl := Option.some.inj e
     exact s _ _ _ hb
 ·rw [if_neg h] at e; exact s _ _ _ e
theorem rlx_does (S : Tb) (i a b : Nat) (c x : Int) (e : S i a = some x) : ∃ y, rlx S i a b c i b = some y ∧ y ≤ x + c := by
 unfold rlx
 rw [if_pos ⟨rfl, rfl⟩, e]
 cases S i b with
 | none => exact ⟨_, rfl, Int.le_refl _⟩
 | some y =>
  simp only
  split
  ·exact ⟨_, rfl, Int.le_refl _⟩
  ·exact ⟨_, rfl, by omega⟩
def tb0 : Tb := fun i k => if i = k then some 0 else none
theorem tb0_sound : Sound R tb0 := fun i k x e => by
 unfold tb0 at e
 by_cases h : i = k
 ·subst h
  rw [if_pos rfl] at e
  obtain rfl := Option.some.inj e
  exact ⟨0, Wk.nil i⟩
 ·rw [if_neg h] at e; cases e
theorem tb0_upto : Upto R n 0 tb0 := fun i k c s hs hi w => by
 obtain rfl : s = 0 := by omega
 obtain ⟨rfl, rfl⟩ := w.zero
 exact ⟨0, if_pos rfl, Int.le_refl _⟩
end

/-! ### Edges -/
structure Eg where
 a : Int
 b : Int
 lo : Int
 hi : Int
def Arc (q : Nat → Eg) (m : Nat) (u v : Nat) (c : Int) : Prop := ∃ j, j < m ∧ (((u : Int) = (q j).a ∧ (v : Int) = (q j).b ∧ c = (q j).hi) ∨ ((u : Int) = (q j).b ∧ (v : Int) = (q j).a ∧ c = -(q j).lo))
theorem Arc.less {q : Nat → Eg} {m m' u v : Nat} {c : Int} (h : m ≤ m') (g : Arc q m u v c) : Arc q m' u v c := by
 obtain ⟨j, hj, k⟩ := g
 exact ⟨j, by omega, k⟩
theorem Arc.back {q : Nat → Eg} {m u v : Nat} {c : Int} (g : Arc q m u v c) : ∃ c', Arc q m v u c' := by
 obtain ⟨j, hj, ⟨h1, h2, _⟩ | ⟨h1, h2, _⟩⟩ := g
 ·exact ⟨_, j, hj, Or.inr ⟨h2, h1, rfl⟩⟩
 ·exact ⟨_, j, hj, Or.inl ⟨h2, h1, rfl⟩⟩
theorem wk_back {q : Nat → Eg} {m : Nat} : ∀ {r i k : Nat} {c : Int}, Wk (Arc q m) r i k c → ∃ r' c', Wk (Arc q m) r' k i c' := by
 intro r
 induction r with
 | zero =>
  intro i k c w
  obtain ⟨rfl, _⟩ := w.zero
  exact ⟨0, 0, Wk.nil i⟩
 | succ r ih =>
  intro i k c w
  obtain ⟨j, a, b, w1, g, _⟩ := w.last
  obtain ⟨r', c', w2⟩ := ih w1
  obtain ⟨c2, g2⟩ := g.back
  exact ⟨_, _, ((Wk.nil k).snoc g2).app w2⟩
def leapB (y : Int) : Bool := decide (y % 400 = 0 ∨ (y % 4 = 0 ∧ y % 100 ≠ 0))
def mdays (y m : Int) : Int := if m = 2 then (if leapB y then 29 else 28) else if m = 4 ∨ m = 6 ∨ m = 9 ∨ m = 11 then 30 else 31
def ydays (y : Int) : Int := if leapB y then 366 else 365
def okD (y m d : Int) : Bool := decide (1970 ≤ y ∧ y ≤ 2199 ∧ 1 ≤ m ∧ m ≤ 12 ∧ 1 ≤ d ∧ d ≤ mdays y m)
theorem okD_t {y m d : Int} (h : okD y m d = true) : 1970 ≤ y ∧ y ≤ 2199 ∧ 1 ≤ m ∧ m ≤ 12 ∧ 1 ≤ d ∧ d ≤ mdays y m := of_decide_eq_true h
theorem okD_mk {y m d : Int} (h : 1970 ≤ y ∧ y ≤ 2199 ∧ 1 ≤ m ∧ m ≤ 12 ∧ 1 ≤ d ∧ d ≤ mdays y m) : okD y m d = true := decide_eq_true h
def yoff : Nat → Int
 | 0 => 0
 | k + 1 => yoff k + ydays (1970 + k)
def moff (y : Int) : Nat → Int
 | 0 => 0
 | k + 1 => moff y k + mdays y (1 + k)
def dnum (y m d : Int) : Int := yoff (y - 1970).toNat + moff y (m - 1).toNat + d - 1
theorem mdays_le (y m : Int) : 28 ≤ mdays y m ∧ mdays y m ≤ 31 := by unfold mdays; split <;> split <;> omega
theorem ydays_le (y : Int) : 365 ≤ ydays y ∧ ydays y ≤ 366 := by unfold ydays; split <;> omega
theorem moff_mono (y : Int) (i : Nat) : ∀ k, i ≤ k → moff y i ≤ moff y k
 | 0, h => by rw [show i = 0 by omega]; exact Int.le_refl _
 | k + 1, h => by
  by_cases e : i = k + 1
  ·rw [e]; exact Int.le_refl _
  ·have := moff_mono y i k (by omega); have := mdays_le y (1 + k); simp only [moff]; omega
theorem yoff_mono (i : Nat) : ∀ k, i ≤ k → yoff i ≤ yoff k
 | 0, h => by rw [show i = 0 by omega]; exact Int.le_refl _
 | k + 1, h => by
  by_cases e : i = k + 1
  ·rw [e]; exact Int.le_refl _
  ·have := yoff_mono i k (by omega); have := ydays_le (1970 + k); simp only [yoff]; omega
theorem moff_year (y : Int) : moff y 12 = ydays y := by
 simp only [moff, mdays, ydays]
 cases leapB y <;> rfl
theorem yoff_all : yoff 230 = 84006 := by decide +kernel
theorem yoff_at (k : Nat) (h : k ≤ 230) : yoff k = 365 * k + (k + 1) / 4 - (if 131 ≤ k then 1 else 0) := by
 have key : ∀ k, k < 231 → yoff k = 365 * k + (k + 1) / 4 - (if 131 ≤ k then 1 else 0) := by decide +kernel
 exact key k (by omega)
def ahead (m : Int) : Int := if m ≤ 1 then 0 else if m = 2 then 31 else if m = 3 then 59 else if m = 4 then 90 else if m = 5 then 120 else if m = 6 then 151 else if m = 7 then 181 else if m = 8 then 212 else if m = 9 then 243 else if m = 10 then 273 else if m = 11 then 304 else if m = 12 then 334 else 365
theorem moff_at (y : Int) (k : Nat) (h : k ≤ 12) : moff y k = ahead (k + 1) + (if 2 ≤ k ∧ leapB y = true then 1 else 0) := by
 have key : ∀ k, k < 13 → ∀ b : Bool, leapB y = b → moff y k = ahead (k + 1) + (if 2 ≤ k ∧ b = true then 1 else 0) := by
  intro k hk b hb
  match k, hk with
  | 0, _ => cases b <;> rfl
  | 1, _ => cases b <;> rfl
  | 2, _ => simp only [moff, mdays, hb]; cases b <;> rfl
  | 3, _ => simp only [moff, mdays, hb]; cases b <;> rfl
  | 4, _ => simp only [moff, mdays, hb]; cases b <;> rfl
  | 5, _ => simp only [moff, mdays, hb]; cases b <;> rfl
  | 6, _ => simp only [moff, mdays, hb]; cases b <;> rfl
  | 7, _ => simp only [moff, mdays, hb]; cases b <;> rfl
  | 8, _ => simp only [moff, mdays, hb]; cases b <;> rfl
  | 9, _ => simp only [moff, mdays, hb]; cases b <;> rfl
  | 10, _ => simp only [moff, mdays, hb]; cases b <;> rfl
  | 11, _ => simp only [moff, mdays, hb]; cases b <;> rfl
  | 12, _ => simp only [moff, mdays, hb]; cases b <;> rfl
 exact key k (by omega) _ rfl
theorem dnum_at {y m d : Int} (h : okD y m d = true) : yoff (y - 1970).toNat ≤ dnum y m d ∧ dnum y m d < yoff ((y - 1970).toNat + 1) ∧ moff y (m - 1).toNat ≤ dnum y m d - yoff (y - 1970).toNat ∧ dnum y m d - yoff (y - 1970).toNat < moff y ((m - 1).toNat + 1) := by
 obtain ⟨h1, h2, h3, h4, h5, h6⟩ := okD_t h
 have a := moff_mono y 0 (m - 1).toNat (Nat.zero_le _)
 have b := moff_mono y ((m - 1).toNat + 1) 12 (by omega)
 rw [moff_year] at b
 have e : moff y ((m - 1).toNat + 1) = moff y (m - 1).toNat + mdays y m := by
  show _ + mdays y (1 + ((m - 1).toNat : Int)) = _
  rw [show (1 + ((m - 1).toNat : Int)) = m by omega]
 have e2 : yoff ((y - 1970).toNat + 1) = yoff (y - 1970).toNat + ydays y := by
  show _ + ydays (1970 + ((y - 1970).toNat : Int)) = _
  rw [show (1970 + ((y - 1970).toNat : Int)) = y by omega]
 simp only [moff] at a
 unfold dnum
 omega
theorem dnum_range {y m d : Int} (h : okD y m d = true) : 0 ≤ dnum y m d ∧ dnum y m d < 84006 := by
 obtain ⟨h1, h2, _⟩ := okD_t h
 obtain ⟨a, b, _⟩ := dnum_at h
 have := yoff_mono 0 (y - 1970).toNat (Nat.zero_le _)
 have := yoff_mono ((y - 1970).toNat + 1) 230 (by omega)
 rw [yoff_all] at this
 simp only [yoff] at *
 omega
theorem dnum_one {y m d y' m' d' : Int} (h : okD y m d = true) (h' : okD y' m' d' = true) (e : dnum y m d = dnum y' m' d') : y = y' ∧ m = m' ∧ d = d' := by
 obtain ⟨a1, a2, a3, a4, a5, a6⟩ := okD_t h
 obtain ⟨b1, b2, b3, b4, b5, b6⟩ := okD_t h'
 obtain ⟨p1, p2, p3, p4⟩ := dnum_at h
 obtain ⟨q1, q2, q3, q4⟩ := dnum_at h'
 have ey : y = y' := by
  by_cases c : y < y'
  ·have := yoff_mono ((y - 1970).toNat + 1) (y' - 1970).toNat (by omega); omega
  ·by_cases c2 : y' < y
   ·have := yoff_mono ((y' - 1970).toNat + 1) (y - 1970).toNat (by omega); omega
   ·omega
 subst ey
 have em : m = m' := by
  by_cases c : m < m'
  ·have := moff_mono y ((m - 1).toNat + 1) (m' - 1).toNat (by omega); omega
  ·by_cases c2 : m' < m
   ·have := moff_mono y ((m' - 1).toNat + 1) (m - 1).toNat (by omega); omega
   ·omega
 subst em
 refine ⟨rfl, rfl, ?_⟩
 unfold dnum at e
 omega
theorem rise_at (f : Nat → Int) (x : Int) : ∀ n, f 0 ≤ x → x < f n → ∃ k, k < n ∧ f k ≤ x ∧ x < f (k + 1)
 | 0, h0, h => by omega
 | n + 1, h0, h => by
  by_cases c : x < f n
  ·obtain ⟨k, hk, a, b⟩ := rise_at f x n h0 c
   exact ⟨k, by omega, a, b⟩
  ·exact ⟨n, by omega, by omega, h⟩
theorem dnum_some (n : Int) (h0 : 0 ≤ n) (h : n < 84006) : ∃ y m d, okD y m d = true ∧ dnum y m d = n := by
 obtain ⟨k, hk, a, b⟩ := rise_at yoff n 230 h0 (by rw [yoff_all]; exact h)
 have e2 : yoff (k + 1) = yoff k + ydays (1970 + k) := rfl
 obtain ⟨j, hj, c, d⟩ := rise_at (moff (1970 + k)) (n - yoff k) 12 (by simp only [moff]; omega) (by rw [moff_year]; omega)
 have e3 : moff (1970 + k) (j + 1) = moff (1970 + k) j + mdays (1970 + k) (1 + j) := rfl
 refine ⟨1970 + k, 1 + j, n - yoff k - moff (1970 + k) j + 1, okD_mk ⟨by omega, by omega, by omega, by omega, by omega, by omega⟩, ?_⟩
 unfold dnum
 rw [show ((1970 + (k : Int)) - 1970).toNat = k by omega, show ((1 + (j : Int)) - 1).toNat = j by omega]
 omega
def sgn (b : Bool) : Int := if b then 1 else -1
theorem sgn_le (b : Bool) : -1 ≤ sgn b ∧ sgn b ≤ 1 := by unfold sgn; split <;> omega
def lj (q : Nat → Int × Bool) : Nat → Int → Int
  | 0, _ => 0
  | n + 1, d => lj q n d + if (q n).1 = d then sgn (q n).2 else 0
def mor (q : Nat → Int × Bool) : Nat → Int → Int
  | 0, _ => 0
  | n + 1, d => mor q n d + if (q n).1 < d then sgn (q n).2 else 0
def lng (q : Nat → Int × Bool) (n : Nat) (d : Int) : Int := 86400 + lj q n d
def bg (q : Nat → Int × Bool) (n : Nat) (d : Int) : Int := 86400 * d + mor q n d
structure Lps (q : Nat → Int × Bool) (n : Nat) : Prop where
  rng : ∀ i, i < n → 1 ≤ (q i).1 ∧ (q i).1 < 84005
  gap : ∀ i, i + 1 < n → (q i).1 + 2 ≤ (q (i + 1)).1
section
variable {q : Nat → Int × Bool} {n : Nat}
theorem Lps.far (h : Lps q n) {i : Nat} : ∀ {j : Nat}, i < j → j < n → (q i).1 + 2 ≤ (q j).1
  | 0, hij, _ => by omega
  | j + 1, hij, hj => by
    have g := h.gap j hj
    by_cases e : i = j
    · subst e; exact g
    · have := h.far (i := i) (j := j) (by omega) (by omega); omega
theorem Lps.less (h : Lps q (n + 1)) : Lps q n := ⟨fun i hi => h.rng i (by omega), fun i hi => h.gap i (by omega)⟩
theorem lj_none (d : Int) : ∀ n, (∀ i, i < n → (q i).1 ≠ d) → lj q n d = 0
  | 0, _ => rfl
  | n + 1, h => by
    simp only [lj]
    rw [lj_none d n (fun i hi => h i (by omega)), if_neg (h n (by omega))]; rfl
theorem lj_at : ∀ n, Lps q n → ∀ i, i < n → lj q n (q i).1 = sgn (q i).2
  | 0, _, i, hi => by omega
  | n + 1, h, i, hi => by
    simp only [lj]
    by_cases e : i = n
    · subst e
      rw [lj_none _ i (fun j hj => by have := h.far (i := j) (j := i) hj (by omega); omega), if_pos rfl]; omega
    · rw [lj_at n h.less i (by omega), if_neg (by have := h.far (i := i) (j := n) (by omega) (by omega); omega)]; omega
theorem lj_le (h : Lps q n) (d : Int) : -1 ≤ lj q n d ∧ lj q n d ≤ 1 := by
  by_cases c : ∃ i, i < n ∧ (q i).1 = d
  · obtain ⟨i, hi, rfl⟩ := c
    rw [lj_at n h i hi]; exact sgn_le _
  · rw [lj_none d n (fun i hi e => c ⟨i, hi, e⟩)]; omega
theorem mor_next (d : Int) : ∀ n, mor q n (d + 1) = mor q n d + lj q n d
  | 0 => rfl
  | n + 1 => by
    have ih := mor_next d n
    simp only [mor, lj]
    by_cases a : (q n).1 < d
    · rw [if_pos a, if_pos (by omega), if_neg (by omega)]; omega
    · by_cases b : (q n).1 = d
      · rw [if_neg a, if_pos (by omega), if_pos b]; omega
      · rw [if_neg a, if_neg (by omega), if_neg b]; omega
theorem bg_next (d : Int) : bg q n (d + 1) = bg q n d + lng q n d := by
  unfold bg lng; rw [mor_next]; omega
theorem mor_zero : ∀ n, Lps q n → mor q n 0 = 0
  | 0, _ => rfl
  | n + 1, h => by
    simp only [mor]
    rw [mor_zero n h.less, if_neg (by have := h.rng n (by omega); omega)]; rfl
theorem mor_le : ∀ (n : Nat) (d : Int), -(n : Int) ≤ mor q n d ∧ mor q n d ≤ n
  | 0, _ => by simp [mor]
  | n + 1, d => by
    have := mor_le n d
    have := sgn_le (q n).2
    simp only [mor]
    split <;> omega
theorem mor_day (h : Lps q n) : ∀ k : Nat, mor q n k ≤ k
  | 0 => by have := mor_zero n h; simp at this ⊢; omega
  | k + 1 => by
    have ih := mor_day h k
    have e : ((k + 1 : Nat) : Int) = (k : Int) + 1 := by omega
    rw [e, mor_next]
    have := lj_le h (k : Int); omega
theorem lng_le (h : Lps q n) (d : Int) : 86399 ≤ lng q n d ∧ lng q n d ≤ 86401 := by have := lj_le h d; unfold lng; omega
theorem bg_zero (h : Lps q n) : bg q n 0 = 0 := by unfold bg; rw [mor_zero n h]; rfl
theorem bg_mono (h : Lps q n) (d : Int) : ∀ k : Nat, bg q n d + 86399 * k ≤ bg q n (d + k)
  | 0 => by simp
  | k + 1 => by
    have ih := bg_mono h d k
    have e : d + ((k + 1 : Nat) : Int) = d + k + 1 := by omega
    rw [e, bg_next]
    have := lng_le h (d + k); omega
theorem bg_lt (h : Lps q n) {d e : Int} (hde : d < e) : bg q n d + 86399 ≤ bg q n e := by
  have := bg_mono h d (e - d).toNat
  rw [show d + ((e - d).toNat : Int) = e by omega] at this
  omega
def IsDay (q : Nat → Int × Bool) (n : Nat) (x d : Int) : Prop := bg q n d ≤ x ∧ x < bg q n (d + 1)
theorem IsDay.one (h : Lps q n) {x d e : Int} (a : IsDay q n x d) (b : IsDay q n x e) : d = e := by
  obtain ⟨a1, a2⟩ := a
  obtain ⟨b1, b2⟩ := b
  by_cases c : d < e
  · by_cases c2 : d + 1 = e
    · subst c2; omega
    · have := bg_lt h (show d + 1 < e by omega); omega
  · by_cases c3 : e < d
    · by_cases c2 : e + 1 = d
      · subst c2; omega
      · have := bg_lt h (show e + 1 < d by omega); omega
    · omega
theorem day_some (h : Lps q n) (x : Int) (h0 : 0 ≤ x) (h1 : x < bg q n 84006) : ∃ d, 0 ≤ d ∧ d ≤ 84005 ∧ IsDay q n x d := by
  obtain ⟨k, hk, a, b⟩ := rise_at (fun k => bg q n k) x 84006 (by show bg q n ((0 : Nat) : Int) ≤ x; have := bg_zero h; simp at this ⊢; omega) h1
  exact ⟨k, by omega, by omega, a, by have e : ((k + 1 : Nat) : Int) = (k : Int) + 1 := by omega
                                      rw [e] at b; exact b⟩
theorem IsDay.place (h : Lps q n) {x d : Int} (a : IsDay q n x d) : 0 ≤ x - bg q n d ∧ x - bg q n d < lng q n d := by
  have := bg_next (q := q) (n := n) d
  obtain ⟨a1, a2⟩ := a
  omega
theorem IsDay.mono (h : Lps q n) {x y d e : Int} (a : IsDay q n x d) (b : IsDay q n y e) (hxy : x ≤ y) : d ≤ e := by
  obtain ⟨a1, a2⟩ := a
  obtain ⟨b1, b2⟩ := b
  by_cases c : e < d
  · by_cases c2 : e + 1 = d
    · subst c2; omega
    · have := bg_lt h (show e + 1 < d by omega); omega
  · omega
theorem day_ge (h : Lps q n) {x d : Int} (hx : 0 ≤ x) (a : IsDay q n x d) : x / 86401 ≤ d := by
  have m := mor_day h (x / 86401).toNat
  have e : (((x / 86401).toNat : Nat) : Int) = x / 86401 := by omega
  rw [e] at m
  by_cases c : x / 86401 ≤ d
  · exact c
  · have := bg_lt h (show d < x / 86401 by omega)
    obtain ⟨a1, a2⟩ := a
    have b : bg q n (x / 86401) ≤ x := by unfold bg; omega
    have : d + 1 = x / 86401 ∨ d + 1 < x / 86401 := by omega
    rcases this with e1 | e1
    · rw [e1] at a2; omega
    · have := bg_lt h e1; omega
end

/-! ### A second's label -/
def lab (s : Int) : Int × Int × Int := if s = 86400 then (23, 59, 60) else (s / 3600, s % 3600 / 60, s % 60)
def sec (h m s : Int) : Int := h * 3600 + m * 60 + s
theorem lab_sec (s : Int) : sec (lab s).1 (lab s).2.1 (lab s).2.2 = s := by
  unfold lab sec; split <;> simp <;> omega
def okL (L h m s : Int) : Prop := 0 ≤ h ∧ h ≤ 23 ∧ 0 ≤ m ∧ m ≤ 59 ∧ 0 ≤ s ∧ s ≤ 60 ∧ (s = 60 → h = 23 ∧ m = 59 ∧ L = 86401) ∧ sec h m s < L
theorem lab_ok (L s : Int) (h0 : 0 ≤ s) (h1 : s < L) (hL : L ≤ 86401) : okL L (lab s).1 (lab s).2.1 (lab s).2.2 := by
  refine ⟨?_, ?_, ?_, ?_, ?_, ?_, ?_, by rw [lab_sec]; exact h1⟩ <;> unfold lab <;> split <;> simp <;> omega

/-! ### Smeared time -/
section
variable {q : Nat → Int × Bool} {n : Nat}
end
def cd (b : UInt8) : Bool := decide (48 ≤ b.toNat ∧ b.toNat ≤ 57)
def pv (l : List UInt8) : Int := l.foldl (fun a b => a * 10 + (b.toNat : Int) - 48) 0
theorem take_snoc (s : ByteArray) (k : Nat) (h : k < s.size) : s.data.toList.take (k + 1) = s.data.toList.take k ++ [s[k]] := by
 rw [List.take_add_one]
 have : s.data.toList[k]? = some s[k] := by
  rw [Array.getElem?_toList]
  exact Array.getElem?_eq_getElem (xs := s.data) h
 rw [this]; rfl
def db (n : Int) : UInt8 := UInt8.ofNat (48 + n.toNat)
def d2 (n : Int) : List UInt8 := [db (n / 10), db (n % 10)]
def d4 (n : Int) : List UInt8 := [db (n / 1000), db (n / 100 % 10), db (n / 10 % 10), db (n % 10)]
def dtext (y m d : Int) : ByteArray := ⟨(d4 y ++ [45] ++ d2 m ++ [45] ++ d2 d).toArray⟩
def okH (h m s : Int) : Bool := decide (0 ≤ h ∧ h ≤ 23 ∧ 0 ≤ m ∧ m ≤ 59 ∧ 0 ≤ s ∧ s ≤ 60)
theorem okH_t {h m s : Int} (o : okH h m s = true) : 0 ≤ h ∧ h ≤ 23 ∧ 0 ≤ m ∧ m ≤ 59 ∧ 0 ≤ s ∧ s ≤ 60 := of_decide_eq_true o
def ltext (y m d h i s : Int) : ByteArray := ⟨(d4 y ++ [45] ++ d2 m ++ [45] ++ d2 d ++ [84] ++ d2 h ++ [58] ++ d2 i ++ [58] ++ d2 s).toArray⟩
def hr (s : ByteArray) : Int := pv (s.extract 11 13).data.toList
def mi (s : ByteArray) : Int := pv (s.extract 14 16).data.toList
theorem ltext_size (y m d h i s : Int) : (ltext y m d h i s).size = 19 := rfl

/-! ### Order -/
def Earlier (y m d h i s y' m' d' h' i' s' : Int) : Prop :=
 y < y' ∨ (y = y' ∧ (m < m' ∨ (m = m' ∧ (d < d' ∨ (d = d' ∧ (h < h' ∨ (h = h' ∧ (i < i' ∨ (i = i' ∧ s < s')))))))))
theorem date_later {y m d y' m' d' : Int} (ok : okD y m d = true) (ok' : okD y' m' d' = true) (lt : dnum y m d < dnum y' m' d') : y < y' ∨ (y = y' ∧ (m < m' ∨ (m = m' ∧ d < d'))) := by
 obtain ⟨a1, a2, a3, a4, a5, a6⟩ := okD_t ok
 obtain ⟨b1, b2, b3, b4, b5, b6⟩ := okD_t ok'
 obtain ⟨p1, p2, p3, p4⟩ := dnum_at ok
 obtain ⟨q1, q2, q3, q4⟩ := dnum_at ok'
 by_cases c : y < y'
 ·exact Or.inl c
 by_cases c2 : y' < y
 ·have := yoff_mono ((y' - 1970).toNat + 1) (y - 1970).toNat (by omega); omega
 have e : y = y' := by omega
 subst e
 refine Or.inr ⟨rfl, ?_⟩
 by_cases c3 : m < m'
 ·exact Or.inl c3
 by_cases c4 : m' < m
 ·have := moff_mono y ((m' - 1).toNat + 1) (m - 1).toNat (by omega); omega
 have e : m = m' := by omega
 subst e
 refine Or.inr ⟨rfl, ?_⟩
 unfold dnum at lt
 omega
theorem lab_later {s s' : Int} (h0 : 0 ≤ s) (lt : s < s') (h1 : s' ≤ 86400) : (lab s).1 < (lab s').1 ∨ ((lab s).1 = (lab s').1 ∧ ((lab s).2.1 < (lab s').2.1 ∨ ((lab s).2.1 = (lab s').2.1 ∧ (lab s).2.2 < (lab s').2.2))) := by
 unfold lab
 rw [if_neg (show ¬ s = 86400 by omega)]
 split
 ·simp only; omega
 ·simp only; omega
def fD : ByteArray := ⟨#[48, 48, 48, 48, 45, 48, 48, 45, 48, 48]⟩
end Go.Proofs.YtadkgnbagmnkkakGreatDoor
