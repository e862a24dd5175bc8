/- Events in a row, as they are handed over; what package order must answer. -/
import Derived.Test.YtbghpjmjhhjcgagDoorOrdSet
import Derived.Test.YtbghpjmjhhjcgagDoorErrC
import Derived.Test.YtbghpjmjhhjcgagDoorInts
namespace Go.Proofs.YtbghpjmjhhjcgagDoor
open Go.ChangeShapes Go.WideShapes Go.ChangeAt Go.RowKit
set_option linter.unusedVariables false

/-- n events lie in a row behind an address. -/
def Evs (w : World) (b off n : Nat) (f : Nat → Ev) : Prop := ∀ i, i < n → w.cell? ⟨b, off + i * 3, none⟩ = some (.int .i64 (f i).id) ∧ w.cell? ⟨b, off + i * 3 + 1, none⟩ = some (.int .i64 (f i).lo) ∧ w.cell? ⟨b, off + i * 3 + 1 + 1, none⟩ = some (.int .i64 (f i).hi)
theorem Evs.on {W u : World} {b off n : Nat} {f : Nat → Ev} (hb : Below W.heap.size W u) (h : Evs W b off n f) : Evs u b off n f := fun i hi => by
  obtain ⟨h0, h1, h2⟩ := h i hi
  exact ⟨by rw [hb.cell (World.block_lt_of_cell? _ _ h0)]; exact h0, by rw [hb.cell (World.block_lt_of_cell? _ _ h1)]; exact h1, by rw [hb.cell (World.block_lt_of_cell? _ _ h2)]; exact h2⟩
def VHanded (w : World) (a : Option Addr) (n : Nat) (f : Nat → Ev) : Prop := n ≤ 9223372036854775807 ∧ (n = 0 ∨ ∃ b off : Nat, a = some ⟨b, off, none⟩ ∧ Evs w b off n f)
theorem VHanded.on {W u : World} {a : Option Addr} {n : Nat} {f : Nat → Ev} (hb : Below W.heap.size W u) (h : VHanded W a n f) : VHanded u a n f :=
  ⟨h.1, h.2.imp id (fun ⟨b, off, e, s⟩ => ⟨b, off, e, s.on hb⟩)⟩
theorem VHanded.same {w : World} {a : Option Addr} {n : Nat} {f g : Nat → Ev} (h : VHanded w a n f) (e : ∀ i, i < n → f i = g i) : VHanded w a n g :=
  ⟨h.1, h.2.imp id (fun ⟨b, off, e', s⟩ => ⟨b, off, e', fun i hi => by rw [← e i hi]; exact s i hi⟩)⟩
section
variable {f : Nat → Ev} {n : Nat} {e : Int}
/-- One is right by itself and by those ahead of it. -/
def okAt (f : Nat → Ev) (j : Nat) : Prop := okB (f j).lo (f j).hi = true ∧ ∀ k, k < j → (f k).id ≠ (f j).id
/-- What is wrong with events. -/
def EvE (n : Nat) (f : Nat → Ev) (e : Int) : Prop := (12 < n ∧ e = 4) ∨ (n ≤ 12 ∧ ∃ i, i < n ∧ (∀ j, j < i → okAt f j) ∧ ((okB (f i).lo (f i).hi = false ∧ e = 1) ∨ (okB (f i).lo (f i).hi = true ∧ (∃ k, k < i ∧ (f k).id = (f i).id) ∧ e = 3))) ∨ (n ≤ 12 ∧ (∀ j, j < n → okAt f j) ∧ e = 0)
theorem first_not {p : Nat → Prop} : ∀ {n : Nat}, (∀ j, j < n → p j) ∨ ∃ i, i < n ∧ ¬ p i ∧ ∀ j, j < i → p j
  | 0 => Or.inl (fun j hj => by omega)
  | n + 1 => by
    rcases first_not (p := p) (n := n) with h | ⟨i, hi, a, b⟩
    · by_cases q : p n
      · exact Or.inl (fun j hj => by by_cases c : j = n; exact c ▸ q; exact h j (by omega))
      · exact Or.inr ⟨n, by omega, q, h⟩
    · exact Or.inr ⟨i, by omega, a, b⟩
theorem evE_some (n : Nat) (f : Nat → Ev) : ∃ e, EvE n f e := by
  by_cases h : 12 < n
  · exact ⟨4, Or.inl ⟨h, rfl⟩⟩
  · rcases first_not (p := okAt f) (n := n) with g | ⟨i, hi, a, b⟩
    · exact ⟨0, Or.inr (Or.inr ⟨by omega, g, rfl⟩)⟩
    · cases o : okB (f i).lo (f i).hi with
      | false => exact ⟨1, Or.inr (Or.inl ⟨by omega, i, hi, b, Or.inl ⟨o, rfl⟩⟩)⟩
      | true =>
        refine ⟨3, Or.inr (Or.inl ⟨by omega, i, hi, b, Or.inr ⟨o, ?_, rfl⟩⟩)⟩
        apply Classical.byContradiction
        intro no
        exact a ⟨o, fun k hk e => no ⟨k, hk, e⟩⟩
theorem EvE.zero (h : EvE n f 0) : n ≤ 12 ∧ ∀ j, j < n → okAt f j := by
  rcases h with ⟨_, e⟩ | ⟨_, i, _, _, ⟨_, e⟩ | ⟨_, _, e⟩⟩ | ⟨a, b, _⟩
  · cases e
  · cases e
  · cases e
  · exact ⟨a, b⟩
theorem EvE.one {e' : Int} (h : EvE n f e) (g : EvE n f e') : e = e' := by
  have no : ∀ i, ((okB (f i).lo (f i).hi = false ∧ e = 1) ∨ (okB (f i).lo (f i).hi = true ∧ (∃ k, k < i ∧ (f k).id = (f i).id) ∧ e = 3)) → okAt f i → False := by
    rintro i (⟨a, _⟩ | ⟨_, ⟨k, hk, q⟩, _⟩) ⟨b, c⟩
    · rw [a] at b; cases b
    · exact c k hk q
  have no' : ∀ i, ((okB (f i).lo (f i).hi = false ∧ e' = 1) ∨ (okB (f i).lo (f i).hi = true ∧ (∃ k, k < i ∧ (f k).id = (f i).id) ∧ e' = 3)) → okAt f i → False := by
    rintro i (⟨a, _⟩ | ⟨_, ⟨k, hk, q⟩, _⟩) ⟨b, c⟩
    · rw [a] at b; cases b
    · exact c k hk q
  rcases h with ⟨a, rfl⟩ | ⟨a, i, hi, b, c⟩ | ⟨a, b, rfl⟩
  · rcases g with ⟨_, rfl⟩ | ⟨a', _⟩ | ⟨a', _⟩
    · rfl
    · omega
    · omega
  · rcases g with ⟨a', _⟩ | ⟨_, i', hi', b', c'⟩ | ⟨_, b', _⟩
    · omega
    · rcases Nat.lt_trichotomy i i' with lt | rfl | lt
      · exact absurd (b' i lt) (no i c)
      · rcases c with ⟨c1, rfl⟩ | ⟨c1, _, rfl⟩
        · rcases c' with ⟨_, rfl⟩ | ⟨c2, _⟩
          · rfl
          · rw [c1] at c2; cases c2
        · rcases c' with ⟨c2, _⟩ | ⟨_, _, rfl⟩
          · rw [c1] at c2; cases c2
          · rfl
      · exact absurd (b i' lt) (no' i' c')
    · exact absurd (b' i hi) (no i c)
  · rcases g with ⟨a', _⟩ | ⟨_, i', hi', b', c'⟩ | ⟨_, _, rfl⟩
    · omega
    · exact absurd (b i' hi') (no' i' c')
    · rfl
theorem EvE.le (h : EvE n f e) : (e = 4 ∧ 12 < n) ∨ (n ≤ 12 ∧ (e = 0 ∨ e = 1 ∨ e = 3)) := by
  rcases h with ⟨a, e⟩ | ⟨a, i, _, _, ⟨_, e⟩ | ⟨_, _, e⟩⟩ | ⟨a, b, e⟩
  · exact Or.inl ⟨e, a⟩
  · exact Or.inr ⟨a, Or.inr (Or.inl e)⟩
  · exact Or.inr ⟨a, Or.inr (Or.inr e)⟩
  · exact Or.inr ⟨a, Or.inl e⟩
theorem okAt.irr (h : ∀ j, j < n → okAt f j) : Irr f n := fun i hi => decide_eq_false (by have := (okB_t (h i hi).1).1; omega)
/-- An order names each once. -/
def EachP (n : Nat) (o : Nat → Int) (m : Nat) : Prop := m = n ∧ ∀ i, i < n → 0 ≤ o i ∧ o i < n ∧ ∀ k, k < i → o k ≠ o i
/-- The earliest times along an order. -/
def tmO (f : Nat → Ev) (o : Nat → Int) : Nat → Int
  | 0 => (f (o 0).toNat).lo
  | i + 1 => max (tmO f o i) (f (o (i + 1)).toNat).lo
def CouldP (f : Nat → Ev) (o : Nat → Int) (m : Nat) : Prop := ∀ i, i < m → tmO f o i ≤ (f (o i).toNat).hi
theorem tmO_ge (f : Nat → Ev) (o : Nat → Int) : ∀ {i k : Nat}, k ≤ i → (f (o k).toNat).lo ≤ tmO f o i
  | 0, k, h => by
    have : k = 0 := by omega
    subst this
    exact Int.le_refl _
  | i + 1, k, h => by
    show _ ≤ max _ _
    by_cases c : k = i + 1
    · subst c
      omega
    · have := tmO_ge f o (i := i) (k := k) (by omega)
      omega
theorem tmO_at (f : Nat → Ev) (o : Nat → Int) : ∀ i, ∃ k, k ≤ i ∧ tmO f o i = (f (o k).toNat).lo
  | 0 => ⟨0, Nat.le_refl _, rfl⟩
  | i + 1 => by
    obtain ⟨k, hk, e⟩ := tmO_at f o i
    show ∃ k, k ≤ i + 1 ∧ max (tmO f o i) _ = _
    by_cases c : tmO f o i ≤ (f (o (i + 1)).toNat).lo
    · exact ⟨i + 1, Nat.le_refl _, by omega⟩
    · exact ⟨k, by omega, by omega⟩
/-- It could be so just if nobody sure stands behind. -/
theorem could_iff {o : Nat → Int} {m : Nat} (ok : ∀ i, i < m → (f (o i).toNat).lo ≤ (f (o i).toNat).hi) : CouldP f o m ↔ ∀ i k, i < m → k < i → sur f (o i).toNat (o k).toNat = false := by
  constructor
  · intro h i k hi hk
    have := h i hi
    have := tmO_ge f o (i := i) (k := k) (by omega)
    exact decide_eq_false (by omega)
  · intro h i hi
    obtain ⟨k, hk, e⟩ := tmO_at f o i
    rw [e]
    by_cases c : k = i
    · subst c
      exact ok k hi
    · have := of_decide_eq_false (h i k hi (by omega))
      omega
/-- How long the longest rows are that end with each. -/
def RkI (f : Nat → Ev) (n : Nat) (r : Nat → Int) : Prop := ∀ i, i < n → 1 ≤ r i ∧ (∀ k, k < n → sur f k i = true → r k < r i) ∧ (r i = 1 ∨ ∃ k, k < n ∧ sur f k i = true ∧ r i = r k + 1)
/-- How many begin earlier. -/
def erl (f : Nat → Ev) (n i : Nat) : Nat := cntN n (fun k => decide ((f k).lo < (f i).lo))
theorem erl_lt (h : ∀ j, j < n → okAt f j) {k i : Nat} (hk : k < n) (s : sur f k i = true) : erl f n k < erl f n i := by
  have s' : (f k).hi < (f i).lo := of_decide_eq_true s
  have o := (okB_t (h k hk).1).1
  exact cntN_lt (i := k) hk (fun j hj e => by have : (f j).lo < (f k).lo := of_decide_eq_true e; exact decide_eq_true (by omega)) (decide_eq_true (by omega)) (decide_eq_false (by omega))
theorem RkI.one (h : ∀ j, j < n → okAt f j) {r r' : Nat → Int} (g : RkI f n r) (g' : RkI f n r') : ∀ i, i < n → r i = r' i := by
  have st : ∀ m i, i < n → erl f n i ≤ m → r i = r' i := by
    intro m
    induction m with
    | zero =>
      intro i hi c
      obtain ⟨a1, a2, a3⟩ := g i hi
      obtain ⟨b1, b2, b3⟩ := g' i hi
      rcases a3 with a3 | ⟨k, hk, s, e⟩
      · rcases b3 with b3 | ⟨k, hk, s, e⟩
        · omega
        · have := erl_lt h hk s
          omega
      · have := erl_lt h hk s
        omega
    | succ m ih =>
      intro i hi c
      obtain ⟨a1, a2, a3⟩ := g i hi
      obtain ⟨b1, b2, b3⟩ := g' i hi
      have low : r i ≤ r' i := by
        rcases a3 with a3 | ⟨k, hk, s, e⟩
        · omega
        · have := erl_lt h hk s
          have := ih k hk (by omega)
          have := b2 k hk s
          omega
      have high : r' i ≤ r i := by
        rcases b3 with b3 | ⟨k, hk, s, e⟩
        · omega
        · have := erl_lt h hk s
          have := ih k hk (by omega)
          have := a2 k hk s
          omega
      omega
  exact fun i hi => st _ i hi (Nat.le_refl _)
/-- The greatest of those among the first m that are so, 0 at least. -/
def maxO (p : Nat → Bool) (g : Nat → Int) : Nat → Int
  | 0 => 0
  | m + 1 => if p m = true ∧ maxO p g m < g m then g m else maxO p g m
theorem maxO_ge {p : Nat → Bool} {g : Nat → Int} : ∀ {m : Nat}, 0 ≤ maxO p g m ∧ ∀ k, k < m → p k = true → g k ≤ maxO p g m
  | 0 => ⟨Int.le_refl _, fun k hk => by omega⟩
  | m + 1 => by
    obtain ⟨a, b⟩ := maxO_ge (p := p) (g := g) (m := m)
    show 0 ≤ (if p m = true ∧ maxO p g m < g m then g m else maxO p g m) ∧ ∀ k, k < m + 1 → p k = true → g k ≤ (if p m = true ∧ maxO p g m < g m then g m else maxO p g m)
    by_cases c : p m = true ∧ maxO p g m < g m
    · rw [if_pos c]
      refine ⟨by omega, fun k hk e => ?_⟩
      by_cases q : k = m
      · subst q; exact Int.le_refl _
      · have := b k (by omega) e; omega
    · rw [if_neg c]
      refine ⟨a, fun k hk e => ?_⟩
      by_cases q : k = m
      · subst q
        apply Classical.byContradiction
        intro no
        exact c ⟨e, by omega⟩
      · exact b k (by omega) e
theorem maxO_at {p : Nat → Bool} {g : Nat → Int} : ∀ {m : Nat}, maxO p g m = 0 ∨ ∃ k, k < m ∧ p k = true ∧ maxO p g m = g k
  | 0 => Or.inl rfl
  | m + 1 => by
    show (if p m = true ∧ maxO p g m < g m then g m else maxO p g m) = 0 ∨ ∃ k, k < m + 1 ∧ p k = true ∧ (if p m = true ∧ maxO p g m < g m then g m else maxO p g m) = g k
    by_cases c : p m = true ∧ maxO p g m < g m
    · rw [if_pos c]
      exact Or.inr ⟨m, by omega, c.1, rfl⟩
    · rw [if_neg c]
      rcases maxO_at (p := p) (g := g) (m := m) with h | ⟨k, hk, a, b⟩
      · exact Or.inl h
      · exact Or.inr ⟨k, by omega, a, b⟩
theorem maxO_congr {p : Nat → Bool} {g g' : Nat → Int} : ∀ {m : Nat}, (∀ k, k < m → p k = true → g k = g' k) → maxO p g m = maxO p g' m
  | 0, _ => rfl
  | m + 1, h => by
    show (if p m = true ∧ maxO p g m < g m then g m else maxO p g m) = (if p m = true ∧ maxO p g' m < g' m then g' m else maxO p g' m)
    rw [maxO_congr (fun k hk => h k (by omega))]
    by_cases c : p m = true
    · rw [h m (by omega) c]
    · rw [if_neg (fun q => c q.1), if_neg (fun q => c q.1)]
/-- Ranks, reckoned. -/
def rkF (f : Nat → Ev) (n : Nat) : Nat → Nat → Int
  | 0, _ => 1
  | t + 1, i => maxO (fun k => sur f k i) (rkF f n t) n + 1
theorem rkF_same (h : ∀ j, j < n → okAt f j) : ∀ (t t' i : Nat), i < n → erl f n i < t → erl f n i < t' → rkF f n t i = rkF f n t' i
  | 0, _, i, _, c, _ => by omega
  | t + 1, 0, i, _, _, c => by omega
  | t + 1, t' + 1, i, hi, c, c' => by
    show maxO _ _ _ + 1 = maxO _ _ _ + 1
    rw [maxO_congr (g' := rkF f n t') (fun k hk s => rkF_same h t t' k hk (by have := erl_lt h hk s; omega) (by have := erl_lt h hk s; omega))]
/-- The ranks. -/
def rkO (f : Nat → Ev) (n i : Nat) : Int := rkF f n (n + 1) i
theorem rkO_eq (h : ∀ j, j < n → okAt f j) {i : Nat} (hi : i < n) : rkO f n i = maxO (fun k => sur f k i) (rkO f n) n + 1 := by
  show maxO _ (rkF f n n) n + 1 = maxO _ (rkF f n (n + 1)) n + 1
  rw [maxO_congr (g' := rkF f n (n + 1)) (fun k hk s => rkF_same h n (n + 1) k hk (by have := erl_lt h hk s; have := cntN_le n (fun k => decide ((f k).lo < (f i).lo)); unfold erl at *; omega) (by have := cntN_le n (fun j => decide ((f j).lo < (f k).lo)); unfold erl; omega))]
theorem rkO_is (h : ∀ j, j < n → okAt f j) : RkI f n (rkO f n) := fun i hi => by
  have e := rkO_eq h hi
  obtain ⟨a, b⟩ := maxO_ge (p := fun k => sur f k i) (g := rkO f n) (m := n)
  refine ⟨by omega, fun k hk s => by have := b k hk s; omega, ?_⟩
  rcases maxO_at (p := fun k => sur f k i) (g := rkO f n) (m := n) with c | ⟨k, hk, s, c⟩
  · exact Or.inl (by omega)
  · exact Or.inr ⟨k, hk, s, by omega⟩
theorem rkO_le (h : ∀ j, j < n → okAt f j) : ∀ i, i < n → rkO f n i ≤ erl f n i + 1 := by
  have st : ∀ m i, i < n → erl f n i ≤ m → rkO f n i ≤ erl f n i + 1 := by
    intro m
    induction m with
    | zero =>
      intro i hi c
      rcases (rkO_is h i hi).2.2 with e | ⟨k, hk, s, e⟩
      · omega
      · have := erl_lt h hk s; omega
    | succ m ih =>
      intro i hi c
      rcases (rkO_is h i hi).2.2 with e | ⟨k, hk, s, e⟩
      · omega
      · have := erl_lt h hk s
        have := ih k hk (by omega)
        omega
  exact fun i hi => st _ i hi (Nat.le_refl _)
end
/-- Each Id is a number that an int can be. -/
def IdW (n : Nat) (f : Nat → Ev) : Prop := ∀ i, i < n → In64 (f i).id
/-- The error of an order, of times along it. -/
def OrE (n : Nat) (f : Nat → Ev) (o : Nat → Int) (m : Nat) (e : Int) : Prop := (EvE n f e ∧ e ≠ 0) ∨ (EvE n f 0 ∧ ¬ EachP n o m ∧ e = 3) ∨ (EvE n f 0 ∧ EachP n o m ∧ e = 0)
end Go.Proofs.YtbghpjmjhhjcgagDoor
