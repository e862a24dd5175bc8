/- A block as it is, with its type; tables of ints and bools, row by row, as they lie in memory. What there is to be answered of bounds. What there is to be answered of bounds is there. What a net's edges say: plain mathematics. -/
import Derived.Test.YtfmaoblhoafnhajNm07
import Derived.Test.YtfmaoblhoafnhajNm01
import Derived.OwnWalk
import Derived.Deep.Heap
import Derived.Deep.AppendLies
import Derived.Test.YtfmaoblhoafnhajNm08
import Derived.Test.YtfmaoblhoafnhajNm02
import Derived.Test.YtfmaoblhoafnhajNetMath
import Derived.Test.YtfmaoblhoafnhajNm09
namespace Go.Proofs.Ytfmaoblhoafnhaj
open Go.ChangeShapes Go.WideShapes Go.ChangeAt Go.RowKit
set_option linter.unusedVariables false

/-- A block holds just these cells, of this type. -/
def Blk (u : World) (e : TypeId) (b : Nat) (vs : List Value) : Prop := u.heap[b]? = some (.cells vs.toArray e (0, 0))
section
variable {W u w : World} {e e' : TypeId} {b b' n i : Nat} {vs vs' : List Value} {x : Value} {ob : Obj}
theorem Blk.lt (h : Blk u e b vs) : b < u.heap.size := by
  apply Classical.byContradiction
  intro k
  unfold Blk at h
  rw [Array.getElem?_eq_none (by omega)] at h
  cases h
theorem Blk.c (h : Blk u e b vs) (i : Nat) (v : Value) (hv : vs[i]? = some v) : u.cell? ⟨b, i, none⟩ = some v := by
  unfold World.cell?
  rw [show u.heap[(⟨b, i, none⟩ : Addr).block]? = some (.cells vs.toArray e (0, 0)) from h]
  simpa using hv
theorem Blk.f (h : Blk u e b vs) (i : Nat) : u.frozen? ⟨b, i, none⟩ = false := by
  unfold World.frozen?
  rw [show u.heap[(⟨b, i, none⟩ : Addr).block]? = some (.cells vs.toArray e (0, 0)) from h]
  simp
theorem Blk.ne (h : Blk u e b vs) (h' : Blk u e' b' vs') (ne : e ≠ e') : b ≠ b' := by
  rintro rfl
  unfold Blk at h h'
  rw [h] at h'
  simp at h'
  exact ne h'.2
theorem Blk.al (h : Blk W e b vs) : Blk (W.alloc ob) e b vs := (Below.heap_alloc _ _ _ h.lt).trans h
theorem Blk.made (hb : b = W.heap.size) : Blk (W.alloc (.cells vs.toArray e)) e b vs := by
  subst hb
  show (W.heap.push _)[W.heap.size]? = _
  simp
theorem Blk.dr (h : Blk W e b vs) : Blk W.drew e b vs := h
theorem Blk.drn (h : Blk W e b vs) : Blk (W.drewN n) e b vs := h
theorem Blk.on (hb : Below W.heap.size W u) (h : Blk W e b vs) : Blk u e b vs := (hb.block b h.lt).trans h
theorem Blk.grown {row : Option Nat} (hg : W.grownBy u row) (hne : some b ≠ row) (h : Blk W e b vs) : Blk u e b vs := (hg.block b h.lt hne).trans h
theorem Blk.far (hne : b ≠ b') (h : Blk W e b vs) : Blk (W.setCell ⟨b', i, none⟩ x) e b vs := (Deep.blk_setCell_other W ⟨b', i, none⟩ x b hne).trans h
theorem Blk.put (i : Nat) (h : Blk W e b vs) : Blk (W.setCell ⟨b, i, none⟩ x) e b (vs.set i x) := by
  unfold Blk at *
  show (W.heap.modify b _)[b]? = _
  rw [Array.getElem?_modify, if_pos rfl, h]
  simp
end
/-- A row of a table: its numbers; whether there is any. -/
def rowD (S : Tb) (n i : Nat) : List Value := (List.range n).map fun k => .int .i64 ((S i k).getD 0)
def rowH (S : Tb) (n i : Nat) : List Value := (List.range n).map fun k => .bool (S i k).isSome
theorem rowD_at (S : Tb) (n i k : Nat) (h : k < n) : (rowD S n i)[k]? = some (.int .i64 ((S i k).getD 0)) := by simp [rowD, h]
theorem rowH_at (S : Tb) (n i k : Nat) (h : k < n) : (rowH S n i)[k]? = some (.bool (S i k).isSome) := by simp [rowH, h]
/-- One bound turned. -/
def upd (S : Tb) (i b : Nat) (x : Int) : Tb := fun i' k => if i' = i ∧ k = b then some x else S i' k
theorem upd_rowD (S : Tb) (n i b : Nat) (x : Int) : rowD (upd S i b x) n i = (rowD S n i).set b (.int .i64 x) := by
  apply List.ext_getElem?
  intro k
  by_cases hk : k < n
  · rw [rowD_at _ _ _ _ hk]
    by_cases e : b = k
    · subst e
      rw [List.getElem?_set_self (by simp [rowD]; exact hk)]
      simp [upd]
    · rw [List.getElem?_set_ne e, rowD_at _ _ _ _ hk]
      simp [upd, show ¬ k = b from fun h => e h.symm]
  · rw [List.getElem?_eq_none (by simp [rowD]; omega), List.getElem?_eq_none (by simp [rowD]; omega)]
theorem upd_rowH (S : Tb) (n i b : Nat) (x : Int) : rowH (upd S i b x) n i = (rowH S n i).set b (.bool true) := by
  apply List.ext_getElem?
  intro k
  by_cases hk : k < n
  · rw [rowH_at _ _ _ _ hk]
    by_cases e : b = k
    · subst e
      rw [List.getElem?_set_self (by simp [rowH]; exact hk)]
      simp [upd]
    · rw [List.getElem?_set_ne e, rowH_at _ _ _ _ hk]
      simp [upd, show ¬ k = b from fun h => e h.symm]
  · rw [List.getElem?_eq_none (by simp [rowH]; omega), List.getElem?_eq_none (by simp [rowH]; omega)]
theorem upd_rowD_other (S : Tb) (n i j b : Nat) (x : Int) (h : j ≠ i) : rowD (upd S i b x) n j = rowD S n j := by simp [rowD, upd, h]
theorem upd_rowH_other (S : Tb) (n i j b : Nat) (x : Int) (h : j ≠ i) : rowH (upd S i b x) n j = rowH S n j := by simp [rowH, upd, h]
/-- A table in memory: two slices of rows. -/
structure Tab (u : World) (gd gh n : Nat) (Db Hb : Nat → Nat) (S : Tb) : Prop where
  outD : ∀ i, i < n → u.cell? ⟨gd, i, none⟩ = some (.slice (some ⟨Db i, 0, none⟩) n n)
  outH : ∀ i, i < n → u.cell? ⟨gh, i, none⟩ = some (.slice (some ⟨Hb i, 0, none⟩) n n)
  inD : ∀ i, i < n → Blk u 3 (Db i) (rowD S n i)
  inH : ∀ i, i < n → Blk u 4 (Hb i) (rowH S n i)
  oneD : ∀ i j, i < n → j < n → i ≠ j → Db i ≠ Db j
  oneH : ∀ i j, i < n → j < n → i ≠ j → Hb i ≠ Hb j
  apD : ∀ i, i < n → gd ≠ Db i ∧ gd ≠ Hb i
  apH : ∀ i, i < n → gh ≠ Db i ∧ gh ≠ Hb i
section
variable {u W : World} {gd gh n : Nat} {Db Hb : Nat → Nat} {S : Tb}
theorem Tab.ap (h : Tab u gd gh n Db Hb S) {i j : Nat} (hi : i < n) (hj : j < n) : Db i ≠ Hb j := (h.inD i hi).ne (h.inH j hj) (by decide)
theorem Tab.on (hb : Below W.heap.size W u) (h : Tab W gd gh n Db Hb S) : Tab u gd gh n Db Hb S :=
  ⟨fun i hi => by rw [hb.cell (World.block_lt_of_cell? _ _ (h.outD i hi))]; exact h.outD i hi, fun i hi => by rw [hb.cell (World.block_lt_of_cell? _ _ (h.outH i hi))]; exact h.outH i hi,
    fun i hi => (h.inD i hi).on hb, fun i hi => (h.inH i hi).on hb, h.oneD, h.oneH, h.apD, h.apH⟩
theorem Tab.drn {m : Nat} (h : Tab W gd gh n Db Hb S) : Tab (W.drewN m) gd gh n Db Hb S := ⟨h.outD, h.outH, h.inD, h.inH, h.oneD, h.oneH, h.apD, h.apH⟩
theorem Tab.dr (h : Tab W gd gh n Db Hb S) : Tab W.drew gd gh n Db Hb S := ⟨h.outD, h.outH, h.inD, h.inH, h.oneD, h.oneH, h.apD, h.apH⟩
/-- A number is stored, and that there is one. -/
theorem Tab.put (h : Tab W gd gh n Db Hb S) {i b : Nat} (hi : i < n) (x : Int) : Tab ((W.setCell ⟨Db i, b, none⟩ (.int .i64 x)).setCell ⟨Hb i, b, none⟩ (.bool true)) gd gh n Db Hb (upd S i b x) := by
  refine ⟨fun j hj => ?_, fun j hj => ?_, fun j hj => ?_, fun j hj => ?_, h.oneD, h.oneH, h.apD, h.apH⟩
  · rw [World.cell?_setCell_far _ _ _ _ (fun k => (h.apD i hi).2 k.symm), World.cell?_setCell_far _ _ _ _ (fun k => (h.apD i hi).1 k.symm)]; exact h.outD j hj
  · rw [World.cell?_setCell_far _ _ _ _ (fun k => (h.apH i hi).2 k.symm), World.cell?_setCell_far _ _ _ _ (fun k => (h.apH i hi).1 k.symm)]; exact h.outH j hj
  · by_cases e : j = i
    · subst e
      rw [upd_rowD]
      exact ((h.inD j hj).put b).far (h.ap hj hj)
    · rw [upd_rowD_other _ _ _ _ _ _ e]
      exact ((h.inD j hj).far (h.oneD j i hj hi e)).far (h.ap hj hi)
  · by_cases e : j = i
    · subst e
      rw [upd_rowH]
      exact ((h.inH j hj).far (fun k => h.ap hj hj k.symm)).put b
    · rw [upd_rowH_other _ _ _ _ _ _ e]
      exact ((h.inH j hj).far (fun k => h.ap hi hj k.symm)).far (h.oneH j i hj hi e)
end
/-- A step along an arc, as a store or none. -/
theorem rlx_upd (S : Tb) (i a b : Nat) (c x : Int) (h : S i a = some x) (g : S i b = none ∨ ∃ y, S i b = some y ∧ x + c < y) : rlx S i a b c = upd S i b (x + c) := by
  funext i' k
  unfold rlx upd
  by_cases e : i' = i ∧ k = b
  · rw [if_pos e, if_pos e, h]
    rcases g with g | ⟨y, g, lt⟩
    · rw [g]
    · rw [g]; simp only; rw [if_pos lt]
  · rw [if_neg e, if_neg e]
theorem rlx_same (S : Tb) (i a b : Nat) (c : Int) (g : S i a = none ∨ ∃ x y, S i a = some x ∧ S i b = some y ∧ ¬ x + c < y) : rlx S i a b c = S := by
  funext i' k
  unfold rlx
  by_cases e : i' = i ∧ k = b
  · obtain ⟨rfl, rfl⟩ := e
    rw [if_pos ⟨rfl, rfl⟩]
    rcases g with g | ⟨x, y, g1, g2, nl⟩
    · rw [g]
    · rw [g1, g2]; simp only; rw [if_neg nl]
  · rw [if_neg e]
end Go.Proofs.Ytfmaoblhoafnhaj
namespace Go.Proofs.Ytfmaoblhoafnhaj
open Go.ChangeShapes Go.WideShapes Go.ChangeAt Go.RowKit
set_option linter.unusedVariables false

/-- The table of the least ways, just so. -/
def IsT (q : Nat → Eg) (m n : Nat) (T : Tb) : Prop := ∀ i k, i < n → (∀ x, T i k = some x → Dst (Arc q m) i k x) ∧ (T i k = none → ∀ r c, ¬ Wk (Arc q m) r i k c)
section
variable {q : Nat → Eg} {m n : Nat} {T T' : Tb}
theorem IsT.one (h : IsT q m n T) (h' : IsT q m n T') {i : Nat} (hi : i < n) (k : Nat) : T i k = T' i k := by
  cases e : T i k with
  | none =>
    cases e' : T' i k with
    | none => rfl
    | some y =>
      obtain ⟨⟨r, w⟩, _⟩ := (h' i k hi).1 y e'
      exact absurd w ((h i k hi).2 e r y)
  | some x =>
    cases e' : T' i k with
    | none =>
      obtain ⟨⟨r, w⟩, _⟩ := (h i k hi).1 x e
      exact absurd w ((h' i k hi).2 e' r x)
    | some y => rw [((h i k hi).1 x e).one ((h' i k hi).1 y e')]
theorem IsT.back (h : IsT q m n T) {i k : Nat} (hi : i < n) (hk : k < n) {x : Int} (e : T i k = some x) : ∃ y, T k i = some y := by
  obtain ⟨⟨r, w⟩, _⟩ := (h i k hi).1 x e
  obtain ⟨r', c', w'⟩ := wk_back w
  cases e' : T k i with
  | none => exact absurd w' ((h k i hk).2 e' r' c')
  | some y => exact ⟨y, rfl⟩
/-- An end beyond the greatest time. -/
def Far (n : Nat) (T : Tb) : Prop := ∃ i k x, i < n ∧ k < n ∧ T i k = some x ∧ (x < -1000000000000 ∨ 1000000000000 < x)
theorem Far.same (h : IsT q m n T) (h' : IsT q m n T') (f : Far n T) : Far n T' := by
  obtain ⟨i, k, x, hi, hk, e, g⟩ := f
  exact ⟨i, k, x, hi, hk, by rw [← h.one h' hi k]; exact e, g⟩
theorem not_far (h : ¬ Far n T) {i k : Nat} {x : Int} (hi : i < n) (hk : k < n) (e : T i k = some x) : -1000000000000 ≤ x ∧ x ≤ 1000000000000 := by
  apply Classical.byContradiction
  intro c
  exact h ⟨i, k, x, hi, hk, e, by omega⟩
end
/-- The span of two nodes: none is told by zeros. -/
def spLo (T : Tb) (i k : Nat) : Int := match T i k with
  | none => 0
  | some _ => -((T k i).getD 0)
def spHi (T : Tb) (i k : Nat) : Int := (T i k).getD 0
/-- What All answers, of edges as they may be: its error, and the table that is told if there is none. -/
def AllA (q : Nat → Eg) (m n : Nat) (e : Int) (T : Tb) : Prop := (Neg (Arc q m) n ∧ e = 7) ∨ (¬ Neg (Arc q m) n ∧ IsT q m n T ∧ ((Far n T ∧ e = 1) ∨ (¬ Far n T ∧ e = 0)))
theorem AllA.e_one {q : Nat → Eg} {m n : Nat} {e e' : Int} {T T' : Tb} (h : AllA q m n e T) (h' : AllA q m n e' T') : e = e' := by
  rcases h with ⟨g, rfl⟩ | ⟨g, t, f⟩
  · rcases h' with ⟨_, rfl⟩ | ⟨g', _⟩
    · rfl
    · exact absurd g g'
  · rcases h' with ⟨g', _⟩ | ⟨_, t', f'⟩
    · exact absurd g' g
    · rcases f with ⟨f, rfl⟩ | ⟨f, rfl⟩
      · rcases f' with ⟨_, rfl⟩ | ⟨f', _⟩
        · rfl
        · exact absurd (f.same t t') f'
      · rcases f' with ⟨f', _⟩ | ⟨_, rfl⟩
        · exact absurd (f'.same t' t) f
        · rfl
/-- All, of any edges. -/
def AllE (z : Int) (q : Nat → Eg) (m : Nat) (e : Int) (T : Tb) : Prop := (eE z q m ≠ 0 ∧ e = eE z q m) ∨ (eE z q m = 0 ∧ AllA q m z.toNat e T)
/-- Between, of any edges and any two nodes. -/
def BetA (z : Int) (q : Nat → Eg) (m : Nat) (a b lo hi e : Int) : Prop :=
  (eE z q m ≠ 0 ∧ lo = 0 ∧ hi = 0 ∧ e = eE z q m) ∨ (eE z q m = 0 ∧ (a < 0 ∨ z ≤ a ∨ b < 0 ∨ z ≤ b) ∧ lo = 0 ∧ hi = 0 ∧ e = 1) ∨
  (eE z q m = 0 ∧ (0 ≤ a ∧ a < z ∧ 0 ≤ b ∧ b < z) ∧ ∃ f T, AllA q m z.toNat f T ∧
    ((f ≠ 0 ∧ lo = 0 ∧ hi = 0 ∧ e = f) ∨ (f = 0 ∧ T a.toNat b.toNat = none ∧ lo = 0 ∧ hi = 0 ∧ e = 5) ∨ (f = 0 ∧ (∃ x, T a.toNat b.toNat = some x) ∧ lo = spLo T a.toNat b.toNat ∧ hi = spHi T a.toNat b.toNat ∧ e = 0)))
/-- The first clock that is no time. -/
def badC (c : Nat → Int) (k : Nat) : Prop := ∃ i, i < k ∧ (c i < -1000000000000 ∨ 1000000000000 < c i)
/-- Do clocks fit the first m edges? -/
def fitB (q : Nat → Eg) (c : Nat → Int) : Nat → Bool
  | 0 => true
  | m + 1 => fitB q c m && (decide ((q m).lo ≤ c (q m).b.toNat - c (q m).a.toNat) && decide (c (q m).b.toNat - c (q m).a.toNat ≤ (q m).hi))
/-- Fits, of any edges and any clocks. -/
def FitA (z : Int) (q : Nat → Eg) (m k : Nat) (c : Nat → Int) (b : Bool) (e : Int) : Prop :=
  (eE z q m ≠ 0 ∧ b = false ∧ e = eE z q m) ∨ (eE z q m = 0 ∧ (k : Int) ≠ z ∧ b = false ∧ e = 3) ∨ (eE z q m = 0 ∧ (k : Int) = z ∧ badC c k ∧ b = false ∧ e = 1) ∨
  (eE z q m = 0 ∧ (k : Int) = z ∧ ¬ badC c k ∧ b = fitB q c m ∧ e = 0)
/-- What is told of all, as it lies in memory. -/
def STab (u : World) (s h : Value) (n : Nat) (T : Tb) : Prop :=
  ∃ (sb so sc hb ho hc : Nat) (rb ro rc gb go gc : Nat → Nat), s = .slice (some ⟨sb, so, none⟩) n sc ∧ h = .slice (some ⟨hb, ho, none⟩) n hc ∧
    (∀ i, i < n → u.cell? ⟨sb, so + i, none⟩ = some (.slice (some ⟨rb i, ro i, none⟩) n (rc i)) ∧ u.cell? ⟨hb, ho + i, none⟩ = some (.slice (some ⟨gb i, go i, none⟩) n (gc i))) ∧
    (∀ i k, i < n → k < n → u.cell? ⟨rb i, ro i + k * 2, none⟩ = some (.int .i64 (spLo T i k)) ∧ u.cell? ⟨rb i, ro i + k * 2 + 1, none⟩ = some (.int .i64 (spHi T i k)) ∧ u.cell? ⟨gb i, go i + k, none⟩ = some (.bool (T i k).isSome))
theorem STab.on {W u : World} {s h : Value} {n : Nat} {T : Tb} (hb : Below W.heap.size W u) (t : STab W s h n T) : STab u s h n T := by
  obtain ⟨sb, so, sc, hb', ho, hc, rb, ro, rc, gb, go, gc, e1, e2, r1, r2⟩ := t
  have on : ∀ (a : Addr) (v : Value), W.cell? a = some v → u.cell? a = some v := fun a v e => by rw [hb.cell (World.block_lt_of_cell? _ _ e)]; exact e
  exact ⟨sb, so, sc, hb', ho, hc, rb, ro, rc, gb, go, gc, e1, e2, fun i hi => ⟨on _ _ (r1 i hi).1, on _ _ (r1 i hi).2⟩, fun i k hi hk => ⟨on _ _ (r2 i k hi hk).1, on _ _ (r2 i k hi hk).2.1, on _ _ (r2 i k hi hk).2.2⟩⟩

end Go.Proofs.Ytfmaoblhoafnhaj
namespace Go.Proofs.Ytfmaoblhoafnhaj
open Go.ChangeShapes Go.WideShapes Go.ChangeAt Go.RowKit
set_option linter.unusedVariables false

theorem least_nat (P : Nat → Prop) : ∀ n, P n → ∃ k, P k ∧ ∀ j, j < k → ¬ P j := by
  intro n
  induction n using Nat.strongRecOn with
  | _ n ih =>
    intro h
    by_cases c : ∃ j, j < n ∧ P j
    · obtain ⟨j, hj, hp⟩ := c
      exact ih j hj hp
    · exact ⟨n, h, fun j hj hp => c ⟨j, hj, hp⟩⟩
section
variable {q : Nat → Eg} {m n : Nat}
theorem wk_low (hE : Egs n q m) : ∀ {r i k : Nat} {c : Int}, Wk (Arc q m) r i k c → -((r : Int) * 1000000000000) ≤ c := by
  intro r
  induction r with
  | zero =>
    intro i k c w
    obtain ⟨_, rfl⟩ := w.zero
    omega
  | succ r ih =>
    intro i k c w
    obtain ⟨j, a, b, w1, g, rfl⟩ := w.last
    have h1 := ih w1
    have h2 := hE.small g
    omega
theorem dst_some (hE : Egs n q m) (hN : ¬ Neg (Arc q m) n) {i k r : Nat} {c : Int} (hi : i < n) (w : Wk (Arc q m) r i k c) : ∃ d, Dst (Arc q m) i k d := by
  have low : ∀ r c, Wk (Arc q m) r i k c → -6000000000000 ≤ c := fun r c w => by
    obtain ⟨r', c', h1, h2, w'⟩ := short hE.arc (not_neg hN) r i k c hi w
    have h3 := wk_low hE w'
    have h4 := hE.n6
    omega
  obtain ⟨t, ⟨r', w'⟩, hm⟩ := least_nat (fun t => ∃ r, Wk (Arc q m) r i k ((t : Int) - 6000000000000)) (c + 6000000000000).toNat (by
    have := low r c w
    refine ⟨r, ?_⟩
    rw [show (((c + 6000000000000).toNat : Nat) : Int) - 6000000000000 = c by omega]
    exact w)
  refine ⟨(t : Int) - 6000000000000, ⟨r', w'⟩, fun s c' v => ?_⟩
  apply Classical.byContradiction
  intro h
  have := low s c' v
  refine hm (c' + 6000000000000).toNat (by omega) ⟨s, ?_⟩
  rw [show (((c' + 6000000000000).toNat : Nat) : Int) - 6000000000000 = c' by omega]
  exact v
open Classical in
theorem isT_some (hE : Egs n q m) (hN : ¬ Neg (Arc q m) n) : ∃ T, IsT q m n T := by
  refine ⟨fun i k => if h : ∃ c, Dst (Arc q m) i k c then some h.choose else none, fun i k hi => ⟨fun x e => ?_, fun e r c w => ?_⟩⟩
  · by_cases h : ∃ c, Dst (Arc q m) i k c
    · simp only [dif_pos h] at e
      obtain rfl := Option.some.inj e
      exact h.choose_spec
    · simp only [dif_neg h] at e
      cases e
  · have h := dst_some hE hN hi w
    simp only [dif_pos h] at e
    cases e
theorem allA_some (hE : Egs n q m) : ∃ e T, AllA q m n e T := by
  by_cases hN : Neg (Arc q m) n
  · exact ⟨7, tb0, Or.inl ⟨hN, rfl⟩⟩
  · obtain ⟨T, hT⟩ := isT_some hE hN
    by_cases f : Far n T
    · exact ⟨1, T, Or.inr ⟨hN, hT, Or.inl ⟨f, rfl⟩⟩⟩
    · exact ⟨0, T, Or.inr ⟨hN, hT, Or.inr ⟨f, rfl⟩⟩⟩
end
theorem fitA_some (z : Int) (q : Nat → Eg) (m k : Nat) (c : Nat → Int) : ∃ b e, FitA z q m k c b e := by
  by_cases h : eE z q m = 0
  · by_cases h1 : (k : Int) = z
    · by_cases h2 : badC c k
      · exact ⟨_, _, Or.inr (Or.inr (Or.inl ⟨h, h1, h2, rfl, rfl⟩))⟩
      · exact ⟨_, _, Or.inr (Or.inr (Or.inr ⟨h, h1, h2, rfl, rfl⟩))⟩
    · exact ⟨_, _, Or.inr (Or.inl ⟨h, h1, rfl, rfl⟩)⟩
  · exact ⟨_, _, Or.inl ⟨h, rfl, rfl⟩⟩
theorem betA_some {q : Nat → Eg} {m n : Nat} {f : Int} {T : Tb} (hZ : eE n q m = 0) (hA : AllA q m n f T) (a b : Int) : ∃ lo hi e, BetA n q m a b lo hi e := by
  by_cases c : 0 ≤ a ∧ a < n ∧ 0 ≤ b ∧ b < n
  · by_cases h : f = 0
    · cases t : T a.toNat b.toNat with
      | none => exact ⟨0, 0, 5, Or.inr (Or.inr ⟨hZ, c, f, T, by rw [Int.toNat_natCast]; exact hA, Or.inr (Or.inl ⟨h, t, rfl, rfl, rfl⟩)⟩)⟩
      | some x => exact ⟨_, _, 0, Or.inr (Or.inr ⟨hZ, c, f, T, by rw [Int.toNat_natCast]; exact hA, Or.inr (Or.inr ⟨h, ⟨x, t⟩, rfl, rfl, rfl⟩)⟩)⟩
    · exact ⟨0, 0, f, Or.inr (Or.inr ⟨hZ, c, f, T, by rw [Int.toNat_natCast]; exact hA, Or.inl ⟨h, rfl, rfl, rfl⟩⟩)⟩
  · exact ⟨0, 0, 1, Or.inr (Or.inl ⟨hZ, by omega, rfl, rfl, rfl⟩)⟩
end Go.Proofs.Ytfmaoblhoafnhaj
namespace Go.Proofs.Ytfmaoblhoafnhaj
set_option linter.unusedVariables false

/-- The edges of all nodes, one node behind the other. -/
def eoN (N : Nn) : List Eg := (List.range N.W.n).flatMap (fun i => (N.nd i).eo (N.W.rd i))
/-- What each of them is. -/
structure EdT (N : Nn) (x : Eg) : Prop where
  ex : ∃ i k : Nat, i < N.W.n ∧ k < N.W.n ∧ i ≠ k ∧ (N.nd i).has k = true ∧ x.a = i ∧ x.b = k ∧ x.lo = (N.nd i).alo k (N.W.rd i) ∧ x.hi = (N.nd i).ahi k (N.W.rd i) ∧ x.lo ≤ N.W.rd k - N.W.rd i ∧ N.W.rd k - N.W.rd i ≤ x.hi ∧ -4000000000 ≤ x.lo ∧ x.hi ≤ 4000000000
theorem eo_mem {c : Nd} {t : Int} {x : Eg} (h : x ∈ c.eo t) : ∃ k : Nat, k < c.n ∧ c.has k = true ∧ x = ⟨(c.id : Int), (k : Int), c.alo k t, c.ahi k t⟩ := by
  unfold Nd.eo at h
  obtain ⟨k, hk, rfl⟩ := List.mem_map.1 h
  obtain ⟨h1, h2⟩ := List.mem_filter.1 hk
  exact ⟨k, List.mem_range.1 h1, h2, rfl⟩
theorem eoN_mem {N : Nn} (g : N.T) {x : Eg} (h : x ∈ eoN N) : EdT N x := by
  obtain ⟨i, hi, hx⟩ := List.mem_flatMap.1 h
  have hi' := List.mem_range.1 hi
  have kn := g.kn i hi'
  obtain ⟨k, k1, k2, rfl⟩ := eo_mem hx
  have ag := kn.aged g.g hi' k2
  obtain ⟨q1, q2, _⟩ := kn.kn k k2
  exact ⟨i, k, hi', q1, fun e => q2 e.symm, k2, by show ((N.nd i).id : Int) = i; rw [kn.id], rfl, rfl, rfl, ag.1, ag.2.1, ag.2.2.1, ag.2.2.2⟩
theorem eo_len (c : Nd) (t : Int) : (c.eo t).length ≤ c.n := by
  unfold Nd.eo
  rw [List.length_map]
  exact Nat.le_trans (List.length_filter_le _ _) (by rw [List.length_range]; exact Nat.le_refl _)
theorem flat_len {α β : Type} (f : α → List β) (m : Nat) : ∀ (l : List α), (∀ x, x ∈ l → (f x).length ≤ m) → (l.flatMap f).length ≤ l.length * m
  | [], _ => by simp
  | a :: r, h => by
    rw [List.flatMap_cons, List.length_append, List.length_cons, Nat.succ_mul]
    have := h a (by simp)
    have := flat_len f m r (fun x hx => h x (by simp [hx]))
    omega
theorem eoN_len {N : Nn} (g : N.T) : (eoN N).length ≤ 36 := by
  have h6 := g.g.i.n6
  have := flat_len (fun i => (N.nd i).eo (N.W.rd i)) 6 (List.range N.W.n) (fun i hi => by
    have e := (g.kn i (List.mem_range.1 hi)).n
    have := eo_len (N.nd i) (N.W.rd i)
    omega)
  rw [List.length_range] at this
  unfold eoN
  omega
theorem egf_mem {l : List Eg} {i : Nat} (h : i < l.length) : egf l i ∈ l := by
  unfold egf
  rw [List.getD_eq_getElem?_getD, List.getElem?_eq_getElem h]
  exact List.getElem_mem h
theorem eoN_egs {N : Nn} (g : N.T) : Egs N.W.n (egf (eoN N)) (eoN N).length := by
  refine ⟨by have := g.g.i.n1; omega, by have := g.g.i.n6; omega, by have := eoN_len g; omega, fun i hi => ?_⟩
  obtain ⟨a, b, h1, h2, h3, h4, h5, h6, _, _, h7, h8, h9, h10⟩ := (eoN_mem g (egf_mem hi)).ex
  refine ⟨?_, by rw [h5, h6]; omega, okB_mk ⟨by omega, by omega, by omega⟩⟩
  unfold inN
  rw [h5, h6]
  omega
theorem egs_e {n : Int} {q : Nat → Eg} {m : Nat} (h : Egs n q m) : eE n q m = 0 := by
  have n1 := h.n1
  have n6 := h.n6
  have m40 := h.m40
  unfold eE
  rw [if_neg (by omega), if_neg (by omega)]
  refine eFr_ok (fun i hi => ?_)
  obtain ⟨h1, h2, h3⟩ := h.each i hi
  unfold inN at h1
  unfold eEr
  rw [if_neg (by omega), if_neg h2, if_pos h3]
/-- All clocks, as they are, fit all edges. -/
theorem eoN_arc {N : Nn} (g : N.T) : ∀ u v c, Arc (egf (eoN N)) (eoN N).length u v c → N.W.rd v - N.W.rd u ≤ c ∧ c ≤ 4000000000 := by
  rintro u v c ⟨j, hj, q⟩
  obtain ⟨a, b, h1, h2, h3, h4, h5, h6, _, _, h7, h8, h9, h10⟩ := (eoN_mem g (egf_mem hj)).ex
  rcases q with ⟨q1, q2, rfl⟩ | ⟨q1, q2, rfl⟩
  · obtain rfl : u = a := by omega
    obtain rfl : v = b := by omega
    exact ⟨h8, h10⟩
  · obtain rfl : u = b := by omega
    obtain rfl : v = a := by omega
    omega
theorem fitB_of {q : Nat → Eg} {c : Nat → Int} : ∀ m, (∀ j, j < m → (q j).lo ≤ c (q j).b.toNat - c (q j).a.toNat ∧ c (q j).b.toNat - c (q j).a.toNat ≤ (q j).hi) → fitB q c m = true
  | 0, _ => rfl
  | m + 1, h => by
    have h1 := h m (by omega)
    simp only [fitB, Bool.and_eq_true, decide_eq_true_eq]
    exact ⟨fitB_of m (fun j hj => h j (by omega)), h1.1, h1.2⟩
theorem eoN_fit {N : Nn} (g : N.T) : fitB (egf (eoN N)) (fun i => N.W.rd i) (eoN N).length = true := by
  refine fitB_of _ (fun j hj => ?_)
  obtain ⟨a, b, h1, h2, h3, h4, h5, h6, _, _, h7, h8, h9, h10⟩ := (eoN_mem g (egf_mem hj)).ex
  rw [h5, h6, Int.toNat_natCast, Int.toNat_natCast]
  exact ⟨h7, h8⟩
theorem rd_t {N : Nn} (g : N.T) {i : Nat} (hi : i < N.W.n) : 0 ≤ N.W.rd i ∧ N.W.rd i ≤ 1002000000 := by
  have := shw_b g.g hi g.g.i.t0 (Int.le_refl _)
  rwa [shw_rd] at this
theorem eoN_fitA {N : Nn} (g : N.T) : FitA N.W.n (egf (eoN N)) (eoN N).length N.W.n (fun i => N.W.rd i) true 0 := by
  refine Or.inr (Or.inr (Or.inr ⟨egs_e (eoN_egs g), rfl, ?_, (eoN_fit g).symm, rfl⟩))
  rintro ⟨i, hi, h⟩
  have := rd_t g hi
  have h' : N.W.rd i < -1000000000000 ∨ 1000000000000 < N.W.rd i := h
  omega
theorem eoN_nn {N : Nn} (g : N.T) (n : Nat) : ¬ Neg (Arc (egf (eoN N)) (eoN N).length) n := fun h => h.unfit (x := fun i => N.W.rd i) (fun u v c q => (eoN_arc g u v c q).1)
theorem wk_top {R : Nat → Nat → Int → Prop} {K : Int} (hR : ∀ u v c, R u v c → c ≤ K) : ∀ {r i k : Nat} {c : Int}, Wk R r i k c → c ≤ (r : Int) * K := by
  intro r
  induction r with
  | zero =>
    intro i k c w
    obtain ⟨rfl, rfl⟩ := w.zero
    omega
  | succ r ih =>
    intro i k c w
    obtain ⟨j, a, b, w1, g, rfl⟩ := w.last
    have h1 := ih w1
    have h2 := hR _ _ _ g
    have e : ((r + 1 : Nat) : Int) * K = (r : Int) * K + K := by rw [Int.natCast_add, Int.add_mul]; simp
    omega
theorem eoN_all {N : Nn} (g : N.T) : ∃ T, AllA (egf (eoN N)) (eoN N).length N.W.n 0 T := by
  have hE := eoN_egs g
  obtain ⟨T, hT⟩ := isT_some hE (eoN_nn g N.W.n)
  refine ⟨T, Or.inr ⟨eoN_nn g N.W.n, hT, Or.inr ⟨?_, rfl⟩⟩⟩
  rintro ⟨i, k, x, hi, hk, e, f⟩
  obtain ⟨⟨r, w⟩, m⟩ := (hT i k hi).1 x e
  have lo := wk_fit (x := fun i => N.W.rd i) (fun u v c q => (eoN_arc g u v c q).1) w
  obtain ⟨r', c', h1, h2, w'⟩ := short hE.arc (not_neg (eoN_nn g N.W.n)) r i k x hi w
  have h3 := m r' c' w'
  have h4 := wk_top (K := 4000000000) (fun u v c q => (eoN_arc g u v c q).2) w'
  have ri := rd_t g hi
  have rk := rd_t g hk
  have h6 := g.g.i.n6
  have lo' : N.W.rd k - N.W.rd i ≤ x := lo
  have h5 : (r' : Int) * 4000000000 ≤ 5 * 4000000000 := Int.mul_le_mul_of_nonneg_right (by omega) (by omega)
  omega
/-- What is told of two nodes has how their clocks truly differ. -/
theorem eoN_bet {N : Nn} (g : N.T) {a b lo hi e : Int} (ha : 0 ≤ a ∧ a < N.W.n ∧ 0 ≤ b ∧ b < N.W.n) (h : BetA N.W.n (egf (eoN N)) (eoN N).length a b lo hi e) :
    (e = 5 ∧ lo = 0 ∧ hi = 0 ∧ (∀ r c, ¬ Wk (Arc (egf (eoN N)) (eoN N).length) r a.toNat b.toNat c)) ∨ (e = 0 ∧ lo ≤ N.W.rd b.toNat - N.W.rd a.toNat ∧ N.W.rd b.toNat - N.W.rd a.toNat ≤ hi ∧ -1000000000000 ≤ lo ∧ hi ≤ 1000000000000 ∧ Dst (Arc (egf (eoN N)) (eoN N).length) a.toNat b.toNat hi ∧ Dst (Arc (egf (eoN N)) (eoN N).length) b.toNat a.toNat (-lo)) := by
  have hE := eoN_egs g
  obtain ⟨T0, h0⟩ := eoN_all g
  rcases h with ⟨h, _⟩ | ⟨_, h, _⟩ | ⟨_, _, f, T, hA, q⟩
  · exact absurd (egs_e hE) h
  · omega
  · rw [Int.toNat_natCast] at hA
    have f0 := hA.e_one h0
    subst f0
    have hA2 := hA
    rcases hA with ⟨_, c⟩ | ⟨_, hT, ⟨_, c⟩ | ⟨nf, _⟩⟩
    · cases c
    · cases c
    · have a1 : a.toNat < N.W.n := by omega
      have b1 : b.toNat < N.W.n := by omega
      rcases q with ⟨c, _⟩ | ⟨_, n, rfl, rfl, rfl⟩ | ⟨_, ⟨x, s⟩, rfl, rfl, rfl⟩
      · exact absurd rfl c
      · exact Or.inl ⟨rfl, rfl, rfl, (hT _ _ a1).2 n⟩
      · obtain ⟨y, s'⟩ := hT.back a1 b1 s
        have d1 := (hT _ _ a1).1 x s
        have d2 := (hT _ _ b1).1 y s'
        have eh : spHi T a.toNat b.toNat = x := by unfold spHi; rw [s]; rfl
        have el : spLo T a.toNat b.toNat = -y := by unfold spLo; rw [s, s']; rfl
        have fit : ∀ u v c, Arc (egf (eoN N)) (eoN N).length u v c → (fun i => N.W.rd i) v - (fun i => N.W.rd i) u ≤ c := fun u v c q => (eoN_arc g u v c q).1
        obtain ⟨⟨r1, w1⟩, _⟩ := d1
        obtain ⟨⟨r2, w2⟩, _⟩ := d2
        have x1 := wk_fit fit w1
        have x2 := wk_fit fit w2
        have n1 := not_far nf a1 b1 s
        have n2 := not_far nf b1 a1 s'
        rw [eh, el]
        refine Or.inr ⟨rfl, ?_, x1, by omega, by omega, (hT _ _ a1).1 x s, by rw [Int.neg_neg]; exact (hT _ _ b1).1 y s'⟩
        have x2' : N.W.rd a.toNat - N.W.rd b.toNat ≤ y := x2
        omega
theorem Kn.sp {S : Ws} {p : Int} {i : Nat} {c : Nd} (h : Kn S p i c) (g : RtB S p) (hi : i < S.n) : SpR c (S.rd i) 0 := by
  refine Or.inr (Or.inr ⟨h.nbk g hi, fun k _ hk => ?_, rfl⟩)
  have a := h.aged g hi hk
  exact okB_mk ⟨by omega, by omega, by omega⟩
/-- The edges of the first nodes. -/
def eoK (N : Nn) (k : Nat) : List Eg := (List.range k).flatMap (fun i => (N.nd i).eo (N.W.rd i))
theorem eoK_all (N : Nn) : eoK N N.W.n = eoN N := rfl
theorem eoK_more (N : Nn) (k : Nat) : eoK N (k + 1) = eoK N k ++ (N.nd k).eo (N.W.rd k) := by
  unfold eoK
  rw [List.range_succ, List.flatMap_append]
  simp
theorem eoK_len {N : Nn} (g : N.T) {k : Nat} (hk : k ≤ N.W.n) : (eoK N k).length ≤ 36 := by
  have h6 := g.g.i.n6
  have := flat_len (fun i => (N.nd i).eo (N.W.rd i)) 6 (List.range k) (fun i hi => by
    have e := (g.kn i (Nat.lt_of_lt_of_le (List.mem_range.1 hi) hk)).n
    have := eo_len (N.nd i) (N.W.rd i)
    omega)
  rw [List.length_range] at this
  unfold eoK
  omega
/-- How wide all are together. -/
def wid (n : Nat) (T : Tb) : Int := ((List.range n).map (fun a => ((List.range n).map (fun b => if a < b ∧ (T a b).isSome = true then spHi T a b - spLo T a b else 0)).sum)).sum
end Go.Proofs.Ytfmaoblhoafnhaj
