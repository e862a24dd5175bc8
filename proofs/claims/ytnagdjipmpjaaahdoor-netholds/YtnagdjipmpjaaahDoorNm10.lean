/- A block as it is, with its type; tables of ints and bools, row by row, as they lie in memory. What there is to be answered of bounds. -/
import Derived.Test.YtnagdjipmpjaaahDoorNm01
import Derived.OwnWalk
import Derived.Deep.Heap
import Derived.Deep.AppendLies
import Derived.Test.YtnagdjipmpjaaahDoorNm04
import Derived.Test.YtnagdjipmpjaaahDoorNm02
namespace Go.Proofs.YtnagdjipmpjaaahDoor
open Go.ChangeShapes Go.WideShapes Go.ChangeAt Go.RowKit
set_option linter.unusedVariables false

/-- A block holds just these cells, of this type. -/
def Blk (u : World) (e : TypeId) (b : Nat) (vs : List Value) : Prop := u.heap[b]? = some (.cells vs.toArray e (0, 0))
section
variable {W u w : World} {e e' : TypeId} {b b' n i : Nat} {vs vs' : List Value} {x : Value} {ob : Obj}
theorem Blk.lt (h : Blk u e b vs) : b < u.heap.size := by
  apply Classical.byContradiction
  intro k
  unfold Blk at h
  rw [Array.getElem?_eq_none (by omega)] at h
  cases h
theorem Blk.c (h : Blk u e b vs) (i : Nat) (v : Value) (hv : vs[i]? = some v) : u.cell? ⟨b, i, none⟩ = some v := by
  unfold World.cell?
  rw [show u.heap[(⟨b, i, none⟩ : Addr).block]? = some (.cells vs.toArray e (0, 0)) from h]
  simpa using hv
theorem Blk.f (h : Blk u e b vs) (i : Nat) : u.frozen? ⟨b, i, none⟩ = false := by
  unfold World.frozen?
  rw [show u.heap[(⟨b, i, none⟩ : Addr).block]? = some (.cells vs.toArray e (0, 0)) from h]
  simp
theorem Blk.ne (h : Blk u e b vs) (h' : Blk u e' b' vs') (ne : e ≠ e') : b ≠ b' := by
  rintro rfl
  unfold Blk at h h'
  rw [h] at h'
  simp at h'
  exact ne h'.2
theorem Blk.al (h : Blk W e b vs) : Blk (W.alloc ob) e b vs := (Below.heap_alloc _ _ _ h.lt).trans h
theorem Blk.made (hb : b = W.heap.size) : Blk (W.alloc (.cells vs.toArray e)) e b vs := by
  subst hb
  show (W.heap.push _)[W.heap.size]? = _
  simp
theorem Blk.dr (h : Blk W e b vs) : Blk W.drew e b vs := h
theorem Blk.drn (h : Blk W e b vs) : Blk (W.drewN n) e b vs := h
theorem Blk.on (hb : Below W.heap.size W u) (h : Blk W e b vs) : Blk u e b vs := (hb.block b h.lt).trans h
theorem Blk.grown {row : Option Nat} (hg : W.grownBy u row) (hne : some b ≠ row) (h : Blk W e b vs) : Blk u e b vs := (hg.block b h.lt hne).trans h
theorem Blk.far (hne : b ≠ b') (h : Blk W e b vs) : Blk (W.setCell ⟨b', i, none⟩ x) e b vs := (Deep.blk_setCell_other W ⟨b', i, none⟩ x b hne).trans h
theorem Blk.put (i : Nat) (h : Blk W e b vs) : Blk (W.setCell ⟨b, i, none⟩ x) e b (vs.set i x) := by
  unfold Blk at *
  show (W.heap.modify b _)[b]? = _
  rw [Array.getElem?_modify, if_pos rfl, h]
  simp
end
/-- A row of a table: its numbers; whether there is any. -/
def rowD (S : Tb) (n i : Nat) : List Value := (List.range n).map fun k => .int .i64 ((S i k).getD 0)
def rowH (S : Tb) (n i : Nat) : List Value := (List.range n).map fun k => .bool (S i k).isSome
theorem rowD_at (S : Tb) (n i k : Nat) (h : k < n) : (rowD S n i)[k]? = some (.int .i64 ((S i k).getD 0)) := by simp [rowD, h]
theorem rowH_at (S : Tb) (n i k : Nat) (h : k < n) : (rowH S n i)[k]? = some (.bool (S i k).isSome) := by simp [rowH, h]
/-- One bound turned. -/
def upd (S : Tb) (i b : Nat) (x : Int) : Tb := fun i' k => if i' = i ∧ k = b then some x else S i' k
theorem upd_rowD (S : Tb) (n i b : Nat) (x : Int) : rowD (upd S i b x) n i = (rowD S n i).set b (.int .i64 x) := by
  apply List.ext_getElem?
  intro k
  by_cases hk : k < n
  · rw [rowD_at _ _ _ _ hk]
    by_cases e : b = k
    · subst e
      rw [List.getElem?_set_self (by simp [rowD]; exact hk)]
      simp [upd]
    · rw [List.getElem?_set_ne e, rowD_at _ _ _ _ hk]
      simp [upd, show ¬ k = b from fun h => e h.symm]
  · rw [List.getElem?_eq_none (by simp [rowD]; omega), List.getElem?_eq_none (by simp [rowD]; omega)]
theorem upd_rowH (S : Tb) (n i b : Nat) (x : Int) : rowH (upd S i b x) n i = (rowH S n i).set b (.bool true) := by
  apply List.ext_getElem?
  intro k
  by_cases hk : k < n
  · rw [rowH_at _ _ _ _ hk]
    by_cases e : b = k
    · subst e
      rw [List.getElem?_set_self (by simp [rowH]; exact hk)]
      simp [upd]
    · rw [List.getElem?_set_ne e, rowH_at _ _ _ _ hk]
      simp [upd, show ¬ k = b from fun h => e h.symm]
  · rw [List.getElem?_eq_none (by simp [rowH]; omega), List.getElem?_eq_none (by simp [rowH]; omega)]
theorem upd_rowD_other (S : Tb) (n i j b : Nat) (x : Int) (h : j ≠ i) : rowD (upd S i b x) n j = rowD S n j := by simp [rowD, upd, h]
theorem upd_rowH_other (S : Tb) (n i j b : Nat) (x : Int) (h : j ≠ i) : rowH (upd S i b x) n j = rowH S n j := by simp [rowH, upd, h]
/-- A table in memory: two slices of rows. -/
structure Tab (u : World) (gd gh n : Nat) (Db Hb : Nat → Nat) (S : Tb) : Prop where
  outD : ∀ i, i < n → u.cell? ⟨gd, i, none⟩ = some (.slice (some ⟨Db i, 0, none⟩) n n)
  outH : ∀ i, i < n → u.cell? ⟨gh, i, none⟩ = some (.slice (some ⟨Hb i, 0, none⟩) n n)
  inD : ∀ i, i < n → Blk u 3 (Db i) (rowD S n i)
  inH : ∀ i, i < n → Blk u 4 (Hb i) (rowH S n i)
  oneD : ∀ i j, i < n → j < n → i ≠ j → Db i ≠ Db j
  oneH : ∀ i j, i < n → j < n → i ≠ j → Hb i ≠ Hb j
  apD : ∀ i, i < n → gd ≠ Db i ∧ gd ≠ Hb i
  apH : ∀ i, i < n → gh ≠ Db i ∧ gh ≠ Hb i
section
variable {u W : World} {gd gh n : Nat} {Db Hb : Nat → Nat} {S : Tb}
theorem Tab.ap (h : Tab u gd gh n Db Hb S) {i j : Nat} (hi : i < n) (hj : j < n) : Db i ≠ Hb j := (h.inD i hi).ne (h.inH j hj) (by decide)
theorem Tab.on (hb : Below W.heap.size W u) (h : Tab W gd gh n Db Hb S) : Tab u gd gh n Db Hb S :=
  ⟨fun i hi => by rw [hb.cell (World.block_lt_of_cell? _ _ (h.outD i hi))]; exact h.outD i hi, fun i hi => by rw [hb.cell (World.block_lt_of_cell? _ _ (h.outH i hi))]; exact h.outH i hi,
    fun i hi => (h.inD i hi).on hb, fun i hi => (h.inH i hi).on hb, h.oneD, h.oneH, h.apD, h.apH⟩
theorem Tab.drn {m : Nat} (h : Tab W gd gh n Db Hb S) : Tab (W.drewN m) gd gh n Db Hb S := ⟨h.outD, h.outH, h.inD, h.inH, h.oneD, h.oneH, h.apD, h.apH⟩
theorem Tab.dr (h : Tab W gd gh n Db Hb S) : Tab W.drew gd gh n Db Hb S := ⟨h.outD, h.outH, h.inD, h.inH, h.oneD, h.oneH, h.apD, h.apH⟩
/-- A number is stored, and that there is one. -/
theorem Tab.put (h : Tab W gd gh n Db Hb S) {i b : Nat} (hi : i < n) (x : Int) : Tab ((W.setCell ⟨Db i, b, none⟩ (.int .i64 x)).setCell ⟨Hb i, b, none⟩ (.bool true)) gd gh n Db Hb (upd S i b x) := by
  refine ⟨fun j hj => ?_, fun j hj => ?_, fun j hj => ?_, fun j hj => ?_, h.oneD, h.oneH, h.apD, h.apH⟩
  · rw [World.cell?_setCell_far _ _ _ _ (fun k => (h.apD i hi).2 k.symm), World.cell?_setCell_far _ _ _ _ (fun k => (h.apD i hi).1 k.symm)]; exact h.outD j hj
  · rw [World.cell?_setCell_far _ _ _ _ (fun k => (h.apH i hi).2 k.symm), World.cell?_setCell_far _ _ _ _ (fun k => (h.apH i hi).1 k.symm)]; exact h.outH j hj
  · by_cases e : j = i
    · subst e
      rw [upd_rowD]
      exact ((h.inD j hj).put b).far (h.ap hj hj)
    · rw [upd_rowD_other _ _ _ _ _ _ e]
      exact ((h.inD j hj).far (h.oneD j i hj hi e)).far (h.ap hj hi)
  · by_cases e : j = i
    · subst e
      rw [upd_rowH]
      exact ((h.inH j hj).far (fun k => h.ap hj hj k.symm)).put b
    · rw [upd_rowH_other _ _ _ _ _ _ e]
      exact ((h.inH j hj).far (fun k => h.ap hi hj k.symm)).far (h.oneH j i hj hi e)
end
/-- A step along an arc, as a store or none. -/
theorem rlx_upd (S : Tb) (i a b : Nat) (c x : Int) (h : S i a = some x) (g : S i b = none ∨ ∃ y, S i b = some y ∧ x + c < y) : rlx S i a b c = upd S i b (x + c) := by
  funext i' k
  unfold rlx upd
  by_cases e : i' = i ∧ k = b
  · rw [if_pos e, if_pos e, h]
    rcases g with g | ⟨y, g, lt⟩
    · rw [g]
    · rw [g]; simp only; rw [if_pos lt]
  · rw [if_neg e, if_neg e]
theorem rlx_same (S : Tb) (i a b : Nat) (c : Int) (g : S i a = none ∨ ∃ x y, S i a = some x ∧ S i b = some y ∧ ¬ x + c < y) : rlx S i a b c = S := by
  funext i' k
  unfold rlx
  by_cases e : i' = i ∧ k = b
  · obtain ⟨rfl, rfl⟩ := e
    rw [if_pos ⟨rfl, rfl⟩]
    rcases g with g | ⟨x, y, g1, g2, nl⟩
    · rw [g]
    · rw [g1, g2]; simp only; rw [if_neg nl]
  · rw [if_neg e]
end Go.Proofs.YtnagdjipmpjaaahDoor
namespace Go.Proofs.YtnagdjipmpjaaahDoor
open Go.ChangeShapes Go.WideShapes Go.ChangeAt Go.RowKit
set_option linter.unusedVariables false

/-- The table of the least ways, just so. -/
def IsT (q : Nat → Eg) (m n : Nat) (T : Tb) : Prop := ∀ i k, i < n → (∀ x, T i k = some x → Dst (Arc q m) i k x) ∧ (T i k = none → ∀ r c, ¬ Wk (Arc q m) r i k c)
section
variable {q : Nat → Eg} {m n : Nat} {T T' : Tb}
theorem IsT.one (h : IsT q m n T) (h' : IsT q m n T') {i : Nat} (hi : i < n) (k : Nat) : T i k = T' i k := by
  cases e : T i k with
  | none =>
    cases e' : T' i k with
    | none => rfl
    | some y =>
      obtain ⟨⟨r, w⟩, _⟩ := (h' i k hi).1 y e'
      exact absurd w ((h i k hi).2 e r y)
  | some x =>
    cases e' : T' i k with
    | none =>
      obtain ⟨⟨r, w⟩, _⟩ := (h i k hi).1 x e
      exact absurd w ((h' i k hi).2 e' r x)
    | some y => rw [((h i k hi).1 x e).one ((h' i k hi).1 y e')]
theorem IsT.back (h : IsT q m n T) {i k : Nat} (hi : i < n) (hk : k < n) {x : Int} (e : T i k = some x) : ∃ y, T k i = some y := by
  obtain ⟨⟨r, w⟩, _⟩ := (h i k hi).1 x e
  obtain ⟨r', c', w'⟩ := wk_back w
  cases e' : T k i with
  | none => exact absurd w' ((h k i hk).2 e' r' c')
  | some y => exact ⟨y, rfl⟩
/-- An end beyond the greatest time. -/
def Far (n : Nat) (T : Tb) : Prop := ∃ i k x, i < n ∧ k < n ∧ T i k = some x ∧ (x < -1000000000000 ∨ 1000000000000 < x)
theorem Far.same (h : IsT q m n T) (h' : IsT q m n T') (f : Far n T) : Far n T' := by
  obtain ⟨i, k, x, hi, hk, e, g⟩ := f
  exact ⟨i, k, x, hi, hk, by rw [← h.one h' hi k]; exact e, g⟩
theorem not_far (h : ¬ Far n T) {i k : Nat} {x : Int} (hi : i < n) (hk : k < n) (e : T i k = some x) : -1000000000000 ≤ x ∧ x ≤ 1000000000000 := by
  apply Classical.byContradiction
  intro c
  exact h ⟨i, k, x, hi, hk, e, by omega⟩
end
/-- The span of two nodes: none is told by zeros. -/
def spLo (T : Tb) (i k : Nat) : Int := match T i k with
  | none => 0
  | some _ => -((T k i).getD 0)
def spHi (T : Tb) (i k : Nat) : Int := (T i k).getD 0
/-- What All answers, of edges as they may be: its error, and the table that is told if there is none. -/
def AllA (q : Nat → Eg) (m n : Nat) (e : Int) (T : Tb) : Prop := (Neg (Arc q m) n ∧ e = 7) ∨ (¬ Neg (Arc q m) n ∧ IsT q m n T ∧ ((Far n T ∧ e = 1) ∨ (¬ Far n T ∧ e = 0)))
theorem AllA.e_one {q : Nat → Eg} {m n : Nat} {e e' : Int} {T T' : Tb} (h : AllA q m n e T) (h' : AllA q m n e' T') : e = e' := by
  rcases h with ⟨g, rfl⟩ | ⟨g, t, f⟩
  · rcases h' with ⟨_, rfl⟩ | ⟨g', _⟩
    · rfl
    · exact absurd g g'
  · rcases h' with ⟨g', _⟩ | ⟨_, t', f'⟩
    · exact absurd g' g
    · rcases f with ⟨f, rfl⟩ | ⟨f, rfl⟩
      · rcases f' with ⟨_, rfl⟩ | ⟨f', _⟩
        · rfl
        · exact absurd (f.same t t') f'
      · rcases f' with ⟨f', _⟩ | ⟨_, rfl⟩
        · exact absurd (f'.same t' t) f
        · rfl
/-- All, of any edges. -/
def AllE (z : Int) (q : Nat → Eg) (m : Nat) (e : Int) (T : Tb) : Prop := (eE z q m ≠ 0 ∧ e = eE z q m) ∨ (eE z q m = 0 ∧ AllA q m z.toNat e T)
/-- Between, of any edges and any two nodes. -/
def BetA (z : Int) (q : Nat → Eg) (m : Nat) (a b lo hi e : Int) : Prop :=
  (eE z q m ≠ 0 ∧ lo = 0 ∧ hi = 0 ∧ e = eE z q m) ∨ (eE z q m = 0 ∧ (a < 0 ∨ z ≤ a ∨ b < 0 ∨ z ≤ b) ∧ lo = 0 ∧ hi = 0 ∧ e = 1) ∨
  (eE z q m = 0 ∧ (0 ≤ a ∧ a < z ∧ 0 ≤ b ∧ b < z) ∧ ∃ f T, AllA q m z.toNat f T ∧
    ((f ≠ 0 ∧ lo = 0 ∧ hi = 0 ∧ e = f) ∨ (f = 0 ∧ T a.toNat b.toNat = none ∧ lo = 0 ∧ hi = 0 ∧ e = 5) ∨ (f = 0 ∧ (∃ x, T a.toNat b.toNat = some x) ∧ lo = spLo T a.toNat b.toNat ∧ hi = spHi T a.toNat b.toNat ∧ e = 0)))
/-- The first clock that is no time. -/
def badC (c : Nat → Int) (k : Nat) : Prop := ∃ i, i < k ∧ (c i < -1000000000000 ∨ 1000000000000 < c i)
/-- Do clocks fit the first m edges? -/
def fitB (q : Nat → Eg) (c : Nat → Int) : Nat → Bool
  | 0 => true
  | m + 1 => fitB q c m && (decide ((q m).lo ≤ c (q m).b.toNat - c (q m).a.toNat) && decide (c (q m).b.toNat - c (q m).a.toNat ≤ (q m).hi))
/-- Fits, of any edges and any clocks. -/
def FitA (z : Int) (q : Nat → Eg) (m k : Nat) (c : Nat → Int) (b : Bool) (e : Int) : Prop :=
  (eE z q m ≠ 0 ∧ b = false ∧ e = eE z q m) ∨ (eE z q m = 0 ∧ (k : Int) ≠ z ∧ b = false ∧ e = 3) ∨ (eE z q m = 0 ∧ (k : Int) = z ∧ badC c k ∧ b = false ∧ e = 1) ∨
  (eE z q m = 0 ∧ (k : Int) = z ∧ ¬ badC c k ∧ b = fitB q c m ∧ e = 0)
/-- What is told of all, as it lies in memory. -/
def STab (u : World) (s h : Value) (n : Nat) (T : Tb) : Prop :=
  ∃ (sb so sc hb ho hc : Nat) (rb ro rc gb go gc : Nat → Nat), s = .slice (some ⟨sb, so, none⟩) n sc ∧ h = .slice (some ⟨hb, ho, none⟩) n hc ∧
    (∀ i, i < n → u.cell? ⟨sb, so + i, none⟩ = some (.slice (some ⟨rb i, ro i, none⟩) n (rc i)) ∧ u.cell? ⟨hb, ho + i, none⟩ = some (.slice (some ⟨gb i, go i, none⟩) n (gc i))) ∧
    (∀ i k, i < n → k < n → u.cell? ⟨rb i, ro i + k * 2, none⟩ = some (.int .i64 (spLo T i k)) ∧ u.cell? ⟨rb i, ro i + k * 2 + 1, none⟩ = some (.int .i64 (spHi T i k)) ∧ u.cell? ⟨gb i, go i + k, none⟩ = some (.bool (T i k).isSome))
theorem STab.on {W u : World} {s h : Value} {n : Nat} {T : Tb} (hb : Below W.heap.size W u) (t : STab W s h n T) : STab u s h n T := by
  obtain ⟨sb, so, sc, hb', ho, hc, rb, ro, rc, gb, go, gc, e1, e2, r1, r2⟩ := t
  have on : ∀ (a : Addr) (v : Value), W.cell? a = some v → u.cell? a = some v := fun a v e => by rw [hb.cell (World.block_lt_of_cell? _ _ e)]; exact e
  exact ⟨sb, so, sc, hb', ho, hc, rb, ro, rc, gb, go, gc, e1, e2, fun i hi => ⟨on _ _ (r1 i hi).1, on _ _ (r1 i hi).2⟩, fun i k hi hk => ⟨on _ _ (r2 i k hi hk).1, on _ _ (r2 i k hi hk).2.1, on _ _ (r2 i k hi hk).2.2⟩⟩

end Go.Proofs.YtnagdjipmpjaaahDoor
