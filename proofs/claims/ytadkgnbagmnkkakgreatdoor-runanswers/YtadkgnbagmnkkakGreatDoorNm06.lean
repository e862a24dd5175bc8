/- A block as it is, with its type; tables of ints and bools, row by row, as they lie in memory. What there is to be answered of bounds. What there is to be answered of bounds is there. What a net's edges say: plain mathematics. How wide all are together, row by row: plain mathematics. What package net must answer. What package net must answer: Offset. What package net must answer: Wide. A table of spans, made tighter node by node: plain mathematics. A table of spans as it lies in memory, row by row, and whether there is any. How wide all are together, column by column: plain mathematics. -/
import Derived.Test.YtadkgnbagmnkkakGreatDoorNm02
import Derived.Test.YtadkgnbagmnkkakGreatDoorNm03
import Derived.OwnWalk
import Derived.Deep.Heap
import Derived.Deep.AppendLies
import Derived.Test.YtadkgnbagmnkkakGreatDoorNm04
import Derived.Test.YtadkgnbagmnkkakGreatDoorNm05
namespace Go.Proofs.YtadkgnbagmnkkakGreatDoor
open Go.ChangeShapes Go.WideShapes Go.ChangeAt Go.RowKit
set_option linter.unusedVariables false

def Blk (u : World) (e : TypeId) (b : Nat) (vs : List Value) : Prop := u.heap[b]? = some (.cells vs.toArray e (0, 0))
section
variable {W u w : World} {e e' : TypeId} {b b' n i : Nat} {vs vs' : List Value} {x : Value} {ob : Obj}
theorem Blk.lt (h : Blk u e b vs) : b < u.heap.size := by
 apply Classical.byContradiction
 intro k
 unfold Blk at h
 rw [Array.getElem?_eq_none (by omega)] at h
 cases h
theorem Blk.c (h : Blk u e b vs) (i : Nat) (v : Value) (hv : vs[i]? = some v) : u.cell? ⟨b, i, none⟩ = some v := by
 unfold World.cell?
 rw [show u.heap[(⟨b, i, none⟩ : Addr).block]? = some (.cells vs.toArray e (0, 0)) from h]
 simpa using hv
theorem Blk.f (h : Blk u e b vs) (i : Nat) : u.frozen? ⟨b, i, none⟩ = false := by
 unfold World.frozen?
 rw [show u.heap[(⟨b, i, none⟩ : Addr).block]? = some (.cells vs.toArray e (0, 0)) from h]
 simp
theorem Blk.ne (h : Blk u e b vs) (h' : Blk u e' b' vs') (ne : e ≠ e') : b ≠ b' := by
 rintro rfl
 unfold Blk at h h'
 rw [h] at h'
 simp at h'
 exact ne h'.2
theorem Blk.al (h : Blk W e b vs) : Blk (W.alloc ob) e b vs := (Below.heap_alloc _ _ _ h.lt).trans h
theorem Blk.made (hb : b = W.heap.size) : Blk (W.alloc (.cells vs.toArray e)) e b vs := by
 subst hb
 show (W.heap.push _)[W.heap.size]? = _
 simp
theorem Blk.dr (h : Blk W e b vs) : Blk W.drew e b vs := h
theorem Blk.drn (h : Blk W e b vs) : Blk (W.drewN n) e b vs := h
theorem Blk.on (hb : Below W.heap.size W u) (h : Blk W e b vs) : Blk u e b vs := (hb.block b h.lt).trans h
theorem Blk.grown {row : Option Nat} (hg : W.grownBy u row) (hne : some b ≠ row) (h : Blk W e b vs) : Blk u e b vs := (hg.block b h.lt hne).trans h
theorem Blk.far (hne : b ≠ b') (h : Blk W e b vs) : Blk (W.setCell ⟨b', i, none⟩ x) e b vs := (Deep.blk_setCell_other W ⟨b', i, none⟩ x b hne).trans h
theorem Blk.put (i : Nat) (h : Blk W e b vs) : Blk (W.setCell ⟨b, i, none⟩ x) e b (vs.set i x) := by
 unfold Blk at *
 show (W.heap.modify b _)[b]? = _
 rw [Array.getElem?_modify, if_pos rfl, h]
 simp
end
def rowD (S : Tb) (n i : Nat) : List Value := (List.range n).map fun k => .int .i64 ((S i k).getD 0)
def rowH (S : Tb) (n i : Nat) : List Value := (List.range n).map fun k => .bool (S i k).isSome
theorem rowD_at (S : Tb) (n i k : Nat) (h : k < n) : (rowD S n i)[k]? = some (.int .i64 ((S i k).getD 0)) := by simp [rowD, h]
theorem rowH_at (S : Tb) (n i k : Nat) (h : k < n) : (rowH S n i)[k]? = some (.bool (S i k).isSome) := by simp [rowH, h]
def upd (S : Tb) (i b : Nat) (x : Int) : Tb := fun i' k => if i' = i ∧ k = b then some x else S i' k
theorem upd_rowD (S : Tb) (n i b : Nat) (x : Int) : rowD (upd S i b x) n i = (rowD S n i).set b (.int .i64 x) := by
 apply List.ext_getElem?
 intro k
 by_cases hk : k < n
 ·rw [rowD_at _ _ _ _ hk]
  by_cases e : b = k
  ·subst e
   rw [List.getElem?_set_self (by simp [rowD]; exact hk)]
   simp [upd]
  ·rw [List.getElem?_set_ne e, rowD_at _ _ _ _ hk]
   simp [upd, show ¬ k = b from fun h => e h.symm]
 ·rw [List.getElem?_eq_none (by simp [rowD]; omega), List.getElem?_eq_none (by simp [rowD]; omega)]
theorem upd_rowH (S : Tb) (n i b : Nat) (x : Int) : rowH (upd S i b x) n i = (rowH S n i).set b (.bool true) := by
 apply List.ext_getElem?
 intro k
 by_cases hk : k < n
 ·rw [rowH_at _ _ _ _ hk]
  by_cases e : b = k
  ·subst e
   rw [List.getElem?_set_self (by simp [rowH]; exact hk)]
   simp [upd]
  ·rw [List.getElem?_set_ne e, rowH_at _ _ _ _ hk]
   simp [upd, show ¬ k = b from fun h => e h.symm]
 ·rw [List.getElem?_eq_none (by simp [rowH]; omega), List.getElem?_eq_none (by simp [rowH]; omega)]
theorem upd_rowD_other (S : Tb) (n i j b : Nat) (x : Int) (h : j ≠ i) : rowD (upd S i b x) n j = rowD S n j := by simp [rowD, upd, h]
theorem upd_rowH_other (S : Tb) (n i j b : Nat) (x : Int) (h : j ≠ i) : rowH (upd S i b x) n j = rowH S n j := by simp [rowH, upd, h]
structure Tab (u : World) (gd gh n : Nat) (Db Hb : Nat → Nat) (S : Tb) : Prop where
 outD : ∀ i, i < n → u.cell? ⟨gd, i, none⟩ = some (.slice (some ⟨Db i, 0, none⟩) n n)
 outH : ∀ i, i < n → u.cell? ⟨gh, i, none⟩ = some (.slice (some ⟨Hb i, 0, none⟩) n n)
 inD : ∀ i, i < n → Blk u 3 (Db i) (rowD S n i)
 inH : ∀ i, i < n → Blk u 4 (Hb i) (rowH S n i)
 oneD : ∀ i j, i < n → j < n → i ≠ j → Db i ≠ Db j
 oneH : ∀ i j, i < n → j < n → i ≠ j → Hb i ≠ Hb j
 apD : ∀ i, i < n → gd ≠ Db i ∧ gd ≠ Hb i
 apH : ∀ i, i < n → gh ≠ Db i ∧ gh ≠ Hb i
section
variable {u W : World} {gd gh n : Nat} {Db Hb : Nat → Nat} {S : Tb}
theorem Tab.ap (h : Tab u gd gh n Db Hb S) {i j : Nat} (hi : i < n) (hj : j < n) : Db i ≠ Hb j := (h.inD i hi).ne (h.inH j hj) (by decide)
theorem Tab.on (hb : Below W.heap.size W u) (h : Tab W gd gh n Db Hb S) : Tab u gd gh n Db Hb S :=
 ⟨fun i hi => by rw [hb.cell (World.block_lt_of_cell? _ _ (h.outD i hi))]; exact h.outD i hi, fun i hi => by rw [hb.cell (World.block_lt_of_cell? _ _ (h.outH i hi))]; exact h.outH i hi,
  fun i hi => (h.inD i hi).on hb, fun i hi => (h.inH i hi).on hb, h.oneD, h.oneH, h.apD, h.apH⟩
theorem Tab.drn {m : Nat} (h : Tab W gd gh n Db Hb S) : Tab (W.drewN m) gd gh n Db Hb S := ⟨h.outD, h.outH, h.inD, h.inH, h.oneD, h.oneH, h.apD, h.apH⟩
theorem Tab.dr (h : Tab W gd gh n Db Hb S) : Tab W.drew gd gh n Db Hb S := ⟨h.outD, h.outH, h.inD, h.inH, h.oneD, h.oneH, h.apD, h.apH⟩
theorem Tab.put (h : Tab W gd gh n Db Hb S) {i b : Nat} (hi : i < n) (x : Int) : Tab ((W.setCell ⟨Db i, b, none⟩ (.int .i64 x)).setCell ⟨Hb i, b, none⟩ (.bool true)) gd gh n Db Hb (upd S i b x) := by
 refine ⟨fun j hj => ?_, fun j hj => ?_, fun j hj => ?_, fun j hj => ?_, h.oneD, h.oneH, h.apD, h.apH⟩
 ·rw [World.cell?_setCell_far _ _ _ _ (fun k => (h.apD i hi).2 k.symm), World.cell?_setCell_far _ _ _ _ (fun k => (h.apD i hi).1 k.symm)]; exact h.outD j hj
 ·rw [World.cell?_setCell_far _ _ _ _ (fun k => (h.apH i hi).2 k.symm), World.cell?_setCell_far _ _ _ _ (fun k => (h.apH i hi).1 k.symm)]; exact h.outH j hj
 ·by_cases e : j = i
  ·subst e
   rw [upd_rowD]
   exact ((h.inD j hj).put b).far (h.ap hj hj)
  ·rw [upd_rowD_other _ _ _ _ _ _ e]
   exact ((h.inD j hj).far (h.oneD j i hj hi e)).far (h.ap hj hi)
 ·by_cases e : j = i
  ·subst e
   rw [upd_rowH]
   exact ((h.inH j hj).far (fun k => h.ap hj hj k.symm)).put b
  ·rw [upd_rowH_other _ _ _ _ _ _ e]
   exact ((h.inH j hj).far (fun k => h.ap hi hj k.symm)).far (h.oneH j i hj hi e)
end
theorem rlx_upd (S : Tb) (i a b : Nat) (c x : Int) (h : S i a = some x) (g : S i b = none ∨ ∃ y, S i b = some y ∧ x + c < y) : rlx S i a b c = upd S i b (x + c) := by
 funext i' k
 unfold rlx upd
 by_cases e : i' = i ∧ k = b
 ·rw [if_pos e, if_pos e, h]
  rcases g with g | ⟨y, g, lt⟩
  ·rw [g]
  ·rw [g]; simp only; rw [if_pos lt]
 ·rw [if_neg e, if_neg e]
theorem rlx_same (S : Tb) (i a b : Nat) (c : Int) (g : S i a = none ∨ ∃ x y, S i a = some x ∧ S i b = some y ∧ ¬ x + c < y) : rlx S i a b c = S := by
 funext i' k
 unfold rlx
 by_cases e : i' = i ∧ k = b
 ·obtain ⟨rfl, rfl⟩ := e
  rw [if_pos ⟨rfl, rfl⟩]
  rcases g with g | ⟨x, y, g1, g2, nl⟩
  ·rw [g]
  ·rw [g1, g2]; simp only; rw [if_neg nl]
 ·rw [if_neg e]
def IsT (q : Nat → Eg) (m n : Nat) (T : Tb) : Prop := ∀ i k, i < n → (∀ x, T i k = some x → Dst (Arc q m) i k x) ∧ (T i k = none → ∀ r c, ¬ Wk (Arc q m) r i k c)
section
variable {q : Nat → Eg} {m n : Nat} {T T' : Tb}
theorem IsT.one (h : IsT q m n T) (h' : IsT q m n T') {i : Nat} (hi : i < n) (k : Nat) : T i k = T' i k := by
 cases e : T i k with
 | none =>
  cases e' : T' i k with
  | none => rfl
  | some y =>
   obtain ⟨⟨r, w⟩, _⟩ := (h' i k hi).1 y e'
   exact absurd w ((h i k hi).2 e r y)
 | some x =>
  cases e' : T' i k with
  | none =>
   obtain ⟨⟨r, w⟩, _⟩ := (h i k hi).1 x e
   exact absurd w ((h' i k hi).2 e' r x)
  | some y => rw [((h i k hi).1 x e).one ((h' i k hi).1 y e')]
theorem IsT.back (h : IsT q m n T) {i k : Nat} (hi : i < n) (hk : k < n) {x : Int} (e : T i k = some x) : ∃ y, T k i = some y := by
 obtain ⟨⟨r, w⟩, _⟩ := (h i k hi).1 x e
 obtain ⟨r', c', w'⟩ := wk_back w
 cases e' : T k i with
 | none => exact absurd w' ((h k i hk).2 e' r' c')
 | some y => exact ⟨y, rfl⟩
def Far (n : Nat) (T : Tb) : Prop := ∃ i k x, i < n ∧ k < n ∧ T i k = some x ∧ (x < -1000000000000 ∨ 1000000000000 < x)
theorem Far.same (h : IsT q m n T) (h' : IsT q m n T') (f : Far n T) : Far n T' := by
 obtain ⟨i, k, x, hi, hk, e, g⟩ := f
 exact ⟨i, k, x, hi, hk, by rw [← h.one h' hi k]; exact e, g⟩
theorem not_far (h : ¬ Far n T) {i k : Nat} {x : Int} (hi : i < n) (hk : k < n) (e : T i k = some x) : -1000000000000 ≤ x ∧ x ≤ 1000000000000 := by
 apply Classical.byContradiction
 intro c
 exact h ⟨i, k, x, hi, hk, e, by omega⟩
end
def spLo (T : Tb) (i k : Nat) : Int := match T i k with
 | none => 0
 | some _ => -((T k i).getD 0)
def spHi (T : Tb) (i k : Nat) : Int := (T i k).getD 0
def AllA (q : Nat → Eg) (m n : Nat) (e : Int) (T : Tb) : Prop := (Neg (Arc q m) n ∧ e = 7) ∨ (¬ Neg (Arc q m) n ∧ IsT q m n T ∧ ((Far n T ∧ e = 1) ∨ (¬ Far n T ∧ e = 0)))
theorem AllA.e_one {q : Nat → Eg} {m n : Nat} {e e' : Int} {T T' : Tb} (h : AllA q m n e T) (h' : AllA q m n e' T') : e = e' := by
 rcases h with ⟨g, rfl⟩ | ⟨g, t, f⟩
 ·rcases h' with ⟨_, rfl⟩ | ⟨g', _⟩
  ·rfl
  ·exact absurd g g'
 ·rcases h' with ⟨g', _⟩ | ⟨_, t', f'⟩
  ·exact absurd g' g
  ·rcases f with ⟨f, rfl⟩ | ⟨f, rfl⟩
   ·rcases f' with ⟨_, rfl⟩ | ⟨f', _⟩
    ·rfl
    ·exact absurd (f.same t t') f'
   ·rcases f' with ⟨f', _⟩ | ⟨_, rfl⟩
    ·exact absurd (f'.same t' t) f
    ·rfl
def AllE (z : Int) (q : Nat → Eg) (m : Nat) (e : Int) (T : Tb) : Prop := (eE z q m ≠ 0 ∧ e = eE z q m) ∨ (eE z q m = 0 ∧ AllA q m z.toNat e T)
def BetA (z : Int) (q : Nat → Eg) (m : Nat) (a b lo hi e : Int) : Prop :=
 (eE z q m ≠ 0 ∧ lo = 0 ∧ hi = 0 ∧ e = eE z q m) ∨ (eE z q m = 0 ∧ (a < 0 ∨ z ≤ a ∨ b < 0 ∨ z ≤ b) ∧ lo = 0 ∧ hi = 0 ∧ e = 1) ∨
 (eE z q m = 0 ∧ (0 ≤ a ∧ a < z ∧ 0 ≤ b ∧ b < z) ∧ ∃ f T, AllA q m z.toNat f T ∧
  ((f ≠ 0 ∧ lo = 0 ∧ hi = 0 ∧ e = f) ∨ (f = 0 ∧ T a.toNat b.toNat = none ∧ lo = 0 ∧ hi = 0 ∧ e = 5) ∨ (f = 0 ∧ (∃ x, T a.toNat b.toNat = some x) ∧ lo = spLo T a.toNat b.toNat ∧ hi = spHi T a.toNat b.toNat ∧ e = 0)))
def STab (u : World) (s h : Value) (n : Nat) (T : Tb) : Prop :=
 ∃ (sb so sc hb ho hc : Nat) (rb ro rc gb go gc : Nat → Nat), s = .slice (some ⟨sb, so, none⟩) n sc ∧ h = .slice (some ⟨hb, ho, none⟩) n hc ∧
  (∀ i, i < n → u.cell? ⟨sb, so + i, none⟩ = some (.slice (some ⟨rb i, ro i, none⟩) n (rc i)) ∧ u.cell? ⟨hb, ho + i, none⟩ = some (.slice (some ⟨gb i, go i, none⟩) n (gc i))) ∧
  (∀ i k, i < n → k < n → u.cell? ⟨rb i, ro i + k * 2, none⟩ = some (.int .i64 (spLo T i k)) ∧ u.cell? ⟨rb i, ro i + k * 2 + 1, none⟩ = some (.int .i64 (spHi T i k)) ∧ u.cell? ⟨gb i, go i + k, none⟩ = some (.bool (T i k).isSome))
theorem STab.on {W u : World} {s h : Value} {n : Nat} {T : Tb} (hb : Below W.heap.size W u) (t : STab W s h n T) : STab u s h n T := by
 obtain ⟨sb, so, sc, hb', ho, hc, rb, ro, rc, gb, go, gc, e1, e2, r1, r2⟩ := t
 have on : ∀ (a : Addr) (v : Value), W.cell? a = some v → u.cell? a = some v := fun a v e => by rw [hb.cell (World.block_lt_of_cell? _ _ e)]; exact e
 exact ⟨sb, so, sc, hb', ho, hc, rb, ro, rc, gb, go, gc, e1, e2, fun i hi => ⟨on _ _ (r1 i hi).1, on _ _ (r1 i hi).2⟩, fun i k hi hk => ⟨on _ _ (r2 i k hi hk).1, on _ _ (r2 i k hi hk).2.1, on _ _ (r2 i k hi hk).2.2⟩⟩

theorem least_nat (P : Nat → Prop) : ∀ n, P n → ∃ k, P k ∧ ∀ j, j < k → ¬ P j := by
 intro n
 induction n using Nat.strongRecOn with
 | _ n ih =>
  intro h
  by_cases c : ∃ j, j < n ∧ P j
  ·obtain ⟨j, hj, hp⟩ := c
   exact ih j hj hp
  ·exact ⟨n, h, fun j hj hp => c ⟨j, hj, hp⟩⟩
section
variable {q : Nat → Eg} {m n : Nat}
theorem wk_low (hE : Egs n q m) : ∀ {r i k : Nat} {c : Int}, Wk (Arc q m) r i k c → -((r : Int) * 1000000000000) ≤ c := by
 intro r
 induction r with
 | zero =>
  intro i k c w
  obtain ⟨_, rfl⟩ := w.zero
  omega
 | succ r ih =>
  intro i k c w
  obtain ⟨j, a, b, w1, g, rfl⟩ := w.last
  have h1 := ih w1
  have h2 := hE.small g
  omega
theorem dst_some (hE : Egs n q m) (hN : ¬ Neg (Arc q m) n) {i k r : Nat} {c : Int} (hi : i < n) (w : Wk (Arc q m) r i k c) : ∃ d, Dst (Arc q m) i k d := by
 have low : ∀ r c, Wk (Arc q m) r i k c → -6000000000000 ≤ c := fun r c w => by
  obtain ⟨r', c', h1, h2, w'⟩ := short hE.arc (not_neg hN) r i k c hi w
  have h3 := wk_low hE w'
  have h4 := hE.n6
  omega
 obtain ⟨t, ⟨r', w'⟩, hm⟩ := least_nat (fun t => ∃ r, Wk (Arc q m) r i k ((t : Int) - 6000000000000)) (c + 6000000000000).toNat (by
  have := low r c w
  refine ⟨r, ?_⟩
  rw [show (((c + 6000000000000).toNat : Nat) : Int) - 6000000000000 = c by omega]
  exact w)
 refine ⟨(t : Int) - 6000000000000, ⟨r', w'⟩, fun s c' v => ?_⟩
 apply Classical.byContradiction
 intro h
 have := low s c' v
 refine hm (c' + 6000000000000).toNat (by omega) ⟨s, ?_⟩
 rw [show (((c' + 6000000000000).toNat : Nat) : Int) - 6000000000000 = c' by omega]
 exact v
open Classical in
theorem isT_some (hE : Egs n q m) (hN : ¬ Neg (Arc q m) n) : ∃ T, IsT q m n T := by
 refine ⟨fun i k => if h : ∃ c, Dst (Arc q m) i k c then some h.choose else none, fun i k hi => ⟨fun x e => ?_, fun e r c w => ?_⟩⟩
 ·by_cases h : ∃ c, Dst (Arc q m) i k c
  ·simp only [dif_pos h] at e
   obtain rfl := Option.some.inj e
   exact h.choose_spec
  ·simp only [dif_neg h] at e
   cases e
 ·have h := dst_some hE hN hi w
  simp only [dif_pos h] at e
  cases e
end
theorem betA_some {q : Nat → Eg} {m n : Nat} {f : Int} {T : Tb} (hZ : eE n q m = 0) (hA : AllA q m n f T) (a b : Int) : ∃ lo hi e, BetA n q m a b lo hi e := by
 by_cases c : 0 ≤ a ∧ a < n ∧ 0 ≤ b ∧ b < n
 ·by_cases h : f = 0
  ·cases t : T a.toNat b.toNat with
   | none => exact ⟨0, 0, 5, Or.inr (Or.inr ⟨hZ, c, f, T, by rw [Int.toNat_natCast]; exact hA, Or.inr (Or.inl ⟨h, t, rfl, rfl, rfl⟩)⟩)⟩
   | some x => exact ⟨_, _, 0, Or.inr (Or.inr ⟨hZ, c, f, T, by rw [Int.toNat_natCast]; exact hA, Or.inr (Or.inr ⟨h, ⟨x, t⟩, rfl, rfl, rfl⟩)⟩)⟩
  ·exact ⟨0, 0, f, Or.inr (Or.inr ⟨hZ, c, f, T, by rw [Int.toNat_natCast]; exact hA, Or.inl ⟨h, rfl, rfl, rfl⟩⟩)⟩
 ·exact ⟨0, 0, 1, Or.inr (Or.inl ⟨hZ, by omega, rfl, rfl, rfl⟩)⟩
end Go.Proofs.YtadkgnbagmnkkakGreatDoor
namespace Go.Proofs.YtadkgnbagmnkkakGreatDoor
set_option linter.unusedVariables false

def eoN (N : Nn) : List Eg := (List.range N.W.n).flatMap (fun i => (N.nd i).eo (N.W.rd i))
structure EdT (N : Nn) (x : Eg) : Prop where
 ex : ∃ i k : Nat, i < N.W.n ∧ k < N.W.n ∧ i ≠ k ∧ (N.nd i).has k = true ∧ x.a = i ∧ x.b = k ∧ x.lo = (N.nd i).alo k (N.W.rd i) ∧ x.hi = (N.nd i).ahi k (N.W.rd i) ∧ x.lo ≤ N.W.rd k - N.W.rd i ∧ N.W.rd k - N.W.rd i ≤ x.hi ∧ -4000000000 ≤ x.lo ∧ x.hi ≤ 4000000000
theorem eo_mem {c : Nd} {t : Int} {x : Eg} (h : x ∈ c.eo t) : ∃ k : Nat, k < c.n ∧ c.has k = true ∧ x = ⟨(c.id : Int), (k : Int), c.alo k t, c.ahi k t⟩ := by
 unfold Nd.eo at h
 obtain ⟨k, hk, rfl⟩ := List.mem_map.1 h
 obtain ⟨h1, h2⟩ := List.mem_filter.1 hk
 exact ⟨k, List.mem_range.1 h1, h2, rfl⟩
theorem eoN_mem {N : Nn} (g : N.T) {x : Eg} (h : x ∈ eoN N) : EdT N x := by
 obtain ⟨i, hi, hx⟩ := List.mem_flatMap.1 h
 have hi' := List.mem_range.1 hi
 have kn := g.kn i hi'
 obtain ⟨k, k1, k2, rfl⟩ := eo_mem hx
 have ag := kn.aged g.g hi' k2
 obtain ⟨q1, q2, _⟩ := kn.kn k k2
 exact ⟨i, k, hi', q1, fun e => q2 e.symm, k2, by show ((N.nd i).id : Int) = i; rw [kn.id], rfl, rfl, rfl, ag.1, ag.2.1, ag.2.2.1, ag.2.2.2⟩
theorem eo_len (c : Nd) (t : Int) : (c.eo t).length ≤ c.n := by
 unfold Nd.eo
 rw [List.length_map]
 exact Nat.le_trans (List.length_filter_le _ _) (by rw [List.length_range]; exact Nat.le_refl _)
theorem flat_len {α β : Type} (f : α → List β) (m : Nat) : ∀ (l : List α), (∀ x, x ∈ l → (f x).length ≤ m) → (l.flatMap f).length ≤ l.length * m
 | [], _ => by simp
 | a :: r, h => by
  rw [List.flatMap_cons, List.length_append, List.length_cons, Nat.succ_mul]
  have := h a (by simp)
  have := flat_len f m r (fun x hx => h x (by simp [hx]))
  omega
theorem eoN_len {N : Nn} (g : N.T) : (eoN N).length ≤ 36 := by
 have h6 := g.g.i.n6
 have := flat_len (fun i => (N.nd i).eo (N.W.rd i)) 6 (List.range N.W.n) (fun i hi => by
  have e := (g.kn i (List.mem_range.1 hi)).n
  have := eo_len (N.nd i) (N.W.rd i)
  omega)
 rw [List.length_range] at this
 unfold eoN
 omega
theorem egf_mem {l : List Eg} {i : Nat} (h : i < l.length) : egf l i ∈ l := by
 unfold egf
 rw [List.getD_eq_getElem?_getD, List.getElem?_eq_getElem h]
 exact List.getElem_mem h
theorem eoN_egs {N : Nn} (g : N.T) : Egs N.W.n (egf (eoN N)) (eoN N).length := by
 refine ⟨by have := g.g.i.n1; omega, by have := g.g.i.n6; omega, by have := eoN_len g; omega, fun i hi => ?_⟩
 obtain ⟨a, b, h1, h2, h3, h4, h5, h6, _, _, h7, h8, h9, h10⟩ := (eoN_mem g (egf_mem hi)).ex
 refine ⟨?_, by rw [h5, h6]; omega, okB_mk ⟨by omega, by omega, by omega⟩⟩
 unfold inN
 rw [h5, h6]
 omega
theorem egs_e {n : Int} {q : Nat → Eg} {m : Nat} (h : Egs n q m) : eE n q m = 0 := by
 have n1 := h.n1
 have n6 := h.n6
 have m40 := h.m40
 unfold eE
 rw [if_neg (by omega), if_neg (by omega)]
 refine eFr_ok (fun i hi => ?_)
 obtain ⟨h1, h2, h3⟩ := h.each i hi
 unfold inN at h1
 unfold eEr
 rw [if_neg (by omega), if_neg h2, if_pos h3]
theorem eoN_arc {N : Nn} (g : N.T) : ∀ u v c, Arc (egf (eoN N)) (eoN N).length u v c → N.W.rd v - N.W.rd u ≤ c ∧ c ≤ 4000000000 := by
 rintro u v c ⟨j, hj, q⟩
 obtain ⟨a, b, h1, h2, h3, h4, h5, h6, _, _, h7, h8, h9, h10⟩ := (eoN_mem g (egf_mem hj)).ex
 rcases q with ⟨q1, q2, rfl⟩ | ⟨q1, q2, rfl⟩
 ·obtain rfl : u = a := by omega
  obtain rfl : v = b := by omega
  exact ⟨h8, h10⟩
 ·obtain rfl : u = b := by omega
  obtain rfl : v = a := by omega
  omega
theorem rd_t {N : Nn} (g : N.T) {i : Nat} (hi : i < N.W.n) : 0 ≤ N.W.rd i ∧ N.W.rd i ≤ 1002000000 := by
 have := shw_b g.g hi g.g.i.t0 (Int.le_refl _)
 rwa [shw_rd] at this
theorem eoN_nn {N : Nn} (g : N.T) (n : Nat) : ¬ Neg (Arc (egf (eoN N)) (eoN N).length) n := fun h => h.unfit (x := fun i => N.W.rd i) (fun u v c q => (eoN_arc g u v c q).1)
theorem wk_top {R : Nat → Nat → Int → Prop} {K : Int} (hR : ∀ u v c, R u v c → c ≤ K) : ∀ {r i k : Nat} {c : Int}, Wk R r i k c → c ≤ (r : Int) * K := by
 intro r
 induction r with
 | zero =>
  intro i k c w
  obtain ⟨rfl, rfl⟩ := w.zero
  omega
 | succ r ih =>
  intro i k c w
  obtain ⟨j, a, b, w1, g, rfl⟩ := w.last
  have h1 := ih w1
  have h2 := hR _ _ _ g
  have e : ((r + 1 : Nat) : Int) * K = (r : Int) * K + K := by rw [Int.natCast_add, Int.add_mul]; simp
  omega
theorem eoN_all {N : Nn} (g : N.T) : ∃ T, AllA (egf (eoN N)) (eoN N).length N.W.n 0 T := by
 have hE := eoN_egs g
 obtain ⟨T, hT⟩ := isT_some hE (eoN_nn g N.W.n)
 refine ⟨T, Or.inr ⟨eoN_nn g N.W.n, hT, Or.inr ⟨?_, rfl⟩⟩⟩
 rintro ⟨i, k, x, hi, hk, e, f⟩
 obtain ⟨⟨r, w⟩, m⟩ := (hT i k hi).1 x e
 have lo := wk_fit (x := fun i => N.W.rd i) (fun u v c q => (eoN_arc g u v c q).1) w
 obtain ⟨r', c', h1, h2, w'⟩ := short hE.arc (not_neg (eoN_nn g N.W.n)) r i k x hi w
 have h3 := m r' c' w'
 have h4 := wk_top (K := 4000000000) (fun u v c q => (eoN_arc g u v c q).2) w'
 have ri := rd_t g hi
 have rk := rd_t g hk
 have h6 := g.g.i.n6
 have lo' : N.W.rd k - N.W.rd i ≤ x := lo
 have h5 : (r' : Int) * 4000000000 ≤ 5 * 4000000000 := Int.mul_le_mul_of_nonneg_right (by omega) (by omega)
 omega
theorem eoN_bet {N : Nn} (g : N.T) {a b lo hi e : Int} (ha : 0 ≤ a ∧ a < N.W.n ∧ 0 ≤ b ∧ b < N.W.n) (h : BetA N.W.n (egf (eoN N)) (eoN N).length a b lo hi e) :
  (e = 5 ∧ lo = 0 ∧ hi = 0 ∧ (∀ r c, ¬ Wk (Arc (egf (eoN N)) (eoN N).length) r a.toNat b.toNat c)) ∨ (e = 0 ∧ lo ≤ N.W.rd b.toNat - N.W.rd a.toNat ∧ N.W.rd b.toNat - N.W.rd a.toNat ≤ hi ∧ -1000000000000 ≤ lo ∧ hi ≤ 1000000000000 ∧ Dst (Arc (egf (eoN N)) (eoN N).length) a.toNat b.toNat hi ∧ Dst (Arc (egf (eoN N)) (eoN N).length) b.toNat a.toNat (-lo)) := by
 have hE := eoN_egs g
 obtain ⟨T0, h0⟩ := eoN_all g
 rcases h with ⟨h, _⟩ | ⟨_, h, _⟩ | ⟨_, _, f, T, hA, q⟩
 ·exact absurd (egs_e hE) h
 ·omega
 ·rw [Int.toNat_natCast] at hA
  have f0 := hA.e_one h0
  subst f0
  have hA2 := hA
  rcases hA with ⟨_, c⟩ | ⟨_, hT, ⟨_, c⟩ | ⟨nf, _⟩⟩
  ·cases c
  ·cases c
  ·have a1 : a.toNat < N.W.n := by omega
   have b1 : b.toNat < N.W.n := by omega
   rcases q with ⟨c, _⟩ | ⟨_, n, rfl, rfl, rfl⟩ | ⟨_, ⟨x, s⟩, rfl, rfl, rfl⟩
   ·exact absurd rfl c
   ·exact Or.inl ⟨rfl, rfl, rfl, (hT _ _ a1).2 n⟩
   ·obtain ⟨y, s'⟩ := hT.back a1 b1 s
    have d1 := (hT _ _ a1).1 x s
    have d2 := (hT _ _ b1).1 y s'
    have eh : spHi T a.toNat b.toNat = x := by unfold spHi; rw [s]; rfl
    have el : spLo T a.toNat b.toNat = -y := by unfold spLo; rw [s, s']; rfl
    have fit : ∀ u v c, Arc (egf (eoN N)) (eoN N).length u v c → (fun i => N.W.rd i) v - (fun i => N.W.rd i) u ≤ c := fun u v c q => (eoN_arc g u v c q).1
    obtain ⟨⟨r1, w1⟩, _⟩ := d1
    obtain ⟨⟨r2, w2⟩, _⟩ := d2
    have x1 := wk_fit fit w1
    have x2 := wk_fit fit w2
    have n1 := not_far nf a1 b1 s
    have n2 := not_far nf b1 a1 s'
    rw [eh, el]
    refine Or.inr ⟨rfl, ?_, x1, by omega, by omega, (hT _ _ a1).1 x s, by rw [Int.neg_neg]; exact (hT _ _ b1).1 y s'⟩
    have x2' : N.W.rd a.toNat - N.W.rd b.toNat ≤ y := x2
    omega
theorem Kn.sp {S : Ws} {p : Int} {i : Nat} {c : Nd} (h : Kn S p i c) (g : RtB S p) (hi : i < S.n) : SpR c (S.rd i) 0 := by
 refine Or.inr (Or.inr ⟨h.nbk g hi, fun k _ hk => ?_, rfl⟩)
 have a := h.aged g hi hk
 exact okB_mk ⟨by omega, by omega, by omega⟩
def eoK (N : Nn) (k : Nat) : List Eg := (List.range k).flatMap (fun i => (N.nd i).eo (N.W.rd i))
theorem eoK_all (N : Nn) : eoK N N.W.n = eoN N := rfl
theorem eoK_more (N : Nn) (k : Nat) : eoK N (k + 1) = eoK N k ++ (N.nd k).eo (N.W.rd k) := by
 unfold eoK
 rw [List.range_succ, List.flatMap_append]
 simp
theorem eoK_len {N : Nn} (g : N.T) {k : Nat} (hk : k ≤ N.W.n) : (eoK N k).length ≤ 36 := by
 have h6 := g.g.i.n6
 have := flat_len (fun i => (N.nd i).eo (N.W.rd i)) 6 (List.range k) (fun i hi => by
  have e := (g.kn i (Nat.lt_of_lt_of_le (List.mem_range.1 hi) hk)).n
  have := eo_len (N.nd i) (N.W.rd i)
  omega)
 rw [List.length_range] at this
 unfold eoK
 omega
def wid (n : Nat) (T : Tb) : Int := ((List.range n).map (fun a => ((List.range n).map (fun b => if a < b ∧ (T a b).isSome = true then spHi T a b - spLo T a b else 0)).sum)).sum
def wt (T : Tb) (a b : Nat) : Int := if a < b ∧ (T a b).isSome = true then spHi T a b - spLo T a b else 0
def wrow (T : Tb) (a m : Nat) : Int := ((List.range m).map (wt T a)).sum
def wsum (T : Tb) (n k : Nat) : Int := ((List.range k).map (fun a => wrow T a n)).sum
theorem wid_is (n : Nat) (T : Tb) : wid n T = wsum T n n := rfl
theorem wrow_succ (T : Tb) (a m : Nat) : wrow T a (m + 1) = wrow T a m + wt T a m := by
 unfold wrow
 rw [List.range_succ, List.map_append, List.sum_append]
 simp
theorem wsum_succ (T : Tb) (n k : Nat) : wsum T n (k + 1) = wsum T n k + wrow T k n := by
 unfold wsum
 rw [List.range_succ, List.map_append, List.sum_append]
 simp
theorem wrow_low (T : Tb) (a : Nat) : ∀ m, m ≤ a + 1 → wrow T a m = 0
 | 0, _ => rfl
 | m + 1, h => by
  rw [wrow_succ, wrow_low T a m (by omega)]
  unfold wt
  rw [if_neg (by omega)]
  rfl
theorem wt_b {q : Nat → Eg} {m n : Nat} {T : Tb} (hA : AllA q m n 0 T) {a b : Nat} (ha : a < n) (hb : b < n) : 0 ≤ wt T a b ∧ wt T a b ≤ 2000000000000 ∧ ((T a b).isSome = true → -1000000000000 ≤ spLo T a b ∧ spLo T a b ≤ spHi T a b ∧ spHi T a b ≤ 1000000000000) := by
 rcases hA with ⟨_, c⟩ | ⟨nn, hT, ⟨_, c⟩ | ⟨nf, _⟩⟩
 ·cases c
 ·cases c
 have key : (T a b).isSome = true → -1000000000000 ≤ spLo T a b ∧ spLo T a b ≤ spHi T a b ∧ spHi T a b ≤ 1000000000000 := by
  intro hs
  cases s : T a b with
  | none => rw [s] at hs; cases hs
  | some x =>
   obtain ⟨y, s'⟩ := hT.back ha hb s
   obtain ⟨⟨r1, w1⟩, _⟩ := (hT a b ha).1 x s
   obtain ⟨⟨r2, w2⟩, _⟩ := (hT b a hb).1 y s'
   have f1 := not_far nf ha hb s
   have f2 := not_far nf hb ha s'
   have p := not_neg nn _ _ _ ha (w1.app w2)
   have eh : spHi T a b = x := by unfold spHi; rw [s]; rfl
   have el : spLo T a b = -y := by unfold spLo; rw [s, s']; rfl
   rw [eh, el]
   omega
 refine ⟨?_, ?_, key⟩
 ·unfold wt
  split
  ·rename_i q; have := key q.2; omega
  ·omega
 ·unfold wt
  split
  ·rename_i q; have := key q.2; omega
  ·omega
theorem wrow_b {q : Nat → Eg} {m n : Nat} {T : Tb} (hA : AllA q m n 0 T) {a : Nat} (ha : a < n) : ∀ k, k ≤ n → 0 ≤ wrow T a k ∧ wrow T a k ≤ (k : Int) * 2000000000000
 | 0, _ => ⟨by rw [show wrow T a 0 = 0 from rfl]; decide, by rw [show wrow T a 0 = 0 from rfl]; simp⟩
 | k + 1, h => by
  have i := wrow_b hA ha k (by omega)
  have t := wt_b hA ha (show k < n by omega)
  rw [wrow_succ]
  omega
theorem wsum_b {q : Nat → Eg} {m n : Nat} {T : Tb} (hA : AllA q m n 0 T) (h6 : n ≤ 6) : ∀ k, k ≤ n → 0 ≤ wsum T n k ∧ wsum T n k ≤ (k : Int) * 12000000000000
 | 0, _ => ⟨by rw [show wsum T n 0 = 0 from rfl]; decide, by rw [show wsum T n 0 = 0 from rfl]; simp⟩
 | k + 1, h => by
  have i := wsum_b hA h6 k (by omega)
  have t := wrow_b hA (show k < n by omega) n (Nat.le_refl _)
  rw [wsum_succ]
  omega
end Go.Proofs.YtadkgnbagmnkkakGreatDoor
namespace Go.Proofs.YtadkgnbagmnkkakGreatDoor
open Go.ChangeShapes Go.WideShapes Go.ChangeAt Go.RowKit
set_option linter.unusedVariables false

structure Nt (w0 : World) where
 R : World → Nat → (Nat → Prop) → Nn → Prop
 on : ∀ {u v : World} {b : Nat} {F : Nat → Prop} {N : Nn}, R u b F N → u.heap.size ≤ v.heap.size → (∀ k, F k → v.heap[k]? = u.heap[k]?) → R v b F N
 lt : ∀ {u : World} {b : Nat} {F : Nat → Prop} {N : Nn}, R u b F N → ∀ k, F k → k < u.heap.size
 new : ∀ (sa : Option Addr) (n sc : Nat) (z : Nat → Int) (ra : Option Addr) (m rc : Nat) (r : Nat → Int) (ppm e : Int) (u : World), Below w0.heap.size w0 u → NHanded u sa n z → NHanded u ra m r → In64 ppm → BeE n z m r ppm e → Calls Tryz.prog 33 #[.slice sa n sc, .slice ra m rc, .int .i64 ppm] u fun o w' => ∃ pv, o = .returned (.tuple #[pv, errc e]) ∧ Below u.heap.size u w' ∧ (e = 0 → ∃ b F, pv = .pointer (some ⟨b, 0, none⟩) ∧ R w' b F (Nn.made n z r ppm) ∧ ∀ k, F k → u.heap.size ≤ k)
 act : ∀ (b : Nat) (F : Nat → Prop) (N N' : Nn) (wh x y e : Int) (u : World), R u b F N → N.T → In64 wh → In64 x → In64 y → NDoR N wh x y N' e → Calls Tryz.prog 89 #[.pointer (some ⟨b, 0, none⟩), .agg #[.int .i64 wh, .int .i64 x, .int .i64 y]] u fun o w' => ∃ F', o = .returned (errc e) ∧ R w' b F' N' ∧ Keeps F u w' ∧ ∀ k, F' k → F k ∨ u.heap.size ≤ k
structure Nv (w : World) (C : Nt w) (u : World) (b : Nat) (F : Nat → Prop) (N : Nn) : Prop where
 h : C.R u b F N
 t : N.T
 lo : ∀ k, F k → w.heap.size ≤ k
 hw : Below w.heap.size w u
section
variable {w u v : World} {C : Nt w} {b : Nat} {F : Nat → Prop} {N N' : Nn}
theorem Nv.on (g : Nv w C u b F N) (hb : Below u.heap.size u v) : Nv w C v b F N := ⟨C.on g.h hb.size (fun k hk => hb.block k (C.lt g.h k hk)), g.t, g.lo, rbel_on hb g.hw⟩
theorem Nv.made (C : Nt w) {sa ra : Option Addr} {n sc m rc : Nat} {z r : Nat → Int} {ppm : Int} (hu : Below w.heap.size w u) (h1 : NHanded u sa n z) (h2 : NHanded u ra m r) (hp : In64 ppm) (hE : BeE n z m r ppm 0) : Calls Tryz.prog 33 #[.slice sa n sc, .slice ra m rc, .int .i64 ppm] u fun o w' => ∃ b F, o = .returned (.tuple #[.pointer (some ⟨b, 0, none⟩), .nilIface]) ∧ Nv w C w' b F (Nn.made n z r ppm) ∧ Below u.heap.size u w' ∧ ∀ k, F k → u.heap.size ≤ k :=
 (C.new sa n sc z ra m rc r ppm 0 u hu h1 h2 hp hE).mono (by
  rintro o w' ⟨pv, rfl, hb, h⟩
  obtain ⟨b, F, rfl, h1, h2⟩ := h rfl
  rw [errc_zero]
  exact ⟨b, F, rfl, ⟨h1, Nn.made_t hE, fun k hk => Nat.le_trans hu.size (h2 k hk), rbel_on hb hu⟩, hb, h2⟩)
theorem Nv.act (g : Nv w C u b F N) {wh x y e : Int} (h1 : In64 wh) (h2 : In64 x) (h3 : In64 y) (hD : NDoR N wh x y N' e) : Calls Tryz.prog 89 #[.pointer (some ⟨b, 0, none⟩), .agg #[.int .i64 wh, .int .i64 x, .int .i64 y]] u fun o w' => ∃ F', o = .returned (errc e) ∧ Nv w C w' b F' N' ∧ Keeps F u w' ∧ ∀ k, F' k → F k ∨ u.heap.size ≤ k :=
 (C.act b F N N' wh x y e u g.h g.t h1 h2 h3 hD).mono (by
  rintro o w' ⟨F', rfl, h1, hK, hF⟩
  have sz := g.hw.size
  exact ⟨F', rfl, ⟨h1, (hD.t g.t).1, fun k hk => (hF k hk).elim (g.lo k) (fun h => Nat.le_trans sz h), g.hw.trans (hK.below sz g.lo)⟩, hK, hF⟩)
theorem Nv.grown (g : Nv w C u b F N) {row : Option Nat} (hg : u.grownBy v row) (hn : ∀ k, F k → some k ≠ row) (hv : Below w.heap.size w v) : Nv w C v b F N := ⟨C.on g.h hg.size (fun k hk => hg.block k (C.lt g.h k hk) (hn k hk)), g.t, g.lo, hv⟩
end
structure NtO (w0 : World) extends Nt w0 where
 off : ∀ (b : Nat) (F : Nat → Prop) (N : Nn) (x y lo hi e : Int) (u : World), R u b F N → N.T → In64 x → In64 y → BetA N.W.n (egf (eoN N)) (eoN N).length x y lo hi e → Calls Tryz.prog 92 #[.pointer (some ⟨b, 0, none⟩), .int .i64 x, .int .i64 y] u fun o w' => o = .returned (.tuple #[.agg #[.int .i64 lo, .int .i64 hi], errc e]) ∧ Below u.heap.size u w'
structure NtW (w0 : World) extends NtO w0 where
 wide : ∀ (b : Nat) (F : Nat → Prop) (N : Nn) (T : Tb) (u : World), R u b F N → N.T → AllA (egf (eoN N)) (eoN N).length N.W.n 0 T → Calls Tryz.prog 94 #[.pointer (some ⟨b, 0, none⟩)] u fun o w' => o = .returned (.tuple #[.int .i64 (wid N.W.n T), .nilIface]) ∧ Below u.heap.size u w'
/-! ### Ways of which the nodes in between are below t -/
def Wt (R : Nat → Nat → Int → Prop) (t r i k : Nat) (c : Int) : Prop := ∃ (v : Nat → Nat) (p : Nat → Int), v 0 = i ∧ v r = k ∧ p 0 = 0 ∧ p r = c ∧ (∀ s, s < r → R (v s) (v (s + 1)) (p (s + 1) - p s)) ∧ ∀ s, 0 < s → s < r → v s < t
section
variable {R : Nat → Nat → Int → Prop} {n t : Nat}
theorem wt_split {r i k : Nat} {c : Int} (h : Wt R (t + 1) r i k c) : Wt R t r i k c ∨ ∃ s a b, s < r ∧ r - s < r ∧ Wt R (t + 1) s i t a ∧ Wt R (t + 1) (r - s) t k b ∧ c = a + b := by
 obtain ⟨v, p, h1, h2, h3, h4, h5, h6⟩ := h
 by_cases e : ∃ s, 0 < s ∧ s < r ∧ v s = t
 ·obtain ⟨s, s0, sr, vs⟩ := e
  refine Or.inr ⟨s, p s, c - p s, sr, by omega, ⟨v, p, h1, vs, h3, rfl, fun x hx => h5 x (by omega), fun x a b => h6 x a (by omega)⟩, ⟨fun x => v (s + x), fun x => p (s + x) - p s, vs, ?_, by simp, ?_, fun x hx => ?_, fun x a b => h6 (s + x) (by omega) (by omega)⟩, by omega⟩
  ·show v (s + (r - s)) = k
   rw [show s + (r - s) = r by omega]; exact h2
  ·show p (s + (r - s)) - p s = _
   rw [show s + (r - s) = r by omega, h4]
  ·have := h5 (s + x) (by omega)
   show R (v (s + x)) (v (s + (x + 1))) (p (s + (x + 1)) - p s - (p (s + x) - p s))
   rw [show s + (x + 1) = s + x + 1 by omega, show p (s + x + 1) - p s - (p (s + x) - p s) = p (s + x + 1) - p (s + x) by omega]
   exact this
 ·refine Or.inl ⟨v, p, h1, h2, h3, h4, h5, fun s a b => ?_⟩
  have g := h6 s a b
  have : v s ≠ t := fun q => e ⟨s, a, b, q⟩
  omega
theorem wt_of (hR : ∀ u v c, R u v c → u < n ∧ v < n) {r i k : Nat} {c : Int} (w : Wk R r i k c) : Wt R n r i k c := by
 obtain ⟨v, p, h1, h2, h3, h4, h5⟩ := w
 exact ⟨v, p, h1, h2, h3, h4, h5, fun s a b => (hR _ _ _ (h5 s b)).1⟩
theorem wk_end (hR : ∀ u v c, R u v c → u < n ∧ v < n) {r i k : Nat} {c : Int} (hi : i < n) (w : Wk R r i k c) : k < n := by
 obtain ⟨v, p, h1, h2, h3, h4, h5⟩ := w
 rw [← h2]
 exact wk_in hR h5 (by rw [h1]; exact hi) (Nat.le_refl _)

/-! ### Tables of spans -/
abbrev Tx := Nat → Nat → Option (Int × Int)
def nar (s : Int × Int) : Option (Int × Int) → Int × Int
 | none => s
 | some z => (max s.1 z.1, min s.2 z.2)
def updx (P : Tx) (a b : Nat) (x : Int × Int) : Tx := fun i k => if i = a ∧ k = b then some x else P i k
theorem updx_at (P : Tx) (a b : Nat) (x : Int × Int) : updx P a b x a b = some x := if_pos ⟨rfl, rfl⟩
theorem updx_ne (P : Tx) {a b i k : Nat} (x : Int × Int) (h : ¬ (i = a ∧ k = b)) : updx P a b x i k = P i k := if_neg h
def SP (R : Nat → Nat → Int → Prop) (i k : Nat) (x : Int × Int) : Prop := (∃ r, Wk R r i k x.2) ∧ ∃ r, Wk R r k i (-x.1)
theorem SP.nar {i k : Nat} {s : Int × Int} {o : Option (Int × Int)} (h : SP R i k s) (g : ∀ z, o = some z → SP R i k z) : SP R i k (nar s o) := by
 cases o with
 | none => exact h
 | some z =>
  obtain ⟨z1, z2⟩ := g z rfl
  refine ⟨?_, ?_⟩
  ·show ∃ r, Wk R r i k (min s.2 z.2)
   by_cases c : s.2 ≤ z.2
   ·rw [show min s.2 z.2 = s.2 by omega]; exact h.1
   ·rw [show min s.2 z.2 = z.2 by omega]; exact z1
  ·show ∃ r, Wk R r k i (-(max s.1 z.1))
   by_cases c : s.1 ≤ z.1
   ·rw [show max s.1 z.1 = z.1 by omega]; exact z2
   ·rw [show max s.1 z.1 = s.1 by omega]; exact h.2
theorem SP.app {i o k : Nat} {x y : Int × Int} (h : SP R i o x) (g : SP R o k y) : SP R i k (x.1 + y.1, x.2 + y.2) := by
 obtain ⟨⟨r1, a1⟩, ⟨r2, a2⟩⟩ := h
 obtain ⟨⟨r3, a3⟩, ⟨r4, a4⟩⟩ := g
 refine ⟨⟨_, a1.app a3⟩, ⟨r4 + r2, ?_⟩⟩
 show Wk R (r4 + r2) k i (-(x.1 + y.1))
 rw [show -(x.1 + y.1) = -y.1 + -x.1 by omega]
 exact a4.app a2
theorem SP.neg {i k : Nat} {x : Int × Int} (h : SP R i k x) (hi : i < n) (lt : x.2 < x.1) : Neg R n := by
 obtain ⟨⟨r1, a1⟩, ⟨r2, a2⟩⟩ := h
 exact ⟨_, i, _, hi, a1.app a2, by omega⟩
structure Gd (R : Nat → Nat → Int → Prop) (n : Nat) (c : Int) (P : Tx) : Prop where
 diag : ∀ i, i < n → P i i = some (0, 0)
 sound : ∀ i k x, i < n → k < n → P i k = some x → SP R i k x
 ord : ∀ i k x, i < n → k < n → P i k = some x → x.1 ≤ x.2 ∧ -c ≤ x.1 ∧ x.2 ≤ c
theorem nar_in {c : Int} {s : Int × Int} {o : Option (Int × Int)} (h1 : -c ≤ s.1) (h2 : s.2 ≤ c) (g : ∀ z, o = some z → -c ≤ z.1 ∧ z.2 ≤ c) : -c ≤ (nar s o).1 ∧ (nar s o).2 ≤ c := by
 cases o with
 | none => exact ⟨h1, h2⟩
 | some z =>
  have := g z rfl
  show -c ≤ max s.1 z.1 ∧ min s.2 z.2 ≤ c
  omega
theorem nar_low (s : Int × Int) (o : Option (Int × Int)) : s.1 ≤ (nar s o).1 ∧ (nar s o).2 ≤ s.2 := by
 cases o with
 | none => exact ⟨Int.le_refl _, Int.le_refl _⟩
 | some z =>
  show s.1 ≤ max s.1 z.1 ∧ min s.2 z.2 ≤ s.2
  omega
theorem nar_old (s z : Int × Int) : z.1 ≤ (nar s (some z)).1 ∧ (nar s (some z)).2 ≤ z.2 := by
 show z.1 ≤ max s.1 z.1 ∧ min s.2 z.2 ≤ z.2
 omega
theorem Gd.learn {c : Int} {P : Tx} (h : Gd R n c P) {a b : Nat} {s : Int × Int} (ha : a < n) (hb : b < n) (ne : a ≠ b) (hs : SP R a b s) (h1 : -c ≤ s.1) (h2 : s.2 ≤ c) (ok : (nar s (P a b)).1 ≤ (nar s (P a b)).2) : Gd R n c (updx P a b (nar s (P a b))) := by
 refine ⟨fun i hi => ?_, fun i k x hi hk e => ?_, fun i k x hi hk e => ?_⟩
 ·rw [updx_ne _ _ (by rintro ⟨rfl, rfl⟩; exact ne rfl)]; exact h.diag i hi
 ·by_cases q : i = a ∧ k = b
  ·obtain ⟨rfl, rfl⟩ := q
   rw [updx_at] at e
   obtain rfl := Option.some.inj e
   exact hs.nar (fun z ez => h.sound i k z hi hk ez)
  ·rw [updx_ne _ _ q] at e; exact h.sound i k x hi hk e
 ·by_cases q : i = a ∧ k = b
  ·obtain ⟨rfl, rfl⟩ := q
   rw [updx_at] at e
   obtain rfl := Option.some.inj e
   have := nar_in h1 h2 (o := P i k) (fun z ez => (h.ord i k z hi hk ez).2)
   exact ⟨ok, this.1, this.2⟩
  ·rw [updx_ne _ _ q] at e; exact h.ord i k x hi hk e
def Lwx (P P' : Tx) : Prop := ∀ i k x, P i k = some x → ∃ y, P' i k = some y ∧ x.1 ≤ y.1 ∧ y.2 ≤ x.2
theorem Lwx.trans {P Q S : Tx} (h : Lwx P Q) (g : Lwx Q S) : Lwx P S := fun i k x e => by
 obtain ⟨y, a, b, c⟩ := h i k x e
 obtain ⟨z, d, e', f⟩ := g i k y a
 exact ⟨z, d, by omega, by omega⟩
theorem upd_lwx (P : Tx) (a b : Nat) (s : Int × Int) : Lwx P (updx P a b (nar s (P a b))) := fun i k x e => by
 by_cases q : i = a ∧ k = b
 ·obtain ⟨rfl, rfl⟩ := q
  refine ⟨_, updx_at _ _ _ _, ?_⟩
  rw [e]
  exact nar_old s x
 ·exact ⟨x, by rw [updx_ne _ _ q]; exact e, Int.le_refl _, Int.le_refl _⟩

/-! ### One node more -/
def stx (P : Tx) (o i k : Nat) : Option (Int × Int) := match P i o with
 | none => P i k
 | some x => match P o k with
  | none => P i k
  | some y => some (nar (x.1 + y.1, x.2 + y.2) (P i k))
theorem stx_old {P : Tx} (o : Nat) {i k : Nat} {z : Int × Int} (e : P i k = some z) : ∃ y, stx P o i k = some y ∧ z.1 ≤ y.1 ∧ y.2 ≤ z.2 := by
 unfold stx
 cases P i o with
 | none => exact ⟨z, e, Int.le_refl _, Int.le_refl _⟩
 | some x =>
  simp only
  cases P o k with
  | none => exact ⟨z, e, Int.le_refl _, Int.le_refl _⟩
  | some y => refine ⟨_, rfl, ?_⟩; rw [e]; exact nar_old _ _
theorem stx_new {P : Tx} {o i k : Nat} {x y : Int × Int} (ex : P i o = some x) (ey : P o k = some y) : ∃ z, stx P o i k = some z ∧ x.1 + y.1 ≤ z.1 ∧ z.2 ≤ x.2 + y.2 := by
 unfold stx
 rw [ex]
 simp only
 rw [ey]
 exact ⟨_, rfl, nar_low _ _⟩
theorem stx_col {P : Tx} {o i : Nat} (d : P o o = some (0, 0)) : stx P o i o = P i o := by
 unfold stx
 cases e : P i o with
 | none => rfl
 | some x =>
  simp only
  rw [d]
  obtain ⟨x1, x2⟩ := x
  simp [nar]
theorem stx_row {P : Tx} {o k : Nat} (d : P o o = some (0, 0)) : stx P o o k = P o k := by
 unfold stx
 rw [d]
 simp only
 cases e : P o k with
 | none => rfl
 | some x =>
  obtain ⟨x1, x2⟩ := x
  simp [nar]
def Fwx (R : Nat → Nat → Int → Prop) (n t : Nat) (P : Tx) : Prop := ∀ r i k c, i < n → k < n → Wt R t r i k c → (∃ x, P i k = some x ∧ x.2 ≤ c) ∧ ∃ x, P k i = some x ∧ -x.1 ≤ c
theorem fw_to {P : Tx} (hf : Fwx R n t P) (ht : t < n) (d : P t t = some (0, 0)) : ∀ r i c, i < n → Wt R (t + 1) r i t c → (∃ x, P i t = some x ∧ x.2 ≤ c) ∧ ∃ x, P t i = some x ∧ -x.1 ≤ c := by
 intro r
 induction r using Nat.strongRecOn with
 | _ r ih =>
  intro i c hi w
  rcases wt_split w with h | ⟨s, a, b, s1, s2, w1, w2, rfl⟩
  ·exact hf r i t c hi ht h
  ·obtain ⟨⟨x, x1, x2⟩, ⟨y, y1, y2⟩⟩ := ih s s1 i a hi w1
   obtain ⟨⟨z, z1, z2⟩, _⟩ := ih (r - s) s2 t b ht w2
   rw [d] at z1
   obtain rfl := Option.some.inj z1
   have z2' : (0 : Int) ≤ b := z2
   exact ⟨⟨x, x1, by omega⟩, ⟨y, y1, by omega⟩⟩
theorem fw_from {P : Tx} (hf : Fwx R n t P) (ht : t < n) (d : P t t = some (0, 0)) : ∀ r k c, k < n → Wt R (t + 1) r t k c → (∃ x, P t k = some x ∧ x.2 ≤ c) ∧ ∃ x, P k t = some x ∧ -x.1 ≤ c := by
 intro r
 induction r using Nat.strongRecOn with
 | _ r ih =>
  intro k c hk w
  rcases wt_split w with h | ⟨s, a, b, s1, s2, w1, w2, rfl⟩
  ·exact hf r t k c ht hk h
  ·obtain ⟨⟨x, x1, x2⟩, ⟨y, y1, y2⟩⟩ := ih (r - s) s2 k b hk w2
   obtain ⟨⟨z, z1, z2⟩, _⟩ := ih s s1 t a ht w1
   rw [d] at z1
   obtain rfl := Option.some.inj z1
   have z2' : (0 : Int) ≤ a := z2
   exact ⟨⟨x, x1, by omega⟩, ⟨y, y1, by omega⟩⟩
theorem Fwx.next {P P' : Tx} (hf : Fwx R n t P) (ht : t < n) (d : P t t = some (0, 0)) (hP : ∀ i k, i < n → k < n → P' i k = stx P t i k) : Fwx R n (t + 1) P' := fun r i k c hi hk w => by
 rw [hP i k hi hk, hP k i hk hi]
 rcases wt_split w with h | ⟨s, a, b, s1, s2, w1, w2, rfl⟩
 ·obtain ⟨⟨x, x1, x2⟩, ⟨y, y1, y2⟩⟩ := hf r i k c hi hk h
  obtain ⟨x', e1, e2, e3⟩ := stx_old t x1
  obtain ⟨y', g1, g2, g3⟩ := stx_old t y1
  exact ⟨⟨x', e1, by omega⟩, ⟨y', g1, by omega⟩⟩
 ·obtain ⟨⟨x, x1, x2⟩, ⟨y, y1, y2⟩⟩ := fw_to hf ht d s i a hi w1
  obtain ⟨⟨x', x3, x4⟩, ⟨y', y3, y4⟩⟩ := fw_from hf ht d (r - s) k b hk w2
  obtain ⟨z, e1, e2, e3⟩ := stx_new x1 x3
  obtain ⟨z', g1, g2, g3⟩ := stx_new y3 y1
  exact ⟨⟨z, e1, by omega⟩, ⟨z', g1, by omega⟩⟩
structure Mid (n o : Nat) (P0 P : Tx) (a b : Nat) : Prop where
 done : ∀ i k, i < n → k < n → (i < a ∨ i = a ∧ k < b) → P i k = stx P0 o i k
 left : ∀ i k, i < n → k < n → ¬ (i < a ∨ i = a ∧ k < b) → P i k = P0 i k
 ord : ∀ i k x, i < n → k < n → (i < a ∨ i = a ∧ k < b) → stx P0 o i k = some x → x.1 ≤ x.2
theorem Mid.start {o : Nat} {P : Tx} : Mid n o P P 0 0 := ⟨fun i k _ _ h => by omega, fun i k _ _ _ => rfl, fun i k x _ _ h => by omega⟩
theorem Mid.row {o a : Nat} {P0 P : Tx} (h : Mid n o P0 P a n) : Mid n o P0 P (a + 1) 0 :=
 ⟨fun i k hi hk q => h.done i k hi hk (by omega), fun i k hi hk q => h.left i k hi hk (by omega), fun i k x hi hk q => h.ord i k x hi hk (by omega)⟩
theorem Mid.col {o a b i : Nat} {P0 P : Tx} (h : Mid n o P0 P a b) (d : P0 o o = some (0, 0)) (ho : o < n) (hi : i < n) : P i o = P0 i o := by
 by_cases q : i < a ∨ i = a ∧ o < b
 ·rw [h.done i o hi ho q, stx_col d]
 ·exact h.left i o hi ho q
theorem Mid.rw' {o a b k : Nat} {P0 P : Tx} (h : Mid n o P0 P a b) (d : P0 o o = some (0, 0)) (ho : o < n) (hk : k < n) : P o k = P0 o k := by
 by_cases q : o < a ∨ o = a ∧ k < b
 ·rw [h.done o k ho hk q, stx_row d]
 ·exact h.left o k ho hk q
theorem Mid.skip {o a b : Nat} {P0 P : Tx} {c : Int} (h : Mid n o P0 P a b) (G : Gd R n c P0) (ha : a < n) (hb : b < n) (q : P0 a o = none ∨ P0 o b = none) : Mid n o P0 P a (b + 1) := by
 have e : stx P0 o a b = P0 a b := by
  unfold stx
  rcases q with q | q
  ·rw [q]
  ·cases P0 a o with
   | none => rfl
   | some x => simp only; rw [q]
 refine ⟨fun i k hi hk q' => ?_, fun i k hi hk q' => h.left i k hi hk (by omega), fun i k x hi hk q' ex => ?_⟩
 ·by_cases g : i = a ∧ k = b
  ·obtain ⟨rfl, rfl⟩ := g
   rw [e]; exact h.left i k hi hk (by omega)
  ·exact h.done i k hi hk (by omega)
 ·by_cases g : i = a ∧ k = b
  ·obtain ⟨rfl, rfl⟩ := g
   rw [e] at ex; exact (G.ord i k x hi hk ex).1
  ·exact h.ord i k x hi hk (by omega) ex
theorem Mid.step {o a b : Nat} {P0 P : Tx} {x y : Int × Int} (h : Mid n o P0 P a b) (ha : a < n) (hb : b < n) (ex : P0 a o = some x) (ey : P0 o b = some y) (ok : (nar (x.1 + y.1, x.2 + y.2) (P a b)).1 ≤ (nar (x.1 + y.1, x.2 + y.2) (P a b)).2) :
  Mid n o P0 (updx P a b (nar (x.1 + y.1, x.2 + y.2) (P a b))) a (b + 1) := by
 have e0 : P a b = P0 a b := h.left a b ha hb (by omega)
 have e : stx P0 o a b = some (nar (x.1 + y.1, x.2 + y.2) (P a b)) := by
  unfold stx
  rw [ex]
  simp only
  rw [ey, e0]
 refine ⟨fun i k hi hk q' => ?_, fun i k hi hk q' => ?_, fun i k z hi hk q' ez => ?_⟩
 ·by_cases g : i = a ∧ k = b
  ·obtain ⟨rfl, rfl⟩ := g
   rw [e, updx_at]
  ·rw [updx_ne _ _ g]; exact h.done i k hi hk (by omega)
 ·rw [updx_ne _ _ (by omega)]; exact h.left i k hi hk (by omega)
 ·by_cases g : i = a ∧ k = b
  ·obtain ⟨rfl, rfl⟩ := g
   rw [e] at ez
   obtain rfl := Option.some.inj ez
   exact ok
  ·exact h.ord i k z hi hk (by omega) ez
theorem Mid.sound {o a b : Nat} {P0 P : Tx} {x y : Int × Int} {c : Int} (h : Mid n o P0 P a b) (G : Gd R n c P0) (ho : o < n) (ha : a < n) (hb : b < n) (ex : P0 a o = some x) (ey : P0 o b = some y) : SP R a b (nar (x.1 + y.1, x.2 + y.2) (P a b)) := by
 rw [h.left a b ha hb (by omega)]
 exact ((G.sound a o x ha ho ex).app (G.sound o b y ho hb ey)).nar (fun z ez => G.sound a b z ha hb ez)
theorem Mid.fin {o : Nat} {P0 P : Tx} {c : Int} (h : Mid n o P0 P n 0) (G : Gd R n c P0) (ho : o < n) (hc : 0 ≤ c) : (∀ i k, i < n → k < n → P i k = stx P0 o i k) ∧ Gd R n (2 * c) P := by
 have hd : ∀ i k, i < n → k < n → P i k = stx P0 o i k := fun i k hi hk => h.done i k hi hk (by omega)
 have d := G.diag o ho
 have hs : ∀ i k z, i < n → k < n → stx P0 o i k = some z → SP R i k z ∧ -(2 * c) ≤ z.1 ∧ z.2 ≤ 2 * c := by
  intro i k z hi hk e
  unfold stx at e
  cases ex : P0 i o with
  | none =>
   rw [ex] at e
   have e' : P0 i k = some z := e
   have := G.ord i k z hi hk e'
   exact ⟨G.sound i k z hi hk e', by omega, by omega⟩
  | some x =>
   rw [ex] at e
   simp only at e
   cases ey : P0 o k with
   | none =>
    rw [ey] at e
    have e' : P0 i k = some z := e
    have := G.ord i k z hi hk e'
    exact ⟨G.sound i k z hi hk e', by omega, by omega⟩
   | some y =>
    rw [ey] at e
    have e' := Option.some.inj e
    have bx := G.ord i o x hi ho ex
    have by' := G.ord o k y ho hk ey
    have hn := nar_in (c := 2 * c) (s := (x.1 + y.1, x.2 + y.2)) (o := P0 i k) (by show -(2 * c) ≤ x.1 + y.1; omega) (by show x.2 + y.2 ≤ 2 * c; omega) (fun z ez => by have := G.ord i k z hi hk ez; omega)
    rw [e'] at hn
    refine ⟨?_, hn.1, hn.2⟩
    rw [← e']
    exact ((G.sound i o x hi ho ex).app (G.sound o k y ho hk ey)).nar (fun z ez => G.sound i k z hi hk ez)
 refine ⟨hd, fun i hi => ?_, fun i k z hi hk e => ?_, fun i k z hi hk e => ?_⟩
 ·have g0 := G.diag i hi
  obtain ⟨y, y1, y2, y3⟩ := stx_old o g0
  have := h.ord i i y hi hi (by omega) y1
  rw [hd i i hi hi, y1]
  obtain ⟨u, v⟩ := y
  have a1 : (0 : Int) ≤ u := y2
  have a2 : v ≤ 0 := y3
  have a3 : u ≤ v := this
  obtain rfl : u = 0 := by omega
  obtain rfl : v = 0 := by omega
  rfl
 ·rw [hd i k hi hk] at e; exact (hs i k z hi hk e).1
 ·rw [hd i k hi hk] at e; exact ⟨h.ord i k z hi hk (by omega) e, (hs i k z hi hk e).2⟩
end

/-! ### Edges -/
def tx0 : Tx := fun i k => if i = k then some (0, 0) else none
theorem tx0_gd {R : Nat → Nat → Int → Prop} {n : Nat} {c : Int} (hc : 0 ≤ c) : Gd R n c tx0 := by
 refine ⟨fun i hi => if_pos rfl, fun i k x hi hk e => ?_, fun i k x hi hk e => ?_⟩
 ·unfold tx0 at e
  by_cases h : i = k
  ·subst h
   rw [if_pos rfl] at e
   obtain rfl := Option.some.inj e
   exact ⟨⟨0, Wk.nil i⟩, ⟨0, by show Wk R 0 i i (-0); exact Wk.nil i⟩⟩
  ·rw [if_neg h] at e; cases e
 ·unfold tx0 at e
  by_cases h : i = k
  ·rw [if_pos h] at e
   obtain rfl := Option.some.inj e
   exact ⟨Int.le_refl _, by show -c ≤ 0; omega, hc⟩
  ·rw [if_neg h] at e; cases e
section
variable {q : Nat → Eg} {m n : Nat}
def Dne (q : Nat → Eg) (j : Nat) (P : Tx) : Prop := ∀ u v c, Arc q j u v c → (∃ x, P u v = some x ∧ x.2 ≤ c) ∧ ∃ x, P v u = some x ∧ -x.1 ≤ c
theorem dne_zero {P : Tx} : Dne q 0 P := fun u v c g => by obtain ⟨j, hj, _⟩ := g; omega
theorem Dne.low {j : Nat} {P P' : Tx} (h : Dne q j P) (l : Lwx P P') : Dne q j P' := fun u v c g => by
 obtain ⟨⟨x, x1, x2⟩, ⟨y, y1, y2⟩⟩ := h u v c g
 obtain ⟨x', a1, a2, a3⟩ := l _ _ _ x1
 obtain ⟨y', b1, b2, b3⟩ := l _ _ _ y1
 exact ⟨⟨x', a1, by omega⟩, ⟨y', b1, by omega⟩⟩
theorem edge_sp {j A B : Nat} (hj : j < m) (hA : (q j).a = A) (hB : (q j).b = B) : SP (Arc q m) A B ((q j).lo, (q j).hi) ∧ SP (Arc q m) B A (-(q j).hi, -(q j).lo) := by
 have a1 : Arc q m A B (q j).hi := ⟨j, hj, Or.inl ⟨hA.symm, hB.symm, rfl⟩⟩
 have a2 : Arc q m B A (-(q j).lo) := ⟨j, hj, Or.inr ⟨hB.symm, hA.symm, rfl⟩⟩
 have w1 : Wk (Arc q m) 1 A B (q j).hi := by have := (Wk.nil A).snoc a1; rwa [Int.zero_add] at this
 have w2 : Wk (Arc q m) 1 B A (-(q j).lo) := by have := (Wk.nil B).snoc a2; rwa [Int.zero_add] at this
 refine ⟨⟨⟨1, w1⟩, ⟨1, w2⟩⟩, ⟨⟨1, w2⟩, ⟨1, ?_⟩⟩⟩
 show Wk _ 1 A B (- -(q j).hi)
 rw [Int.neg_neg]
 exact w1
theorem Dne.step {j A B : Nat} {P : Tx} (h : Dne q j P) (hA : (q j).a = A) (hB : (q j).b = B) {P1 P2 : Tx} (e1 : P1 = updx P A B (nar ((q j).lo, (q j).hi) (P A B))) (e2 : P2 = updx P1 B A (nar (-(q j).hi, -(q j).lo) (P1 B A))) : Dne q (j + 1) P2 := by
 have l1 : Lwx P P1 := by rw [e1]; exact upd_lwx P A B _
 have l2 : Lwx P1 P2 := by rw [e2]; exact upd_lwx P1 B A _
 intro u v c g
 obtain ⟨j', hj', g⟩ := g
 by_cases k : j' < j
 ·exact (h.low (l1.trans l2)) u v c ⟨j', k, g⟩
 ·obtain rfl : j' = j := by omega
  have f1 : ∃ x, P2 A B = some x ∧ (q j').lo ≤ x.1 ∧ x.2 ≤ (q j').hi := by
   have n1 := nar_low ((q j').lo, (q j').hi) (P A B)
   obtain ⟨y, y1, y2, y3⟩ := l2 A B _ (by rw [e1, updx_at])
   exact ⟨y, y1, by have : (q j').lo ≤ _ := n1.1; omega, by have : _ ≤ (q j').hi := n1.2; omega⟩
  have f2 : ∃ x, P2 B A = some x ∧ -(q j').hi ≤ x.1 ∧ x.2 ≤ -(q j').lo := by
   have n1 := nar_low (-(q j').hi, -(q j').lo) (P1 B A)
   exact ⟨_, by rw [e2, updx_at], n1.1, n1.2⟩
  obtain ⟨x, x1, x2, x3⟩ := f1
  obtain ⟨y, y1, y2, y3⟩ := f2
  rcases g with ⟨g1, g2, rfl⟩ | ⟨g1, g2, rfl⟩
  ·obtain rfl : u = A := by omega
   obtain rfl : v = B := by omega
   exact ⟨⟨x, x1, x3⟩, ⟨y, y1, by omega⟩⟩
  ·obtain rfl : u = B := by omega
   obtain rfl : v = A := by omega
   exact ⟨⟨y, y1, y3⟩, ⟨x, x1, by omega⟩⟩
theorem Dne.fw {P : Tx} {c : Int} (h : Dne q m P) (G : Gd (Arc q m) n c P) : Fwx (Arc q m) n 0 P := fun r i k c' hi hk w => by
 obtain ⟨v, p, h1, h2, h3, h4, h5, h6⟩ := w
 by_cases r0 : r = 0
 ·subst r0
  have e : i = k := h1.symm.trans h2
  subst e
  have : c' = 0 := h4.symm.trans h3
  exact ⟨⟨_, G.diag i hi, by show (0 : Int) ≤ c'; omega⟩, ⟨_, G.diag i hi, by show -(0 : Int) ≤ c'; omega⟩⟩
 ·by_cases r1 : r = 1
  ·subst r1
   have g := h5 0 (by omega)
   rw [h1, h2, h4, h3, Int.sub_zero] at g
   exact h i k c' g
  ·have := h6 1 (by omega) (by omega)
   omega
def topT (n : Nat) (P : Tx) : Tb := fun i k => if k < n then (P i k).map (fun x => x.2) else none
theorem top_isT {P : Tx} {c : Int} (hE : Egs n q m) (G : Gd (Arc q m) n c P) (F : Fwx (Arc q m) n n P) : ¬ Neg (Arc q m) n ∧ IsT q m n (topT n P) ∧ ∀ i k x, i < n → k < n → P i k = some x → ∃ y, P k i = some y ∧ y.2 = -x.1 := by
 have wf : ∀ r i k c', i < n → Wk (Arc q m) r i k c' → (∃ x, P i k = some x ∧ x.2 ≤ c') ∧ ∃ x, P k i = some x ∧ -x.1 ≤ c' := fun r i k c' hi w => F r i k c' hi (wk_end hE.arc hi w) (wt_of hE.arc w)
 refine ⟨?_, ?_, ?_⟩
 ·rintro ⟨r, i, c', hi, w, lt⟩
  obtain ⟨⟨x, x1, x2⟩, _⟩ := wf r i i c' hi w
  rw [G.diag i hi] at x1
  obtain rfl := Option.some.inj x1
  have : (0 : Int) ≤ c' := x2
  omega
 ·intro i k hi
  constructor
  ·intro x e
   unfold topT at e
   by_cases hk : k < n
   ·rw [if_pos hk] at e
    cases ep : P i k with
    | none => rw [ep] at e; cases e
    | some z =>
     rw [ep] at e
     obtain rfl := Option.some.inj e
     refine ⟨(G.sound i k z hi hk ep).1, fun r c' w => ?_⟩
     obtain ⟨⟨x, x1, x2⟩, _⟩ := wf r i k c' hi w
     rw [ep] at x1
     obtain rfl := Option.some.inj x1
     exact x2
   ·rw [if_neg hk] at e; cases e
  ·intro e r c' w
   obtain ⟨⟨x, x1, x2⟩, _⟩ := wf r i k c' hi w
   unfold topT at e
   rw [if_pos (wk_end hE.arc hi w), x1] at e
   cases e
 ·intro i k x hi hk e
  obtain ⟨_, ⟨r, w⟩⟩ := G.sound i k x hi hk e
  obtain ⟨⟨y, y1, y2⟩, _⟩ := wf r k i _ hk w
  refine ⟨y, y1, ?_⟩
  obtain ⟨⟨r', w'⟩, _⟩ := G.sound k i y hk hi y1
  obtain ⟨_, ⟨z, z1, z2⟩⟩ := wf r' k i _ hk w'
  rw [e] at z1
  obtain rfl := Option.some.inj z1
  omega
end
def xLo (P : Tx) (i k : Nat) : Int := match P i k with
 | none => 0
 | some x => x.1
def xHi (P : Tx) (i k : Nat) : Int := match P i k with
 | none => 0
 | some x => x.2
def rowS (P : Tx) (n i : Nat) : List Value := (List.range (n * 2)).map fun j => .int .i64 (if j % 2 = 0 then xLo P i (j / 2) else xHi P i (j / 2))
def rowK (P : Tx) (n i : Nat) : List Value := (List.range n).map fun k => .bool (P i k).isSome
theorem rowS_lo (P : Tx) (n i k : Nat) (h : k < n) : (rowS P n i)[k * 2]? = some (.int .i64 (xLo P i k)) := by
 unfold rowS
 rw [List.getElem?_map, List.getElem?_range (by omega)]
 show some (Value.int .i64 (if k * 2 % 2 = 0 then xLo P i (k * 2 / 2) else xHi P i (k * 2 / 2))) = _
 rw [if_pos (by omega), show k * 2 / 2 = k by omega]
theorem rowS_hi (P : Tx) (n i k : Nat) (h : k < n) : (rowS P n i)[k * 2 + 1]? = some (.int .i64 (xHi P i k)) := by
 unfold rowS
 rw [List.getElem?_map, List.getElem?_range (by omega)]
 show some (Value.int .i64 (if (k * 2 + 1) % 2 = 0 then xLo P i ((k * 2 + 1) / 2) else xHi P i ((k * 2 + 1) / 2))) = _
 rw [if_neg (by omega), show (k * 2 + 1) / 2 = k by omega]
theorem rowS_none (P : Tx) (n i j : Nat) (h : n * 2 ≤ j) : (rowS P n i)[j]? = none := by
 unfold rowS
 rw [List.getElem?_eq_none (by simp; omega)]
theorem rowK_at (P : Tx) (n i k : Nat) (h : k < n) : (rowK P n i)[k]? = some (.bool (P i k).isSome) := by simp [rowK, h]
theorem rowS_ext {P : Tx} {n i : Nat} {l : List Value} (h1 : ∀ k, k < n → l[k * 2]? = some (.int .i64 (xLo P i k)) ∧ l[k * 2 + 1]? = some (.int .i64 (xHi P i k))) (h2 : ∀ j, n * 2 ≤ j → l[j]? = none) : rowS P n i = l := by
 apply List.ext_getElem?
 intro j
 by_cases hj : j < n * 2
 ·by_cases e : j % 2 = 0
  ·obtain ⟨k, rfl⟩ : ∃ k, j = k * 2 := ⟨j / 2, by omega⟩
   rw [rowS_lo _ _ _ _ (by omega), (h1 k (by omega)).1]
  ·obtain ⟨k, rfl⟩ : ∃ k, j = k * 2 + 1 := ⟨j / 2, by omega⟩
   rw [rowS_hi _ _ _ _ (by omega), (h1 k (by omega)).2]
 ·rw [rowS_none _ _ _ _ (by omega), h2 j (by omega)]
theorem updx_lo (P : Tx) (a b i k : Nat) (x : Int × Int) : xLo (updx P a b x) i k = if i = a ∧ k = b then x.1 else xLo P i k := by
 unfold xLo
 by_cases h : i = a ∧ k = b
 ·rw [if_pos h]; obtain ⟨rfl, rfl⟩ := h; rw [updx_at]
 ·rw [if_neg h, updx_ne _ _ h]
theorem updx_hi (P : Tx) (a b i k : Nat) (x : Int × Int) : xHi (updx P a b x) i k = if i = a ∧ k = b then x.2 else xHi P i k := by
 unfold xHi
 by_cases h : i = a ∧ k = b
 ·rw [if_pos h]; obtain ⟨rfl, rfl⟩ := h; rw [updx_at]
 ·rw [if_neg h, updx_ne _ _ h]
theorem upd_rowS (P : Tx) (n i b : Nat) (x : Int × Int) (hb : b < n) : rowS (updx P i b x) n i = ((rowS P n i).set (b * 2) (.int .i64 x.1)).set (b * 2 + 1) (.int .i64 x.2) := by
 have len : (rowS P n i).length = n * 2 := by simp [rowS]
 refine rowS_ext (fun k hk => ?_) (fun j hj => ?_)
 ·rw [updx_lo, updx_hi]
  by_cases e : k = b
  ·subst e
   rw [if_pos ⟨rfl, rfl⟩, if_pos ⟨rfl, rfl⟩]
   refine ⟨?_, ?_⟩
   ·rw [List.getElem?_set_ne (by omega), List.getElem?_set_self (by omega)]
   ·rw [List.getElem?_set_self (by simp; omega)]
  ·rw [if_neg (by omega), if_neg (by omega)]
   refine ⟨?_, ?_⟩
   ·rw [List.getElem?_set_ne (by omega), List.getElem?_set_ne (by omega), rowS_lo _ _ _ _ hk]
   ·rw [List.getElem?_set_ne (by omega), List.getElem?_set_ne (by omega), rowS_hi _ _ _ _ hk]
 ·rw [List.getElem?_eq_none (by simp; omega)]
theorem upd_rowK (P : Tx) (n i b : Nat) (x : Int × Int) (hb : b < n) : rowK (updx P i b x) n i = (rowK P n i).set b (.bool true) := by
 apply List.ext_getElem?
 intro k
 by_cases hk : k < n
 ·rw [rowK_at _ _ _ _ hk]
  by_cases e : b = k
  ·subst e
   rw [List.getElem?_set_self (by simp [rowK]; exact hk), updx_at]; rfl
  ·rw [List.getElem?_set_ne e, rowK_at _ _ _ _ hk, updx_ne _ _ (by omega)]
 ·rw [List.getElem?_eq_none (by simp [rowK]; omega), List.getElem?_eq_none (by simp [rowK]; omega)]
theorem upd_rowS_other (P : Tx) (n i j b : Nat) (x : Int × Int) (h : j ≠ i) : rowS (updx P i b x) n j = rowS P n j := by
 unfold rowS
 apply List.map_congr_left
 intro y _
 rw [show xLo (updx P i b x) j (y / 2) = xLo P j (y / 2) by rw [updx_lo]; exact if_neg (by omega), show xHi (updx P i b x) j (y / 2) = xHi P j (y / 2) by rw [updx_hi]; exact if_neg (by omega)]
theorem upd_rowK_other (P : Tx) (n i j b : Nat) (x : Int × Int) (h : j ≠ i) : rowK (updx P i b x) n j = rowK P n j := by
 unfold rowK
 apply List.map_congr_left
 intro y _
 rw [updx_ne _ _ (by omega)]
def outs (Sb : Nat → Nat) (n : Nat) : List Value := (List.range n).map fun i => .slice (some ⟨Sb i, 0, none⟩) n n
theorem outs_at (Sb : Nat → Nat) (n i : Nat) (h : i < n) : (outs Sb n)[i]? = some (.slice (some ⟨Sb i, 0, none⟩) n n) := by simp [outs, h]
structure Tbx (u : World) (gs gk n : Nat) (Sb Kb : Nat → Nat) (P : Tx) : Prop where
 outS : Blk u 128 gs (outs Sb n)
 outK : Blk u 127 gk (outs Kb n)
 inS : ∀ i, i < n → Blk u 34 (Sb i) (rowS P n i)
 inK : ∀ i, i < n → Blk u 4 (Kb i) (rowK P n i)
 oneS : ∀ i j, i < n → j < n → i ≠ j → Sb i ≠ Sb j
 oneK : ∀ i j, i < n → j < n → i ≠ j → Kb i ≠ Kb j
def Rwx (n : Nat) (Sb Kb : Nat → Nat) (k : Nat) : Prop := ∃ i, i < n ∧ (k = Sb i ∨ k = Kb i)
section
variable {u W : World} {gs gk n : Nat} {Sb Kb : Nat → Nat} {P : Tx}
theorem Tbx.sk (h : Tbx u gs gk n Sb Kb P) {i j : Nat} (hi : i < n) (hj : j < n) : Sb i ≠ Kb j := (h.inS i hi).ne (h.inK j hj) (by decide)
theorem Tbx.gsS (h : Tbx u gs gk n Sb Kb P) {i : Nat} (hi : i < n) : gs ≠ Sb i := h.outS.ne (h.inS i hi) (by decide)
theorem Tbx.gsK (h : Tbx u gs gk n Sb Kb P) {i : Nat} (hi : i < n) : gs ≠ Kb i := h.outS.ne (h.inK i hi) (by decide)
theorem Tbx.gkS (h : Tbx u gs gk n Sb Kb P) {i : Nat} (hi : i < n) : gk ≠ Sb i := h.outK.ne (h.inS i hi) (by decide)
theorem Tbx.gkK (h : Tbx u gs gk n Sb Kb P) {i : Nat} (hi : i < n) : gk ≠ Kb i := h.outK.ne (h.inK i hi) (by decide)
theorem Tbx.on (hb : Below W.heap.size W u) (h : Tbx W gs gk n Sb Kb P) : Tbx u gs gk n Sb Kb P :=
 ⟨h.outS.on hb, h.outK.on hb, fun i hi => (h.inS i hi).on hb, fun i hi => (h.inK i hi).on hb, h.oneS, h.oneK⟩
theorem Tbx.al {ob : Obj} (h : Tbx W gs gk n Sb Kb P) : Tbx (W.alloc ob) gs gk n Sb Kb P :=
 ⟨h.outS.al, h.outK.al, fun i hi => (h.inS i hi).al, fun i hi => (h.inK i hi).al, h.oneS, h.oneK⟩
theorem Tbx.drn {m : Nat} (h : Tbx W gs gk n Sb Kb P) : Tbx (W.drewN m) gs gk n Sb Kb P := ⟨h.outS, h.outK, h.inS, h.inK, h.oneS, h.oneK⟩
theorem Tbx.dr (h : Tbx W gs gk n Sb Kb P) : Tbx W.drew gs gk n Sb Kb P := ⟨h.outS, h.outK, h.inS, h.inK, h.oneS, h.oneK⟩
theorem Tbx.far {b i : Nat} {x : Value} (h : Tbx W gs gk n Sb Kb P) (h1 : gs ≠ b) (h2 : gk ≠ b) (h3 : ∀ i, i < n → Sb i ≠ b ∧ Kb i ≠ b) : Tbx (W.setCell ⟨b, i, none⟩ x) gs gk n Sb Kb P :=
 ⟨h.outS.far h1, h.outK.far h2, fun i hi => (h.inS i hi).far (h3 i hi).1, fun i hi => (h.inK i hi).far (h3 i hi).2, h.oneS, h.oneK⟩
theorem Tbx.lt (h : Tbx u gs gk n Sb Kb P) : gs < u.heap.size ∧ gk < u.heap.size ∧ ∀ i, i < n → Sb i < u.heap.size ∧ Kb i < u.heap.size := ⟨h.outS.lt, h.outK.lt, fun i hi => ⟨(h.inS i hi).lt, (h.inK i hi).lt⟩⟩
theorem Tbx.put (h : Tbx W gs gk n Sb Kb P) {a b : Nat} (ha : a < n) (hb : b < n) (lo hi : Int) : Tbx (((W.setCell ⟨Sb a, b * 2, none⟩ (.int .i64 lo)).setCell ⟨Sb a, b * 2 + 1, none⟩ (.int .i64 hi)).setCell ⟨Kb a, b, none⟩ (.bool true)) gs gk n Sb Kb (updx P a b (lo, hi)) := by
 refine ⟨?_, ?_, fun j hj => ?_, fun j hj => ?_, h.oneS, h.oneK⟩
 ·exact ((h.outS.far (h.gsS ha)).far (h.gsS ha)).far (h.gsK ha)
 ·exact ((h.outK.far (h.gkS ha)).far (h.gkS ha)).far (h.gkK ha)
 ·by_cases e : j = a
  ·subst e
   rw [upd_rowS _ _ _ _ _ hb]
   exact (((h.inS j hj).put _).put _).far (h.sk hj hj)
  ·rw [upd_rowS_other _ _ _ _ _ _ e]
   exact (((h.inS j hj).far (h.oneS j a hj ha e)).far (h.oneS j a hj ha e)).far (h.sk hj ha)
 ·by_cases e : j = a
  ·subst e
   rw [upd_rowK _ _ _ _ _ hb]
   exact (((h.inK j hj).far (fun k => h.sk hj hj k.symm)).far (fun k => h.sk hj hj k.symm)).put b
  ·rw [upd_rowK_other _ _ _ _ _ _ e]
   exact (((h.inK j hj).far (fun k => h.sk ha hj k.symm)).far (fun k => h.sk ha hj k.symm)).far (h.oneK j a hj ha e)
end
end Go.Proofs.YtadkgnbagmnkkakGreatDoor
namespace Go.Proofs.YtadkgnbagmnkkakGreatDoor
set_option linter.unusedVariables false

def wcol (T : Tb) (b m : Nat) : Int := ((List.range m).map (fun a => wt T a b)).sum
def csum (T : Tb) (k : Nat) : Int := ((List.range k).map (fun b => wcol T b b)).sum
theorem wcol_succ (T : Tb) (b m : Nat) : wcol T b (m + 1) = wcol T b m + wt T m b := by
 unfold wcol
 rw [List.range_succ, List.map_append, List.sum_append]
 simp
theorem csum_succ (T : Tb) (k : Nat) : csum T (k + 1) = csum T k + wcol T k k := by
 unfold csum
 rw [List.range_succ, List.map_append, List.sum_append]
 simp
theorem wsum_col (T : Tb) (n : Nat) : ∀ k, wsum T (n + 1) k = wsum T n k + wcol T n k
 | 0 => rfl
 | k + 1 => by
  rw [wsum_succ, wsum_succ, wcol_succ, wsum_col T n k, wrow_succ]
  omega
theorem csum_is (T : Tb) : ∀ n, csum T n = wsum T n n
 | 0 => rfl
 | n + 1 => by
  rw [csum_succ, wsum_succ, wsum_col, csum_is T n, wrow_low T n (n + 1) (Nat.le_refl _)]
  omega
theorem wcol_b {q : Nat → Eg} {m n : Nat} {T : Tb} (hA : AllA q m n 0 T) {b : Nat} (hb : b < n) : ∀ k, k ≤ n → 0 ≤ wcol T b k ∧ wcol T b k ≤ (k : Int) * 2000000000000
 | 0, _ => ⟨by rw [show wcol T b 0 = 0 from rfl]; decide, by rw [show wcol T b 0 = 0 from rfl]; simp⟩
 | k + 1, h => by
  have i := wcol_b hA hb k (by omega)
  have t := wt_b hA (show k < n by omega) hb
  rw [wcol_succ]
  omega
theorem csum_b {q : Nat → Eg} {m n : Nat} {T : Tb} (hA : AllA q m n 0 T) (h6 : n ≤ 6) : ∀ k, k ≤ n → 0 ≤ csum T k ∧ csum T k ≤ (k : Int) * 12000000000000
 | 0, _ => ⟨by rw [show csum T 0 = 0 from rfl]; decide, by rw [show csum T 0 = 0 from rfl]; simp⟩
 | k + 1, h => by
  have i := csum_b hA h6 k (by omega)
  have t := wcol_b hA (show k < n by omega) k (by omega)
  rw [csum_succ]
  omega
end Go.Proofs.YtadkgnbagmnkkakGreatDoor
