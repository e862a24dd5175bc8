/- Errors by their numbers. Numbers in a row, as they are handed over; errors by their numbers. Bools and spans in a row, as they are handed over. Letters as they are handed over, edges by their places. A block as it is, with its type; tables of ints and bools, row by row, as they lie in memory. What there is to be answered of bounds. What there is to be answered of bounds is there. A table of spans, made tighter node by node: plain mathematics. Errors by their numbers, and what is wrong with a date. What there is to be answered of leaps, seconds and labels. -/
import Derived.Test.YtigcliepeapcpajGreatDoorNm03
import Derived.WalkArith
import Derived.Test.YtigcliepeapcpajGreatDoorNm02
import Derived.OwnWalk
import Derived.Deep.Heap
import Derived.Deep.AppendLies
namespace Go.Proofs.YtigcliepeapcpajGreatDoor
open Go.ChangeShapes Go.WideShapes Go.ChangeAt Go.RowKit
set_option linter.unusedVariables false

/-- An error by its number; 0: none. -/
def errc (e : Int) : Value := if e = 0 then .nilIface else .iface 71 (.int .i64 e)
theorem errc_zero : errc 0 = .nilIface := if_pos rfl
theorem errc_not {e : Int} (h : e ≠ 0) : errc e = .iface 71 (.int .i64 e) := if_neg h
/-- A number that an int can be. -/
abbrev In64 (n : Int) : Prop := (Lit.int .i64 n).wf = true
end Go.Proofs.YtigcliepeapcpajGreatDoor
namespace Go.Proofs.YtigcliepeapcpajGreatDoor
open Go.ChangeShapes Go.WideShapes Go.ChangeAt Go.RowKit
set_option linter.unusedVariables false

/-- n numbers lie in a row behind an address. -/
def Nrd (w : World) (b off n : Nat) (z : Nat → Int) : Prop := ∀ i, i < n → w.cell? ⟨b, off + i, none⟩ = some (.int .i64 (z i))
theorem Nrd.on {W u : World} {b off n : Nat} {z : Nat → Int} (hb : Below W.heap.size W u) (h : Nrd W b off n z) : Nrd u b off n z := fun i hi => by
  rw [hb.cell (World.block_lt_of_cell? _ _ (h i hi))]; exact h i hi
def NHanded (w : World) (a : Option Addr) (n : Nat) (z : Nat → Int) : Prop := n ≤ 9223372036854775807 ∧ (n = 0 ∨ ∃ b off : Nat, a = some ⟨b, off, none⟩ ∧ Nrd w b off n z)
theorem NHanded.on {W u : World} {a : Option Addr} {n : Nat} {z : Nat → Int} (hb : Below W.heap.size W u) (h : NHanded W a n z) : NHanded u a n z :=
  ⟨h.1, h.2.imp id (fun ⟨b, off, e, s⟩ => ⟨b, off, e, s.on hb⟩)⟩
end Go.Proofs.YtigcliepeapcpajGreatDoor
namespace Go.Proofs.YtigcliepeapcpajGreatDoor
open Go.ChangeShapes Go.WideShapes Go.ChangeAt Go.RowKit
set_option linter.unusedVariables false

def Bls (w : World) (b off n : Nat) (f : Nat → Bool) : Prop := ∀ i, i < n → w.cell? ⟨b, off + i, none⟩ = some (.bool (f i))
theorem Bls.on {W u : World} {b off n : Nat} {f : Nat → Bool} (hb : Below W.heap.size W u) (h : Bls W b off n f) : Bls u b off n f := fun i hi => by
  rw [hb.cell (World.block_lt_of_cell? _ _ (h i hi))]; exact h i hi
def BHanded (w : World) (a : Option Addr) (n : Nat) (f : Nat → Bool) : Prop := n ≤ 9223372036854775807 ∧ (n = 0 ∨ ∃ b off : Nat, a = some ⟨b, off, none⟩ ∧ Bls w b off n f)
theorem BHanded.on {W u : World} {a : Option Addr} {n : Nat} {f : Nat → Bool} (hb : Below W.heap.size W u) (h : BHanded W a n f) : BHanded u a n f :=
  ⟨h.1, h.2.imp id (fun ⟨b, off, e, s⟩ => ⟨b, off, e, s.on hb⟩)⟩
def Sls (w : World) (b off n : Nat) (f : Nat → Int × Int) : Prop := ∀ i, i < n → w.cell? ⟨b, off + i * 2, none⟩ = some (.int .i64 (f i).1) ∧ w.cell? ⟨b, off + i * 2 + 1, none⟩ = some (.int .i64 (f i).2)
theorem Sls.on {W u : World} {b off n : Nat} {f : Nat → Int × Int} (hb : Below W.heap.size W u) (h : Sls W b off n f) : Sls u b off n f := fun i hi => by
  obtain ⟨h0, h1⟩ := h i hi
  exact ⟨by rw [hb.cell (World.block_lt_of_cell? _ _ h0)]; exact h0, by rw [hb.cell (World.block_lt_of_cell? _ _ h1)]; exact h1⟩
def SHanded (w : World) (a : Option Addr) (n : Nat) (f : Nat → Int × Int) : Prop := n ≤ 9223372036854775807 ∧ (n = 0 ∨ ∃ b off : Nat, a = some ⟨b, off, none⟩ ∧ Sls w b off n f)
theorem SHanded.on {W u : World} {a : Option Addr} {n : Nat} {f : Nat → Int × Int} (hb : Below W.heap.size W u) (h : SHanded W a n f) : SHanded u a n f :=
  ⟨h.1, h.2.imp id (fun ⟨b, off, e, s⟩ => ⟨b, off, e, s.on hb⟩)⟩
end Go.Proofs.YtigcliepeapcpajGreatDoor
namespace Go.Proofs.YtigcliepeapcpajGreatDoor
open Go.ChangeShapes Go.WideShapes Go.ChangeAt Go.RowKit
set_option linter.unusedVariables false

/-- A letter's numbers are such that an int can be. -/
structure Lt.In6 (l : Lt) : Prop where
  a : In64 l.frm
  b : In64 l.to
  c : In64 l.t1
  d : In64 l.t2
  e : In64 l.t
/-- How many there are behind a fault: none. -/
def nOf (e : Int) (n : Nat) : Nat := if e = 0 then n else 0
/-- Edges by their places. -/
def egf (l : List Eg) (i : Nat) : Eg := l.getD i ⟨0, 0, 0, 0⟩
/-- A row lies in none of these blocks. -/
def Apt (F : Nat → Prop) (a : Option Addr) : Prop := ∀ (b off : Nat), a = some ⟨b, off, none⟩ → ¬ F b
end Go.Proofs.YtigcliepeapcpajGreatDoor
namespace Go.Proofs.YtigcliepeapcpajGreatDoor
open Go.ChangeShapes Go.WideShapes Go.ChangeAt Go.RowKit
set_option linter.unusedVariables false

/-- A block holds just these cells, of this type. -/
def Blk (u : World) (e : TypeId) (b : Nat) (vs : List Value) : Prop := u.heap[b]? = some (.cells vs.toArray e (0, 0))
section
variable {W u w : World} {e e' : TypeId} {b b' n i : Nat} {vs vs' : List Value} {x : Value} {ob : Obj}
theorem Blk.lt (h : Blk u e b vs) : b < u.heap.size := by
  apply Classical.byContradiction
  intro k
  unfold Blk at h
  rw [Array.getElem?_eq_none (by omega)] at h
  cases h
theorem Blk.c (h : Blk u e b vs) (i : Nat) (v : Value) (hv : vs[i]? = some v) : u.cell? ⟨b, i, none⟩ = some v := by
  unfold World.cell?
  rw [show u.heap[(⟨b, i, none⟩ : Addr).block]? = some (.cells vs.toArray e (0, 0)) from h]
  simpa using hv
theorem Blk.f (h : Blk u e b vs) (i : Nat) : u.frozen? ⟨b, i, none⟩ = false := by
  unfold World.frozen?
  rw [show u.heap[(⟨b, i, none⟩ : Addr).block]? = some (.cells vs.toArray e (0, 0)) from h]
  simp
theorem Blk.ne (h : Blk u e b vs) (h' : Blk u e' b' vs') (ne : e ≠ e') : b ≠ b' := by
  rintro rfl
  unfold Blk at h h'
  rw [h] at h'
  simp at h'
  exact ne h'.2
theorem Blk.al (h : Blk W e b vs) : Blk (W.alloc ob) e b vs := (Below.heap_alloc _ _ _ h.lt).trans h
theorem Blk.made (hb : b = W.heap.size) : Blk (W.alloc (.cells vs.toArray e)) e b vs := by
  subst hb
  show (W.heap.push _)[W.heap.size]? = _
  simp
theorem Blk.dr (h : Blk W e b vs) : Blk W.drew e b vs := h
theorem Blk.drn (h : Blk W e b vs) : Blk (W.drewN n) e b vs := h
theorem Blk.on (hb : Below W.heap.size W u) (h : Blk W e b vs) : Blk u e b vs := (hb.block b h.lt).trans h
theorem Blk.grown {row : Option Nat} (hg : W.grownBy u row) (hne : some b ≠ row) (h : Blk W e b vs) : Blk u e b vs := (hg.block b h.lt hne).trans h
theorem Blk.far (hne : b ≠ b') (h : Blk W e b vs) : Blk (W.setCell ⟨b', i, none⟩ x) e b vs := (Deep.blk_setCell_other W ⟨b', i, none⟩ x b hne).trans h
theorem Blk.put (i : Nat) (h : Blk W e b vs) : Blk (W.setCell ⟨b, i, none⟩ x) e b (vs.set i x) := by
  unfold Blk at *
  show (W.heap.modify b _)[b]? = _
  rw [Array.getElem?_modify, if_pos rfl, h]
  simp
end
/-- A row of a table: its numbers; whether there is any. -/
def rowD (S : Tb) (n i : Nat) : List Value := (List.range n).map fun k => .int .i64 ((S i k).getD 0)
def rowH (S : Tb) (n i : Nat) : List Value := (List.range n).map fun k => .bool (S i k).isSome
theorem rowD_at (S : Tb) (n i k : Nat) (h : k < n) : (rowD S n i)[k]? = some (.int .i64 ((S i k).getD 0)) := by simp [rowD, h]
theorem rowH_at (S : Tb) (n i k : Nat) (h : k < n) : (rowH S n i)[k]? = some (.bool (S i k).isSome) := by simp [rowH, h]
/-- One bound turned. -/
def upd (S : Tb) (i b : Nat) (x : Int) : Tb := fun i' k => if i' = i ∧ k = b then some x else S i' k
theorem upd_rowD (S : Tb) (n i b : Nat) (x : Int) : rowD (upd S i b x) n i = (rowD S n i).set b (.int .i64 x) := by
  apply List.ext_getElem?
  intro k
  by_cases hk : k < n
  · rw [rowD_at _ _ _ _ hk]
    by_cases e : b = k
    · subst e
      rw [List.getElem?_set_self (by simp [rowD]; exact hk)]
      simp [upd]
    · rw [List.getElem?_set_ne e, rowD_at _ _ _ _ hk]
      simp [upd, show ¬ k = b from fun h => e h.symm]
  · rw [List.getElem?_eq_none (by simp [rowD]; omega), List.getElem?_eq_none (by simp [rowD]; omega)]
theorem upd_rowH (S : Tb) (n i b : Nat) (x : Int) : rowH (upd S i b x) n i = (rowH S n i).set b (.bool true) := by
  apply List.ext_getElem?
  intro k
  by_cases hk : k < n
  · rw [rowH_at _ _ _ _ hk]
    by_cases e : b = k
    · subst e
      rw [List.getElem?_set_self (by simp [rowH]; exact hk)]
      simp [upd]
    · rw [List.getElem?_set_ne e, rowH_at _ _ _ _ hk]
      simp [upd, show ¬ k = b from fun h => e h.symm]
  · rw [List.getElem?_eq_none (by simp [rowH]; omega), List.getElem?_eq_none (by simp [rowH]; omega)]
theorem upd_rowD_other (S : Tb) (n i j b : Nat) (x : Int) (h : j ≠ i) : rowD (upd S i b x) n j = rowD S n j := by simp [rowD, upd, h]
theorem upd_rowH_other (S : Tb) (n i j b : Nat) (x : Int) (h : j ≠ i) : rowH (upd S i b x) n j = rowH S n j := by simp [rowH, upd, h]
/-- A table in memory: two slices of rows. -/
structure Tab (u : World) (gd gh n : Nat) (Db Hb : Nat → Nat) (S : Tb) : Prop where
  outD : ∀ i, i < n → u.cell? ⟨gd, i, none⟩ = some (.slice (some ⟨Db i, 0, none⟩) n n)
  outH : ∀ i, i < n → u.cell? ⟨gh, i, none⟩ = some (.slice (some ⟨Hb i, 0, none⟩) n n)
  inD : ∀ i, i < n → Blk u 3 (Db i) (rowD S n i)
  inH : ∀ i, i < n → Blk u 4 (Hb i) (rowH S n i)
  oneD : ∀ i j, i < n → j < n → i ≠ j → Db i ≠ Db j
  oneH : ∀ i j, i < n → j < n → i ≠ j → Hb i ≠ Hb j
  apD : ∀ i, i < n → gd ≠ Db i ∧ gd ≠ Hb i
  apH : ∀ i, i < n → gh ≠ Db i ∧ gh ≠ Hb i
section
variable {u W : World} {gd gh n : Nat} {Db Hb : Nat → Nat} {S : Tb}
theorem Tab.ap (h : Tab u gd gh n Db Hb S) {i j : Nat} (hi : i < n) (hj : j < n) : Db i ≠ Hb j := (h.inD i hi).ne (h.inH j hj) (by decide)
theorem Tab.on (hb : Below W.heap.size W u) (h : Tab W gd gh n Db Hb S) : Tab u gd gh n Db Hb S :=
  ⟨fun i hi => by rw [hb.cell (World.block_lt_of_cell? _ _ (h.outD i hi))]; exact h.outD i hi, fun i hi => by rw [hb.cell (World.block_lt_of_cell? _ _ (h.outH i hi))]; exact h.outH i hi,
    fun i hi => (h.inD i hi).on hb, fun i hi => (h.inH i hi).on hb, h.oneD, h.oneH, h.apD, h.apH⟩
theorem Tab.drn {m : Nat} (h : Tab W gd gh n Db Hb S) : Tab (W.drewN m) gd gh n Db Hb S := ⟨h.outD, h.outH, h.inD, h.inH, h.oneD, h.oneH, h.apD, h.apH⟩
theorem Tab.dr (h : Tab W gd gh n Db Hb S) : Tab W.drew gd gh n Db Hb S := ⟨h.outD, h.outH, h.inD, h.inH, h.oneD, h.oneH, h.apD, h.apH⟩
/-- A number is stored, and that there is one. -/
theorem Tab.put (h : Tab W gd gh n Db Hb S) {i b : Nat} (hi : i < n) (x : Int) : Tab ((W.setCell ⟨Db i, b, none⟩ (.int .i64 x)).setCell ⟨Hb i, b, none⟩ (.bool true)) gd gh n Db Hb (upd S i b x) := by
  refine ⟨fun j hj => ?_, fun j hj => ?_, fun j hj => ?_, fun j hj => ?_, h.oneD, h.oneH, h.apD, h.apH⟩
  · rw [World.cell?_setCell_far _ _ _ _ (fun k => (h.apD i hi).2 k.symm), World.cell?_setCell_far _ _ _ _ (fun k => (h.apD i hi).1 k.symm)]; exact h.outD j hj
  · rw [World.cell?_setCell_far _ _ _ _ (fun k => (h.apH i hi).2 k.symm), World.cell?_setCell_far _ _ _ _ (fun k => (h.apH i hi).1 k.symm)]; exact h.outH j hj
  · by_cases e : j = i
    · subst e
      rw [upd_rowD]
      exact ((h.inD j hj).put b).far (h.ap hj hj)
    · rw [upd_rowD_other _ _ _ _ _ _ e]
      exact ((h.inD j hj).far (h.oneD j i hj hi e)).far (h.ap hj hi)
  · by_cases e : j = i
    · subst e
      rw [upd_rowH]
      exact ((h.inH j hj).far (fun k => h.ap hj hj k.symm)).put b
    · rw [upd_rowH_other _ _ _ _ _ _ e]
      exact ((h.inH j hj).far (fun k => h.ap hi hj k.symm)).far (h.oneH j i hj hi e)
end
/-- A step along an arc, as a store or none. -/
theorem rlx_upd (S : Tb) (i a b : Nat) (c x : Int) (h : S i a = some x) (g : S i b = none ∨ ∃ y, S i b = some y ∧ x + c < y) : rlx S i a b c = upd S i b (x + c) := by
  funext i' k
  unfold rlx upd
  by_cases e : i' = i ∧ k = b
  · rw [if_pos e, if_pos e, h]
    rcases g with g | ⟨y, g, lt⟩
    · rw [g]
    · rw [g]; simp only; rw [if_pos lt]
  · rw [if_neg e, if_neg e]
theorem rlx_same (S : Tb) (i a b : Nat) (c : Int) (g : S i a = none ∨ ∃ x y, S i a = some x ∧ S i b = some y ∧ ¬ x + c < y) : rlx S i a b c = S := by
  funext i' k
  unfold rlx
  by_cases e : i' = i ∧ k = b
  · obtain ⟨rfl, rfl⟩ := e
    rw [if_pos ⟨rfl, rfl⟩]
    rcases g with g | ⟨x, y, g1, g2, nl⟩
    · rw [g]
    · rw [g1, g2]; simp only; rw [if_neg nl]
  · rw [if_neg e]
end Go.Proofs.YtigcliepeapcpajGreatDoor
namespace Go.Proofs.YtigcliepeapcpajGreatDoor
open Go.ChangeShapes Go.WideShapes Go.ChangeAt Go.RowKit
set_option linter.unusedVariables false

/-- The table of the least ways, just so. -/
def IsT (q : Nat → Eg) (m n : Nat) (T : Tb) : Prop := ∀ i k, i < n → (∀ x, T i k = some x → Dst (Arc q m) i k x) ∧ (T i k = none → ∀ r c, ¬ Wk (Arc q m) r i k c)
section
variable {q : Nat → Eg} {m n : Nat} {T T' : Tb}
theorem IsT.one (h : IsT q m n T) (h' : IsT q m n T') {i : Nat} (hi : i < n) (k : Nat) : T i k = T' i k := by
  cases e : T i k with
  | none =>
    cases e' : T' i k with
    | none => rfl
    | some y =>
      obtain ⟨⟨r, w⟩, _⟩ := (h' i k hi).1 y e'
      exact absurd w ((h i k hi).2 e r y)
  | some x =>
    cases e' : T' i k with
    | none =>
      obtain ⟨⟨r, w⟩, _⟩ := (h i k hi).1 x e
      exact absurd w ((h' i k hi).2 e' r x)
    | some y => rw [((h i k hi).1 x e).one ((h' i k hi).1 y e')]
theorem IsT.back (h : IsT q m n T) {i k : Nat} (hi : i < n) (hk : k < n) {x : Int} (e : T i k = some x) : ∃ y, T k i = some y := by
  obtain ⟨⟨r, w⟩, _⟩ := (h i k hi).1 x e
  obtain ⟨r', c', w'⟩ := wk_back w
  cases e' : T k i with
  | none => exact absurd w' ((h k i hk).2 e' r' c')
  | some y => exact ⟨y, rfl⟩
/-- An end beyond the greatest time. -/
def Far (n : Nat) (T : Tb) : Prop := ∃ i k x, i < n ∧ k < n ∧ T i k = some x ∧ (x < -1000000000000 ∨ 1000000000000 < x)
theorem Far.same (h : IsT q m n T) (h' : IsT q m n T') (f : Far n T) : Far n T' := by
  obtain ⟨i, k, x, hi, hk, e, g⟩ := f
  exact ⟨i, k, x, hi, hk, by rw [← h.one h' hi k]; exact e, g⟩
theorem not_far (h : ¬ Far n T) {i k : Nat} {x : Int} (hi : i < n) (hk : k < n) (e : T i k = some x) : -1000000000000 ≤ x ∧ x ≤ 1000000000000 := by
  apply Classical.byContradiction
  intro c
  exact h ⟨i, k, x, hi, hk, e, by omega⟩
end
/-- The span of two nodes: none is told by zeros. -/
def spLo (T : Tb) (i k : Nat) : Int := match T i k with
  | none => 0
  | some _ => -((T k i).getD 0)
def spHi (T : Tb) (i k : Nat) : Int := (T i k).getD 0
/-- What All answers, of edges as they may be: its error, and the table that is told if there is none. -/
def AllA (q : Nat → Eg) (m n : Nat) (e : Int) (T : Tb) : Prop := (Neg (Arc q m) n ∧ e = 7) ∨ (¬ Neg (Arc q m) n ∧ IsT q m n T ∧ ((Far n T ∧ e = 1) ∨ (¬ Far n T ∧ e = 0)))
theorem AllA.e_one {q : Nat → Eg} {m n : Nat} {e e' : Int} {T T' : Tb} (h : AllA q m n e T) (h' : AllA q m n e' T') : e = e' := by
  rcases h with ⟨g, rfl⟩ | ⟨g, t, f⟩
  · rcases h' with ⟨_, rfl⟩ | ⟨g', _⟩
    · rfl
    · exact absurd g g'
  · rcases h' with ⟨g', _⟩ | ⟨_, t', f'⟩
    · exact absurd g' g
    · rcases f with ⟨f, rfl⟩ | ⟨f, rfl⟩
      · rcases f' with ⟨_, rfl⟩ | ⟨f', _⟩
        · rfl
        · exact absurd (f.same t t') f'
      · rcases f' with ⟨f', _⟩ | ⟨_, rfl⟩
        · exact absurd (f'.same t' t) f
        · rfl
/-- All, of any edges. -/
def AllE (z : Int) (q : Nat → Eg) (m : Nat) (e : Int) (T : Tb) : Prop := (eE z q m ≠ 0 ∧ e = eE z q m) ∨ (eE z q m = 0 ∧ AllA q m z.toNat e T)
/-- Between, of any edges and any two nodes. -/
def BetA (z : Int) (q : Nat → Eg) (m : Nat) (a b lo hi e : Int) : Prop :=
  (eE z q m ≠ 0 ∧ lo = 0 ∧ hi = 0 ∧ e = eE z q m) ∨ (eE z q m = 0 ∧ (a < 0 ∨ z ≤ a ∨ b < 0 ∨ z ≤ b) ∧ lo = 0 ∧ hi = 0 ∧ e = 1) ∨
  (eE z q m = 0 ∧ (0 ≤ a ∧ a < z ∧ 0 ≤ b ∧ b < z) ∧ ∃ f T, AllA q m z.toNat f T ∧
    ((f ≠ 0 ∧ lo = 0 ∧ hi = 0 ∧ e = f) ∨ (f = 0 ∧ T a.toNat b.toNat = none ∧ lo = 0 ∧ hi = 0 ∧ e = 5) ∨ (f = 0 ∧ (∃ x, T a.toNat b.toNat = some x) ∧ lo = spLo T a.toNat b.toNat ∧ hi = spHi T a.toNat b.toNat ∧ e = 0)))
/-- The first clock that is no time. -/
def badC (c : Nat → Int) (k : Nat) : Prop := ∃ i, i < k ∧ (c i < -1000000000000 ∨ 1000000000000 < c i)
/-- Do clocks fit the first m edges? -/
def fitB (q : Nat → Eg) (c : Nat → Int) : Nat → Bool
  | 0 => true
  | m + 1 => fitB q c m && (decide ((q m).lo ≤ c (q m).b.toNat - c (q m).a.toNat) && decide (c (q m).b.toNat - c (q m).a.toNat ≤ (q m).hi))
/-- Fits, of any edges and any clocks. -/
def FitA (z : Int) (q : Nat → Eg) (m k : Nat) (c : Nat → Int) (b : Bool) (e : Int) : Prop :=
  (eE z q m ≠ 0 ∧ b = false ∧ e = eE z q m) ∨ (eE z q m = 0 ∧ (k : Int) ≠ z ∧ b = false ∧ e = 3) ∨ (eE z q m = 0 ∧ (k : Int) = z ∧ badC c k ∧ b = false ∧ e = 1) ∨
  (eE z q m = 0 ∧ (k : Int) = z ∧ ¬ badC c k ∧ b = fitB q c m ∧ e = 0)
/-- What is told of all, as it lies in memory. -/
def STab (u : World) (s h : Value) (n : Nat) (T : Tb) : Prop :=
  ∃ (sb so sc hb ho hc : Nat) (rb ro rc gb go gc : Nat → Nat), s = .slice (some ⟨sb, so, none⟩) n sc ∧ h = .slice (some ⟨hb, ho, none⟩) n hc ∧
    (∀ i, i < n → u.cell? ⟨sb, so + i, none⟩ = some (.slice (some ⟨rb i, ro i, none⟩) n (rc i)) ∧ u.cell? ⟨hb, ho + i, none⟩ = some (.slice (some ⟨gb i, go i, none⟩) n (gc i))) ∧
    (∀ i k, i < n → k < n → u.cell? ⟨rb i, ro i + k * 2, none⟩ = some (.int .i64 (spLo T i k)) ∧ u.cell? ⟨rb i, ro i + k * 2 + 1, none⟩ = some (.int .i64 (spHi T i k)) ∧ u.cell? ⟨gb i, go i + k, none⟩ = some (.bool (T i k).isSome))
theorem STab.on {W u : World} {s h : Value} {n : Nat} {T : Tb} (hb : Below W.heap.size W u) (t : STab W s h n T) : STab u s h n T := by
  obtain ⟨sb, so, sc, hb', ho, hc, rb, ro, rc, gb, go, gc, e1, e2, r1, r2⟩ := t
  have on : ∀ (a : Addr) (v : Value), W.cell? a = some v → u.cell? a = some v := fun a v e => by rw [hb.cell (World.block_lt_of_cell? _ _ e)]; exact e
  exact ⟨sb, so, sc, hb', ho, hc, rb, ro, rc, gb, go, gc, e1, e2, fun i hi => ⟨on _ _ (r1 i hi).1, on _ _ (r1 i hi).2⟩, fun i k hi hk => ⟨on _ _ (r2 i k hi hk).1, on _ _ (r2 i k hi hk).2.1, on _ _ (r2 i k hi hk).2.2⟩⟩

end Go.Proofs.YtigcliepeapcpajGreatDoor
namespace Go.Proofs.YtigcliepeapcpajGreatDoor
open Go.ChangeShapes Go.WideShapes Go.ChangeAt Go.RowKit
set_option linter.unusedVariables false

theorem least_nat (P : Nat → Prop) : ∀ n, P n → ∃ k, P k ∧ ∀ j, j < k → ¬ P j := by
  intro n
  induction n using Nat.strongRecOn with
  | _ n ih =>
    intro h
    by_cases c : ∃ j, j < n ∧ P j
    · obtain ⟨j, hj, hp⟩ := c
      exact ih j hj hp
    · exact ⟨n, h, fun j hj hp => c ⟨j, hj, hp⟩⟩
section
variable {q : Nat → Eg} {m n : Nat}
theorem wk_low (hE : Egs n q m) : ∀ {r i k : Nat} {c : Int}, Wk (Arc q m) r i k c → -((r : Int) * 1000000000000) ≤ c := by
  intro r
  induction r with
  | zero =>
    intro i k c w
    obtain ⟨_, rfl⟩ := w.zero
    omega
  | succ r ih =>
    intro i k c w
    obtain ⟨j, a, b, w1, g, rfl⟩ := w.last
    have h1 := ih w1
    have h2 := hE.small g
    omega
theorem dst_some (hE : Egs n q m) (hN : ¬ Neg (Arc q m) n) {i k r : Nat} {c : Int} (hi : i < n) (w : Wk (Arc q m) r i k c) : ∃ d, Dst (Arc q m) i k d := by
  have low : ∀ r c, Wk (Arc q m) r i k c → -6000000000000 ≤ c := fun r c w => by
    obtain ⟨r', c', h1, h2, w'⟩ := short hE.arc (not_neg hN) r i k c hi w
    have h3 := wk_low hE w'
    have h4 := hE.n6
    omega
  obtain ⟨t, ⟨r', w'⟩, hm⟩ := least_nat (fun t => ∃ r, Wk (Arc q m) r i k ((t : Int) - 6000000000000)) (c + 6000000000000).toNat (by
    have := low r c w
    refine ⟨r, ?_⟩
    rw [show (((c + 6000000000000).toNat : Nat) : Int) - 6000000000000 = c by omega]
    exact w)
  refine ⟨(t : Int) - 6000000000000, ⟨r', w'⟩, fun s c' v => ?_⟩
  apply Classical.byContradiction
  intro h
  have := low s c' v
  refine hm (c' + 6000000000000).toNat (by omega) ⟨s, ?_⟩
  rw [show (((c' + 6000000000000).toNat : Nat) : Int) - 6000000000000 = c' by omega]
  exact v
open Classical in
theorem isT_some (hE : Egs n q m) (hN : ¬ Neg (Arc q m) n) : ∃ T, IsT q m n T := by
  refine ⟨fun i k => if h : ∃ c, Dst (Arc q m) i k c then some h.choose else none, fun i k hi => ⟨fun x e => ?_, fun e r c w => ?_⟩⟩
  · by_cases h : ∃ c, Dst (Arc q m) i k c
    · simp only [dif_pos h] at e
      obtain rfl := Option.some.inj e
      exact h.choose_spec
    · simp only [dif_neg h] at e
      cases e
  · have h := dst_some hE hN hi w
    simp only [dif_pos h] at e
    cases e
theorem allA_some (hE : Egs n q m) : ∃ e T, AllA q m n e T := by
  by_cases hN : Neg (Arc q m) n
  · exact ⟨7, tb0, Or.inl ⟨hN, rfl⟩⟩
  · obtain ⟨T, hT⟩ := isT_some hE hN
    by_cases f : Far n T
    · exact ⟨1, T, Or.inr ⟨hN, hT, Or.inl ⟨f, rfl⟩⟩⟩
    · exact ⟨0, T, Or.inr ⟨hN, hT, Or.inr ⟨f, rfl⟩⟩⟩
end
theorem fitA_some (z : Int) (q : Nat → Eg) (m k : Nat) (c : Nat → Int) : ∃ b e, FitA z q m k c b e := by
  by_cases h : eE z q m = 0
  · by_cases h1 : (k : Int) = z
    · by_cases h2 : badC c k
      · exact ⟨_, _, Or.inr (Or.inr (Or.inl ⟨h, h1, h2, rfl, rfl⟩))⟩
      · exact ⟨_, _, Or.inr (Or.inr (Or.inr ⟨h, h1, h2, rfl, rfl⟩))⟩
    · exact ⟨_, _, Or.inr (Or.inl ⟨h, h1, rfl, rfl⟩)⟩
  · exact ⟨_, _, Or.inl ⟨h, rfl, rfl⟩⟩
theorem betA_some {q : Nat → Eg} {m n : Nat} {f : Int} {T : Tb} (hZ : eE n q m = 0) (hA : AllA q m n f T) (a b : Int) : ∃ lo hi e, BetA n q m a b lo hi e := by
  by_cases c : 0 ≤ a ∧ a < n ∧ 0 ≤ b ∧ b < n
  · by_cases h : f = 0
    · cases t : T a.toNat b.toNat with
      | none => exact ⟨0, 0, 5, Or.inr (Or.inr ⟨hZ, c, f, T, by rw [Int.toNat_natCast]; exact hA, Or.inr (Or.inl ⟨h, t, rfl, rfl, rfl⟩)⟩)⟩
      | some x => exact ⟨_, _, 0, Or.inr (Or.inr ⟨hZ, c, f, T, by rw [Int.toNat_natCast]; exact hA, Or.inr (Or.inr ⟨h, ⟨x, t⟩, rfl, rfl, rfl⟩)⟩)⟩
    · exact ⟨0, 0, f, Or.inr (Or.inr ⟨hZ, c, f, T, by rw [Int.toNat_natCast]; exact hA, Or.inl ⟨h, rfl, rfl, rfl⟩⟩)⟩
  · exact ⟨0, 0, 1, Or.inr (Or.inl ⟨hZ, by omega, rfl, rfl, rfl⟩)⟩
end Go.Proofs.YtigcliepeapcpajGreatDoor
namespace Go.Proofs.YtigcliepeapcpajGreatDoor
open Go.ChangeShapes Go.WideShapes Go.ChangeAt Go.RowKit
set_option linter.unusedVariables false

/-! ### Ways of which the nodes in between are below t -/
def Wt (R : Nat → Nat → Int → Prop) (t r i k : Nat) (c : Int) : Prop := ∃ (v : Nat → Nat) (p : Nat → Int), v 0 = i ∧ v r = k ∧ p 0 = 0 ∧ p r = c ∧ (∀ s, s < r → R (v s) (v (s + 1)) (p (s + 1) - p s)) ∧ ∀ s, 0 < s → s < r → v s < t
section
variable {R : Nat → Nat → Int → Prop} {n t : Nat}
theorem wt_split {r i k : Nat} {c : Int} (h : Wt R (t + 1) r i k c) : Wt R t r i k c ∨ ∃ s a b, s < r ∧ r - s < r ∧ Wt R (t + 1) s i t a ∧ Wt R (t + 1) (r - s) t k b ∧ c = a + b := by
  obtain ⟨v, p, h1, h2, h3, h4, h5, h6⟩ := h
  by_cases e : ∃ s, 0 < s ∧ s < r ∧ v s = t
  · obtain ⟨s, s0, sr, vs⟩ := e
    refine Or.inr ⟨s, p s, c - p s, sr, by omega, ⟨v, p, h1, vs, h3, rfl, fun x hx => h5 x (by omega), fun x a b => h6 x a (by omega)⟩, ⟨fun x => v (s + x), fun x => p (s + x) - p s, vs, ?_, by simp, ?_, fun x hx => ?_, fun x a b => h6 (s + x) (by omega) (by omega)⟩, by omega⟩
    · show v (s + (r - s)) = k
      rw [show s + (r - s) = r by omega]; exact h2
    · show p (s + (r - s)) - p s = _
      rw [show s + (r - s) = r by omega, h4]
    · have := h5 (s + x) (by omega)
      show R (v (s + x)) (v (s + (x + 1))) (p (s + (x + 1)) - p s - (p (s + x) - p s))
      rw [show s + (x + 1) = s + x + 1 by omega, show p (s + x + 1) - p s - (p (s + x) - p s) = p (s + x + 1) - p (s + x) by omega]
      exact this
  · refine Or.inl ⟨v, p, h1, h2, h3, h4, h5, fun s a b => ?_⟩
    have g := h6 s a b
    have : v s ≠ t := fun q => e ⟨s, a, b, q⟩
    omega
theorem wt_of (hR : ∀ u v c, R u v c → u < n ∧ v < n) {r i k : Nat} {c : Int} (w : Wk R r i k c) : Wt R n r i k c := by
  obtain ⟨v, p, h1, h2, h3, h4, h5⟩ := w
  exact ⟨v, p, h1, h2, h3, h4, h5, fun s a b => (hR _ _ _ (h5 s b)).1⟩
theorem wk_end (hR : ∀ u v c, R u v c → u < n ∧ v < n) {r i k : Nat} {c : Int} (hi : i < n) (w : Wk R r i k c) : k < n := by
  obtain ⟨v, p, h1, h2, h3, h4, h5⟩ := w
  rw [← h2]
  exact wk_in hR h5 (by rw [h1]; exact hi) (Nat.le_refl _)

/-! ### Tables of spans -/
abbrev Tx := Nat → Nat → Option (Int × Int)
/-- What is in both. -/
def nar (s : Int × Int) : Option (Int × Int) → Int × Int
  | none => s
  | some z => (max s.1 z.1, min s.2 z.2)
def updx (P : Tx) (a b : Nat) (x : Int × Int) : Tx := fun i k => if i = a ∧ k = b then some x else P i k
theorem updx_at (P : Tx) (a b : Nat) (x : Int × Int) : updx P a b x a b = some x := if_pos ⟨rfl, rfl⟩
theorem updx_ne (P : Tx) {a b i k : Nat} (x : Int × Int) (h : ¬ (i = a ∧ k = b)) : updx P a b x i k = P i k := if_neg h
/-- What is told of two nodes is so: there are such ways. -/
def SP (R : Nat → Nat → Int → Prop) (i k : Nat) (x : Int × Int) : Prop := (∃ r, Wk R r i k x.2) ∧ ∃ r, Wk R r k i (-x.1)
theorem SP.nar {i k : Nat} {s : Int × Int} {o : Option (Int × Int)} (h : SP R i k s) (g : ∀ z, o = some z → SP R i k z) : SP R i k (nar s o) := by
  cases o with
  | none => exact h
  | some z =>
    obtain ⟨z1, z2⟩ := g z rfl
    refine ⟨?_, ?_⟩
    · show ∃ r, Wk R r i k (min s.2 z.2)
      by_cases c : s.2 ≤ z.2
      · rw [show min s.2 z.2 = s.2 by omega]; exact h.1
      · rw [show min s.2 z.2 = z.2 by omega]; exact z1
    · show ∃ r, Wk R r k i (-(max s.1 z.1))
      by_cases c : s.1 ≤ z.1
      · rw [show max s.1 z.1 = z.1 by omega]; exact z2
      · rw [show max s.1 z.1 = s.1 by omega]; exact h.2
theorem SP.app {i o k : Nat} {x y : Int × Int} (h : SP R i o x) (g : SP R o k y) : SP R i k (x.1 + y.1, x.2 + y.2) := by
  obtain ⟨⟨r1, a1⟩, ⟨r2, a2⟩⟩ := h
  obtain ⟨⟨r3, a3⟩, ⟨r4, a4⟩⟩ := g
  refine ⟨⟨_, a1.app a3⟩, ⟨r4 + r2, ?_⟩⟩
  show Wk R (r4 + r2) k i (-(x.1 + y.1))
  rw [show -(x.1 + y.1) = -y.1 + -x.1 by omega]
  exact a4.app a2
theorem SP.neg {i k : Nat} {x : Int × Int} (h : SP R i k x) (hi : i < n) (lt : x.2 < x.1) : Neg R n := by
  obtain ⟨⟨r1, a1⟩, ⟨r2, a2⟩⟩ := h
  exact ⟨_, i, _, hi, a1.app a2, by omega⟩
/-- A table that could be: sound, the right way round, within c. -/
structure Gd (R : Nat → Nat → Int → Prop) (n : Nat) (c : Int) (P : Tx) : Prop where
  diag : ∀ i, i < n → P i i = some (0, 0)
  sound : ∀ i k x, i < n → k < n → P i k = some x → SP R i k x
  ord : ∀ i k x, i < n → k < n → P i k = some x → x.1 ≤ x.2 ∧ -c ≤ x.1 ∧ x.2 ≤ c
theorem nar_in {c : Int} {s : Int × Int} {o : Option (Int × Int)} (h1 : -c ≤ s.1) (h2 : s.2 ≤ c) (g : ∀ z, o = some z → -c ≤ z.1 ∧ z.2 ≤ c) : -c ≤ (nar s o).1 ∧ (nar s o).2 ≤ c := by
  cases o with
  | none => exact ⟨h1, h2⟩
  | some z =>
    have := g z rfl
    show -c ≤ max s.1 z.1 ∧ min s.2 z.2 ≤ c
    omega
theorem nar_low (s : Int × Int) (o : Option (Int × Int)) : s.1 ≤ (nar s o).1 ∧ (nar s o).2 ≤ s.2 := by
  cases o with
  | none => exact ⟨Int.le_refl _, Int.le_refl _⟩
  | some z =>
    show s.1 ≤ max s.1 z.1 ∧ min s.2 z.2 ≤ s.2
    omega
theorem nar_old (s z : Int × Int) : z.1 ≤ (nar s (some z)).1 ∧ (nar s (some z)).2 ≤ z.2 := by
  show z.1 ≤ max s.1 z.1 ∧ min s.2 z.2 ≤ z.2
  omega
theorem Gd.learn {c : Int} {P : Tx} (h : Gd R n c P) {a b : Nat} {s : Int × Int} (ha : a < n) (hb : b < n) (ne : a ≠ b) (hs : SP R a b s) (h1 : -c ≤ s.1) (h2 : s.2 ≤ c) (ok : (nar s (P a b)).1 ≤ (nar s (P a b)).2) : Gd R n c (updx P a b (nar s (P a b))) := by
  refine ⟨fun i hi => ?_, fun i k x hi hk e => ?_, fun i k x hi hk e => ?_⟩
  · rw [updx_ne _ _ (by rintro ⟨rfl, rfl⟩; exact ne rfl)]; exact h.diag i hi
  · by_cases q : i = a ∧ k = b
    · obtain ⟨rfl, rfl⟩ := q
      rw [updx_at] at e
      obtain rfl := Option.some.inj e
      exact hs.nar (fun z ez => h.sound i k z hi hk ez)
    · rw [updx_ne _ _ q] at e; exact h.sound i k x hi hk e
  · by_cases q : i = a ∧ k = b
    · obtain ⟨rfl, rfl⟩ := q
      rw [updx_at] at e
      obtain rfl := Option.some.inj e
      have := nar_in h1 h2 (o := P i k) (fun z ez => (h.ord i k z hi hk ez).2)
      exact ⟨ok, this.1, this.2⟩
    · rw [updx_ne _ _ q] at e; exact h.ord i k x hi hk e
/-- The second is as tight at least. -/
def Lwx (P P' : Tx) : Prop := ∀ i k x, P i k = some x → ∃ y, P' i k = some y ∧ x.1 ≤ y.1 ∧ y.2 ≤ x.2
theorem Lwx.trans {P Q S : Tx} (h : Lwx P Q) (g : Lwx Q S) : Lwx P S := fun i k x e => by
  obtain ⟨y, a, b, c⟩ := h i k x e
  obtain ⟨z, d, e', f⟩ := g i k y a
  exact ⟨z, d, by omega, by omega⟩
theorem upd_lwx (P : Tx) (a b : Nat) (s : Int × Int) : Lwx P (updx P a b (nar s (P a b))) := fun i k x e => by
  by_cases q : i = a ∧ k = b
  · obtain ⟨rfl, rfl⟩ := q
    refine ⟨_, updx_at _ _ _ _, ?_⟩
    rw [e]
    exact nar_old s x
  · exact ⟨x, by rw [updx_ne _ _ q]; exact e, Int.le_refl _, Int.le_refl _⟩

/-! ### One node more -/
/-- What is known over node o besides. -/
def stx (P : Tx) (o i k : Nat) : Option (Int × Int) := match P i o with
  | none => P i k
  | some x => match P o k with
    | none => P i k
    | some y => some (nar (x.1 + y.1, x.2 + y.2) (P i k))
theorem stx_old {P : Tx} (o : Nat) {i k : Nat} {z : Int × Int} (e : P i k = some z) : ∃ y, stx P o i k = some y ∧ z.1 ≤ y.1 ∧ y.2 ≤ z.2 := by
  unfold stx
  cases P i o with
  | none => exact ⟨z, e, Int.le_refl _, Int.le_refl _⟩
  | some x =>
    simp only
    cases P o k with
    | none => exact ⟨z, e, Int.le_refl _, Int.le_refl _⟩
    | some y => refine ⟨_, rfl, ?_⟩; rw [e]; exact nar_old _ _
theorem stx_new {P : Tx} {o i k : Nat} {x y : Int × Int} (ex : P i o = some x) (ey : P o k = some y) : ∃ z, stx P o i k = some z ∧ x.1 + y.1 ≤ z.1 ∧ z.2 ≤ x.2 + y.2 := by
  unfold stx
  rw [ex]
  simp only
  rw [ey]
  exact ⟨_, rfl, nar_low _ _⟩
theorem stx_col {P : Tx} {o i : Nat} (d : P o o = some (0, 0)) : stx P o i o = P i o := by
  unfold stx
  cases e : P i o with
  | none => rfl
  | some x =>
    simp only
    rw [d]
    obtain ⟨x1, x2⟩ := x
    simp [nar]
theorem stx_row {P : Tx} {o k : Nat} (d : P o o = some (0, 0)) : stx P o o k = P o k := by
  unfold stx
  rw [d]
  simp only
  cases e : P o k with
  | none => rfl
  | some x =>
    obtain ⟨x1, x2⟩ := x
    simp [nar]
/-- Ways with nodes below t in between are in the table. -/
def Fwx (R : Nat → Nat → Int → Prop) (n t : Nat) (P : Tx) : Prop := ∀ r i k c, i < n → k < n → Wt R t r i k c → (∃ x, P i k = some x ∧ x.2 ≤ c) ∧ ∃ x, P k i = some x ∧ -x.1 ≤ c
theorem fw_to {P : Tx} (hf : Fwx R n t P) (ht : t < n) (d : P t t = some (0, 0)) : ∀ r i c, i < n → Wt R (t + 1) r i t c → (∃ x, P i t = some x ∧ x.2 ≤ c) ∧ ∃ x, P t i = some x ∧ -x.1 ≤ c := by
  intro r
  induction r using Nat.strongRecOn with
  | _ r ih =>
    intro i c hi w
    rcases wt_split w with h | ⟨s, a, b, s1, s2, w1, w2, rfl⟩
    · exact hf r i t c hi ht h
    · obtain ⟨⟨x, x1, x2⟩, ⟨y, y1, y2⟩⟩ := ih s s1 i a hi w1
      obtain ⟨⟨z, z1, z2⟩, _⟩ := ih (r - s) s2 t b ht w2
      rw [d] at z1
      obtain rfl := Option.some.inj z1
      have z2' : (0 : Int) ≤ b := z2
      exact ⟨⟨x, x1, by omega⟩, ⟨y, y1, by omega⟩⟩
theorem fw_from {P : Tx} (hf : Fwx R n t P) (ht : t < n) (d : P t t = some (0, 0)) : ∀ r k c, k < n → Wt R (t + 1) r t k c → (∃ x, P t k = some x ∧ x.2 ≤ c) ∧ ∃ x, P k t = some x ∧ -x.1 ≤ c := by
  intro r
  induction r using Nat.strongRecOn with
  | _ r ih =>
    intro k c hk w
    rcases wt_split w with h | ⟨s, a, b, s1, s2, w1, w2, rfl⟩
    · exact hf r t k c ht hk h
    · obtain ⟨⟨x, x1, x2⟩, ⟨y, y1, y2⟩⟩ := ih (r - s) s2 k b hk w2
      obtain ⟨⟨z, z1, z2⟩, _⟩ := ih s s1 t a ht w1
      rw [d] at z1
      obtain rfl := Option.some.inj z1
      have z2' : (0 : Int) ≤ a := z2
      exact ⟨⟨x, x1, by omega⟩, ⟨y, y1, by omega⟩⟩
theorem Fwx.next {P P' : Tx} (hf : Fwx R n t P) (ht : t < n) (d : P t t = some (0, 0)) (hP : ∀ i k, i < n → k < n → P' i k = stx P t i k) : Fwx R n (t + 1) P' := fun r i k c hi hk w => by
  rw [hP i k hi hk, hP k i hk hi]
  rcases wt_split w with h | ⟨s, a, b, s1, s2, w1, w2, rfl⟩
  · obtain ⟨⟨x, x1, x2⟩, ⟨y, y1, y2⟩⟩ := hf r i k c hi hk h
    obtain ⟨x', e1, e2, e3⟩ := stx_old t x1
    obtain ⟨y', g1, g2, g3⟩ := stx_old t y1
    exact ⟨⟨x', e1, by omega⟩, ⟨y', g1, by omega⟩⟩
  · obtain ⟨⟨x, x1, x2⟩, ⟨y, y1, y2⟩⟩ := fw_to hf ht d s i a hi w1
    obtain ⟨⟨x', x3, x4⟩, ⟨y', y3, y4⟩⟩ := fw_from hf ht d (r - s) k b hk w2
    obtain ⟨z, e1, e2, e3⟩ := stx_new x1 x3
    obtain ⟨z', g1, g2, g3⟩ := stx_new y3 y1
    exact ⟨⟨z, e1, by omega⟩, ⟨z', g1, by omega⟩⟩
/-- While a node is taken in: all ahead of a, b are done. -/
structure Mid (n o : Nat) (P0 P : Tx) (a b : Nat) : Prop where
  done : ∀ i k, i < n → k < n → (i < a ∨ i = a ∧ k < b) → P i k = stx P0 o i k
  left : ∀ i k, i < n → k < n → ¬ (i < a ∨ i = a ∧ k < b) → P i k = P0 i k
  ord : ∀ i k x, i < n → k < n → (i < a ∨ i = a ∧ k < b) → stx P0 o i k = some x → x.1 ≤ x.2
theorem Mid.start {o : Nat} {P : Tx} : Mid n o P P 0 0 := ⟨fun i k _ _ h => by omega, fun i k _ _ _ => rfl, fun i k x _ _ h => by omega⟩
theorem Mid.row {o a : Nat} {P0 P : Tx} (h : Mid n o P0 P a n) : Mid n o P0 P (a + 1) 0 :=
  ⟨fun i k hi hk q => h.done i k hi hk (by omega), fun i k hi hk q => h.left i k hi hk (by omega), fun i k x hi hk q => h.ord i k x hi hk (by omega)⟩
theorem Mid.col {o a b i : Nat} {P0 P : Tx} (h : Mid n o P0 P a b) (d : P0 o o = some (0, 0)) (ho : o < n) (hi : i < n) : P i o = P0 i o := by
  by_cases q : i < a ∨ i = a ∧ o < b
  · rw [h.done i o hi ho q, stx_col d]
  · exact h.left i o hi ho q
theorem Mid.rw' {o a b k : Nat} {P0 P : Tx} (h : Mid n o P0 P a b) (d : P0 o o = some (0, 0)) (ho : o < n) (hk : k < n) : P o k = P0 o k := by
  by_cases q : o < a ∨ o = a ∧ k < b
  · rw [h.done o k ho hk q, stx_row d]
  · exact h.left o k ho hk q
theorem Mid.skip {o a b : Nat} {P0 P : Tx} {c : Int} (h : Mid n o P0 P a b) (G : Gd R n c P0) (ha : a < n) (hb : b < n) (q : P0 a o = none ∨ P0 o b = none) : Mid n o P0 P a (b + 1) := by
  have e : stx P0 o a b = P0 a b := by
    unfold stx
    rcases q with q | q
    · rw [q]
    · cases P0 a o with
      | none => rfl
      | some x => simp only; rw [q]
  refine ⟨fun i k hi hk q' => ?_, fun i k hi hk q' => h.left i k hi hk (by omega), fun i k x hi hk q' ex => ?_⟩
  · by_cases g : i = a ∧ k = b
    · obtain ⟨rfl, rfl⟩ := g
      rw [e]; exact h.left i k hi hk (by omega)
    · exact h.done i k hi hk (by omega)
  · by_cases g : i = a ∧ k = b
    · obtain ⟨rfl, rfl⟩ := g
      rw [e] at ex; exact (G.ord i k x hi hk ex).1
    · exact h.ord i k x hi hk (by omega) ex
theorem Mid.step {o a b : Nat} {P0 P : Tx} {x y : Int × Int} (h : Mid n o P0 P a b) (ha : a < n) (hb : b < n) (ex : P0 a o = some x) (ey : P0 o b = some y) (ok : (nar (x.1 + y.1, x.2 + y.2) (P a b)).1 ≤ (nar (x.1 + y.1, x.2 + y.2) (P a b)).2) :
    Mid n o P0 (updx P a b (nar (x.1 + y.1, x.2 + y.2) (P a b))) a (b + 1) := by
  have e0 : P a b = P0 a b := h.left a b ha hb (by omega)
  have e : stx P0 o a b = some (nar (x.1 + y.1, x.2 + y.2) (P a b)) := by
    unfold stx
    rw [ex]
    simp only
    rw [ey, e0]
  refine ⟨fun i k hi hk q' => ?_, fun i k hi hk q' => ?_, fun i k z hi hk q' ez => ?_⟩
  · by_cases g : i = a ∧ k = b
    · obtain ⟨rfl, rfl⟩ := g
      rw [e, updx_at]
    · rw [updx_ne _ _ g]; exact h.done i k hi hk (by omega)
  · rw [updx_ne _ _ (by omega)]; exact h.left i k hi hk (by omega)
  · by_cases g : i = a ∧ k = b
    · obtain ⟨rfl, rfl⟩ := g
      rw [e] at ez
      obtain rfl := Option.some.inj ez
      exact ok
    · exact h.ord i k z hi hk (by omega) ez
theorem Mid.sound {o a b : Nat} {P0 P : Tx} {x y : Int × Int} {c : Int} (h : Mid n o P0 P a b) (G : Gd R n c P0) (ho : o < n) (ha : a < n) (hb : b < n) (ex : P0 a o = some x) (ey : P0 o b = some y) : SP R a b (nar (x.1 + y.1, x.2 + y.2) (P a b)) := by
  rw [h.left a b ha hb (by omega)]
  exact ((G.sound a o x ha ho ex).app (G.sound o b y ho hb ey)).nar (fun z ez => G.sound a b z ha hb ez)
/-- At its end. -/
theorem Mid.fin {o : Nat} {P0 P : Tx} {c : Int} (h : Mid n o P0 P n 0) (G : Gd R n c P0) (ho : o < n) (hc : 0 ≤ c) : (∀ i k, i < n → k < n → P i k = stx P0 o i k) ∧ Gd R n (2 * c) P := by
  have hd : ∀ i k, i < n → k < n → P i k = stx P0 o i k := fun i k hi hk => h.done i k hi hk (by omega)
  have d := G.diag o ho
  have hs : ∀ i k z, i < n → k < n → stx P0 o i k = some z → SP R i k z ∧ -(2 * c) ≤ z.1 ∧ z.2 ≤ 2 * c := by
    intro i k z hi hk e
    unfold stx at e
    cases ex : P0 i o with
    | none =>
      rw [ex] at e
      have e' : P0 i k = some z := e
      have := G.ord i k z hi hk e'
      exact ⟨G.sound i k z hi hk e', by omega, by omega⟩
    | some x =>
      rw [ex] at e
      simp only at e
      cases ey : P0 o k with
      | none =>
        rw [ey] at e
        have e' : P0 i k = some z := e
        have := G.ord i k z hi hk e'
        exact ⟨G.sound i k z hi hk e', by omega, by omega⟩
      | some y =>
        rw [ey] at e
        have e' := Option.some.inj e
        have bx := G.ord i o x hi ho ex
        have by' := G.ord o k y ho hk ey
        have hn := nar_in (c := 2 * c) (s := (x.1 + y.1, x.2 + y.2)) (o := P0 i k) (by show -(2 * c) ≤ x.1 + y.1; omega) (by show x.2 + y.2 ≤ 2 * c; omega) (fun z ez => by have := G.ord i k z hi hk ez; omega)
        rw [e'] at hn
        refine ⟨?_, hn.1, hn.2⟩
        rw [← e']
        exact ((G.sound i o x hi ho ex).app (G.sound o k y ho hk ey)).nar (fun z ez => G.sound i k z hi hk ez)
  refine ⟨hd, fun i hi => ?_, fun i k z hi hk e => ?_, fun i k z hi hk e => ?_⟩
  · have g0 := G.diag i hi
    obtain ⟨y, y1, y2, y3⟩ := stx_old o g0
    have := h.ord i i y hi hi (by omega) y1
    rw [hd i i hi hi, y1]
    obtain ⟨u, v⟩ := y
    have a1 : (0 : Int) ≤ u := y2
    have a2 : v ≤ 0 := y3
    have a3 : u ≤ v := this
    obtain rfl : u = 0 := by omega
    obtain rfl : v = 0 := by omega
    rfl
  · rw [hd i k hi hk] at e; exact (hs i k z hi hk e).1
  · rw [hd i k hi hk] at e; exact ⟨h.ord i k z hi hk (by omega) e, (hs i k z hi hk e).2⟩
end

/-! ### Edges -/
/-- The table at the beginning. -/
def tx0 : Tx := fun i k => if i = k then some (0, 0) else none
theorem tx0_gd {R : Nat → Nat → Int → Prop} {n : Nat} {c : Int} (hc : 0 ≤ c) : Gd R n c tx0 := by
  refine ⟨fun i hi => if_pos rfl, fun i k x hi hk e => ?_, fun i k x hi hk e => ?_⟩
  · unfold tx0 at e
    by_cases h : i = k
    · subst h
      rw [if_pos rfl] at e
      obtain rfl := Option.some.inj e
      exact ⟨⟨0, Wk.nil i⟩, ⟨0, by show Wk R 0 i i (-0); exact Wk.nil i⟩⟩
    · rw [if_neg h] at e; cases e
  · unfold tx0 at e
    by_cases h : i = k
    · rw [if_pos h] at e
      obtain rfl := Option.some.inj e
      exact ⟨Int.le_refl _, by show -c ≤ 0; omega, hc⟩
    · rw [if_neg h] at e; cases e
section
variable {q : Nat → Eg} {m n : Nat}
/-- The first j edges are in the table. -/
def Dne (q : Nat → Eg) (j : Nat) (P : Tx) : Prop := ∀ u v c, Arc q j u v c → (∃ x, P u v = some x ∧ x.2 ≤ c) ∧ ∃ x, P v u = some x ∧ -x.1 ≤ c
theorem dne_zero {P : Tx} : Dne q 0 P := fun u v c g => by obtain ⟨j, hj, _⟩ := g; omega
theorem Dne.low {j : Nat} {P P' : Tx} (h : Dne q j P) (l : Lwx P P') : Dne q j P' := fun u v c g => by
  obtain ⟨⟨x, x1, x2⟩, ⟨y, y1, y2⟩⟩ := h u v c g
  obtain ⟨x', a1, a2, a3⟩ := l _ _ _ x1
  obtain ⟨y', b1, b2, b3⟩ := l _ _ _ y1
  exact ⟨⟨x', a1, by omega⟩, ⟨y', b1, by omega⟩⟩
theorem edge_sp {j A B : Nat} (hj : j < m) (hA : (q j).a = A) (hB : (q j).b = B) : SP (Arc q m) A B ((q j).lo, (q j).hi) ∧ SP (Arc q m) B A (-(q j).hi, -(q j).lo) := by
  have a1 : Arc q m A B (q j).hi := ⟨j, hj, Or.inl ⟨hA.symm, hB.symm, rfl⟩⟩
  have a2 : Arc q m B A (-(q j).lo) := ⟨j, hj, Or.inr ⟨hB.symm, hA.symm, rfl⟩⟩
  have w1 : Wk (Arc q m) 1 A B (q j).hi := by have := (Wk.nil A).snoc a1; rwa [Int.zero_add] at this
  have w2 : Wk (Arc q m) 1 B A (-(q j).lo) := by have := (Wk.nil B).snoc a2; rwa [Int.zero_add] at this
  refine ⟨⟨⟨1, w1⟩, ⟨1, w2⟩⟩, ⟨⟨1, w2⟩, ⟨1, ?_⟩⟩⟩
  show Wk _ 1 A B (- -(q j).hi)
  rw [Int.neg_neg]
  exact w1
theorem Dne.step {j A B : Nat} {P : Tx} (h : Dne q j P) (hA : (q j).a = A) (hB : (q j).b = B) {P1 P2 : Tx} (e1 : P1 = updx P A B (nar ((q j).lo, (q j).hi) (P A B))) (e2 : P2 = updx P1 B A (nar (-(q j).hi, -(q j).lo) (P1 B A))) : Dne q (j + 1) P2 := by
  have l1 : Lwx P P1 := by rw [e1]; exact upd_lwx P A B _
  have l2 : Lwx P1 P2 := by rw [e2]; exact upd_lwx P1 B A _
  intro u v c g
  obtain ⟨j', hj', g⟩ := g
  by_cases k : j' < j
  · exact (h.low (l1.trans l2)) u v c ⟨j', k, g⟩
  · obtain rfl : j' = j := by omega
    have f1 : ∃ x, P2 A B = some x ∧ (q j').lo ≤ x.1 ∧ x.2 ≤ (q j').hi := by
      have n1 := nar_low ((q j').lo, (q j').hi) (P A B)
      obtain ⟨y, y1, y2, y3⟩ := l2 A B _ (by rw [e1, updx_at])
      exact ⟨y, y1, by have : (q j').lo ≤ _ := n1.1; omega, by have : _ ≤ (q j').hi := n1.2; omega⟩
    have f2 : ∃ x, P2 B A = some x ∧ -(q j').hi ≤ x.1 ∧ x.2 ≤ -(q j').lo := by
      have n1 := nar_low (-(q j').hi, -(q j').lo) (P1 B A)
      exact ⟨_, by rw [e2, updx_at], n1.1, n1.2⟩
    obtain ⟨x, x1, x2, x3⟩ := f1
    obtain ⟨y, y1, y2, y3⟩ := f2
    rcases g with ⟨g1, g2, rfl⟩ | ⟨g1, g2, rfl⟩
    · obtain rfl : u = A := by omega
      obtain rfl : v = B := by omega
      exact ⟨⟨x, x1, x3⟩, ⟨y, y1, by omega⟩⟩
    · obtain rfl : u = B := by omega
      obtain rfl : v = A := by omega
      exact ⟨⟨y, y1, y3⟩, ⟨x, x1, by omega⟩⟩
theorem Dne.fw {P : Tx} {c : Int} (h : Dne q m P) (G : Gd (Arc q m) n c P) : Fwx (Arc q m) n 0 P := fun r i k c' hi hk w => by
  obtain ⟨v, p, h1, h2, h3, h4, h5, h6⟩ := w
  by_cases r0 : r = 0
  · subst r0
    have e : i = k := h1.symm.trans h2
    subst e
    have : c' = 0 := h4.symm.trans h3
    exact ⟨⟨_, G.diag i hi, by show (0 : Int) ≤ c'; omega⟩, ⟨_, G.diag i hi, by show -(0 : Int) ≤ c'; omega⟩⟩
  · by_cases r1 : r = 1
    · subst r1
      have g := h5 0 (by omega)
      rw [h1, h2, h4, h3, Int.sub_zero] at g
      exact h i k c' g
    · have := h6 1 (by omega) (by omega)
      omega
/-- The table of the upper ends. -/
def topT (n : Nat) (P : Tx) : Tb := fun i k => if k < n then (P i k).map (fun x => x.2) else none
theorem top_isT {P : Tx} {c : Int} (hE : Egs n q m) (G : Gd (Arc q m) n c P) (F : Fwx (Arc q m) n n P) : ¬ Neg (Arc q m) n ∧ IsT q m n (topT n P) ∧ ∀ i k x, i < n → k < n → P i k = some x → ∃ y, P k i = some y ∧ y.2 = -x.1 := by
  have wf : ∀ r i k c', i < n → Wk (Arc q m) r i k c' → (∃ x, P i k = some x ∧ x.2 ≤ c') ∧ ∃ x, P k i = some x ∧ -x.1 ≤ c' := fun r i k c' hi w => F r i k c' hi (wk_end hE.arc hi w) (wt_of hE.arc w)
  refine ⟨?_, ?_, ?_⟩
  · rintro ⟨r, i, c', hi, w, lt⟩
    obtain ⟨⟨x, x1, x2⟩, _⟩ := wf r i i c' hi w
    rw [G.diag i hi] at x1
    obtain rfl := Option.some.inj x1
    have : (0 : Int) ≤ c' := x2
    omega
  · intro i k hi
    constructor
    · intro x e
      unfold topT at e
      by_cases hk : k < n
      · rw [if_pos hk] at e
        cases ep : P i k with
        | none => rw [ep] at e; cases e
        | some z =>
          rw [ep] at e
          obtain rfl := Option.some.inj e
          refine ⟨(G.sound i k z hi hk ep).1, fun r c' w => ?_⟩
          obtain ⟨⟨x, x1, x2⟩, _⟩ := wf r i k c' hi w
          rw [ep] at x1
          obtain rfl := Option.some.inj x1
          exact x2
      · rw [if_neg hk] at e; cases e
    · intro e r c' w
      obtain ⟨⟨x, x1, x2⟩, _⟩ := wf r i k c' hi w
      unfold topT at e
      rw [if_pos (wk_end hE.arc hi w), x1] at e
      cases e
  · intro i k x hi hk e
    obtain ⟨_, ⟨r, w⟩⟩ := G.sound i k x hi hk e
    obtain ⟨⟨y, y1, y2⟩, _⟩ := wf r k i _ hk w
    refine ⟨y, y1, ?_⟩
    obtain ⟨⟨r', w'⟩, _⟩ := G.sound k i y hk hi y1
    obtain ⟨_, ⟨z, z1, z2⟩⟩ := wf r' k i _ hk w'
    rw [e] at z1
    obtain rfl := Option.some.inj z1
    omega
end
end Go.Proofs.YtigcliepeapcpajGreatDoor
namespace Go.Proofs.YtigcliepeapcpajGreatDoor
open Go.ChangeShapes Go.WideShapes Go.ChangeAt Go.RowKit
set_option linter.unusedVariables false

/-- What is wrong with a date. -/
def eD (y m d : Int) : Int := if okD y m d = true then 0 else 1
theorem ok64 {y m d : Int} (h : okD y m d = true) : In64 y ∧ In64 m ∧ In64 d := by
  obtain ⟨h1, h2, h3, h4, h5, h6⟩ := okD_t h
  have := mdays_le y m
  exact ⟨WalkArith.wf_i64 (by omega), WalkArith.wf_i64 (by omega), WalkArith.wf_i64 (by omega)⟩
theorem eD_ok {y m d : Int} (h : okD y m d = true) : eD y m d = 0 := if_pos h
theorem eD_no {y m d : Int} (h : okD y m d = false) : eD y m d = 1 := if_neg (by rw [h]; decide)
end Go.Proofs.YtigcliepeapcpajGreatDoor
namespace Go.Proofs.YtigcliepeapcpajGreatDoor
open Go.ChangeShapes Go.WideShapes Go.ChangeAt Go.RowKit
set_option linter.unusedVariables false

abbrev lbl (y m d h i s : Int) : Value := .agg #[.int .i64 y, .int .i64 m, .int .i64 d, .int .i64 h, .int .i64 i, .int .i64 s]
/-- The number of a label: what must be answered of leaps as they may be. -/
def TaiL (q : Nat → Int × Bool) (n : Nat) (y m d h i s v e : Int) : Prop :=
  ((okD y m d && okH h i s) = false ∧ v = 0 ∧ e = 1) ∨ ((okD y m d && okH h i s) = true ∧ ¬ okL (lng q n (dnum y m d)) h i s ∧ v = 0 ∧ e = 5) ∨
  ((okD y m d && okH h i s) = true ∧ okL (lng q n (dnum y m d)) h i s ∧ v = bg q n (dnum y m d) + sec h i s ∧ e = 0)
/-- Tai, of any leaps. -/
def TaiA (q : Nat → Int × Bool) (n : Nat) (y m d h i s v e : Int) : Prop := (lE q n ≠ 0 ∧ v = 0 ∧ e = lE q n) ∨ (lE q n = 0 ∧ TaiL q n y m d h i s v e)
/-- The label of a second: what must be answered. -/
def UtcL (q : Nat → Int × Bool) (n : Nat) (x y m d h i s : Int) : Prop :=
  okD y m d = true ∧ IsDay q n x (dnum y m d) ∧ h = (lab (x - bg q n (dnum y m d))).1 ∧ i = (lab (x - bg q n (dnum y m d))).2.1 ∧ s = (lab (x - bg q n (dnum y m d))).2.2
/-- Is a number a second of these years? -/
def inS (q : Nat → Int × Bool) (n : Nat) (x : Int) : Prop := 0 ≤ x ∧ x < bg q n 84006
/-- What is wrong with a second, of any leaps. -/
def sE (q : Nat → Int × Bool) (n : Nat) (x e : Int) : Prop := (lE q n ≠ 0 ∧ e = lE q n) ∨ (lE q n = 0 ∧ ¬ inS q n x ∧ e = 1)
def UtcA (q : Nat → Int × Bool) (n : Nat) (x y m d h i s e : Int) : Prop := (sE q n x e ∧ y = 0 ∧ m = 0 ∧ d = 0 ∧ h = 0 ∧ i = 0 ∧ s = 0) ∨ (lE q n = 0 ∧ inS q n x ∧ e = 0 ∧ UtcL q n x y m d h i s)
def AheadA (q : Nat → Int × Bool) (n : Nat) (x v e : Int) : Prop := (sE q n x e ∧ v = 0) ∨ (lE q n = 0 ∧ inS q n x ∧ e = 0 ∧ ∃ D, IsDay q n x D ∧ v = mor q n D)
def SmearA (q : Nat → Int × Bool) (n : Nat) (x v e : Int) : Prop := (sE q n x e ∧ v = 0) ∨ (lE q n = 0 ∧ inS q n x ∧ e = 0 ∧ Smr q n x v)
theorem sE_not {q : Nat → Int × Bool} {n : Nat} {x e : Int} (h : sE q n x e) : e ≠ 0 := by
  rcases h with ⟨a, rfl⟩ | ⟨_, _, rfl⟩
  · exact a
  · decide
theorem sE_one {q : Nat → Int × Bool} {n : Nat} {x e e' : Int} (h : sE q n x e) (h' : sE q n x e') : e = e' := by
  rcases h with ⟨a, rfl⟩ | ⟨a, _, rfl⟩
  · rcases h' with ⟨_, rfl⟩ | ⟨b, _⟩
    · rfl
    · exact absurd b a
  · rcases h' with ⟨b, _⟩ | ⟨_, _, rfl⟩
    · exact absurd a b
    · rfl
/-! ### What there is to be answered -/
theorem lps_of {q : Nat → Int × Bool} {n : Nat} (h : lE q n = 0) : Lps q n := (lE_zero h).2
theorem utc_some {q : Nat → Int × Bool} {n : Nat} (L : Lps q n) {x : Int} (hx : inS q n x) : ∃ y m d h i s, UtcL q n x y m d h i s := by
  obtain ⟨D, d0, d1, hD⟩ := day_some L x hx.1 hx.2
  obtain ⟨y, m, d, ok, e⟩ := dnum_some D d0 (by omega)
  exact ⟨y, m, d, _, _, _, ok, by rw [e]; exact hD, rfl, rfl, rfl⟩
theorem UtcL.hands {q : Nat → Int × Bool} {n : Nat} (L : Lps q n) {x y m d h i s : Int} (u : UtcL q n x y m d h i s) : okD y m d = true ∧ okH h i s = true ∧ okL (lng q n (dnum y m d)) h i s ∧ sec h i s = x - bg q n (dnum y m d) := by
  obtain ⟨ok, hD, rfl, rfl, rfl⟩ := u
  have p := hD.place L
  have ll := lng_le L (dnum y m d)
  have o := lab_ok (lng q n (dnum y m d)) (x - bg q n (dnum y m d)) p.1 p.2 ll.2
  obtain ⟨o1, o2, o3, o4, o5, o6, o7, o8⟩ := o
  exact ⟨ok, decide_eq_true ⟨o1, o2, o3, o4, o5, o6⟩, ⟨o1, o2, o3, o4, o5, o6, o7, o8⟩, lab_sec _⟩
/-- Each second has one label, and each label its second. -/
theorem UtcL.tai {q : Nat → Int × Bool} {n : Nat} (L : Lps q n) {x y m d h i s : Int} (u : UtcL q n x y m d h i s) : TaiL q n y m d h i s x 0 := by
  obtain ⟨ok, oh, ol, es⟩ := u.hands L
  exact Or.inr (Or.inr ⟨by rw [ok, oh]; rfl, ol, by rw [es]; omega, rfl⟩)
/-- A later second has a later label. -/
theorem UtcL.later {q : Nat → Int × Bool} {n : Nat} (L : Lps q n) {x y m d h i s x' y' m' d' h' i' s' : Int} (u : UtcL q n x y m d h i s) (u' : UtcL q n x' y' m' d' h' i' s') (lt : x < x') : Earlier y m d h i s y' m' d' h' i' s' := by
  obtain ⟨ok, hD, rfl, rfl, rfl⟩ := u
  obtain ⟨ok', hD', rfl, rfl, rfl⟩ := u'
  have mono := hD.mono L hD' (by omega)
  by_cases c : dnum y m d < dnum y' m' d'
  · rcases date_later ok ok' c with k | ⟨rfl, k | ⟨rfl, k⟩⟩
    · exact Or.inl k
    · exact Or.inr ⟨rfl, Or.inl k⟩
    · exact Or.inr ⟨rfl, Or.inr ⟨rfl, Or.inl k⟩⟩
  · have e : dnum y m d = dnum y' m' d' := by omega
    obtain ⟨rfl, rfl, rfl⟩ := dnum_one ok ok' e
    have p := hD.place L
    have p' := hD'.place L
    have ll := lng_le L (dnum y m d)
    rcases lab_later p.1 (show x - bg q n (dnum y m d) < x' - bg q n (dnum y m d) by omega) (by omega) with k | ⟨e1, k | ⟨e2, k⟩⟩
    · exact Or.inr ⟨rfl, Or.inr ⟨rfl, Or.inr ⟨rfl, Or.inl k⟩⟩⟩
    · exact Or.inr ⟨rfl, Or.inr ⟨rfl, Or.inr ⟨rfl, Or.inr ⟨e1, Or.inl k⟩⟩⟩⟩
    · exact Or.inr ⟨rfl, Or.inr ⟨rfl, Or.inr ⟨rfl, Or.inr ⟨e1, Or.inr ⟨e2, k⟩⟩⟩⟩⟩
theorem lng_up {q : Nat → Int × Bool} : ∀ (n : Nat) (d : Int), Lps q n → lng q n d = 86401 → ∃ k, k < n ∧ (q k).1 = d ∧ (q k).2 = true := fun n d L e => by
  by_cases c : ∃ k, k < n ∧ (q k).1 = d
  · obtain ⟨k, hk, rfl⟩ := c
    refine ⟨k, hk, rfl, ?_⟩
    unfold lng at e
    rw [lj_at n L k hk] at e
    cases b : (q k).2 with
    | true => rfl
    | false => rw [b] at e; exact absurd e (by decide)
  · unfold lng at e
    rw [lj_none d n (fun i hi k => c ⟨i, hi, k⟩)] at e
    exact absurd e (by decide)
/-- A second 60 is where a leap is. -/
theorem UtcL.sixty {q : Nat → Int × Bool} {n : Nat} (L : Lps q n) {x y m d h i s : Int} (u : UtcL q n x y m d h i s) (c : s = 60) : h = 23 ∧ i = 59 ∧ ∃ k, k < n ∧ (q k).1 = dnum y m d ∧ (q k).2 = true := by
  obtain ⟨ok, oh, ol, es⟩ := u.hands L
  obtain ⟨a, b, e⟩ := ol.2.2.2.2.2.2.1 c
  exact ⟨a, b, lng_up n _ L e⟩
end Go.Proofs.YtigcliepeapcpajGreatDoor
