/- Bools and spans in a row, as they are handed over. Letters as they are handed over, edges by their places. What package node must answer. Two rows of a call's own: spans, and whether each is known; while they are filled. Edges' cells in a row of a call's own; the edges of the first few nodes. -/
import Derived.Test.YtfmaoblhoafnhajNm08
import Derived.Test.YtfmaoblhoafnhajNm02
import Derived.Test.YtfmaoblhoafnhajNm01
import Derived.Test.YtfmaoblhoafnhajNm07
import Derived.Test.YtfmaoblhoafnhajNm03
import Derived.OwnWalk
import Derived.Deep.CutRange
namespace Go.Proofs.Ytfmaoblhoafnhaj
open Go.ChangeShapes Go.WideShapes Go.ChangeAt Go.RowKit
set_option linter.unusedVariables false

def Bls (w : World) (b off n : Nat) (f : Nat → Bool) : Prop := ∀ i, i < n → w.cell? ⟨b, off + i, none⟩ = some (.bool (f i))
theorem Bls.on {W u : World} {b off n : Nat} {f : Nat → Bool} (hb : Below W.heap.size W u) (h : Bls W b off n f) : Bls u b off n f := fun i hi => by
  rw [hb.cell (World.block_lt_of_cell? _ _ (h i hi))]; exact h i hi
def BHanded (w : World) (a : Option Addr) (n : Nat) (f : Nat → Bool) : Prop := n ≤ 9223372036854775807 ∧ (n = 0 ∨ ∃ b off : Nat, a = some ⟨b, off, none⟩ ∧ Bls w b off n f)
theorem BHanded.on {W u : World} {a : Option Addr} {n : Nat} {f : Nat → Bool} (hb : Below W.heap.size W u) (h : BHanded W a n f) : BHanded u a n f :=
  ⟨h.1, h.2.imp id (fun ⟨b, off, e, s⟩ => ⟨b, off, e, s.on hb⟩)⟩
def Sls (w : World) (b off n : Nat) (f : Nat → Int × Int) : Prop := ∀ i, i < n → w.cell? ⟨b, off + i * 2, none⟩ = some (.int .i64 (f i).1) ∧ w.cell? ⟨b, off + i * 2 + 1, none⟩ = some (.int .i64 (f i).2)
theorem Sls.on {W u : World} {b off n : Nat} {f : Nat → Int × Int} (hb : Below W.heap.size W u) (h : Sls W b off n f) : Sls u b off n f := fun i hi => by
  obtain ⟨h0, h1⟩ := h i hi
  exact ⟨by rw [hb.cell (World.block_lt_of_cell? _ _ h0)]; exact h0, by rw [hb.cell (World.block_lt_of_cell? _ _ h1)]; exact h1⟩
def SHanded (w : World) (a : Option Addr) (n : Nat) (f : Nat → Int × Int) : Prop := n ≤ 9223372036854775807 ∧ (n = 0 ∨ ∃ b off : Nat, a = some ⟨b, off, none⟩ ∧ Sls w b off n f)
theorem SHanded.on {W u : World} {a : Option Addr} {n : Nat} {f : Nat → Int × Int} (hb : Below W.heap.size W u) (h : SHanded W a n f) : SHanded u a n f :=
  ⟨h.1, h.2.imp id (fun ⟨b, off, e, s⟩ => ⟨b, off, e, s.on hb⟩)⟩
end Go.Proofs.Ytfmaoblhoafnhaj
namespace Go.Proofs.Ytfmaoblhoafnhaj
open Go.ChangeShapes Go.WideShapes Go.ChangeAt Go.RowKit
set_option linter.unusedVariables false

/-- A letter's numbers are such that an int can be. -/
structure Lt.In6 (l : Lt) : Prop where
  a : In64 l.frm
  b : In64 l.to
  c : In64 l.t1
  d : In64 l.t2
  e : In64 l.t
/-- How many there are behind a fault: none. -/
def nOf (e : Int) (n : Nat) : Nat := if e = 0 then n else 0
/-- Edges by their places. -/
def egf (l : List Eg) (i : Nat) : Eg := l.getD i ⟨0, 0, 0, 0⟩
/-- A row lies in none of these blocks. -/
def Apt (F : Nat → Prop) (a : Option Addr) : Prop := ∀ (b off : Nat), a = some ⟨b, off, none⟩ → ¬ F b
end Go.Proofs.Ytfmaoblhoafnhaj
namespace Go.Proofs.Ytfmaoblhoafnhaj
open Go.ChangeShapes Go.WideShapes Go.ChangeAt Go.RowKit
set_option linter.unusedVariables false

/-- What Spans answers. -/
def SpO (F : Nat → Prop) (c : Nd) (t e : Int) (o : Ending) (w' : World) : Prop := ∃ (sa : Option Addr) (sc : Nat) (ha : Option Addr) (hc : Nat), o = .returned (.tuple #[.slice sa (nOf e c.n) sc, .slice ha (nOf e c.n) hc, errc e]) ∧ SHanded w' sa (nOf e c.n) (c.so t) ∧ BHanded w' ha (nOf e c.n) c.ho ∧ Apt F sa ∧ Apt F ha
/-- What Edges answers. -/
def EdO (c : Nd) (t e : Int) (o : Ending) (w' : World) : Prop := ∃ (ea : Option Addr) (ec : Nat), o = .returned (.tuple #[.slice ea (nOf e (c.eo t).length) ec, errc e]) ∧ EHanded w' ea (nOf e (c.eo t).length) (egf (c.eo t))
/-- Package node, behind a world w0: R: what a node keeps, at block b, in blocks F. -/
structure Np (w0 : World) where
  R : World → Nat → (Nat → Prop) → Nd → Prop
  on : ∀ {u v : World} {b : Nat} {F : Nat → Prop} {c : Nd}, R u b F c → u.heap.size ≤ v.heap.size → (∀ k, F k → v.heap[k]? = u.heap[k]?) → R v b F c
  lt : ∀ {u : World} {b : Nat} {F : Nat → Prop} {c : Nd}, R u b F c → ∀ k, F k → k < u.heap.size
  new : ∀ (id n : Nat) (p : Int) (u : World), Below w0.heap.size w0 u → id < n → n ≤ 6 → 0 ≤ p → p ≤ 1000 → Calls Try.prog 20 #[.int .i64 id, .int .i64 n, .int .i64 p] u fun o w' => ∃ b F, o = .returned (.tuple #[.pointer (some ⟨b, 0, none⟩), .nilIface]) ∧ R w' b F (Nd.made id n p) ∧ Below u.heap.size u w' ∧ ∀ k, F k → u.heap.size ≤ k
  bad : ∀ (id n p : Int) (u : World), Below w0.heap.size w0 u → In64 id → In64 n → In64 p → (n < 1 ∨ 6 < n ∨ id < 0 ∨ n ≤ id ∨ p < 0 ∨ 1000 < p) → Calls Try.prog 20 #[.int .i64 id, .int .i64 n, .int .i64 p] u fun o w' => ∃ v, o = .returned (.tuple #[v, errc 1]) ∧ Below u.heap.size u w'
  hear : ∀ (b : Nat) (F : Nat → Prop) (c c' : Nd) (l : Lt) (t e : Int) (B : Bool) (u : World), R u b F c → c.I → l.In6 → In64 t → HearR c l t c' B e → Calls Try.prog 39 #[.pointer (some ⟨b, 0, none⟩), ltv l, .int .i64 t] u fun o w' => ∃ F', o = .returned (.tuple #[.bool B, errc e]) ∧ R w' b F' c' ∧ Keeps F u w' ∧ ∀ k, F' k → F k ∨ u.heap.size ≤ k
  spans : ∀ (b : Nat) (F : Nat → Prop) (c : Nd) (t e : Int) (u : World), R u b F c → c.I → In64 t → SpR c t e → Calls Try.prog 45 #[.pointer (some ⟨b, 0, none⟩), .int .i64 t] u fun o w' => SpO F c t e o w' ∧ Below u.heap.size u w'
/-- .. and Edges. -/
structure NpE (w0 : World) extends Np w0 where
  edges : ∀ (b : Nat) (F : Nat → Prop) (c : Nd) (t e : Int) (u : World), R u b F c → c.I → In64 t → SpR c t e → Calls Try.prog 28 #[.pointer (some ⟨b, 0, none⟩), .int .i64 t] u fun o w' => EdO c t e o w' ∧ Below u.heap.size u w'
end Go.Proofs.Ytfmaoblhoafnhaj
namespace Go.Proofs.Ytfmaoblhoafnhaj
open Go.ChangeShapes Go.WideShapes Go.ChangeAt Go.RowKit
set_option linter.unusedVariables false
set_option linter.unusedSimpArgs false

theorem cell_putk {u : World} {b j m : Nat} {x y : Value} (h : u.cell? ⟨b, m, none⟩ = some y) : (u.setCell ⟨b, m, none⟩ x).cell? ⟨b, j, none⟩ = if j = m then some x else u.cell? ⟨b, j, none⟩ := by
  by_cases e : j = m
  · subst e; rw [if_pos rfl]; exact World.cell?_setCell_same _ _ _ h
  · rw [if_neg e]; exact World.cell?_setCell_other _ _ _ _ (fun q => e (by injection q with _ q; exact q.symm))
theorem kinfoBool : (Try.prog.info? 4).map (fun i => (i.zero, i.size, i.bytes)) = some (some (.bool false), 1, 1) := by kernel_rfl
theorem kinfoSpan : (Try.prog.info? 39).map (fun i => (i.zero, i.size, i.bytes)) = some (some (.agg #[.int .i64 0, .int .i64 0]), 2, 16) := by kernel_rfl
theorem kmade_cells (z : Value) (hz : z.cells = #[z]) (n : Nat) : madeCells z.cells (n * 1) = (List.replicate n z).toArray := by
  rw [hz, Nat.mul_one]
  apply Array.ext
  · simp [madeCells]
  · intro i h1 h2
    simp [madeCells, Nat.mod_one]
theorem kmade_spans (n : Nat) : madeCells (sp 0 0).cells (n * 2) = (List.replicate (n * 2) (.int .i64 0)).toArray := by
  apply Array.ext
  · simp [madeCells]
  · intro i h1 h2
    simp only [madeCells, Array.getElem_ofFn, List.getElem_toArray, List.getElem_replicate]
    have : i % 2 = 0 ∨ i % 2 = 1 := by omega
    simp [Value.cells]
    rcases this with e | e <;> simp [e]
theorem kmk_bools (n : Nat) (h6 : n ≤ 6) (W : World) : (Instr.makeSlice 102 (.int .i64 n) (.int .i64 n)).run Try.prog W = .ok (.slice (some ⟨W.heap.size, 0, none⟩) n n) (W.alloc (.cells (List.replicate n (.bool false)).toArray 4)) := by
  obtain ⟨i0, hi0, hz0, hz1, hz2⟩ := info_parts kinfoBool
  have h := run_makeSlice W 102 4 i0 _ Try.underlying102 hi0 hz0 .i64 .i64 n n (by omega) (by omega) (by rw [hz1]; simp; omega) (by rw [hz2]; simp; omega) (by omega)
  rw [hz1, Int.toNat_natCast, kmade_cells _ rfl n] at h
  exact h
theorem kmk_spans (n : Nat) (h6 : n ≤ 6) (W : World) : (Instr.makeSlice 103 (.int .i64 n) (.int .i64 n)).run Try.prog W = .ok (.slice (some ⟨W.heap.size, 0, none⟩) n n) (W.alloc (.cells (List.replicate (n * 2) (.int .i64 0)).toArray 39)) := by
  obtain ⟨i0, hi0, hz0, hz1, hz2⟩ := info_parts kinfoSpan
  have h := run_makeSlice W 103 39 i0 _ Try.underlying103 hi0 hz0 .i64 .i64 n n (by omega) (by omega) (by rw [hz1]; simp; omega) (by rw [hz2]; simp; omega) (by omega)
  rw [hz1, Int.toNat_natCast, kmade_spans n] at h
  exact h
/-- The two rows while they are filled. -/
structure StN (u : World) (s g i : Nat) (c : Nd) (t : Int) : Prop where
  a : ∀ j, j < c.n → u.cell? ⟨s, j * 2, none⟩ = some (.int .i64 (if j < i then (c.so t j).1 else 0))
  b : ∀ j, j < c.n → u.cell? ⟨s, j * 2 + 1, none⟩ = some (.int .i64 (if j < i then (c.so t j).2 else 0))
  h : ∀ j, j < c.n → u.cell? ⟨g, j, none⟩ = some (.bool (if j < i then c.ho j else decide (j = c.id)))
  fa : ∀ j, j < c.n * 2 → u.frozen? ⟨s, j, none⟩ = false
  fh : ∀ j, j < c.n → u.frozen? ⟨g, j, none⟩ = false
  ne : s ≠ g
section
variable {u u' : World} {s g i : Nat} {c : Nd} {t : Int}
theorem StN.block (h1 : u'.heap[s]? = u.heap[s]?) (h2 : u'.heap[g]? = u.heap[g]?) (h : StN u s g i c t) : StN u' s g i c t := by
  have e1 : ∀ j, u'.cell? ⟨s, j, none⟩ = u.cell? ⟨s, j, none⟩ := fun j => World.cell?_of_block (w := u) (a := ⟨s, j, none⟩) h1
  have e2 : ∀ j, u'.cell? ⟨g, j, none⟩ = u.cell? ⟨g, j, none⟩ := fun j => World.cell?_of_block (w := u) (a := ⟨g, j, none⟩) h2
  exact ⟨fun j hj => by rw [e1]; exact h.a j hj, fun j hj => by rw [e1]; exact h.b j hj, fun j hj => by rw [e2]; exact h.h j hj, fun j hj => (World.frozen?_of_block (w := u) (a := ⟨s, j, none⟩) h1).trans (h.fa j hj), fun j hj => (World.frozen?_of_block (w := u) (a := ⟨g, j, none⟩) h2).trans (h.fh j hj), h.ne⟩
theorem StN.on (h0 : 0 < c.n) (hb : Below u.heap.size u u') (h : StN u s g i c t) : StN u' s g i c t :=
  h.block (hb.block s (World.block_lt_of_cell? _ _ (h.a 0 h0))) (hb.block (g) (World.block_lt_of_cell? _ _ (h.h 0 h0)))
theorem StN.skip (hh : c.has i = false) (h : StN u s g i c t) : StN u s g (i + 1) c t := by
  have e : c.so t i = (0, 0) := by unfold Nd.so; rw [hh]; rfl
  have e2 : c.ho i = decide (i = c.id) := by unfold Nd.ho; rw [hh]; rfl
  refine ⟨fun j hj => ?_, fun j hj => ?_, fun j hj => ?_, h.fa, h.fh, h.ne⟩
  · rw [h.a j hj]
    by_cases q : j = i
    · subst q; rw [if_neg (by omega), if_pos (by omega), e]
    · by_cases r : j < i
      · rw [if_pos r, if_pos (by omega)]
      · rw [if_neg r, if_neg (by omega)]
  · rw [h.b j hj]
    by_cases q : j = i
    · subst q; rw [if_neg (by omega), if_pos (by omega), e]
    · by_cases r : j < i
      · rw [if_pos r, if_pos (by omega)]
      · rw [if_neg r, if_neg (by omega)]
  · rw [h.h j hj]
    by_cases q : j = i
    · subst q; rw [if_neg (by omega), if_pos (by omega), e2]
    · by_cases r : j < i
      · rw [if_pos r, if_pos (by omega)]
      · rw [if_neg r, if_neg (by omega)]
theorem StN.put {lo hi : Int} (hi' : i < c.n) (hs : c.so t i = (lo, hi)) (ho : c.ho i = true) (h : StN u s g i c t) : StN (((u.setCell ⟨s, i * 2, none⟩ (.int .i64 lo)).setCell ⟨s, i * 2 + 1, none⟩ (.int .i64 hi)).setCell ⟨g, i, none⟩ (.bool true)) s g (i + 1) c t := by
  have c1 := h.a i hi'
  have c2 : (u.setCell ⟨s, i * 2, none⟩ (.int .i64 lo)).cell? ⟨s, i * 2 + 1, none⟩ = some (.int .i64 (if i < i then (c.so t i).2 else 0)) := by rw [cell_putk c1, if_neg (by omega)]; exact h.b i hi'
  have c3 : ((u.setCell ⟨s, i * 2, none⟩ (.int .i64 lo)).setCell ⟨s, i * 2 + 1, none⟩ (.int .i64 hi)).cell? ⟨g, i, none⟩ = some (.bool (if i < i then c.ho i else decide (i = c.id))) := by
    rw [World.cell?_setCell_far _ _ _ _ h.ne, World.cell?_setCell_far _ _ _ _ h.ne]; exact h.h i hi'
  have e1 : ∀ j, (((u.setCell ⟨s, i * 2, none⟩ (.int .i64 lo)).setCell ⟨s, i * 2 + 1, none⟩ (.int .i64 hi)).setCell ⟨g, i, none⟩ (.bool true)).cell? ⟨s, j, none⟩ = if j = i * 2 + 1 then some (.int .i64 hi) else if j = i * 2 then some (.int .i64 lo) else u.cell? ⟨s, j, none⟩ := fun j => by
    rw [World.cell?_setCell_far _ _ _ _ (fun q => h.ne q.symm), cell_putk c2, cell_putk c1]
  have e2 : ∀ j, (((u.setCell ⟨s, i * 2, none⟩ (.int .i64 lo)).setCell ⟨s, i * 2 + 1, none⟩ (.int .i64 hi)).setCell ⟨g, i, none⟩ (.bool true)).cell? ⟨g, j, none⟩ = if j = i then some (.bool true) else u.cell? ⟨g, j, none⟩ := fun j => by
    rw [cell_putk c3]
    by_cases q : j = i
    · rw [if_pos q, if_pos q]
    · rw [if_neg q, if_neg q, World.cell?_setCell_far _ _ _ _ h.ne, World.cell?_setCell_far _ _ _ _ h.ne]
  refine ⟨fun j hj => ?_, fun j hj => ?_, fun j hj => ?_, fun j hj => by simp only [World.frozen?_setCell]; exact h.fa j hj, fun j hj => by simp only [World.frozen?_setCell]; exact h.fh j hj, h.ne⟩
  · rw [e1, if_neg (by omega)]
    by_cases q : j = i
    · subst q; rw [if_pos rfl, if_pos (by omega), hs]
    · rw [if_neg (by omega), h.a j hj]
      by_cases r : j < i
      · rw [if_pos r, if_pos (by omega)]
      · rw [if_neg r, if_neg (by omega)]
  · rw [e1]
    by_cases q : j = i
    · subst q; rw [if_pos rfl, if_pos (by omega), hs]
    · rw [if_neg (by omega), if_neg (by omega), h.b j hj]
      by_cases r : j < i
      · rw [if_pos r, if_pos (by omega)]
      · rw [if_neg r, if_neg (by omega)]
  · rw [e2]
    by_cases q : j = i
    · subst q; rw [if_pos rfl, if_pos (by omega), ho]
    · rw [if_neg q, h.h j hj]
      by_cases r : j < i
      · rw [if_pos r, if_pos (by omega)]
      · rw [if_neg r, if_neg (by omega)]
end
theorem StN.start {u : World} {s g : Nat} {c : Nd} {t : Int} (ra : Row u s (List.replicate (c.n * 2) (Value.int .i64 0))) (rb : Row u g ((List.replicate c.n (Value.bool false)).set c.id (.bool true))) (hid : c.id < c.n) (hne : s ≠ g) : StN u s g 0 c t := by
  refine ⟨fun j hj => ?_, fun j hj => ?_, fun j hj => ?_, fun j hj => ?_, fun j hj => ?_, hne⟩
  · rw [if_neg (by omega)]; exact ra.c _ _ (by rw [List.getElem?_replicate, if_pos (by omega)])
  · rw [if_neg (by omega)]; exact ra.c _ _ (by rw [List.getElem?_replicate, if_pos (by omega)])
  · rw [if_neg (by omega)]
    refine rb.c _ _ ?_
    by_cases q : c.id = j
    · subst q; rw [List.getElem?_set_self (by simp; omega)]; simp
    · rw [List.getElem?_set_ne q, List.getElem?_replicate, if_pos hj, decide_eq_false (fun e => q e.symm)]
  · exact ra.f j _ (by rw [List.getElem?_replicate, if_pos hj])
  · refine rb.f j (if c.id = j then .bool true else .bool false) ?_
    by_cases q : c.id = j
    · subst q; rw [List.getElem?_set_self (by simp; omega), if_pos rfl]
    · rw [List.getElem?_set_ne q, List.getElem?_replicate, if_pos hj, if_neg q]
end Go.Proofs.Ytfmaoblhoafnhaj
namespace Go.Proofs.Ytfmaoblhoafnhaj
open Go.ChangeShapes Go.WideShapes Go.ChangeAt Go.RowKit Go.Joins
set_option linter.unusedVariables false
set_option linter.unusedSimpArgs false

theorem infoEdgeN : (Try.prog.info? 49).map (fun i => (i.zero, i.size, i.bytes)) = some (some (.agg #[.int .i64 0, .int .i64 0, .int .i64 0, .int .i64 0]), 4, 32) := by kernel_rfl
theorem own_empty_e (w : World) (e : TypeId) (size base : Nat) (h : base ≤ w.heap.size) : (w.alloc (.cells #[] e)).ownsRow base e size (.slice (some ⟨w.heap.size, 0, none⟩) 0 0) 0 [] := by
  refine ⟨by simp, Or.inr ⟨w.heap.size, 0, #[], rfl, h, ?_, Nat.le_refl _, Nat.zero_le _, by simp, by simp⟩⟩
  show (w.heap.push _)[w.heap.size]? = _
  simp
/-- Edges' cells, one behind the other. -/
def ecl : List Eg → List Value
  | [] => []
  | q :: r => [.int .i64 q.a, .int .i64 q.b, .int .i64 q.lo, .int .i64 q.hi] ++ ecl r
theorem ecl_app (a b : List Eg) : ecl (a ++ b) = ecl a ++ ecl b := by
  induction a with
  | nil => rfl
  | cons l r ih => show _ ++ ecl (r ++ b) = _ ++ ecl r ++ ecl b; rw [ih, List.append_assoc]
theorem ecl_at {a : List Eg} {i : Nat} {q : Eg} (h : a[i]? = some q) {j : Nat} {v : Value} (hv : [Value.int .i64 q.a, .int .i64 q.b, .int .i64 q.lo, .int .i64 q.hi][j]? = some v) : (ecl a)[i * 4 + j]? = some v := by
  induction a generalizing i with
  | nil => cases h
  | cons l r ih =>
    show ([Value.int .i64 l.a, .int .i64 l.b, .int .i64 l.lo, .int .i64 l.hi] ++ ecl r)[i * 4 + j]? = some v
    cases i with
    | zero =>
      obtain rfl := Option.some.inj h
      have lt : j < 4 := by
        rcases Nat.lt_or_ge j 4 with h | h
        · exact h
        · rw [List.getElem?_eq_none h] at hv; cases hv
      rw [Nat.zero_mul, Nat.zero_add, List.getElem?_append_left lt]
      exact hv
    | succ i =>
      rw [List.getElem?_append_right (by show 4 ≤ _; omega), show (i + 1) * 4 + j - [Value.int .i64 l.a, .int .i64 l.b, .int .i64 l.lo, .int .i64 l.hi].length = i * 4 + j by show (i + 1) * 4 + j - 4 = _; omega]
      exact ih h
/-- Edges of the first few. -/
def Nd.eu (c : Nd) (t : Int) (i : Nat) : List Eg := ((List.range i).filter (fun j => c.has j)).map (fun (j : Nat) => (⟨(c.id : Int), (j : Int), c.alo j t, c.ahi j t⟩ : Eg))
theorem eu_all (c : Nd) (t : Int) : c.eu t c.n = c.eo t := rfl
theorem eu_yes {c : Nd} {t : Int} {i : Nat} (h : c.has i = true) : c.eu t (i + 1) = c.eu t i ++ [⟨(c.id : Int), (i : Int), c.alo i t, c.ahi i t⟩] := by
  unfold Nd.eu
  rw [List.range_succ, List.filter_append, List.map_append]
  simp [h]
theorem eu_no {c : Nd} {t : Int} {i : Nat} (h : c.has i = false) : c.eu t (i + 1) = c.eu t i := by
  unfold Nd.eu
  rw [List.range_succ, List.filter_append, List.map_append]
  simp [h]
theorem eu_len (c : Nd) (t : Int) (i : Nat) : (c.eu t i).length ≤ i := by
  unfold Nd.eu
  rw [List.length_map]
  exact Nat.le_trans (List.length_filter_le _ _) (by simp)
/-- A row of edges of the call's own, as it is handed over. -/
theorem own_eh {w : World} {base k : Nat} {v : Value} {l : List Eg} (h : w.ownsRow base 49 4 v k (ecl l)) (hl : l.length = k) (hk : k ≤ 9223372036854775807) : ∃ a cap, v = .slice a k cap ∧ EHanded w a k (egf l) ∧ (a = none → cap = 0) := by
  rcases h.2 with ⟨rfl, rfl⟩ | ⟨g, cap, cur, rfl, hb, hg, hc, _, hcs, htk⟩
  · exact ⟨none, 0, rfl, ⟨hk, Or.inl rfl⟩, fun _ => rfl⟩
  · refine ⟨_, cap, rfl, ⟨hk, Or.inr ⟨g, 0, rfl, fun i hi => ?_⟩⟩, fun e => by cases e⟩
    have hq : l[i]? = some (egf l i) := by unfold egf; rw [List.getD_eq_getElem?_getD, List.getElem?_eq_getElem (by omega)]; rfl
    have c := h.cells (g := g) rfl
    have f : ∀ j x, [Value.int .i64 (egf l i).a, .int .i64 (egf l i).b, .int .i64 (egf l i).lo, .int .i64 (egf l i).hi][j]? = some x → w.cell? ⟨g, 0 + (i * 4 + j), none⟩ = some x := fun j x hx => by
      have := c (i * 4 + j) x (ecl_at hq hx)
      rw [Addr.add_lit] at this
      exact this
    refine ⟨?_, ?_, ?_, ?_⟩
    · have := f 0 _ rfl; simpa using this
    · have := f 1 _ rfl; simpa using this
    · have := f 2 _ rfl; simpa using this
    · have := f 3 _ rfl; simpa using this
theorem ecl_len (l : List Eg) : (ecl l).length = l.length * 4 := by
  induction l with
  | nil => rfl
  | cons q r ih => show ([Value.int .i64 q.a, .int .i64 q.b, .int .i64 q.lo, .int .i64 q.hi] ++ ecl r).length = (r.length + 1) * 4; rw [List.length_append, ih]; show 4 + _ = _; omega
theorem ecl_one (l : List Eg) : ∀ u ∈ ecl l, u.oneCell' = true := by
  induction l with
  | nil => intro u hu; cases hu
  | cons q r ih =>
    intro u hu
    rcases List.mem_append.1 hu with h | h
    · simp at h
      rcases h with rfl | rfl | rfl | rfl <;> rfl
    · exact ih u h
/-- Edges that are handed over, cell by cell. -/
theorem esp_cells {w : World} {b off : Nat} {l : List Eg} (h : Esp w b off l.length (egf l)) : ∀ j x, (ecl l)[j]? = some x → w.cell? (Addr.add ⟨b, off, none⟩ j) = some x := by
  intro j x hx
  have hj : j < l.length * 4 := by
    rcases Nat.lt_or_ge j (l.length * 4) with q | q
    · exact q
    · rw [List.getElem?_eq_none (by rw [ecl_len]; exact q)] at hx; cases hx
  have hi : j / 4 < l.length := by omega
  have hq : l[j / 4]? = some (egf l (j / 4)) := by unfold egf; rw [List.getD_eq_getElem?_getD, List.getElem?_eq_getElem hi]; rfl
  obtain ⟨c0, c1, c2, c3⟩ := h (j / 4) hi
  have hm : j % 4 = 0 ∨ j % 4 = 1 ∨ j % 4 = 2 ∨ j % 4 = 3 := by omega
  rw [Addr.add_lit]
  rcases hm with m | m | m | m
  · have e := ecl_at hq (j := 0) (v := .int .i64 (egf l (j / 4)).a) rfl
    have ej : j / 4 * 4 + 0 = j := by omega
    rw [ej, hx] at e
    rw [Option.some.inj e, show off + j = off + j / 4 * 4 by omega]
    exact c0
  · have e := ecl_at hq (j := 1) (v := .int .i64 (egf l (j / 4)).b) rfl
    have ej : j / 4 * 4 + 1 = j := by omega
    rw [ej, hx] at e
    rw [Option.some.inj e, show off + j = off + j / 4 * 4 + 1 by omega]
    exact c1
  · have e := ecl_at hq (j := 2) (v := .int .i64 (egf l (j / 4)).lo) rfl
    have ej : j / 4 * 4 + 2 = j := by omega
    rw [ej, hx] at e
    rw [Option.some.inj e, show off + j = off + j / 4 * 4 + 2 by omega]
    exact c2
  · have e := ecl_at hq (j := 3) (v := .int .i64 (egf l (j / 4)).hi) rfl
    have ej : j / 4 * 4 + 3 = j := by omega
    rw [ej, hx] at e
    rw [Option.some.inj e, show off + j = off + j / 4 * 4 + 3 by omega]
    exact c3
theorem own_cap {w : World} {base k size : Nat} {e : TypeId} {v : Value} {a : Option Addr} {cap : Nat} {xs : List Value} (h : w.ownsRow base e size v k xs) (hv : v = .slice a k cap) : k ≤ cap ∧ cap ≤ maxLen := by
  rcases h.2 with ⟨e1, e2⟩ | ⟨g, cp, cur, e1, hb, hg, hc, hm, hcs, htk⟩
  · rw [e1] at hv
    injection hv with _ _ q
    subst q
    exact ⟨by omega, Nat.zero_le _⟩
  · rw [e1] at hv
    injection hv with _ _ q
    subst q
    exact ⟨hc, hm⟩
end Go.Proofs.Ytfmaoblhoafnhaj
