/- What is told along a tree as it lies in memory, node by node. -/
import Derived.Test.YtjdeeeefapijeaeDoorTreeRef2
import Derived.Test.YtjdeeeefapijeaeDoorSameLists
namespace Go.Proofs.YtjdeeeefapijeaeDoor
open Go.ChangeShapes Go.WideShapes Go.ChangeAt Go.RowKit Go.Joins
set_option linter.unusedVariables false
set_option linter.unusedSimpArgs false

def updW (W : Nat → Int × Int) (v : Nat) (x : Int × Int) : Nat → Int × Int := fun u => if u = v then x else W u
theorem updW_at (W : Nat → Int × Int) (v : Nat) (x : Int × Int) : updW W v x v = x := if_pos rfl
theorem updW_ne (W : Nat → Int × Int) {v u : Nat} (x : Int × Int) (h : u ≠ v) : updW W v x u = W u := if_neg h
/-- The cells of spans in a row. -/
def spR (W : Nat → Int × Int) (n : Nat) : List Value := (List.range (n * 2)).map fun j => .int .i64 (if j % 2 = 0 then (W (j / 2)).1 else (W (j / 2)).2)
theorem spR_lo (W : Nat → Int × Int) (n k : Nat) (h : k < n) : (spR W n)[k * 2]? = some (.int .i64 (W k).1) := by
  unfold spR
  rw [List.getElem?_map, List.getElem?_range (by omega)]
  show some (Value.int .i64 (if k * 2 % 2 = 0 then (W (k * 2 / 2)).1 else (W (k * 2 / 2)).2)) = _
  rw [if_pos (by omega), show k * 2 / 2 = k by omega]
theorem spR_hi (W : Nat → Int × Int) (n k : Nat) (h : k < n) : (spR W n)[k * 2 + 1]? = some (.int .i64 (W k).2) := by
  unfold spR
  rw [List.getElem?_map, List.getElem?_range (by omega)]
  show some (Value.int .i64 (if (k * 2 + 1) % 2 = 0 then (W ((k * 2 + 1) / 2)).1 else (W ((k * 2 + 1) / 2)).2)) = _
  rw [if_neg (by omega), show (k * 2 + 1) / 2 = k by omega]
theorem spR_ext {W : Nat → Int × Int} {n : Nat} {l : List Value} (h1 : ∀ k, k < n → l[k * 2]? = some (.int .i64 (W k).1) ∧ l[k * 2 + 1]? = some (.int .i64 (W k).2)) (h2 : l.length = n * 2) : l = spR W n := by
  apply List.ext_getElem?
  intro j
  by_cases hj : j < n * 2
  · by_cases e : j % 2 = 0
    · obtain ⟨k, rfl⟩ : ∃ k, j = k * 2 := ⟨j / 2, by omega⟩
      rw [spR_lo _ _ _ (by omega), (h1 k (by omega)).1]
    · obtain ⟨k, rfl⟩ : ∃ k, j = k * 2 + 1 := ⟨j / 2, by omega⟩
      rw [spR_hi _ _ _ (by omega), (h1 k (by omega)).2]
  · rw [List.getElem?_eq_none (by omega), List.getElem?_eq_none (by simp [spR]; omega)]
theorem spR_len (W : Nat → Int × Int) (n : Nat) : (spR W n).length = n * 2 := by simp [spR]
theorem spR_set (W : Nat → Int × Int) (n v : Nat) (x : Int × Int) (hv : v < n) : ((spR W n).set (v * 2) (.int .i64 x.1)).set (v * 2 + 1) (.int .i64 x.2) = spR (updW W v x) n := by
  have len := spR_len W n
  refine spR_ext (fun k hk => ?_) (by simp [len])
  by_cases e : k = v
  · subst e
    rw [updW_at]
    exact ⟨by rw [List.getElem?_set_ne (by omega), List.getElem?_set_self (by omega)], by rw [List.getElem?_set_self (by simp; omega)]⟩
  · rw [updW_ne _ _ e]
    exact ⟨by rw [List.getElem?_set_ne (by omega), List.getElem?_set_ne (by omega), spR_lo _ _ _ hk], by rw [List.getElem?_set_ne (by omega), List.getElem?_set_ne (by omega), spR_hi _ _ _ hk]⟩
theorem spR_zero (n : Nat) : List.replicate (n * 2) (Value.int .i64 0) = spR (fun _ => (0, 0)) n := by
  refine spR_ext (fun k hk => ?_) (by simp)
  rw [List.getElem?_replicate, List.getElem?_replicate, if_pos (by omega), if_pos (by omega)]
  exact ⟨rfl, rfl⟩
/-- Who of the first i is in. -/
def inK (n : Nat) (t : Tr) (i : Nat) : List Value := (List.range n).map fun v => .bool (decide (v ∈ t.row.take i))
theorem inK_at (n : Nat) (t : Tr) (i v : Nat) (h : v < n) : (inK n t i)[v]? = some (.bool (decide (v ∈ t.row.take i))) := by simp [inK, h]
theorem take_next {t : Tr} {i v : Nat} (h : t.row[i]? = some v) : t.row.take (i + 1) = t.row.take i ++ [v] := by
  rw [List.take_add_one, h]
  rfl
theorem inK_set (n : Nat) (t : Tr) (i v : Nat) (hv : v < n) (h : t.row[i]? = some v) : (inK n t i).set v (.bool true) = inK n t (i + 1) := by
  symm
  refine map_range_ext (fun j hj => ?_) (by simp [inK])
  by_cases e : v = j
  · subst e
    rw [List.getElem?_set_self (by simp [inK]; exact hj), take_next h]
    simp
  · rw [List.getElem?_set_ne e, inK_at _ _ _ _ hj, take_next h]
    have : ¬ j = v := fun x => e x.symm
    simp [this]
theorem inK_zero (n : Nat) (t : Tr) : List.replicate n (Value.bool false) = inK n t 0 := by
  symm
  refine map_range_ext (fun j hj => ?_) (by simp)
  rw [List.getElem?_replicate, if_pos hj]
  simp
section
variable {q : Nat → Eg} {m n r : Nat} {t : Tr}
theorem waT_next {i v : Nat} (h0 : 0 < i) (h : t.row[i]? = some v) : waT q t (i + 1) = updW (waT q t i) v (suT q t (waT q t i) v) := by
  funext u
  simp only [waT]
  rw [if_neg (by omega), h]
  rfl
/-- Who is not among the first i has zeros. -/
theorem waT_out : ∀ {i u : Nat}, u ∉ t.row.take i → waT q t i u = (0, 0)
  | 0, u, _ => rfl
  | i + 1, u, h => by
    simp only [waT]
    by_cases e : i = 0
    · rw [if_pos e]
    · rw [if_neg e]
      cases e' : t.row[i]? with
      | none =>
        simp only
        refine waT_out (fun hm => h ?_)
        rw [List.take_add_one, e']
        simpa using hm
      | some v =>
        simp only
        rw [take_next e'] at h
        simp only [List.mem_append, List.mem_singleton, not_or] at h
        rw [if_neg h.2]
        exact waT_out h.1
end
/-- What is told behind the first i nodes, in memory. -/
structure WtT (q : Nat → Eg) (n : Nat) (t : Tr) (u : World) (gw gi i : Nat) : Prop where
  w : Blk u 41 gw (spR (waT q t i) n)
  h : Blk u 4 gi (inK n t i)
section
variable {q : Nat → Eg} {m n r gw gi i : Nat} {t : Tr} {u W : World}
theorem WtT.on (hb : Below W.heap.size W u) (h : WtT q n t W gw gi i) : WtT q n t u gw gi i := ⟨h.w.on hb, h.h.on hb⟩
theorem WtT.al {ob : Obj} (h : WtT q n t W gw gi i) : WtT q n t (W.alloc ob) gw gi i := ⟨h.w.al, h.h.al⟩
theorem WtT.dr (h : WtT q n t W gw gi i) : WtT q n t W.drew gw gi i := ⟨h.w, h.h⟩
theorem WtT.drn {d : Nat} (h : WtT q n t W gw gi i) : WtT q n t (W.drewN d) gw gi i := ⟨h.w, h.h⟩
theorem WtT.ne (h : WtT q n t W gw gi i) : gw ≠ gi := h.w.ne h.h (by decide)
theorem WtT.put {v : Nat} {lo hi : Int} (h0 : 0 < i) (hv : v < n) (hr : t.row[i]? = some v) (e : suT q t (waT q t i) v = (lo, hi)) (h : WtT q n t W gw gi i) :
    WtT q n t (((W.setCell ⟨gw, v * 2, none⟩ (.int .i64 lo)).setCell ⟨gw, v * 2 + 1, none⟩ (.int .i64 hi)).setCell ⟨gi, v, none⟩ (.bool true)) gw gi (i + 1) :=
  ⟨by rw [waT_next h0 hr, e, ← spR_set _ _ _ _ hv]; exact ((h.w.put _).put _).far h.ne, by rw [← inK_set n t i v hv hr]; exact ((h.h.far (fun e => h.ne e.symm)).far (fun e => h.ne e.symm)).put v⟩
/-- At the end: the spans and who is in, as they are handed over. -/
theorem WtT.fin (h : WtT q n (treeT q m n r) W gw gi (treeT q m n r).row.length) (hn : n ≤ 6) : SHanded W (some ⟨gw, 0, none⟩) n (teT q m n r) ∧ BHanded W (some ⟨gi, 0, none⟩) n (inT q m n r) := by
  refine ⟨⟨by omega, Or.inr ⟨gw, 0, rfl, fun v hv => ?_⟩⟩, ⟨by omega, Or.inr ⟨gi, 0, rfl, fun v hv => ?_⟩⟩⟩
  · have e : waT q (treeT q m n r) (treeT q m n r).row.length v = teT q m n r v := by
      unfold teT
      split
      · rfl
      · exact waT_out (fun hm => by rw [List.take_length] at hm; contradiction)
    rw [Nat.zero_add, ← e]
    exact ⟨h.w.c _ _ (spR_lo _ _ _ hv), h.w.c _ _ (spR_hi _ _ _ hv)⟩
  · rw [Nat.zero_add]
    have := h.h.c v _ (inK_at n _ _ v hv)
    rw [List.take_length] at this
    rw [this]
    unfold inT
    congr
end
theorem SHanded.same {w : World} {a : Option Addr} {n : Nat} {f g : Nat → Int × Int} (h : SHanded w a n f) (e : ∀ i, i < n → f i = g i) : SHanded w a n g :=
  ⟨h.1, h.2.imp id (fun ⟨b, off, e', s⟩ => ⟨b, off, e', fun i hi => by rw [← e i hi]; exact s i hi⟩)⟩
theorem BHanded.same {w : World} {a : Option Addr} {n : Nat} {f g : Nat → Bool} (h : BHanded w a n f) (e : ∀ i, i < n → f i = g i) : BHanded w a n g :=
  ⟨h.1, h.2.imp id (fun ⟨b, off, e', s⟩ => ⟨b, off, e', fun i hi => by rw [← e i hi]; exact s i hi⟩)⟩
theorem NHanded.same {w : World} {a : Option Addr} {n : Nat} {f g : Nat → Int} (h : NHanded w a n f) (e : ∀ i, i < n → f i = g i) : NHanded w a n g :=
  ⟨h.1, h.2.imp id (fun ⟨b, off, e', s⟩ => ⟨b, off, e', fun i hi => by rw [← e i hi]; exact s i hi⟩)⟩
section
variable {q : Nat → Eg} {m n r : Nat}
/-- Are the first i spans as they may be? -/
def OkT (q : Nat → Eg) (m n r i : Nat) : Prop := ∀ j v, j < i → (treeT q m n r).row[j]? = some v → okB (waT q (treeT q m n r) (j + 1) v).1 (waT q (treeT q m n r) (j + 1) v).2 = true
theorem okT_one : OkT q m n r 1 := fun j v hj _ => by
  obtain rfl : j = 0 := by omega
  rw [waT_one]
  rfl
theorem okT_next {i v : Nat} (h : OkT q m n r i) (hr : (treeT q m n r).row[i]? = some v) (o : okB (waT q (treeT q m n r) (i + 1) v).1 (waT q (treeT q m n r) (i + 1) v).2 = true) : OkT q m n r (i + 1) := fun j v' hj hv => by
  by_cases e : j = i
  · subst e
    rw [hr] at hv
    obtain rfl := Option.some.inj hv
    exact o
  · exact h j v' (by omega) hv
theorem okT_far (hE : Egs n q m) (hr : r < n) (h : OkT q m n r (treeT q m n r).row.length) : ¬ FarT q m n r := by
  rintro ⟨v, hv, o⟩
  obtain ⟨j, hj, e⟩ := List.getElem_of_mem hv
  have ev : (treeT q m n r).row[j]? = some v := by rw [List.getElem?_eq_getElem hj, e]
  unfold wantT at o
  rw [waT_at (tree_inv hE hr) ev hj, h j v hj ev] at o
  cases o
theorem far_at (hE : Egs n q m) (hr : r < n) {i v : Nat} (hv : (treeT q m n r).row[i]? = some v) (o : okB (waT q (treeT q m n r) (i + 1) v).1 (waT q (treeT q m n r) (i + 1) v).2 = false) : FarT q m n r := by
  refine ⟨v, List.mem_of_getElem? hv, ?_⟩
  unfold wantT
  rw [waT_at (tree_inv hE hr) hv (List.getElem?_eq_some_iff.1 hv).1]
  exact o
end
end Go.Proofs.YtjdeeeefapijeaeDoor
