/- A tree from a root, node by node and edge by edge: plain mathematics. -/
import Derived.Test.YtjdeeeefapijeaeDoorBoundsMore
namespace Go.Proofs.YtjdeeeefapijeaeDoor
open Go.ChangeShapes Go.WideShapes Go.ChangeAt Go.RowKit
set_option linter.unusedVariables false

/-- Where edge k leads from x, if anywhere. -/
def toT (q : Nat → Eg) (k x : Nat) : Option Nat := if (q k).a = x then some (q k).b.toNat else if (q k).b = x then some (q k).a.toNat else none
/-- A tree while it grows: its nodes in their order, and by which edge each came. -/
structure Tr where
  row : List Nat
  by_ : Nat → Int
/-- Edge k, looked at from x. -/
def tryT (q : Nat → Eg) (k x : Nat) (t : Tr) : Tr := match toT q k x with
  | none => t
  | some y => if y ∈ t.row then t else ⟨t.row ++ [y], fun i => if i = y then (k : Int) else t.by_ i⟩
/-- The first m edges. -/
def innT (q : Nat → Eg) (x : Nat) : Nat → Tr → Tr
  | 0, t => t
  | m + 1, t => tryT q m x (innT q x m t)
def rootT (r : Nat) : Tr := ⟨[r], fun _ => -1⟩
/-- The first i nodes. -/
def outT (q : Nat → Eg) (m r : Nat) : Nat → Tr
  | 0 => rootT r
  | i + 1 => match (outT q m r i).row[i]? with
    | none => outT q m r i
    | some x => innT q x m (outT q m r i)
section
variable {q : Nat → Eg} {m n r k x i : Nat} {t : Tr}
theorem try_pre : ∃ l, (tryT q k x t).row = t.row ++ l := by
  unfold tryT
  split
  · exact ⟨[], by simp⟩
  · split
    · exact ⟨[], by simp⟩
    · exact ⟨_, rfl⟩
theorem inn_pre : ∀ m, ∃ l, (innT q x m t).row = t.row ++ l
  | 0 => ⟨[], by simp [innT]⟩
  | m + 1 => by
    obtain ⟨l, h⟩ := inn_pre m
    obtain ⟨l', h'⟩ := try_pre (q := q) (k := m) (x := x) (t := innT q x m t)
    exact ⟨l ++ l', by simp only [innT]; rw [h', h, List.append_assoc]⟩
theorem out_pre : ∃ l, (outT q m r (i + 1)).row = (outT q m r i).row ++ l := by
  simp only [outT]
  split
  · exact ⟨[], by simp⟩
  · exact inn_pre m
theorem out_at {j v : Nat} (h : (outT q m r i).row[j]? = some v) : ∀ d, (outT q m r (i + d)).row[j]? = some v
  | 0 => h
  | d + 1 => by
    obtain ⟨l, e⟩ := out_pre (q := q) (m := m) (r := r) (i := i + d)
    have ih := out_at h d
    rw [show i + (d + 1) = i + d + 1 by omega, e, List.getElem?_append_left]
    · exact ih
    · apply Classical.byContradiction
      intro c
      rw [List.getElem?_eq_none (by omega)] at ih
      cases ih
/-- What is known of a tree while it grows. -/
structure TrI (q : Nat → Eg) (m n r : Nat) (t : Tr) : Prop where
  nodup : t.row.Nodup
  lt : ∀ v, v ∈ t.row → v < n
  head : t.row[0]? = some r
  out : ∀ v, v ∉ t.row → t.by_ v = -1
  rt : t.by_ r = -1
  par : ∀ j v, 0 < j → t.row[j]? = some v → ∃ (k u j' : Nat), k < m ∧ j' < j ∧ t.row[j']? = some u ∧ t.by_ v = k ∧ toT q k u = some v
theorem TrI.mem (h : TrI q m n r t) : r ∈ t.row := List.mem_of_getElem? h.head
theorem toT_lt (hE : Egs n q m) (hk : k < m) {y : Nat} (h : toT q k x = some y) : y < n := by
  obtain ⟨⟨a1, a2, a3, a4⟩, _⟩ := hE.each k hk
  unfold toT at h
  split at h
  · obtain rfl := Option.some.inj h; omega
  · split at h
    · obtain rfl := Option.some.inj h; omega
    · cases h
theorem TrI.step (h : TrI q m n r t) (hE : Egs n q m) (hk : k < m) {j : Nat} (hx : t.row[j]? = some x) : TrI q m n r (tryT q k x t) := by
  unfold tryT
  cases e : toT q k x with
  | none => exact h
  | some y =>
    simp only
    by_cases c : y ∈ t.row
    · rw [if_pos c]; exact h
    · rw [if_neg c]
      have hy := toT_lt hE hk e
      have yr : r ≠ y := fun e' => c (e' ▸ h.mem)
      have l0 : 0 < t.row.length := by
        apply Classical.byContradiction
        intro z
        have := h.head
        rw [List.getElem?_eq_none (by omega)] at this
        cases this
      have jl : j < t.row.length := by
        apply Classical.byContradiction
        intro z
        rw [List.getElem?_eq_none (by omega)] at hx
        cases hx
      refine ⟨?_, fun v hv => ?_, ?_, fun v hv => ?_, ?_, fun j' v hj hv => ?_⟩
      · rw [List.nodup_append]
        exact ⟨h.nodup, by simp, fun a ha b hb => by simp at hb; subst hb; exact fun e' => c (e' ▸ ha)⟩
      · simp only [List.mem_append, List.mem_singleton] at hv
        rcases hv with hv | rfl
        · exact h.lt v hv
        · exact hy
      · rw [List.getElem?_append_left l0]; exact h.head
      · simp only [List.mem_append, List.mem_singleton, not_or] at hv
        show (if v = y then (k : Int) else t.by_ v) = -1
        rw [if_neg hv.2]; exact h.out v hv.1
      · show (if r = y then (k : Int) else t.by_ r) = -1
        rw [if_neg yr]; exact h.rt
      · by_cases jl' : j' < t.row.length
        · rw [List.getElem?_append_left jl'] at hv
          obtain ⟨k', u, j2, a1, a2, a3, a4, a5⟩ := h.par j' v hj hv
          have vy : v ≠ y := fun e' => c (e' ▸ List.mem_of_getElem? hv)
          refine ⟨k', u, j2, a1, a2, ?_, ?_, a5⟩
          · rw [List.getElem?_append_left (by omega)]; exact a3
          · show (if v = y then (k : Int) else t.by_ v) = k'
            rw [if_neg vy]; exact a4
        · rw [List.getElem?_append_right (by omega)] at hv
          have j0 : j' - t.row.length = 0 := by
            apply Classical.byContradiction
            intro z
            rw [List.getElem?_eq_none (by simp; omega)] at hv
            cases hv
          rw [j0] at hv
          have vy : y = v := by simpa using hv
          subst vy
          refine ⟨k, x, j, hk, by omega, ?_, ?_, e⟩
          · rw [List.getElem?_append_left jl]; exact hx
          · show (if y = y then (k : Int) else t.by_ y) = k
            rw [if_pos rfl]
theorem getElem?_pre {l l' : List Nat} {j v : Nat} (h : l[j]? = some v) : (l ++ l')[j]? = some v := by
  rw [List.getElem?_append_left]
  · exact h
  · apply Classical.byContradiction
    intro z
    rw [List.getElem?_eq_none (by omega)] at h
    cases h
theorem TrI.inn (h : TrI q m n r t) (hE : Egs n q m) {j : Nat} (hx : t.row[j]? = some x) : ∀ d, d ≤ m → TrI q m n r (innT q x d t)
  | 0, _ => h
  | d + 1, hd => by
    obtain ⟨l, e⟩ := inn_pre (q := q) (x := x) (t := t) d
    exact (TrI.inn h hE hx d (by omega)).step hE (by omega) (j := j) (by rw [e]; exact getElem?_pre hx)
theorem out_inv (hE : Egs n q m) (hr : r < n) : ∀ i, TrI q m n r (outT q m r i)
  | 0 => ⟨by simp [outT, rootT], fun v hv => by simp [outT, rootT] at hv; omega, rfl, fun v _ => rfl, rfl, fun j v hj hv => by
      simp only [outT, rootT] at hv
      rw [List.getElem?_eq_none (by simp; omega)] at hv
      cases hv⟩
  | i + 1 => by
    have ih := out_inv hE hr i
    simp only [outT]
    cases e : (outT q m r i).row[i]? with
    | none => exact ih
    | some x => exact ih.inn hE e m (Nat.le_refl _)
theorem nodup_le {l : List Nat} : ∀ {n : Nat}, l.Nodup → (∀ v, v ∈ l → v < n) → l.length ≤ n := by
  intro n hd hl
  apply Classical.byContradiction
  intro c
  obtain ⟨s, t, st, tn, e⟩ := pigeon n (fun i => (l[i]?).getD 0) (fun t ht => by
    have tl : t < l.length := by omega
    show (l[t]?).getD 0 < n
    rw [List.getElem?_eq_getElem tl]
    exact hl _ (List.getElem_mem tl))
  have sl : s < l.length := by omega
  have tl : t < l.length := by omega
  simp only [List.getElem?_eq_getElem sl, List.getElem?_eq_getElem tl, Option.getD_some] at e
  have := (List.getElem_inj hd).1 e
  omega
/-- The tree in the end: no node is left out that an edge leads to. -/
def treeT (q : Nat → Eg) (m n r : Nat) : Tr := outT q m r n
theorem tree_inv (hE : Egs n q m) (hr : r < n) : TrI q m n r (treeT q m n r) := out_inv hE hr n
theorem try_mem {y : Nat} (h : toT q k x = some y) : y ∈ (tryT q k x t).row := by
  unfold tryT
  rw [h]
  simp only
  split
  · assumption
  · simp
theorem inn_mem {y : Nat} (h : toT q k x = some y) : ∀ m, k < m → y ∈ (innT q x m t).row
  | 0, hk => by omega
  | m + 1, hk => by
    simp only [innT]
    by_cases e : k = m
    · subst e; exact try_mem h
    · obtain ⟨l, e'⟩ := try_pre (q := q) (k := m) (x := x) (t := innT q x m t)
      rw [e']
      exact List.mem_append_left _ (inn_mem h m (by omega))
theorem tree_closed (hE : Egs n q m) (hr : r < n) {v y : Nat} (hv : v ∈ (treeT q m n r).row) (hk : k < m) (h : toT q k v = some y) : y ∈ (treeT q m n r).row := by
  obtain ⟨j, hj, e⟩ := List.getElem_of_mem hv
  have ln := nodup_le (tree_inv hE hr).nodup (tree_inv hE hr).lt
  have ev : (treeT q m n r).row[j]? = some v := by rw [List.getElem?_eq_getElem hj, e]
  -- it stood there when its turn came
  have early : (outT q m r j).row[j]? = some v := by
    have inv := out_inv hE hr j
    cases e' : (outT q m r j).row[j]? with
    | some u =>
      have := out_at e' (n - j)
      rw [show j + (n - j) = n by omega] at this
      unfold treeT at ev
      rw [this] at ev
      exact ev
    | none =>
      have stay : ∀ d, outT q m r (j + d) = outT q m r j := by
        intro d
        induction d with
        | zero => rfl
        | succ d ih =>
          show (match (outT q m r (j + d)).row[j + d]? with
            | none => outT q m r (j + d)
            | some x => innT q x m (outT q m r (j + d))) = _
          have len : (outT q m r j).row.length ≤ j := List.getElem?_eq_none_iff.1 e'
          rw [ih, List.getElem?_eq_none (by omega)]
      unfold treeT at ev
      rw [show n = j + (n - j) by omega, stay, e'] at ev
      cases ev
  have nxt : y ∈ (outT q m r (j + 1)).row := by
    simp only [outT]
    rw [early]
    exact inn_mem h m hk
  obtain ⟨j2, hj2, e2⟩ := List.getElem_of_mem nxt
  have := out_at (i := j + 1) (j := j2) (v := y) (by rw [List.getElem?_eq_getElem hj2, e2]) (n - (j + 1))
  rw [show j + 1 + (n - (j + 1)) = n by omega] at this
  exact List.mem_of_getElem? this
theorem arc_to {u v : Nat} {c : Int} (g : Arc q m u v c) (hE : Egs n q m) : ∃ k, k < m ∧ toT q k u = some v := by
  obtain ⟨j, hj, ⟨h1, h2, _⟩ | ⟨h1, h2, _⟩⟩ := g
  · refine ⟨j, hj, ?_⟩
    unfold toT
    rw [if_pos h1.symm, ← h2, Int.toNat_natCast]
  · refine ⟨j, hj, ?_⟩
    obtain ⟨_, ne, _⟩ := hE.each j hj
    unfold toT
    rw [if_neg (by omega), if_pos h1.symm, ← h2, Int.toNat_natCast]
/-- Who is in the tree is who can be reached. -/
theorem tree_reach (hE : Egs n q m) (hr : r < n) : ∀ {d v : Nat} {c : Int}, Wk (Arc q m) d r v c → v ∈ (treeT q m n r).row := by
  intro d
  induction d with
  | zero =>
    intro v c w
    obtain ⟨rfl, _⟩ := w.zero
    exact (tree_inv hE hr).mem
  | succ d ih =>
    intro v c w
    obtain ⟨u, a, b, w1, g, _⟩ := w.last
    obtain ⟨k, hk, h⟩ := arc_to g hE
    exact tree_closed hE hr (ih w1) hk h
end
end Go.Proofs.YtjdeeeefapijeaeDoor
