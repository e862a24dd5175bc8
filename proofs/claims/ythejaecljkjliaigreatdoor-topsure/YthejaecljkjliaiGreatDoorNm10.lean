/- What package net must answer: Show, Edges. Package net, as TopSure wants it. A tree from a root, node by node and edge by edge: plain mathematics. What a tree says of its nodes: plain mathematics. Who is in a tree, and what it says of each. What the document's own reckoning (package noonref1) answers of trees: Parents. slices.Index and slices.Contains of a row of nodes; what package tree's otherEnd answers. -/
import Derived.Test.YthejaecljkjliaiGreatDoorNm09
import Derived.Test.YthejaecljkjliaiGreatDoorNm05
import Derived.Test.YthejaecljkjliaiGreatDoorNm07
import Derived.Test.YthejaecljkjliaiGreatDoorNm02
import Derived.Lib.SmallJoins
import Derived.Deep.CutRange
import Derived.BigRegion
import Derived.BigQuiet
import Derived.Deep.QuietTactic
import Derived.IntWalk
namespace Go.Proofs.YthejaecljkjliaiGreatDoor
open Go.ChangeShapes Go.WideShapes Go.ChangeAt Go.RowKit
set_option linter.unusedVariables false

/-- .. and Show, Edges. -/
structure NtS (w0 : World) extends Nt w0 where
  read : ∀ (b : Nat) (F : Nat → Prop) (N : Nn) (i : Int) (u : World), R u b F N → N.T → In64 i → Calls Tryz.prog 19 #[.pointer (some ⟨b, 0, none⟩), .int .i64 i] u fun o w' => ((N.W.hs i ∧ o = .returned (.tuple #[.int .i64 (N.W.rd i.toNat), errc 0])) ∨ (¬ N.W.hs i ∧ o = .returned (.tuple #[.int .i64 0, errc 1]))) ∧ Below u.heap.size u w'
  edges : ∀ (b : Nat) (F : Nat → Prop) (N : Nn) (u : World), R u b F N → N.T → Calls Tryz.prog 16 #[.pointer (some ⟨b, 0, none⟩)] u fun o w' => ∃ (ea : Option Addr) (ec : Nat), o = .returned (.tuple #[.slice ea (eoN N).length ec, .nilIface]) ∧ EHanded w' ea (eoN N).length (egf (eoN N)) ∧ Below u.heap.size u w' ∧ (eoN N).length ≤ ec ∧ ec ≤ 9223372036854775807
end Go.Proofs.YthejaecljkjliaiGreatDoor
namespace Go.Proofs.YthejaecljkjliaiGreatDoor
open Go.ChangeShapes Go.WideShapes Go.ChangeAt Go.RowKit Go.Joins
set_option linter.unusedVariables false
set_option linter.unusedSimpArgs false

def nts (w : World) : NtS w := { ntt w with
  read := fun b F N i u hR hT _ => by
    obtain ⟨L, hP, rfl⟩ := hR
    exact nshow_any hP hT.g.i i
  edges := fun b F N u hR hT => by
    obtain ⟨L, hP, rfl⟩ := hR
    exact nedges_net hP hT
  }
end Go.Proofs.YthejaecljkjliaiGreatDoor
namespace Go.Proofs.YthejaecljkjliaiGreatDoor
open Go.ChangeShapes Go.WideShapes Go.ChangeAt Go.RowKit
set_option linter.unusedVariables false

/-- Where edge k leads from x, if anywhere. -/
def toT (q : Nat → Eg) (k x : Nat) : Option Nat := if (q k).a = x then some (q k).b.toNat else if (q k).b = x then some (q k).a.toNat else none
/-- A tree while it grows: its nodes in their order, and by which edge each came. -/
structure Tr where
  row : List Nat
  by_ : Nat → Int
/-- Edge k, looked at from x. -/
def tryT (q : Nat → Eg) (k x : Nat) (t : Tr) : Tr := match toT q k x with
  | none => t
  | some y => if y ∈ t.row then t else ⟨t.row ++ [y], fun i => if i = y then (k : Int) else t.by_ i⟩
/-- The first m edges. -/
def innT (q : Nat → Eg) (x : Nat) : Nat → Tr → Tr
  | 0, t => t
  | m + 1, t => tryT q m x (innT q x m t)
def rootT (r : Nat) : Tr := ⟨[r], fun _ => -1⟩
/-- The first i nodes. -/
def outT (q : Nat → Eg) (m r : Nat) : Nat → Tr
  | 0 => rootT r
  | i + 1 => match (outT q m r i).row[i]? with
    | none => outT q m r i
    | some x => innT q x m (outT q m r i)
section
variable {q : Nat → Eg} {m n r k x i : Nat} {t : Tr}
theorem try_pre : ∃ l, (tryT q k x t).row = t.row ++ l := by
  unfold tryT
  split
  · exact ⟨[], by simp⟩
  · split
    · exact ⟨[], by simp⟩
    · exact ⟨_, rfl⟩
theorem inn_pre : ∀ m, ∃ l, (innT q x m t).row = t.row ++ l
  | 0 => ⟨[], by simp [innT]⟩
  | m + 1 => by
    obtain ⟨l, h⟩ := inn_pre m
    obtain ⟨l', h'⟩ := try_pre (q := q) (k := m) (x := x) (t := innT q x m t)
    exact ⟨l ++ l', by simp only [innT]; rw [h', h, List.append_assoc]⟩
theorem out_pre : ∃ l, (outT q m r (i + 1)).row = (outT q m r i).row ++ l := by
  simp only [outT]
  split
  · exact ⟨[], by simp⟩
  · exact inn_pre m
theorem out_at {j v : Nat} (h : (outT q m r i).row[j]? = some v) : ∀ d, (outT q m r (i + d)).row[j]? = some v
  | 0 => h
  | d + 1 => by
    obtain ⟨l, e⟩ := out_pre (q := q) (m := m) (r := r) (i := i + d)
    have ih := out_at h d
    rw [show i + (d + 1) = i + d + 1 by omega, e, List.getElem?_append_left]
    · exact ih
    · apply Classical.byContradiction
      intro c
      rw [List.getElem?_eq_none (by omega)] at ih
      cases ih
/-- What is known of a tree while it grows. -/
structure TrI (q : Nat → Eg) (m n r : Nat) (t : Tr) : Prop where
  nodup : t.row.Nodup
  lt : ∀ v, v ∈ t.row → v < n
  head : t.row[0]? = some r
  out : ∀ v, v ∉ t.row → t.by_ v = -1
  rt : t.by_ r = -1
  par : ∀ j v, 0 < j → t.row[j]? = some v → ∃ (k u j' : Nat), k < m ∧ j' < j ∧ t.row[j']? = some u ∧ t.by_ v = k ∧ toT q k u = some v
theorem TrI.mem (h : TrI q m n r t) : r ∈ t.row := List.mem_of_getElem? h.head
theorem toT_lt (hE : Egs n q m) (hk : k < m) {y : Nat} (h : toT q k x = some y) : y < n := by
  obtain ⟨⟨a1, a2, a3, a4⟩, _⟩ := hE.each k hk
  unfold toT at h
  split at h
  · obtain rfl := Option.some.inj h; omega
  · split at h
    · obtain rfl := Option.some.inj h; omega
    · cases h
theorem TrI.step (h : TrI q m n r t) (hE : Egs n q m) (hk : k < m) {j : Nat} (hx : t.row[j]? = some x) : TrI q m n r (tryT q k x t) := by
  unfold tryT
  cases e : toT q k x with
  | none => exact h
  | some y =>
    simp only
    by_cases c : y ∈ t.row
    · rw [if_pos c]; exact h
    · rw [if_neg c]
      have hy := toT_lt hE hk e
      have yr : r ≠ y := fun e' => c (e' ▸ h.mem)
      have l0 : 0 < t.row.length := by
        apply Classical.byContradiction
        intro z
        have := h.head
        rw [List.getElem?_eq_none (by omega)] at this
        cases this
      have jl : j < t.row.length := by
        apply Classical.byContradiction
        intro z
        rw [List.getElem?_eq_none (by omega)] at hx
        cases hx
      refine ⟨?_, fun v hv => ?_, ?_, fun v hv => ?_, ?_, fun j' v hj hv => ?_⟩
      · rw [List.nodup_append]
        exact ⟨h.nodup, by simp, fun a ha b hb => by simp at hb; subst hb; exact fun e' => c (e' ▸ ha)⟩
      · simp only [List.mem_append, List.mem_singleton] at hv
        rcases hv with hv | rfl
        · exact h.lt v hv
        · exact hy
      · rw [List.getElem?_append_left l0]; exact h.head
      · simp only [List.mem_append, List.mem_singleton, not_or] at hv
        show (if v = y then (k : Int) else t.by_ v) = -1
        rw [if_neg hv.2]; exact h.out v hv.1
      · show (if r = y then (k : Int) else t.by_ r) = -1
        rw [if_neg yr]; exact h.rt
      · by_cases jl' : j' < t.row.length
        · rw [List.getElem?_append_left jl'] at hv
          obtain ⟨k', u, j2, a1, a2, a3, a4, a5⟩ := h.par j' v hj hv
          have vy : v ≠ y := fun e' => c (e' ▸ List.mem_of_getElem? hv)
          refine ⟨k', u, j2, a1, a2, ?_, ?_, a5⟩
          · rw [List.getElem?_append_left (by omega)]; exact a3
          · show (if v = y then (k : Int) else t.by_ v) = k'
            rw [if_neg vy]; exact a4
        · rw [List.getElem?_append_right (by omega)] at hv
          have j0 : j' - t.row.length = 0 := by
            apply Classical.byContradiction
            intro z
            rw [List.getElem?_eq_none (by simp; omega)] at hv
            cases hv
          rw [j0] at hv
          have vy : y = v := by simpa using hv
          subst vy
          refine ⟨k, x, j, hk, by omega, ?_, ?_, e⟩
          · rw [List.getElem?_append_left jl]; exact hx
          · show (if y = y then (k : Int) else t.by_ y) = k
            rw [if_pos rfl]
theorem getElem?_pre {l l' : List Nat} {j v : Nat} (h : l[j]? = some v) : (l ++ l')[j]? = some v := by
  rw [List.getElem?_append_left]
  · exact h
  · apply Classical.byContradiction
    intro z
    rw [List.getElem?_eq_none (by omega)] at h
    cases h
theorem TrI.inn (h : TrI q m n r t) (hE : Egs n q m) {j : Nat} (hx : t.row[j]? = some x) : ∀ d, d ≤ m → TrI q m n r (innT q x d t)
  | 0, _ => h
  | d + 1, hd => by
    obtain ⟨l, e⟩ := inn_pre (q := q) (x := x) (t := t) d
    exact (TrI.inn h hE hx d (by omega)).step hE (by omega) (j := j) (by rw [e]; exact getElem?_pre hx)
theorem out_inv (hE : Egs n q m) (hr : r < n) : ∀ i, TrI q m n r (outT q m r i)
  | 0 => ⟨by simp [outT, rootT], fun v hv => by simp [outT, rootT] at hv; omega, rfl, fun v _ => rfl, rfl, fun j v hj hv => by
      simp only [outT, rootT] at hv
      rw [List.getElem?_eq_none (by simp; omega)] at hv
      cases hv⟩
  | i + 1 => by
    have ih := out_inv hE hr i
    simp only [outT]
    cases e : (outT q m r i).row[i]? with
    | none => exact ih
    | some x => exact ih.inn hE e m (Nat.le_refl _)
theorem nodup_le {l : List Nat} : ∀ {n : Nat}, l.Nodup → (∀ v, v ∈ l → v < n) → l.length ≤ n := by
  intro n hd hl
  apply Classical.byContradiction
  intro c
  obtain ⟨s, t, st, tn, e⟩ := pigeon n (fun i => (l[i]?).getD 0) (fun t ht => by
    have tl : t < l.length := by omega
    show (l[t]?).getD 0 < n
    rw [List.getElem?_eq_getElem tl]
    exact hl _ (List.getElem_mem tl))
  have sl : s < l.length := by omega
  have tl : t < l.length := by omega
  simp only [List.getElem?_eq_getElem sl, List.getElem?_eq_getElem tl, Option.getD_some] at e
  have := (List.getElem_inj hd).1 e
  omega
/-- The tree in the end: no node is left out that an edge leads to. -/
def treeT (q : Nat → Eg) (m n r : Nat) : Tr := outT q m r n
theorem tree_inv (hE : Egs n q m) (hr : r < n) : TrI q m n r (treeT q m n r) := out_inv hE hr n
theorem try_mem {y : Nat} (h : toT q k x = some y) : y ∈ (tryT q k x t).row := by
  unfold tryT
  rw [h]
  simp only
  split
  · assumption
  · simp
theorem inn_mem {y : Nat} (h : toT q k x = some y) : ∀ m, k < m → y ∈ (innT q x m t).row
  | 0, hk => by omega
  | m + 1, hk => by
    simp only [innT]
    by_cases e : k = m
    · subst e; exact try_mem h
    · obtain ⟨l, e'⟩ := try_pre (q := q) (k := m) (x := x) (t := innT q x m t)
      rw [e']
      exact List.mem_append_left _ (inn_mem h m (by omega))
theorem tree_closed (hE : Egs n q m) (hr : r < n) {v y : Nat} (hv : v ∈ (treeT q m n r).row) (hk : k < m) (h : toT q k v = some y) : y ∈ (treeT q m n r).row := by
  obtain ⟨j, hj, e⟩ := List.getElem_of_mem hv
  have ln := nodup_le (tree_inv hE hr).nodup (tree_inv hE hr).lt
  have ev : (treeT q m n r).row[j]? = some v := by rw [List.getElem?_eq_getElem hj, e]
  -- it stood there when its turn came
  have early : (outT q m r j).row[j]? = some v := by
    have inv := out_inv hE hr j
    cases e' : (outT q m r j).row[j]? with
    | some u =>
      have := out_at e' (n - j)
      rw [show j + (n - j) = n by omega] at this
      unfold treeT at ev
      rw [this] at ev
      exact ev
    | none =>
      have stay : ∀ d, outT q m r (j + d) = outT q m r j := by
        intro d
        induction d with
        | zero => rfl
        | succ d ih =>
          show (match (outT q m r (j + d)).row[j + d]? with
            | none => outT q m r (j + d)
            | some x => innT q x m (outT q m r (j + d))) = _
          have len : (outT q m r j).row.length ≤ j := List.getElem?_eq_none_iff.1 e'
          rw [ih, List.getElem?_eq_none (by omega)]
      unfold treeT at ev
      rw [show n = j + (n - j) by omega, stay, e'] at ev
      cases ev
  have nxt : y ∈ (outT q m r (j + 1)).row := by
    simp only [outT]
    rw [early]
    exact inn_mem h m hk
  obtain ⟨j2, hj2, e2⟩ := List.getElem_of_mem nxt
  have := out_at (i := j + 1) (j := j2) (v := y) (by rw [List.getElem?_eq_getElem hj2, e2]) (n - (j + 1))
  rw [show j + 1 + (n - (j + 1)) = n by omega] at this
  exact List.mem_of_getElem? this
theorem arc_to {u v : Nat} {c : Int} (g : Arc q m u v c) (hE : Egs n q m) : ∃ k, k < m ∧ toT q k u = some v := by
  obtain ⟨j, hj, ⟨h1, h2, _⟩ | ⟨h1, h2, _⟩⟩ := g
  · refine ⟨j, hj, ?_⟩
    unfold toT
    rw [if_pos h1.symm, ← h2, Int.toNat_natCast]
  · refine ⟨j, hj, ?_⟩
    obtain ⟨_, ne, _⟩ := hE.each j hj
    unfold toT
    rw [if_neg (by omega), if_pos h1.symm, ← h2, Int.toNat_natCast]
/-- Who is in the tree is who can be reached. -/
theorem tree_reach (hE : Egs n q m) (hr : r < n) : ∀ {d v : Nat} {c : Int}, Wk (Arc q m) d r v c → v ∈ (treeT q m n r).row := by
  intro d
  induction d with
  | zero =>
    intro v c w
    obtain ⟨rfl, _⟩ := w.zero
    exact (tree_inv hE hr).mem
  | succ d ih =>
    intro v c w
    obtain ⟨u, a, b, w1, g, _⟩ := w.last
    obtain ⟨k, hk, h⟩ := arc_to g hE
    exact tree_closed hE hr (ih w1) hk h
end
end Go.Proofs.YthejaecljkjliaiGreatDoor
namespace Go.Proofs.YthejaecljkjliaiGreatDoor
open Go.ChangeShapes Go.WideShapes Go.ChangeAt Go.RowKit
set_option linter.unusedVariables false

/-- Where a node came from by edge k, and what the edge says of it. -/
def frT (q : Nat → Eg) (k v : Nat) : Nat := if (q k).a = v then (q k).b.toNat else (q k).a.toNat
def saT (q : Nat → Eg) (k v : Nat) : Int × Int := if (q k).a = v then (-(q k).hi, -(q k).lo) else ((q k).lo, (q k).hi)
/-- The span of a node, by those ahead. -/
def suT (q : Nat → Eg) (t : Tr) (W : Nat → Int × Int) (v : Nat) : Int × Int := ((W (frT q (t.by_ v).toNat v)).1 + (saT q (t.by_ v).toNat v).1, (W (frT q (t.by_ v).toNat v)).2 + (saT q (t.by_ v).toNat v).2)
/-- What is told behind the first i nodes: of the root 0..0. -/
def waT (q : Nat → Eg) (t : Tr) : Nat → Nat → Int × Int
  | 0 => fun _ => (0, 0)
  | i + 1 => fun u => if i = 0 then (0, 0) else match t.row[i]? with
    | none => waT q t i u
    | some v => if u = v then suT q t (waT q t i) v else waT q t i u
section
variable {q : Nat → Eg} {m n r k : Nat} {t : Tr}
theorem waT_one : waT q t 1 = fun _ => (0, 0) := by
  funext u
  simp [waT]
theorem fr_to (hE : Egs n q m) (hk : k < m) {u v : Nat} (h : toT q k u = some v) : frT q k v = u ∧ SP (Arc q m) u v (saT q k v) := by
  obtain ⟨⟨a1, a2, a3, a4⟩, ne, _⟩ := hE.each k hk
  obtain ⟨A, eA⟩ : ∃ A : Nat, (q k).a = A := ⟨(q k).a.toNat, by omega⟩
  obtain ⟨B, eB⟩ : ∃ B : Nat, (q k).b = B := ⟨(q k).b.toNat, by omega⟩
  obtain ⟨s1, s2⟩ := edge_sp (m := m) hk eA eB
  unfold toT at h
  unfold frT saT
  rw [eA, eB, Int.toNat_natCast, Int.toNat_natCast] at h ⊢
  by_cases c : (A : Int) = u
  · rw [if_pos c] at h
    obtain rfl := Option.some.inj h
    rw [if_neg (by omega), if_neg (by omega)]
    obtain rfl : A = u := by omega
    exact ⟨rfl, s1⟩
  · rw [if_neg c] at h
    by_cases c2 : (B : Int) = u
    · rw [if_pos c2] at h
      obtain rfl := Option.some.inj h
      rw [if_pos rfl, if_pos rfl]
      obtain rfl : B = u := by omega
      exact ⟨rfl, s2⟩
    · rw [if_neg c2] at h; cases h
/-- What was told of a node stays. -/
theorem waT_stay (h : TrI q m n r t) {j v : Nat} (hj : t.row[j]? = some v) : ∀ d, waT q t (j + 1 + d) v = waT q t (j + 1) v
  | 0 => rfl
  | d + 1 => by
    have ih := waT_stay h hj d
    show waT q t (j + 1 + d + 1) v = _
    simp only [waT]
    rw [if_neg (by omega)]
    cases e : t.row[j + 1 + d]? with
    | none => exact ih
    | some u =>
      have ne : v ≠ u := fun e' => by
        subst e'
        have l1 := (List.getElem?_eq_some_iff.1 hj).1
        have l2 := (List.getElem?_eq_some_iff.1 e).1
        have x1 := (List.getElem?_eq_some_iff.1 hj).2
        have x2 := (List.getElem?_eq_some_iff.1 e).2
        have := (List.getElem_inj (h₀ := l1) (h₁ := l2) h.nodup).1 (by rw [x1, x2])
        omega
      simp only
      rw [if_neg ne]
      exact ih
theorem waT_at (h : TrI q m n r t) {j v : Nat} (hj : t.row[j]? = some v) {i : Nat} (hi : j < i) : waT q t i v = waT q t (j + 1) v := by
  have := waT_stay h hj (i - (j + 1))
  rwa [show j + 1 + (i - (j + 1)) = i by omega] at this
/-- What a tree says of a node is so. -/
theorem waT_sound (hE : Egs n q m) (h : TrI q m n r t) : ∀ j v, t.row[j]? = some v → SP (Arc q m) r v (waT q t (j + 1) v) := by
  intro j
  induction j using Nat.strongRecOn with
  | _ j ih =>
    intro v hv
    by_cases j0 : j = 0
    · subst j0
      have e := h.head
      rw [hv] at e
      obtain rfl := Option.some.inj e
      rw [waT_one]
      exact ⟨⟨0, Wk.nil v⟩, ⟨0, by show Wk _ 0 v v (-0); exact Wk.nil v⟩⟩
    · obtain ⟨k, u, j', a1, a2, a3, a4, a5⟩ := h.par j v (by omega) hv
      obtain ⟨f1, f2⟩ := fr_to hE a1 a5
      have s1 := ih j' a2 u a3
      have e1 := waT_at h a3 (show j' < j by omega)
      have ev : waT q t (j + 1) v = suT q t (waT q t j) v := by
        simp only [waT]
        rw [if_neg j0, hv]
        simp
      rw [ev]
      unfold suT
      rw [a4, Int.toNat_natCast, f1, e1]
      exact s1.app f2
theorem waT_in (hE : Egs n q m) (h : TrI q m n r t) : ∀ (j v : Nat), t.row[j]? = some v → -((j : Int) * 1000000000000) ≤ (waT q t (j + 1) v).1 ∧ (waT q t (j + 1) v).1 ≤ (waT q t (j + 1) v).2 ∧ (waT q t (j + 1) v).2 ≤ (j : Int) * 1000000000000 := by
  intro j
  induction j using Nat.strongRecOn with
  | _ j ih =>
    intro v hv
    by_cases j0 : j = 0
    · subst j0
      rw [waT_one]
      show -(((0 : Nat) : Int) * 1000000000000) ≤ 0 ∧ (0 : Int) ≤ 0 ∧ (0 : Int) ≤ ((0 : Nat) : Int) * 1000000000000
      omega
    · obtain ⟨k, u, j', a1, a2, a3, a4, a5⟩ := h.par j v (by omega) hv
      obtain ⟨f1, _⟩ := fr_to hE a1 a5
      have s1 := ih j' a2 u a3
      have e1 := waT_at h a3 (show j' < j by omega)
      have ev : waT q t (j + 1) v = suT q t (waT q t j) v := by
        simp only [waT]
        rw [if_neg j0, hv]
        simp
      obtain ⟨_, _, o⟩ := hE.each k a1
      have ob := okB_t o
      have sb : -1000000000000 ≤ (saT q k v).1 ∧ (saT q k v).1 ≤ (saT q k v).2 ∧ (saT q k v).2 ≤ 1000000000000 := by
        unfold saT
        split
        · show -1000000000000 ≤ -(q k).hi ∧ -(q k).hi ≤ -(q k).lo ∧ -(q k).lo ≤ 1000000000000
          omega
        · show -1000000000000 ≤ (q k).lo ∧ (q k).lo ≤ (q k).hi ∧ (q k).hi ≤ 1000000000000
          omega
      rw [ev]
      unfold suT
      rw [a4, Int.toNat_natCast, f1, e1]
      show -((j : Int) * 1000000000000) ≤ (waT q t (j' + 1) u).1 + (saT q k v).1 ∧ (waT q t (j' + 1) u).1 + (saT q k v).1 ≤ (waT q t (j' + 1) u).2 + (saT q k v).2 ∧ (waT q t (j' + 1) u).2 + (saT q k v).2 ≤ (j : Int) * 1000000000000
      omega
end
/-- What a tree says in the end. -/
def wantT (q : Nat → Eg) (m n r : Nat) (v : Nat) : Int × Int := waT q (treeT q m n r) (treeT q m n r).row.length v
/-- An end beyond the greatest time. -/
def FarT (q : Nat → Eg) (m n r : Nat) : Prop := ∃ v, v ∈ (treeT q m n r).row ∧ okB (wantT q m n r v).1 (wantT q m n r v).2 = false
/-- Parents' error, Spans' error. -/
def PaE (z : Int) (q : Nat → Eg) (m : Nat) (root e : Int) : Prop := (eE z q m ≠ 0 ∧ e = eE z q m) ∨ (eE z q m = 0 ∧ (root < 0 ∨ z ≤ root) ∧ e = 1) ∨ (eE z q m = 0 ∧ (0 ≤ root ∧ root < z) ∧ e = 0)
def SpE (z : Int) (q : Nat → Eg) (m : Nat) (root e : Int) : Prop := (eE z q m ≠ 0 ∧ e = eE z q m) ∨ (eE z q m = 0 ∧ (root < 0 ∨ z ≤ root) ∧ e = 1) ∨ (eE z q m = 0 ∧ (0 ≤ root ∧ root < z) ∧ ((FarT q m z.toNat root.toNat ∧ e = 1) ∨ (¬ FarT q m z.toNat root.toNat ∧ e = 0)))
theorem paE_some (z : Int) (q : Nat → Eg) (m : Nat) (root : Int) : ∃ e, PaE z q m root e := by
  by_cases h : eE z q m = 0
  · by_cases g : 0 ≤ root ∧ root < z
    · exact ⟨0, Or.inr (Or.inr ⟨h, g, rfl⟩)⟩
    · exact ⟨1, Or.inr (Or.inl ⟨h, by omega, rfl⟩)⟩
  · exact ⟨_, Or.inl ⟨h, rfl⟩⟩
theorem spE_some (z : Int) (q : Nat → Eg) (m : Nat) (root : Int) : ∃ e, SpE z q m root e := by
  by_cases h : eE z q m = 0
  · by_cases g : 0 ≤ root ∧ root < z
    · by_cases f : FarT q m z.toNat root.toNat
      · exact ⟨1, Or.inr (Or.inr ⟨h, g, Or.inl ⟨f, rfl⟩⟩)⟩
      · exact ⟨0, Or.inr (Or.inr ⟨h, g, Or.inr ⟨f, rfl⟩⟩)⟩
    · exact ⟨1, Or.inr (Or.inl ⟨h, by omega, rfl⟩)⟩
  · exact ⟨_, Or.inl ⟨h, rfl⟩⟩
section
variable {q : Nat → Eg} {m n r v : Nat}
theorem wantT_sound (hE : Egs n q m) (hr : r < n) (hv : v ∈ (treeT q m n r).row) : SP (Arc q m) r v (wantT q m n r v) := by
  obtain ⟨j, hj, e⟩ := List.getElem_of_mem hv
  have ev : (treeT q m n r).row[j]? = some v := by rw [List.getElem?_eq_getElem hj, e]
  unfold wantT
  rw [waT_at (tree_inv hE hr) ev hj]
  exact waT_sound hE (tree_inv hE hr) j v ev
/-- A tree knows no more than all. -/
theorem tree_wider (hE : Egs n q m) (hr : r < n) (hv : v ∈ (treeT q m n r).row) {lo hi : Int} (d1 : Dst (Arc q m) r v hi) (d2 : Dst (Arc q m) v r (-lo)) : (wantT q m n r v).1 ≤ lo ∧ hi ≤ (wantT q m n r v).2 := by
  obtain ⟨⟨r1, w1⟩, ⟨r2, w2⟩⟩ := wantT_sound hE hr hv
  have h1 := d1.2 _ _ w1
  have h2 := d2.2 _ _ w2
  omega
/-- What fits is in what a tree says. -/
theorem tree_fit (hE : Egs n q m) (hr : r < n) (hv : v ∈ (treeT q m n r).row) {c : Nat → Int} (hc : ∀ u v x, Arc q m u v x → c v - c u ≤ x) : (wantT q m n r v).1 ≤ c v - c r ∧ c v - c r ≤ (wantT q m n r v).2 := by
  obtain ⟨⟨r1, w1⟩, ⟨r2, w2⟩⟩ := wantT_sound hE hr hv
  have h1 := wk_fit hc w1
  have h2 := wk_fit hc w2
  omega
/-- Who is in it has a bound, and who has one is in it. -/
theorem tree_isT (hE : Egs n q m) (hr : r < n) {T : Tb} (hT : IsT q m n T) (hv : v < n) : (T r v).isSome = true ↔ v ∈ (treeT q m n r).row := by
  constructor
  · intro h
    cases e : T r v with
    | none => rw [e] at h; cases h
    | some x =>
      obtain ⟨⟨d, w⟩, _⟩ := (hT r v hr).1 x e
      exact tree_reach hE hr w
  · intro h
    cases e : T r v with
    | some x => rfl
    | none =>
      obtain ⟨⟨d, w⟩, _⟩ := wantT_sound hE hr h
      exact absurd w ((hT r v hr).2 e d _)
end
end Go.Proofs.YthejaecljkjliaiGreatDoor
namespace Go.Proofs.YthejaecljkjliaiGreatDoor
set_option linter.unusedVariables false

/-- Who is in the tree, and what it says of each: none is told by zeros. -/
def inT (q : Nat → Eg) (m n r v : Nat) : Bool := decide (v ∈ (treeT q m n r).row)
def teT (q : Nat → Eg) (m n r v : Nat) : Int × Int := if v ∈ (treeT q m n r).row then wantT q m n r v else (0, 0)
end Go.Proofs.YthejaecljkjliaiGreatDoor
namespace Go.Proofs.YthejaecljkjliaiGreatDoor
open Go.ChangeShapes Go.WideShapes Go.ChangeAt Go.RowKit Go.Joins
set_option linter.unusedVariables false
set_option linter.unusedSimpArgs false

theorem tinfoInt : (Tryz.prog.info? 3).map (fun i => (i.zero, i.size, i.bytes)) = some (some (.int .i64 0), 1, 8) := by kernel_rfl
theorem tinfoBool : (Tryz.prog.info? 4).map (fun i => (i.zero, i.size, i.bytes)) = some (some (.bool false), 1, 1) := by kernel_rfl
theorem tmade_cells (z : Value) (hz : z.cells = #[z]) (n : Nat) : madeCells z.cells (n * 1) = (List.replicate n z).toArray := by
  rw [hz, Nat.mul_one]
  apply Array.ext
  · simp [madeCells]
  · intro i h1 h2
    simp [madeCells, Nat.mod_one]
theorem tmk_ints (n : Nat) (h6 : n ≤ 6) (W : World) : (Instr.makeSlice 22 (.int .i64 n) (.int .i64 n)).run Tryz.prog W = .ok (.slice (some ⟨W.heap.size, 0, none⟩) n n) (W.alloc (.cells (List.replicate n (.int .i64 0)).toArray 3)) := by
  obtain ⟨i0, hi0, hz0, hz1, hz2⟩ := info_parts tinfoInt
  have h := run_makeSlice W 22 3 i0 _ Tryz.underlying22 hi0 hz0 .i64 .i64 n n (by omega) (by omega) (by rw [hz1]; simp; omega) (by rw [hz2]; simp; omega) (by omega)
  rw [hz1, Int.toNat_natCast, tmade_cells _ rfl n] at h
  exact h
theorem tmk_bools (n : Nat) (h6 : n ≤ 6) (W : World) : (Instr.makeSlice 67 (.int .i64 n) (.int .i64 n)).run Tryz.prog W = .ok (.slice (some ⟨W.heap.size, 0, none⟩) n n) (W.alloc (.cells (List.replicate n (.bool false)).toArray 4)) := by
  obtain ⟨i0, hi0, hz0, hz1, hz2⟩ := info_parts tinfoBool
  have h := run_makeSlice W 67 4 i0 _ Tryz.underlying67 hi0 hz0 .i64 .i64 n n (by omega) (by omega) (by rw [hz1]; simp; omega) (by rw [hz2]; simp; omega) (by omega)
  rw [hz1, Int.toNat_natCast, tmade_cells _ rfl n] at h
  exact h
/-- The cells of a tree: by which edge each came; who is in it; its nodes. -/
def byR (n : Nat) (t : Tr) : List Value := (List.range n).map fun i => .int .i64 (t.by_ i)
def inR (n : Nat) (t : Tr) : List Value := (List.range n).map fun i => .bool (decide (i ∈ t.row))
def roR (t : Tr) : List Value := t.row.map fun x => .int .i64 (x : Nat)
def fiR (n i : Nat) : List Value := (List.range n).map fun j => .int .i64 (if j < i then -1 else 0)
theorem map_range_ext {n : Nat} {l : List Value} {f : Nat → Value} (h1 : ∀ j, j < n → l[j]? = some (f j)) (h2 : l.length = n) : (List.range n).map f = l := by
  apply List.ext_getElem?
  intro j
  by_cases hj : j < n
  · rw [List.getElem?_map, List.getElem?_range hj, h1 j hj]; rfl
  · rw [List.getElem?_eq_none (by simp; omega), List.getElem?_eq_none (by omega)]
theorem fiR_zero (n : Nat) : fiR n 0 = List.replicate n (.int .i64 0) := map_range_ext (fun j hj => by simp [hj]) (by simp)
theorem fiR_set (n i : Nat) (h : i < n) : (fiR n i).set i (.int .i64 (-1)) = fiR n (i + 1) := by
  symm
  refine map_range_ext (fun j hj => ?_) (by simp [fiR])
  by_cases e : i = j
  · subst e
    rw [List.getElem?_set_self (by simp [fiR]; exact h), if_pos (by omega)]
  · rw [List.getElem?_set_ne e]
    simp only [fiR, List.getElem?_map, List.getElem?_range hj, Option.map_some]
    by_cases c : j < i
    · rw [if_pos c, if_pos (by omega)]
    · rw [if_neg c, if_neg (by omega)]
theorem fiR_all (n r : Nat) : fiR n n = byR n (rootT r) := by
  unfold fiR byR
  apply List.map_congr_left
  intro y hy
  rw [if_pos (List.mem_range.1 hy)]
  rfl
theorem inR_root (n r : Nat) (h : r < n) : (List.replicate n (.bool false)).set r (.bool true) = inR n (rootT r) := by
  symm
  refine map_range_ext (fun j hj => ?_) (by simp)
  by_cases e : r = j
  · subst e
    rw [List.getElem?_set_self (by simpa using h)]
    simp [rootT]
  · rw [List.getElem?_set_ne e]
    have : ¬ j = r := fun x => e x.symm
    simp [rootT, hj, this]
theorem byR_at (n : Nat) (t : Tr) (i : Nat) (h : i < n) : (byR n t)[i]? = some (.int .i64 (t.by_ i)) := by simp [byR, h]
theorem inR_at (n : Nat) (t : Tr) (i : Nat) (h : i < n) : (inR n t)[i]? = some (.bool (decide (i ∈ t.row))) := by simp [inR, h]
/-- One node more. -/
def addT (t : Tr) (k y : Nat) : Tr := ⟨t.row ++ [y], fun i => if i = y then (k : Int) else t.by_ i⟩
theorem byR_add (n : Nat) (t : Tr) (k y : Nat) (h : y < n) : (byR n t).set y (.int .i64 k) = byR n (addT t k y) := by
  symm
  refine map_range_ext (fun j hj => ?_) (by simp [byR])
  by_cases e : y = j
  · subst e
    rw [List.getElem?_set_self (by simp [byR]; exact h)]
    simp [addT]
  · rw [List.getElem?_set_ne e, byR_at _ _ _ hj]
    have : ¬ j = y := fun x => e x.symm
    simp [addT, this]
theorem inR_add (n : Nat) (t : Tr) (k y : Nat) (h : y < n) : (inR n t).set y (.bool true) = inR n (addT t k y) := by
  symm
  refine map_range_ext (fun j hj => ?_) (by simp [inR])
  by_cases e : y = j
  · subst e
    rw [List.getElem?_set_self (by simp [inR]; exact h)]
    simp [addT]
  · rw [List.getElem?_set_ne e, inR_at _ _ _ hj]
    have : ¬ j = y := fun x => e x.symm
    simp [addT, this]
theorem own_form {u : World} {base n : Nat} {e : TypeId} {v : Value} {xs : List Value} (h : u.ownsRow base e 1 v n xs) (hn : 0 < n) : ∃ g cap, v = .slice (some ⟨g, 0, none⟩) n cap ∧ base ≤ g ∧ g < u.heap.size ∧ n ≤ cap ∧ ∀ j c, xs[j]? = some c → u.cell? ⟨g, j, none⟩ = some c := by
  rcases h.2 with ⟨_, h0⟩ | ⟨g, cap, cur, hv, hb, hg, hcc, _, _, htk⟩
  · omega
  · refine ⟨g, cap, hv, hb, ?_, hcc, fun j c hc => ?_⟩
    · rcases Nat.lt_or_ge g u.heap.size with hlt | hge
      · exact hlt
      · rw [Array.getElem?_eq_none hge] at hg; cases hg
    · rw [← htk, List.getElem?_take] at hc
      split at hc
      case isFalse => cases hc
      unfold World.cell?
      rw [show u.heap[(⟨g, j, none⟩ : Addr).block]? = _ from hg]
      simpa using hc
theorem own_far {u : World} {base n b i size : Nat} {e : TypeId} {v x : Value} {xs : List Value} (h : u.ownsRow base e size v n xs) (hb : b < base) : (u.setCell ⟨b, i, none⟩ x).ownsRow base e size v n xs := by
  refine ⟨h.1, ?_⟩
  rcases h.2 with h' | ⟨g, cap, cur, h1, h2, h3, h4⟩
  · exact Or.inl h'
  · exact Or.inr ⟨g, cap, cur, h1, h2, (Deep.blk_setCell_other u ⟨b, i, none⟩ x g (by show g ≠ b; omega)).trans h3, h4⟩
theorem out_stay {q : Nat → Eg} {m r j : Nat} (h : (outT q m r j).row.length ≤ j) : ∀ d, outT q m r (j + d) = outT q m r j
  | 0 => rfl
  | d + 1 => by
    have ih := out_stay h d
    show (match (outT q m r (j + d)).row[j + d]? with
      | none => outT q m r (j + d)
      | some x => innT q x m (outT q m r (j + d))) = _
    rw [ih, List.getElem?_eq_none (by omega)]
/-- What Parents answers. -/
def ParR (q : Nat → Eg) (m n r : Nat) (w : World) (e : Ending) (w' : World) : Prop := ∃ (v : Value), e = .returned (.tuple #[.slice (some ⟨w.heap.size, 0, none⟩) n n, v]) ∧ Blk w' 3 w.heap.size (byR n (treeT q m n r)) ∧ w'.ownsRow (w.heap.size + 2) 3 1 v (treeT q m n r).row.length (roR (treeT q m n r)) ∧ Below w.heap.size w w'
end Go.Proofs.YthejaecljkjliaiGreatDoor
namespace Go.Proofs.YthejaecljkjliaiGreatDoor
open Go.ChangeShapes Go.WideShapes Go.ChangeAt Go.RowKit Go.Joins
set_option linter.unusedVariables false
set_option linter.unusedSimpArgs false

/-- Nodes lie from the start of a block on. -/
def Nod (u : World) (g : Nat) (l : List Nat) : Prop := ∀ j c, l[j]? = some c → u.cell? ⟨g, j, none⟩ = some (.int .i64 (c : Nat))
set_option maxRecDepth 100000 in
set_option maxHeartbeats 4000000 in
theorem index_any (g k cap : Nat) (l : List Nat) (x : Nat) (w : World) (hk : l.length = k) (h6 : k ≤ 6) (hN : Nod w g l) :
    Calls Tryz.prog 124 #[.slice (some ⟨g, 0, none⟩) k cap, .int .i64 x] w fun e w' => ∃ r : Int, e = .returned (.int .i64 r) ∧ ((0 ≤ r ∧ x ∈ l) ∨ (r = -1 ∧ ¬ x ∈ l)) ∧ w' = w := by
  have HN : Hid (Nod w g l) := hN
  have HL : Hid (l.length = k) := hk
  clear hN hk
  go_enter Tryz.func124, Tryz.ntmps124
  go_wp2
  go_loopw [8] (fun i wr => ∃ j : Nat, j ≤ k ∧ i = .int .i64 j ∧ wr = w ∧ ∀ i, i < j → l[i]? ≠ some x) (fun i _ => k - (intOf i).toNat)
  case atStart => exact ⟨0, Nat.zero_le _, rfl, rfl, fun j hj => by omega⟩
  case round =>
    obtain ⟨j, hj, rfl, hwr, hg⟩ := hrel
    rw [hwr]
    clear hwr
    have HG : Hid (∀ i, i < j → l[i]? ≠ some x) := hg
    clear hg
    by_cases hlt : j < k
    · have hl3 : (j : Int) < k := by omega
      obtain ⟨y, hy⟩ : ∃ y, l[j]? = some y := ⟨_, List.getElem?_eq_getElem (by have := HL.out; omega)⟩
      have c0 := HN.out j y hy
      by_cases e : x = y
      · have d1 : ((x : Int) == (y : Int)) = true := beq_iff_eq.2 (by omega)
        have HY : Hid (x ∈ l) := by show x ∈ l; rw [e]; exact List.mem_of_getElem? hy
        clear HG HN e hy
        as_aux_lemma =>
          go_wp2
          go_ret
          exact ⟨_, rfl, Or.inl ⟨by omega, HY.out⟩, rfl⟩
      · have d1 : ((x : Int) == (y : Int)) = false := by simp; omega
        have HY : Hid (∀ i, i < j + 1 → l[i]? ≠ some x) := fun i hi => by
          by_cases q : i = j
          · rw [q, hy]; intro h; exact e (Option.some.inj h).symm
          · exact HG.out i (by omega)
        clear HG HN e hy
        as_aux_lemma =>
          go_wp2
          go_roundw
          case rel => exact ⟨j + 1, by omega, by go_num, by first | rfl | trivial, HY.out⟩
          case measure => simp [intOf]; omega
    · have hl3 : ¬ ((j : Int) < k) := by omega
      have HY : Hid (¬ x ∈ l) := fun h => by
        obtain ⟨i, hi, e⟩ := List.getElem_of_mem h
        have := HL.out
        exact HG.out i (by omega) (by rw [List.getElem?_eq_getElem hi, e])
      clear HG HN
      go_wp2
      go_ret
      exact ⟨_, rfl, Or.inr ⟨rfl, HY.out⟩, rfl⟩
set_option maxRecDepth 100000 in
set_option maxHeartbeats 4000000 in
theorem contains_any (g k cap : Nat) (l : List Nat) (x : Nat) (w : World) (hk : l.length = k) (h6 : k ≤ 6) (hN : Nod w g l) :
    Calls Tryz.prog 112 #[.slice (some ⟨g, 0, none⟩) k cap, .int .i64 x] w fun e w' => e = .returned (.bool (decide (x ∈ l))) ∧ w' = w := by
  have cI := index_any g k cap l x w hk h6 hN
  clear hN hk h6
  by_cases h : x ∈ l
  · rw [decide_eq_true h]
    have HX : Hid (x ∈ l) := h
    clear h
    go_enter Tryz.func112, Tryz.ntmps112
    go_wp2_with (go_at_call 124; go_loud (refine cI.mono ?_; rintro e u0 ⟨r, rfl, hr, hu⟩; rw [hu]; clear hu; have hr1 : 0 ≤ r := hr.elim (fun h => h.1) (fun h => absurd HX.out h.2); clear hr))
    go_ret
    exact ⟨rfl, rfl⟩
  · rw [decide_eq_false h]
    have HX : Hid (¬ x ∈ l) := h
    clear h
    go_enter Tryz.func112, Tryz.ntmps112
    go_wp2_with (go_at_call 124; go_loud (refine cI.mono ?_; rintro e u0 ⟨r, rfl, hr, hu⟩; rw [hu]; clear hu; have hr1 : r = -1 := hr.elim (fun h => absurd h.2 HX.out) (fun h => h.1); clear hr; subst hr1))
    go_ret
    exact ⟨rfl, rfl⟩
set_option maxRecDepth 100000 in
set_option maxHeartbeats 4000000 in
theorem otherEnd_any (A B : Nat) (lo hi : Int) (x : Nat) (w : World) :
    Calls Tryz.prog 111 #[.agg #[.int .i64 A, .int .i64 B, .int .i64 lo, .int .i64 hi], .int .i64 x] w fun e w' => e = .returned (.int .i64 (if x = A then (B : Int) else A)) ∧ Below w.heap.size w w' := by
  by_cases h : x = A
  · rw [if_pos h]
    have d1 : ((x : Int) == (A : Int)) = true := beq_iff_eq.2 (by omega)
    clear h
    go_enter Tryz.func111, Tryz.ntmps111
    go_wp2
    go_ret
    exact ⟨rfl, rbel_al (Below.refl _ _)⟩
  · rw [if_neg h]
    have d1 : ((x : Int) == (A : Int)) = false := by simp; omega
    clear h
    go_enter Tryz.func111, Tryz.ntmps111
    go_wp2
    go_ret
    exact ⟨rfl, rbel_al (Below.refl _ _)⟩
end Go.Proofs.YthejaecljkjliaiGreatDoor
