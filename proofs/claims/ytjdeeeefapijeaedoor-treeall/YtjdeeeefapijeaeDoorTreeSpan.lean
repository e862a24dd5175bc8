/- What a tree says of its nodes: plain mathematics. -/
import Derived.Test.YtjdeeeefapijeaeDoorTreeMath
import Derived.Test.YtjdeeeefapijeaeDoorBoundsFw
namespace Go.Proofs.YtjdeeeefapijeaeDoor
open Go.ChangeShapes Go.WideShapes Go.ChangeAt Go.RowKit
set_option linter.unusedVariables false

/-- Where a node came from by edge k, and what the edge says of it. -/
def frT (q : Nat → Eg) (k v : Nat) : Nat := if (q k).a = v then (q k).b.toNat else (q k).a.toNat
def saT (q : Nat → Eg) (k v : Nat) : Int × Int := if (q k).a = v then (-(q k).hi, -(q k).lo) else ((q k).lo, (q k).hi)
/-- The span of a node, by those ahead. -/
def suT (q : Nat → Eg) (t : Tr) (W : Nat → Int × Int) (v : Nat) : Int × Int := ((W (frT q (t.by_ v).toNat v)).1 + (saT q (t.by_ v).toNat v).1, (W (frT q (t.by_ v).toNat v)).2 + (saT q (t.by_ v).toNat v).2)
/-- What is told behind the first i nodes: of the root 0..0. -/
def waT (q : Nat → Eg) (t : Tr) : Nat → Nat → Int × Int
  | 0 => fun _ => (0, 0)
  | i + 1 => fun u => if i = 0 then (0, 0) else match t.row[i]? with
    | none => waT q t i u
    | some v => if u = v then suT q t (waT q t i) v else waT q t i u
section
variable {q : Nat → Eg} {m n r k : Nat} {t : Tr}
theorem waT_one : waT q t 1 = fun _ => (0, 0) := by
  funext u
  simp [waT]
theorem fr_to (hE : Egs n q m) (hk : k < m) {u v : Nat} (h : toT q k u = some v) : frT q k v = u ∧ SP (Arc q m) u v (saT q k v) := by
  obtain ⟨⟨a1, a2, a3, a4⟩, ne, _⟩ := hE.each k hk
  obtain ⟨A, eA⟩ : ∃ A : Nat, (q k).a = A := ⟨(q k).a.toNat, by omega⟩
  obtain ⟨B, eB⟩ : ∃ B : Nat, (q k).b = B := ⟨(q k).b.toNat, by omega⟩
  obtain ⟨s1, s2⟩ := edge_sp (m := m) hk eA eB
  unfold toT at h
  unfold frT saT
  rw [eA, eB, Int.toNat_natCast, Int.toNat_natCast] at h ⊢
  by_cases c : (A : Int) = u
  · rw [if_pos c] at h
    obtain rfl := Option.some.inj h
    rw [if_neg (by omega), if_neg (by omega)]
    obtain rfl : A = u := by omega
    exact ⟨rfl, s1⟩
  · rw [if_neg c] at h
    by_cases c2 : (B : Int) = u
    · rw [if_pos c2] at h
      obtain rfl := Option.some.inj h
      rw [if_pos rfl, if_pos rfl]
      obtain rfl : B = u := by omega
      exact ⟨rfl, s2⟩
    · rw [if_neg c2] at h; cases h
/-- What was told of a node stays. -/
theorem waT_stay (h : TrI q m n r t) {j v : Nat} (hj : t.row[j]? = some v) : ∀ d, waT q t (j + 1 + d) v = waT q t (j + 1) v
  | 0 => rfl
  | d + 1 => by
    have ih := waT_stay h hj d
    show waT q t (j + 1 + d + 1) v = _
    simp only [waT]
    rw [if_neg (by omega)]
    cases e : t.row[j + 1 + d]? with
    | none => exact ih
    | some u =>
      have ne : v ≠ u := fun e' => by
        subst e'
        have l1 := (List.getElem?_eq_some_iff.1 hj).1
        have l2 := (List.getElem?_eq_some_iff.1 e).1
        have x1 := (List.getElem?_eq_some_iff.1 hj).2
        have x2 := (List.getElem?_eq_some_iff.1 e).2
        have := (List.getElem_inj (h₀ := l1) (h₁ := l2) h.nodup).1 (by rw [x1, x2])
        omega
      simp only
      rw [if_neg ne]
      exact ih
theorem waT_at (h : TrI q m n r t) {j v : Nat} (hj : t.row[j]? = some v) {i : Nat} (hi : j < i) : waT q t i v = waT q t (j + 1) v := by
  have := waT_stay h hj (i - (j + 1))
  rwa [show j + 1 + (i - (j + 1)) = i by omega] at this
/-- What a tree says of a node is so. -/
theorem waT_sound (hE : Egs n q m) (h : TrI q m n r t) : ∀ j v, t.row[j]? = some v → SP (Arc q m) r v (waT q t (j + 1) v) := by
  intro j
  induction j using Nat.strongRecOn with
  | _ j ih =>
    intro v hv
    by_cases j0 : j = 0
    · subst j0
      have e := h.head
      rw [hv] at e
      obtain rfl := Option.some.inj e
      rw [waT_one]
      exact ⟨⟨0, Wk.nil v⟩, ⟨0, by show Wk _ 0 v v (-0); exact Wk.nil v⟩⟩
    · obtain ⟨k, u, j', a1, a2, a3, a4, a5⟩ := h.par j v (by omega) hv
      obtain ⟨f1, f2⟩ := fr_to hE a1 a5
      have s1 := ih j' a2 u a3
      have e1 := waT_at h a3 (show j' < j by omega)
      have ev : waT q t (j + 1) v = suT q t (waT q t j) v := by
        simp only [waT]
        rw [if_neg j0, hv]
        simp
      rw [ev]
      unfold suT
      rw [a4, Int.toNat_natCast, f1, e1]
      exact s1.app f2
theorem waT_in (hE : Egs n q m) (h : TrI q m n r t) : ∀ (j v : Nat), t.row[j]? = some v → -((j : Int) * 1000000000000) ≤ (waT q t (j + 1) v).1 ∧ (waT q t (j + 1) v).1 ≤ (waT q t (j + 1) v).2 ∧ (waT q t (j + 1) v).2 ≤ (j : Int) * 1000000000000 := by
  intro j
  induction j using Nat.strongRecOn with
  | _ j ih =>
    intro v hv
    by_cases j0 : j = 0
    · subst j0
      rw [waT_one]
      show -(((0 : Nat) : Int) * 1000000000000) ≤ 0 ∧ (0 : Int) ≤ 0 ∧ (0 : Int) ≤ ((0 : Nat) : Int) * 1000000000000
      omega
    · obtain ⟨k, u, j', a1, a2, a3, a4, a5⟩ := h.par j v (by omega) hv
      obtain ⟨f1, _⟩ := fr_to hE a1 a5
      have s1 := ih j' a2 u a3
      have e1 := waT_at h a3 (show j' < j by omega)
      have ev : waT q t (j + 1) v = suT q t (waT q t j) v := by
        simp only [waT]
        rw [if_neg j0, hv]
        simp
      obtain ⟨_, _, o⟩ := hE.each k a1
      have ob := okB_t o
      have sb : -1000000000000 ≤ (saT q k v).1 ∧ (saT q k v).1 ≤ (saT q k v).2 ∧ (saT q k v).2 ≤ 1000000000000 := by
        unfold saT
        split
        · show -1000000000000 ≤ -(q k).hi ∧ -(q k).hi ≤ -(q k).lo ∧ -(q k).lo ≤ 1000000000000
          omega
        · show -1000000000000 ≤ (q k).lo ∧ (q k).lo ≤ (q k).hi ∧ (q k).hi ≤ 1000000000000
          omega
      rw [ev]
      unfold suT
      rw [a4, Int.toNat_natCast, f1, e1]
      show -((j : Int) * 1000000000000) ≤ (waT q t (j' + 1) u).1 + (saT q k v).1 ∧ (waT q t (j' + 1) u).1 + (saT q k v).1 ≤ (waT q t (j' + 1) u).2 + (saT q k v).2 ∧ (waT q t (j' + 1) u).2 + (saT q k v).2 ≤ (j : Int) * 1000000000000
      omega
end
/-- What a tree says in the end. -/
def wantT (q : Nat → Eg) (m n r : Nat) (v : Nat) : Int × Int := waT q (treeT q m n r) (treeT q m n r).row.length v
/-- An end beyond the greatest time. -/
def FarT (q : Nat → Eg) (m n r : Nat) : Prop := ∃ v, v ∈ (treeT q m n r).row ∧ okB (wantT q m n r v).1 (wantT q m n r v).2 = false
/-- Parents' error, Spans' error. -/
def PaE (z : Int) (q : Nat → Eg) (m : Nat) (root e : Int) : Prop := (eE z q m ≠ 0 ∧ e = eE z q m) ∨ (eE z q m = 0 ∧ (root < 0 ∨ z ≤ root) ∧ e = 1) ∨ (eE z q m = 0 ∧ (0 ≤ root ∧ root < z) ∧ e = 0)
def SpE (z : Int) (q : Nat → Eg) (m : Nat) (root e : Int) : Prop := (eE z q m ≠ 0 ∧ e = eE z q m) ∨ (eE z q m = 0 ∧ (root < 0 ∨ z ≤ root) ∧ e = 1) ∨ (eE z q m = 0 ∧ (0 ≤ root ∧ root < z) ∧ ((FarT q m z.toNat root.toNat ∧ e = 1) ∨ (¬ FarT q m z.toNat root.toNat ∧ e = 0)))
theorem paE_some (z : Int) (q : Nat → Eg) (m : Nat) (root : Int) : ∃ e, PaE z q m root e := by
  by_cases h : eE z q m = 0
  · by_cases g : 0 ≤ root ∧ root < z
    · exact ⟨0, Or.inr (Or.inr ⟨h, g, rfl⟩)⟩
    · exact ⟨1, Or.inr (Or.inl ⟨h, by omega, rfl⟩)⟩
  · exact ⟨_, Or.inl ⟨h, rfl⟩⟩
theorem spE_some (z : Int) (q : Nat → Eg) (m : Nat) (root : Int) : ∃ e, SpE z q m root e := by
  by_cases h : eE z q m = 0
  · by_cases g : 0 ≤ root ∧ root < z
    · by_cases f : FarT q m z.toNat root.toNat
      · exact ⟨1, Or.inr (Or.inr ⟨h, g, Or.inl ⟨f, rfl⟩⟩)⟩
      · exact ⟨0, Or.inr (Or.inr ⟨h, g, Or.inr ⟨f, rfl⟩⟩)⟩
    · exact ⟨1, Or.inr (Or.inl ⟨h, by omega, rfl⟩)⟩
  · exact ⟨_, Or.inl ⟨h, rfl⟩⟩
section
variable {q : Nat → Eg} {m n r v : Nat}
theorem wantT_sound (hE : Egs n q m) (hr : r < n) (hv : v ∈ (treeT q m n r).row) : SP (Arc q m) r v (wantT q m n r v) := by
  obtain ⟨j, hj, e⟩ := List.getElem_of_mem hv
  have ev : (treeT q m n r).row[j]? = some v := by rw [List.getElem?_eq_getElem hj, e]
  unfold wantT
  rw [waT_at (tree_inv hE hr) ev hj]
  exact waT_sound hE (tree_inv hE hr) j v ev
/-- A tree knows no more than all. -/
theorem tree_wider (hE : Egs n q m) (hr : r < n) (hv : v ∈ (treeT q m n r).row) {lo hi : Int} (d1 : Dst (Arc q m) r v hi) (d2 : Dst (Arc q m) v r (-lo)) : (wantT q m n r v).1 ≤ lo ∧ hi ≤ (wantT q m n r v).2 := by
  obtain ⟨⟨r1, w1⟩, ⟨r2, w2⟩⟩ := wantT_sound hE hr hv
  have h1 := d1.2 _ _ w1
  have h2 := d2.2 _ _ w2
  omega
/-- What fits is in what a tree says. -/
theorem tree_fit (hE : Egs n q m) (hr : r < n) (hv : v ∈ (treeT q m n r).row) {c : Nat → Int} (hc : ∀ u v x, Arc q m u v x → c v - c u ≤ x) : (wantT q m n r v).1 ≤ c v - c r ∧ c v - c r ≤ (wantT q m n r v).2 := by
  obtain ⟨⟨r1, w1⟩, ⟨r2, w2⟩⟩ := wantT_sound hE hr hv
  have h1 := wk_fit hc w1
  have h2 := wk_fit hc w2
  omega
/-- Who is in it has a bound, and who has one is in it. -/
theorem tree_isT (hE : Egs n q m) (hr : r < n) {T : Tb} (hT : IsT q m n T) (hv : v < n) : (T r v).isSome = true ↔ v ∈ (treeT q m n r).row := by
  constructor
  · intro h
    cases e : T r v with
    | none => rw [e] at h; cases h
    | some x =>
      obtain ⟨⟨d, w⟩, _⟩ := (hT r v hr).1 x e
      exact tree_reach hE hr w
  · intro h
    cases e : T r v with
    | some x => rfl
    | none =>
      obtain ⟨⟨d, w⟩, _⟩ := wantT_sound hE hr h
      exact absurd w ((hT r v hr).2 e d _)
end
end Go.Proofs.YtjdeeeefapijeaeDoor
