/- Steps tried again and again, as Bellman and Ford did: plain mathematics. A step is of use where it makes the node that it leads to lower; who was moved n times in a row, by n nodes, lies behind a loop without room. -/
import Derived.Test.YtiebojccnaelbaeDoorLoopsMath
namespace Go.Proofs.YtiebojccnaelbaeDoor
open Go.ChangeShapes Go.WideShapes Go.ChangeAt Go.RowKit
set_option linter.unusedVariables false

/-- One value turned. -/
def updI (M : Nat → Int) (v : Nat) (x : Int) : Nat → Int := fun i => if i = v then x else M i
theorem updI_at (M : Nat → Int) (v : Nat) (x : Int) : updI M v x v = x := if_pos rfl
theorem updI_ne (M : Nat → Int) {v i : Nat} (x : Int) (h : i ≠ v) : updI M v x i = M i := if_neg h
def updN (M : Nat → Nat) (v x : Nat) : Nat → Nat := fun i => if i = v then x else M i
theorem updN_at (M : Nat → Nat) (v x : Nat) : updN M v x v = x := if_pos rfl
theorem updN_ne (M : Nat → Nat) {v i : Nat} (x : Nat) (h : i ≠ v) : updN M v x i = M i := if_neg h
/-- Where a step leads from and to, as places. -/
def frN (q : Nat → Eg) (x : Int) : Nat := (frS q x).toNat
def toN (q : Nat → Eg) (x : Int) : Nat := (toS q x).toNat
/-- A step that is of no use. -/
def Tgt (q : Nat → Eg) (M : Nat → Int) (x : Int) : Prop := M (toN q x) ≤ M (frN q x) + coS q x
section
variable {q : Nat → Eg} {m n : Nat} {x : Int}
theorem frN_lt (hE : Egs n q m) (h : okS m x) : frN q x < n := by
  have := frS_in hE h
  unfold frN
  omega
theorem toN_lt (hE : Egs n q m) (h : okS m x) : toN q x < n := by
  have := toS_in hE h
  unfold toN
  omega
theorem frN_eq (hE : Egs n q m) (h : okS m x) : (frN q x : Int) = frS q x := Int.toNat_of_nonneg (frS_in hE h).1
theorem toN_eq (hE : Egs n q m) (h : okS m x) : (toN q x : Int) = toS q x := Int.toNat_of_nonneg (toS_in hE h).1
theorem fr_ne_to (hE : Egs n q m) (h : okS m x) : frN q x ≠ toN q x := by
  obtain ⟨_, ne, _⟩ := hE.each _ (ixS_lt h)
  have h1 := frN_eq hE h
  have h2 := toN_eq hE h
  intro e
  have e' : frS q x = toS q x := by omega
  unfold frS toS at e'
  split at e'
  · exact ne e'
  · exact ne e'.symm
end
/-- The search within its pass number k + 1: c steps were tried in it (at most), those of D; who was moved last. T and t are when a node was moved last: by steps and by passes. -/
structure BfG (q : Nat → Eg) (n m k c : Nat) (D : Int → Prop) (M Y : Nat → Int) (mv : Int) (T t : Nat → Nat) (tau : Nat) : Prop where
  no : ∀ v, v < n → Y v = 0 → t v = 0
  stp : ∀ v, v < n → Y v ≠ 0 → okS m (Y v) ∧ toN q (Y v) = v ∧ t v ≤ t (frN q (Y v)) + 1 ∧ (M (frN q (Y v)) + coS q (Y v) < M v ∨ (M (frN q (Y v)) + coS q (Y v) ≤ M v ∧ T (frN q (Y v)) < T v))
  tle : ∀ v, v < n → t v ≤ k + 1
  Tle : ∀ v, v < n → T v ≤ tau
  useD : ∀ x, okS m x → D x → Tgt q M x ∨ k + 1 ≤ t (frN q x)
  useN : ∀ x, okS m x → Tgt q M x ∨ k ≤ t (frN q x)
  low : ∀ v, v < n → -(1000000000000 * (tau : Int)) ≤ M v ∧ M v ≤ 0
  cnt : tau ≤ 80 * k + c
  mvd : (mv = -1 ∧ ∀ x, okS m x → D x → Tgt q M x) ∨ (0 ≤ mv ∧ mv < n ∧ t mv.toNat = k + 1)
def Bf (q : Nat → Eg) (n m k c : Nat) (D : Int → Prop) (M Y : Nat → Int) (mv : Int) : Prop := ∃ T t tau, BfG q n m k c D M Y mv T t tau
section
variable {q : Nat → Eg} {n m k c : Nat} {D D' : Int → Prop} {M Y : Nat → Int} {mv : Int}
theorem bf_zero : Bf q n m 0 0 (fun _ => False) (fun _ => 0) (fun _ => 0) (-1) :=
  ⟨fun _ => 0, fun _ => 0, 0, fun _ _ _ => rfl, fun v _ h => absurd rfl h, fun _ _ => by omega, fun _ _ => by omega, fun _ _ h => h.elim, fun _ _ => Or.inr (by omega), fun _ _ => ⟨by decide, by decide⟩, by omega, Or.inl ⟨rfl, fun _ _ h => h.elim⟩⟩
/-- What a node may be. -/
theorem Bf.low (h : Bf q n m k c D M Y mv) (hk : k < 6) (hc : c ≤ 80) {v : Nat} (hv : v < n) : -480000000000000 ≤ M v ∧ M v ≤ 0 := by
  obtain ⟨T, t, tau, g⟩ := h
  have h1 := g.low v hv
  have h2 := g.cnt
  omega
/-- A step of no use was tried. -/
theorem Bf.keep (h : Bf q n m k c D M Y mv) {x : Int} (hD : ∀ y, D' y → D y ∨ y = x) (hx : Tgt q M x) : Bf q n m k (c + 1) D' M Y mv := by
  obtain ⟨T, t, tau, g⟩ := h
  refine ⟨T, t, tau, g.no, g.stp, g.tle, g.Tle, fun y hy d => ?_, g.useN, g.low, by have := g.cnt; omega, ?_⟩
  · rcases hD y d with d | rfl
    · exact g.useD y hy d
    · exact Or.inl hx
  · rcases g.mvd with ⟨e, a⟩ | h
    · refine Or.inl ⟨e, fun y hy d => ?_⟩
      rcases hD y d with d | rfl
      · exact a y hy d
      · exact hx
    · exact Or.inr h
/-- A step of use was tried. -/
theorem Bf.move (hE : Egs n q m) (h : Bf q n m k c D M Y mv) {x : Int} (ok : okS m x) (hD : ∀ y, D' y → D y ∨ y = x) (hx : ¬ Tgt q M x) : Bf q n m k (c + 1) D' (updI M (toN q x) (M (frN q x) + coS q x)) (updI Y (toN q x) x) (toS q x) := by
  obtain ⟨T, t, tau, g⟩ := h
  have hu := frN_lt hE ok
  have hv := toN_lt hE ok
  have ne := fr_ne_to hE ok
  have eT := toN_eq hE ok
  have co := coS_in hE ok
  have tu : k ≤ t (frN q x) := by
    rcases g.useN x ok with h | h
    · exact absurd h hx
    · exact h
  have lt : M (frN q x) + coS q x < M (toN q x) := by
    unfold Tgt at hx
    omega
  have mono : ∀ i, updI M (toN q x) (M (frN q x) + coS q x) i ≤ M i := fun i => by
    by_cases e : i = toN q x
    · rw [e, updI_at]; omega
    · rw [updI_ne _ _ e]; exact Int.le_refl _
  have use : ∀ y (K : Nat), okS m y → K ≤ k + 1 → (Tgt q M y ∨ K ≤ t (frN q y)) → Tgt q (updI M (toN q x) (M (frN q x) + coS q x)) y ∨ K ≤ updN t (toN q x) (k + 1) (frN q y) := fun y K hy hK h => by
    by_cases e : frN q y = toN q x
    · rw [e, updN_at]; exact Or.inr hK
    · rw [updN_ne _ _ e]
      rcases h with h | h
      · refine Or.inl ?_
        unfold Tgt at h ⊢
        rw [updI_ne M _ e]
        have := mono (toN q y)
        omega
      · exact Or.inr h
  refine ⟨updN T (toN q x) (tau + 1), updN t (toN q x) (k + 1), tau + 1, fun v vn e => ?_, fun v vn e => ?_, fun v vn => ?_, fun v vn => ?_, fun y hy d => ?_, fun y hy => ?_, fun v vn => ?_, by have := g.cnt; omega, Or.inr ⟨by omega, by omega, ?_⟩⟩
  · by_cases q' : v = toN q x
    · rw [q', updI_at] at e
      exact absurd e ok.1
    · rw [updI_ne _ _ q'] at e
      rw [updN_ne _ _ q']
      exact g.no v vn e
  · by_cases q' : v = toN q x
    · subst q'
      rw [updI_at, updI_at, updN_at, updN_ne _ _ ne, updI_ne _ _ ne, updN_ne _ _ ne, updN_at]
      exact ⟨ok, rfl, by omega, Or.inr ⟨Int.le_refl _, by have := g.Tle _ hu; omega⟩⟩
    · rw [updI_ne _ _ q'] at e ⊢
      rw [updI_ne _ _ q', updN_ne _ _ q', updN_ne _ _ q']
      obtain ⟨a1, a2, a3, a4⟩ := g.stp v vn e
      have a5 := g.tle v vn
      refine ⟨a1, a2, ?_, ?_⟩
      · by_cases f : frN q (Y v) = toN q x
        · rw [f, updN_at]; omega
        · rw [updN_ne _ _ f]; exact a3
      · by_cases f : frN q (Y v) = toN q x
        · rw [f, updI_at]
          rw [f] at a4
          exact Or.inl (by omega)
        · rw [updI_ne _ _ f, updN_ne _ _ f]; exact a4
  · by_cases q' : v = toN q x
    · rw [q', updN_at]; exact Nat.le_refl _
    · rw [updN_ne _ _ q']; exact g.tle v vn
  · by_cases q' : v = toN q x
    · rw [q', updN_at]; exact Nat.le_refl _
    · rw [updN_ne _ _ q']; have := g.Tle v vn; omega
  · by_cases e : y = x
    · subst e
      refine Or.inl ?_
      unfold Tgt
      rw [updI_at, updI_ne _ _ ne]
      exact Int.le_refl _
    · rcases hD y d with d | d
      · exact use y (k + 1) hy (Nat.le_refl _) (g.useD y hy d)
      · exact absurd d e
  · exact use y k hy (by omega) (g.useN y hy)
  · have h1 := g.low v vn
    have h2 := g.low _ hu
    have h3 := mono v
    refine ⟨?_, by omega⟩
    by_cases q' : v = toN q x
    · rw [q', updI_at]; omega
    · rw [updI_ne _ _ q']; omega
  · exact updN_at _ _ _
/-- The next pass. -/
theorem Bf.next (h : Bf q n m k c D M Y mv) (hc : c ≤ 80) (hD : ∀ x, okS m x → D x) : Bf q n m (k + 1) 0 (fun _ => False) M Y (-1) := by
  obtain ⟨T, t, tau, g⟩ := h
  exact ⟨T, t, tau, g.no, g.stp, fun v hv => by have := g.tle v hv; omega, g.Tle, fun _ _ h => h.elim, fun x hx => g.useD x hx (hD x hx), g.low, by have := g.cnt; omega, Or.inl ⟨rfl, fun _ _ h => h.elim⟩⟩
theorem Bf.sub (h : Bf q n m k c D M Y mv) {c' : Nat} (hc : c ≤ c') (hD : ∀ x, D' x → D x) : Bf q n m k c' D' M Y mv := by
  obtain ⟨T, t, tau, g⟩ := h
  refine ⟨T, t, tau, g.no, g.stp, g.tle, g.Tle, fun x hx d => g.useD x hx (hD x d), g.useN, g.low, by have := g.cnt; omega, ?_⟩
  rcases g.mvd with ⟨e, a⟩ | h
  · exact Or.inl ⟨e, fun x hx d => a x hx (hD x d)⟩
  · exact Or.inr h
theorem Bf.mv_in (h : Bf q n m k c D M Y mv) : mv = -1 ∨ (0 ≤ mv ∧ mv < n) := by
  obtain ⟨T, t, tau, g⟩ := h
  rcases g.mvd with ⟨e, _⟩ | ⟨a, b, _⟩
  · exact Or.inl e
  · exact Or.inr ⟨a, b⟩
/-- If no step was of use clocks fit. -/
theorem Bf.fit (hE : Egs n q m) (h : Bf q n m k c D M Y (-1)) (hD : ∀ x, okS m x → D x) : ¬ Neg (Arc q m) n := by
  obtain ⟨T, t, tau, g⟩ := h
  have al : ∀ x, okS m x → Tgt q M x := by
    rcases g.mvd with ⟨_, a⟩ | ⟨a, _⟩
    · exact fun x hx => a x hx (hD x hx)
    · exact absurd a (by decide)
  intro ng
  refine ng.unfit (x := M) ?_
  rintro u v c' ⟨j, hj, ⟨h1, h2, h3⟩ | ⟨h1, h2, h3⟩⟩
  · have ok : okS m ((j : Int) + 1) := ⟨by omega, by omega, by omega⟩
    have ix : ixS ((j : Int) + 1) = j := by unfold ixS; rw [if_pos (by omega)]; omega
    have a := al _ ok
    unfold Tgt toN frN toS frS coS at a
    rw [if_pos (by omega), if_pos (by omega), if_pos (by omega), ix, ← h1, ← h2, ← h3, Int.toNat_natCast, Int.toNat_natCast] at a
    omega
  · have ok : okS m (-((j : Int) + 1)) := ⟨by omega, by omega, by omega⟩
    have ix : ixS (-((j : Int) + 1)) = j := by unfold ixS; rw [if_neg (by omega)]; omega
    have a := al _ ok
    unfold Tgt toN frN toS frS coS at a
    rw [if_neg (by omega), if_neg (by omega), if_neg (by omega), ix, ← h1, ← h2, ← h3, Int.toNat_natCast, Int.toNat_natCast] at a
    omega
end
/-- j steps back from a node, by the step that moved each last. -/
def bk (q : Nat → Eg) (Y : Nat → Int) (v : Nat) : Nat → Nat
  | 0 => v
  | j + 1 => frN q (Y (bk q Y v j))
theorem bk_add (q : Nat → Eg) (Y : Nat → Int) (v i : Nat) : ∀ j, bk q Y v (i + j) = bk q Y (bk q Y v i) j
  | 0 => rfl
  | j + 1 => by
    show frN q (Y (bk q Y v (i + j))) = frN q (Y (bk q Y (bk q Y v i) j))
    rw [bk_add q Y v i j]
/-- A node that lies on a loop back, of d steps and no fewer. -/
structure Rng (q : Nat → Eg) (n m : Nat) (M Y : Nat → Int) (T : Nat → Nat) (c d : Nat) : Prop where
  d0 : 0 < d
  dn : d ≤ n
  ok : ∀ j, bk q Y c j < n ∧ okS m (Y (bk q Y c j)) ∧ toN q (Y (bk q Y c j)) = bk q Y c j
  co : ∀ j, (M (bk q Y c (j + 1)) + coS q (Y (bk q Y c j)) < M (bk q Y c j) ∨ (M (bk q Y c (j + 1)) + coS q (Y (bk q Y c j)) ≤ M (bk q Y c j) ∧ T (bk q Y c (j + 1)) < T (bk q Y c j)))
  back : bk q Y c d = c
  first : ∀ j, 0 < j → j < d → bk q Y c j ≠ c
section
variable {q : Nat → Eg} {n m k c : Nat} {D : Int → Prop} {M Y : Nat → Int} {mv : Nat}
/-- Who was moved by the n-th pass: n steps back from it lies a loop. -/
theorem Bf.ring (hE : Egs n q m) (h : Bf q n m k c D M Y mv) (hk : k + 1 = n) : mv < n ∧ (∀ j, bk q Y mv j < n ∧ okS m (Y (bk q Y mv j))) ∧ ∃ T d, Rng q n m M Y T (bk q Y mv n) d := by
  obtain ⟨T, t, tau, g⟩ := h
  have h0 : mv < n ∧ t mv = n := by
    rcases g.mvd with ⟨e, _⟩ | ⟨_, b, e⟩
    · omega
    · rw [Int.toNat_natCast] at e
      omega
  have a1 : ∀ j, j ≤ n → bk q Y mv j < n ∧ n ≤ t (bk q Y mv j) + j := by
    intro j
    induction j with
    | zero => intro _; exact ⟨h0.1, by show n ≤ t mv + 0; omega⟩
    | succ j ih =>
      intro hj
      obtain ⟨b1, b2⟩ := ih (by omega)
      have ne : Y (bk q Y mv j) ≠ 0 := fun e => by have := g.no _ b1 e; omega
      obtain ⟨o1, o2, o3, _⟩ := g.stp _ b1 ne
      refine ⟨frN_lt hE o1, ?_⟩
      show n ≤ t (frN q (Y (bk q Y mv j))) + (j + 1)
      omega
  have a2 : ∀ j, j < n → Y (bk q Y mv j) ≠ 0 := fun j hj e => by
    obtain ⟨b1, b2⟩ := a1 j (by omega)
    have := g.no _ b1 e
    omega
  obtain ⟨s, r, sr, rn, e⟩ := pigeon n (bk q Y mv) (fun j hj => (a1 j hj).1)
  have per : ∀ j, bk q Y mv (r + j) = bk q Y mv (s + j) := fun j => by rw [bk_add, bk_add, e]
  have a3 : ∀ j, bk q Y mv j < n ∧ Y (bk q Y mv j) ≠ 0 := by
    intro j
    induction j using Nat.strongRecOn with
    | _ j ih =>
      by_cases hj : j < n
      · exact ⟨(a1 j (by omega)).1, a2 j hj⟩
      · have p := per (j - r)
        rw [show r + (j - r) = j by omega] at p
        rw [p]
        exact ih (s + (j - r)) (by omega)
  have a4 : ∀ j, bk q Y mv j < n ∧ okS m (Y (bk q Y mv j)) := fun j => ⟨(a3 j).1, (g.stp _ (a3 j).1 (a3 j).2).1⟩
  refine ⟨h0.1, a4, T, ?_⟩
  have pn : bk q Y (bk q Y mv n) (r - s) = bk q Y mv n := by
    rw [← bk_add]
    have p := per (n - s)
    rw [show r + (n - s) = n + (r - s) by omega, show s + (n - s) = n by omega] at p
    exact p
  obtain ⟨d, ⟨hd0, hd⟩, hm⟩ := least_nat (fun d => 0 < d ∧ bk q Y (bk q Y mv n) d = bk q Y mv n) (r - s) ⟨by omega, pn⟩
  have dr : d ≤ r - s := by
    apply Classical.byContradiction
    intro k'
    exact hm (r - s) (by omega) ⟨by omega, pn⟩
  refine ⟨d, hd0, by omega, fun j => ?_, fun j => ?_, hd, fun j j0 jd e' => hm j jd ⟨j0, e'⟩⟩
  · rw [← bk_add]
    obtain ⟨o1, o2, _⟩ := g.stp _ (a3 (n + j)).1 (a3 (n + j)).2
    exact ⟨(a3 (n + j)).1, o1, o2⟩
  · show (M (frN q (Y (bk q Y (bk q Y mv n) j))) + _ < _ ∨ (M (frN q (Y (bk q Y (bk q Y mv n) j))) + _ ≤ _ ∧ T (frN q (Y (bk q Y (bk q Y mv n) j))) < _))
    rw [← bk_add]
    exact (g.stp _ (a3 (n + j)).1 (a3 (n + j)).2).2.2.2
end
/-- The loop, from its far end. -/
def lpS (q : Nat → Eg) (Y : Nat → Int) (c d : Nat) (i : Nat) : Int := Y (bk q Y c (d - 1 - i))
section
variable {q : Nat → Eg} {n m c d : Nat} {M Y : Nat → Int} {T : Nat → Nat}
theorem Rng.sum (R : Rng q n m M Y T c d) : ∀ i, i ≤ d → rmS q (lpS q Y c d) i < M (bk q Y c (d - i)) - M (bk q Y c d) ∨ (rmS q (lpS q Y c d) i ≤ M (bk q Y c (d - i)) - M (bk q Y c d) ∧ (i = 0 ∨ T (bk q Y c d) < T (bk q Y c (d - i))))
  | 0, _ => Or.inr ⟨by show (0 : Int) ≤ M (bk q Y c d) - M (bk q Y c d); omega, Or.inl rfl⟩
  | i + 1, h => by
    have ih := R.sum i (by omega)
    have s := R.co (d - 1 - i)
    rw [show d - 1 - i + 1 = d - i by omega] at s
    rw [show d - (i + 1) = d - 1 - i by omega]
    show rmS q (lpS q Y c d) i + coS q (Y (bk q Y c (d - 1 - i))) < _ ∨ (rmS q (lpS q Y c d) i + coS q (Y (bk q Y c (d - 1 - i))) ≤ _ ∧ _)
    rcases ih with ih | ⟨ih, ti⟩
    · rcases s with s | ⟨s, _⟩
      · exact Or.inl (by omega)
      · exact Or.inl (by omega)
    · rcases s with s | ⟨s, ts⟩
      · exact Or.inl (by omega)
      · refine Or.inr ⟨by omega, Or.inr ?_⟩
        rcases ti with rfl | ti
        · rw [Nat.sub_zero] at ts ⊢; exact ts
        · omega
theorem Rng.below (R : Rng q n m M Y T c d) : rmS q (lpS q Y c d) d < 0 := by
  have s := R.sum d (Nat.le_refl _)
  rw [Nat.sub_self, R.back] at s
  have e : M (bk q Y c 0) = M c := rfl
  have e' : T (bk q Y c 0) = T c := rfl
  have := R.d0
  rcases s with s | ⟨s, z | t⟩
  · omega
  · omega
  · omega
theorem Rng.room (hE : Egs n q m) (R : Rng q n m M Y T c d) : RmR q m d (lpS q Y c d) (rmS q (lpS q Y c d) d) 0 := by
  have h6 := hE.n6
  have d0 := R.d0
  have dn := R.dn
  refine Or.inr (Or.inr (Or.inr (Or.inr ⟨⟨d0, by omega⟩, fun i hi => (R.ok _).2.1, fun i hi => ?_, rfl, rfl⟩)))
  unfold joS
  obtain ⟨_, o1, o2⟩ := R.ok (d - 1 - i)
  have t1 := toN_eq hE o1
  show toS q (Y (bk q Y c (d - 1 - i))) = frS q (Y (bk q Y c (d - 1 - (i + 1) % d)))
  rw [← t1, o2]
  by_cases e : i + 1 = d
  · rw [e, Nat.mod_self]
    obtain ⟨_, p1, _⟩ := R.ok (d - 1 - 0)
    rw [← frN_eq hE p1]
    show ((bk q Y c (d - 1 - i) : Nat) : Int) = ((bk q Y c (d - 1 - 0 + 1) : Nat) : Int)
    rw [show d - 1 - 0 + 1 = d by omega, show d - 1 - i = 0 by omega, R.back]
    rfl
  · rw [Nat.mod_eq_of_lt (by omega)]
    obtain ⟨_, p1, _⟩ := R.ok (d - 1 - (i + 1))
    rw [← frN_eq hE p1]
    show ((bk q Y c (d - 1 - i) : Nat) : Int) = ((bk q Y c (d - 1 - (i + 1) + 1) : Nat) : Int)
    rw [show d - 1 - (i + 1) + 1 = d - 1 - i by omega]
end
end Go.Proofs.YtiebojccnaelbaeDoor
