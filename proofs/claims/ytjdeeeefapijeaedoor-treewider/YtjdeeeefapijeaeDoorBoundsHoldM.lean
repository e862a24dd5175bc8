/- What bounds say of each other: plain mathematics. -/
import Derived.Test.YtjdeeeefapijeaeDoorBoundsRow
namespace Go.Proofs.YtjdeeeefapijeaeDoor
open Go.ChangeShapes Go.WideShapes Go.ChangeAt Go.RowKit
set_option linter.unusedVariables false

/-- A bound of two nodes that is there. -/
structure Bnk (z : Int) (q : Nat → Eg) (m : Nat) (a b lo hi : Int) (n A B : Nat) : Prop where
  zn : z = n
  aA : a = A
  bB : b = B
  hA : A < n
  hB : B < n
  e0 : eE z q m = 0
  nn : ¬ Neg (Arc q m) n
  d1 : Dst (Arc q m) A B hi
  d2 : Dst (Arc q m) B A (-lo)
  ok : okB lo hi = true
theorem Bnk.egs {z : Int} {q : Nat → Eg} {m : Nat} {a b lo hi : Int} {n A B : Nat} (h : Bnk z q m a b lo hi n A B) : Egs n q m := by
  have := eE_zero h.e0
  rwa [h.zn] at this
theorem bet_zero {z : Int} {q : Nat → Eg} {m : Nat} {a b lo hi : Int} (h : BetA z q m a b lo hi 0) : ∃ n A B, Bnk z q m a b lo hi n A B := by
  rcases h with ⟨h0, _, _, e⟩ | ⟨_, _, _, _, e⟩ | ⟨h0, hn, f, T, hA, hr⟩
  · exact absurd e.symm h0
  · cases e
  · rcases hr with ⟨hf, _, _, e⟩ | ⟨_, _, _, _, e⟩ | ⟨rfl, ⟨x, t⟩, rfl, rfl, _⟩
    · exact absurd e.symm hf
    · cases e
    · obtain ⟨n, rfl⟩ : ∃ n : Nat, z = n := ⟨z.toNat, by omega⟩
      obtain ⟨A, rfl⟩ : ∃ A : Nat, a = A := ⟨a.toNat, by omega⟩
      obtain ⟨B, rfl⟩ : ∃ B : Nat, b = B := ⟨b.toNat, by omega⟩
      rw [Int.toNat_natCast] at hA
      rw [Int.toNat_natCast, Int.toNat_natCast] at t ⊢
      rcases hA with ⟨_, e⟩ | ⟨nn, hT, ⟨_, e⟩ | ⟨hF, _⟩⟩
      · cases e
      · cases e
      · have hA' : A < n := by omega
        have hB' : B < n := by omega
        obtain ⟨y, t'⟩ := hT.back hA' hB' t
        have d1 := (hT A B hA').1 x t
        have d2 := (hT B A hB').1 y t'
        have eh : spHi T A B = x := by unfold spHi; rw [t]; rfl
        have el : spLo T A B = -y := by unfold spLo; rw [t, t']; rfl
        have b1 := not_far hF hA' hB' t
        have b2 := not_far hF hB' hA' t'
        have sm : 0 ≤ x + y := by
          have := (Dst.self nn hA').2
          obtain ⟨⟨r1, w1⟩, _⟩ := d1
          obtain ⟨⟨r2, w2⟩, _⟩ := d2
          exact this _ _ (w1.app w2)
        rw [eh, el]
        exact ⟨n, A, B, rfl, rfl, rfl, hA', hB', h0, nn, d1, by rw [Int.neg_neg]; exact d2, okB_mk ⟨by omega, by omega, by omega⟩⟩
theorem bet_ok {z : Int} {q : Nat → Eg} {m : Nat} {a b lo hi e : Int} (h : BetA z q m a b lo hi e) : okB lo hi = true := by
  by_cases e0 : e = 0
  · subst e0
    obtain ⟨n, A, B, k⟩ := bet_zero h
    exact k.ok
  · have z0 : lo = 0 ∧ hi = 0 := by
      rcases h with ⟨_, h1, h2, _⟩ | ⟨_, _, h1, h2, _⟩ | ⟨h0, hn, f, T, hA, ⟨_, h1, h2, _⟩ | ⟨_, _, h1, h2, _⟩ | ⟨_, _, _, _, h3⟩⟩
      · exact ⟨h1, h2⟩
      · exact ⟨h1, h2⟩
      · exact ⟨h1, h2⟩
      · exact ⟨h1, h2⟩
      · exact absurd h3 e0
    rw [z0.1, z0.2]
    decide
theorem bet_some (z : Int) (q : Nat → Eg) (m : Nat) (a b : Int) : ∃ lo hi e, BetA z q m a b lo hi e := by
  by_cases h : eE z q m = 0
  · obtain ⟨n, rfl⟩ : ∃ n : Nat, z = n := ⟨z.toNat, by have := (eE_zero h).n1; omega⟩
    obtain ⟨f, T, hA⟩ := allA_some (eE_zero h)
    exact betA_some h hA a b
  · exact ⟨0, 0, _, Or.inl ⟨h, rfl, rfl, rfl⟩⟩
theorem fitB_fit {q : Nat → Eg} {m n : Nat} {c : Nat → Int} (hE : Egs n q m) (h : fitB q c m = true) : ∀ u v x, Arc q m u v x → c v - c u ≤ x := by
  have each : ∀ m', m' ≤ m → fitB q c m' = true → ∀ j, j < m' → (q j).lo ≤ c (q j).b.toNat - c (q j).a.toNat ∧ c (q j).b.toNat - c (q j).a.toNat ≤ (q j).hi := by
    intro m'
    induction m' with
    | zero => intro _ _ j hj; omega
    | succ k ih =>
      intro hk hf j hj
      simp only [fitB, Bool.and_eq_true, decide_eq_true_eq] at hf
      by_cases e : j = k
      · subst e; exact hf.2
      · exact ih (by omega) hf.1 j (by omega)
  rintro u v x ⟨j, hj, ⟨h1, h2, rfl⟩ | ⟨h1, h2, rfl⟩⟩
  · have := each m (Nat.le_refl _) h j hj
    rw [← h1, ← h2, Int.toNat_natCast, Int.toNat_natCast] at this
    omega
  · have := each m (Nat.le_refl _) h j hj
    rw [← h1, ← h2, Int.toNat_natCast, Int.toNat_natCast] at this
    omega
/-- What fits does not clash. -/
theorem fit_noclash {z : Int} {q : Nat → Eg} {m k : Nat} {a b lo hi : Int} {c : Nat → Int} (h : BetA z q m a b lo hi 7) (f : FitA z q m k c true 0) : False := by
  rcases f with ⟨_, e, _⟩ | ⟨_, _, e, _⟩ | ⟨_, _, _, e, _⟩ | ⟨h0, hk, _, e, _⟩
  · cases e
  · cases e
  · cases e
  · have hE := eE_zero h0
    obtain ⟨n, rfl⟩ : ∃ n : Nat, z = n := ⟨z.toNat, by have := hE.n1; omega⟩
    have ft := fitB_fit hE e.symm
    rcases h with ⟨g, _⟩ | ⟨_, _, _, _, e⟩ | ⟨_, hn, f, T, hA, hr⟩
    · exact g h0
    · cases e
    · rcases hr with ⟨hf, _, _, e⟩ | ⟨_, _, _, _, e⟩ | ⟨_, _, _, _, e⟩
      · rw [Int.toNat_natCast] at hA
        rcases hA with ⟨g, _⟩ | ⟨_, _, ⟨_, e'⟩ | ⟨_, e'⟩⟩
        · exact g.unfit ft
        · omega
        · omega
      · cases e
      · cases e
/-- What fits is within. -/
theorem fit_within {z : Int} {q : Nat → Eg} {m k n A B : Nat} {a b lo hi : Int} {c : Nat → Int} (h : Bnk z q m a b lo hi n A B) (f : FitA z q m k c true 0) : k = n ∧ lo ≤ c B - c A ∧ c B - c A ≤ hi ∧ -1000000000000 ≤ c A ∧ c A ≤ 1000000000000 ∧ -1000000000000 ≤ c B ∧ c B ≤ 1000000000000 := by
  rcases f with ⟨_, e, _⟩ | ⟨_, _, e, _⟩ | ⟨_, _, _, e, _⟩ | ⟨h0, hk, hb, e, _⟩
  · cases e
  · cases e
  · cases e
  · have ft := fitB_fit h.egs e.symm
    have x1 := h.d1.fit ft
    have x2 := h.d2.fit ft
    have hz := h.zn
    have kn : k = n := by omega
    have c1 : ∀ i, i < k → -1000000000000 ≤ c i ∧ c i ≤ 1000000000000 := fun i hi => by
      apply Classical.byContradiction
      intro no
      exact hb ⟨i, hi, by omega⟩
    have y1 := c1 A (by have := h.hA; omega)
    have y2 := c1 B (by have := h.hB; omega)
    exact ⟨kn, by omega, by omega, y1.1, y1.2, y2.1, y2.2⟩
/-- Over a third node it is no tighter. -/
theorem bet_tri {z : Int} {q : Nat → Eg} {m : Nat} {a b c lo hi l1 h1 l2 h2 : Int} (x : BetA z q m a b lo hi 0) (y : BetA z q m a c l1 h1 0) (w : BetA z q m c b l2 h2 0) : l1 + l2 ≤ lo ∧ hi ≤ h1 + h2 := by
  obtain ⟨n, A, B, k⟩ := bet_zero x
  obtain ⟨n', A', C, k1⟩ := bet_zero y
  obtain ⟨n'', C', B', k2⟩ := bet_zero w
  obtain rfl : A' = A := by have := k.aA; have := k1.aA; omega
  obtain rfl : C' = C := by have := k2.aA; have := k1.bB; omega
  obtain rfl : B' = B := by have := k2.bB; have := k.bB; omega
  have t1 := Dst.tri k1.d1 k2.d1 k.d1
  have t2 := Dst.tri k2.d2 k1.d2 k.d2
  omega
/-- One edge more makes no bound wider. -/
theorem bet_more {z : Int} {q q' : Nat → Eg} {m : Nat} {a b lo hi l1 h1 : Int} (hq : ∀ i, i < m → q' i = q i) (x : BetA z q m a b lo hi 0) (y : BetA z q' (m + 1) a b l1 h1 0) : lo ≤ l1 ∧ h1 ≤ hi := by
  obtain ⟨n, A, B, k⟩ := bet_zero x
  obtain ⟨n', A', B', k1⟩ := bet_zero y
  obtain rfl : A' = A := by have := k.aA; have := k1.aA; omega
  obtain rfl : B' = B := by have := k.bB; have := k1.bB; omega
  have hm : ∀ u v c, Arc q m u v c → Arc q' (m + 1) u v c := by
    rintro u v c ⟨j, hj, g⟩
    exact ⟨j, by omega, by rw [hq j hj]; exact g⟩
  have t1 := Dst.more hm k.d1 k1.d1
  have t2 := Dst.more hm k.d2 k1.d2
  omega
/-- Two edges, one behind the other. -/
def two (i : Nat) : Eg := if i = 0 then ⟨0, 1, 1, 2⟩ else ⟨1, 2, 10, 20⟩
theorem two_arc {u v : Nat} {c : Int} (g : Arc two 2 u v c) : (u = 0 ∧ v = 1 ∧ c = 2) ∨ (u = 1 ∧ v = 0 ∧ c = -1) ∨ (u = 1 ∧ v = 2 ∧ c = 20) ∨ (u = 2 ∧ v = 1 ∧ c = -10) := by
  obtain ⟨j, hj, g⟩ := g
  have hj' : j = 0 ∨ j = 1 := by omega
  rcases hj' with rfl | rfl
  · rcases g with ⟨h1, h2, rfl⟩ | ⟨h1, h2, rfl⟩
    · have h1' : (u : Int) = 0 := h1
      have h2' : (v : Int) = 1 := h2
      exact Or.inl ⟨by omega, by omega, rfl⟩
    · have h1' : (u : Int) = 1 := h1
      have h2' : (v : Int) = 0 := h2
      exact Or.inr (Or.inl ⟨by omega, by omega, rfl⟩)
  · rcases g with ⟨h1, h2, rfl⟩ | ⟨h1, h2, rfl⟩
    · have h1' : (u : Int) = 1 := h1
      have h2' : (v : Int) = 2 := h2
      exact Or.inr (Or.inr (Or.inl ⟨by omega, by omega, rfl⟩))
    · have h1' : (u : Int) = 2 := h1
      have h2' : (v : Int) = 1 := h2
      exact Or.inr (Or.inr (Or.inr ⟨by omega, by omega, rfl⟩))
theorem two_bet : BetA 3 two 2 0 2 11 22 0 := by
  have h0 : eE 3 two 2 = 0 := by decide
  have hE : Egs ((3 : Nat) : Int) two 2 := eE_zero h0
  have f1 : ∀ u v c, Arc two 2 u v c → (fun i : Nat => if i = 0 then (0 : Int) else if i = 1 then 2 else 22) v - (fun i : Nat => if i = 0 then (0 : Int) else if i = 1 then 2 else 22) u ≤ c := fun u v c g => by
    rcases two_arc g with ⟨rfl, rfl, rfl⟩ | ⟨rfl, rfl, rfl⟩ | ⟨rfl, rfl, rfl⟩ | ⟨rfl, rfl, rfl⟩ <;> decide
  have f2 : ∀ u v c, Arc two 2 u v c → (fun i : Nat => if i = 0 then (0 : Int) else if i = 1 then 1 else 11) v - (fun i : Nat => if i = 0 then (0 : Int) else if i = 1 then 1 else 11) u ≤ c := fun u v c g => by
    rcases two_arc g with ⟨rfl, rfl, rfl⟩ | ⟨rfl, rfl, rfl⟩ | ⟨rfl, rfl, rfl⟩ | ⟨rfl, rfl, rfl⟩ <;> decide
  have nn : ¬ Neg (Arc two 2) 3 := fun k => k.unfit f1
  obtain ⟨T, hT⟩ := isT_some hE nn
  have a1 : Arc two 2 0 1 2 := ⟨0, by omega, Or.inl ⟨rfl, rfl, rfl⟩⟩
  have a2 : Arc two 2 1 2 20 := ⟨1, by omega, Or.inl ⟨rfl, rfl, rfl⟩⟩
  have a3 : Arc two 2 1 0 (-1) := ⟨0, by omega, Or.inr ⟨rfl, rfl, rfl⟩⟩
  have a4 : Arc two 2 2 1 (-10) := ⟨1, by omega, Or.inr ⟨rfl, rfl, rfl⟩⟩
  have d1 : Dst (Arc two 2) 0 2 22 := ⟨⟨2, ((Wk.nil 0).snoc a1).snoc a2⟩, fun r c w => by have := wk_fit f1 w; exact this⟩
  have d2 : Dst (Arc two 2) 2 0 (-11) := ⟨⟨2, ((Wk.nil 2).snoc a4).snoc a3⟩, fun r c w => by have := wk_fit f2 w; exact this⟩
  have t1 : T 0 2 = some 22 := by
    cases e : T 0 2 with
    | none => obtain ⟨⟨r, w⟩, _⟩ := d1; exact absurd w ((hT 0 2 (by omega)).2 e r _)
    | some x => rw [((hT 0 2 (by omega)).1 x e).one d1]
  have t2 : T 2 0 = some (-11) := by
    cases e : T 2 0 with
    | none => obtain ⟨⟨r, w⟩, _⟩ := d2; exact absurd w ((hT 2 0 (by omega)).2 e r _)
    | some x => rw [((hT 2 0 (by omega)).1 x e).one d2]
  have nf : ¬ Far 3 T := by
    rintro ⟨i, k, x, hi', hk, e, g⟩
    obtain ⟨⟨r, w⟩, mn⟩ := (hT i k hi').1 x e
    obtain ⟨r', c', a1, a2, w'⟩ := short hE.arc (not_neg nn) r i k x hi' w
    have b1 := mn _ _ w'
    have b2 := wk_small (R := Arc two 2) (fun u v c q => by rcases two_arc q with ⟨_, _, rfl⟩ | ⟨_, _, rfl⟩ | ⟨_, _, rfl⟩ | ⟨_, _, rfl⟩ <;> omega) w'
    omega
  refine Or.inr (Or.inr ⟨h0, by omega, 0, T, Or.inr ⟨nn, hT, Or.inr ⟨nf, rfl⟩⟩, Or.inr (Or.inr ⟨rfl, ⟨_, t1⟩, ?_, ?_, rfl⟩)⟩)
  · show 11 = spLo T 0 2
    unfold spLo
    rw [t1, t2]; rfl
  · show 22 = spHi T 0 2
    unfold spHi
    rw [t1]; rfl
end Go.Proofs.YtjdeeeefapijeaeDoor
