/- What is known of a table while it is made tighter, row by row and edge by edge: plain mathematics. -/
import Derived.Test.YtiebojccnaelbaeDoorBoundsSpn
namespace Go.Proofs.YtiebojccnaelbaeDoor
set_option linter.unusedVariables false

def Bnd (U : Tb) (c : Int) : Prop := ∀ i k x, U i k = some x → -(c * 1000000000000) ≤ x ∧ x ≤ c * 1000000000000
theorem Bnd.mono {U : Tb} {c c' : Int} (h : Bnd U c) (l : c ≤ c') : Bnd U c' := fun i k x e => by
  have := h i k x e; omega
theorem rlx_bnd {U : Tb} {c g : Int} (h : Bnd U c) (h0 : 0 ≤ c) (l1 : -1000000000000 ≤ g) (l2 : g ≤ 1000000000000) (i a b : Nat) : Bnd (rlx U i a b g) (c + 1) := fun i' k x e => by
  unfold rlx at e
  by_cases h' : i' = i ∧ k = b
  · obtain ⟨rfl, rfl⟩ := h'
    rw [if_pos ⟨rfl, rfl⟩] at e
    cases ha : U i' a with
    | none => rw [ha] at e; have := h _ _ _ e; omega
    | some z =>
      have hz := h _ _ _ ha
      rw [ha] at e
      cases hb : U i' k with
      | none =>
        rw [hb] at e
        obtain rfl := Option.some.inj e
        omega
      | some y =>
        have hy := h _ _ _ hb
        rw [hb] at e
        simp only at e
        split at e
        · obtain rfl := Option.some.inj e
          omega
        · obtain rfl := Option.some.inj e
          omega
  · rw [if_neg h'] at e; have := h _ _ _ e; omega
/-- Row i has been gone over along the first j edges. -/
def Dn (q : Nat → Eg) (S U : Tb) (i j : Nat) : Prop := ∀ u v c x, Arc q j u v c → S i u = some x → ∃ y, U i v = some y ∧ y ≤ x + c
theorem Dn.lower {q : Nat → Eg} {S U U' : Tb} {i j : Nat} (h : Dn q S U i j) (l : Lower U U') : Dn q S U' i j := fun u v c x g e => by
  obtain ⟨y, h1, h2⟩ := h u v c x g e
  obtain ⟨z, g1, g2⟩ := l i v y h1
  exact ⟨z, g1, by omega⟩
/-- What is known at row i, edge j of round r, of the table S at the round's beginning and the table U now. -/
structure Inv (q : Nat → Eg) (n m r i j : Nat) (S U : Tb) : Prop where
  sound : Sound (Arc q m) U
  lower : Lower S U
  rows : ∀ i', i' < i → Dn q S U i' m
  row : Dn q S U i j
  bnd : Bnd U (480 * r + 80 * i + 2 * j)
section
variable {q : Nat → Eg} {n m r i j : Nat} {S U : Tb}
theorem Inv.start (s : Sound (Arc q m) S) (b : Bnd S (480 * r)) : Inv q n m r 0 0 S S :=
  ⟨s, Lower.refl S, fun i' h => by omega, fun u v c x g e => by obtain ⟨j, hj, _⟩ := g; omega, b.mono (by omega)⟩
/-- One edge more. -/
theorem Inv.step (h : Inv q n m r i j S U) (hE : Egs n q m) (hj : j < m) {A B : Nat} (hA : (q j).a = A) (hB : (q j).b = B) :
    Inv q n m r i (j + 1) S (rlx (rlx U i A B (q j).hi) i B A (-(q j).lo)) := by
  have l1 := rlx_lower U i A B (q j).hi
  have l2 := rlx_lower (rlx U i A B (q j).hi) i B A (-(q j).lo)
  obtain ⟨_, _, o⟩ := hE.each j hj
  have ob := okB_t o
  refine ⟨rlx_sound (rlx_sound h.sound ⟨j, hj, Or.inl ⟨hA.symm, hB.symm, rfl⟩⟩) ⟨j, hj, Or.inr ⟨hB.symm, hA.symm, rfl⟩⟩, h.lower.trans (l1.trans l2), fun i' hi' => (h.rows i' hi').lower (l1.trans l2), ?_, ?_⟩
  · rintro u v c x ⟨j', hj', g⟩ e
    by_cases k : j' < j
    · exact (h.row.lower (l1.trans l2)) u v c x ⟨j', k, g⟩ e
    · obtain rfl : j' = j := by omega
      obtain ⟨z, e1, e2⟩ := h.lower i u x e
      rcases g with ⟨g1, g2, rfl⟩ | ⟨g1, g2, rfl⟩
      · obtain rfl : u = A := by omega
        obtain rfl : v = B := by omega
        obtain ⟨y, y1, y2⟩ := rlx_does U i u v (q j').hi z e1
        obtain ⟨y', y3, y4⟩ := l2 i v y y1
        exact ⟨y', y3, by omega⟩
      · obtain rfl : u = B := by omega
        obtain rfl : v = A := by omega
        obtain ⟨z', z1, z2⟩ := l1 i u z e1
        obtain ⟨y, y1, y2⟩ := rlx_does (rlx U i v u (q j').hi) i u v (-(q j').lo) z' z1
        exact ⟨y, y1, by omega⟩
  · have b1 := rlx_bnd h.bnd (by omega) (by omega) (by omega) i A B (g := (q j).hi)
    have b2 := rlx_bnd b1 (by omega) (by omega) (by omega) i B A (g := -(q j).lo)
    exact b2.mono (by omega)
/-- One row more. -/
theorem Inv.next (h : Inv q n m r i m S U) (hE : Egs n q m) : Inv q n m r (i + 1) 0 S U :=
  ⟨h.sound, h.lower, fun i' hi' => by
    by_cases e : i' = i
    · subst e; exact h.row
    · exact h.rows i' (by omega), fun u v c x g e => by obtain ⟨j, hj, _⟩ := g; omega, h.bnd.mono (by have := hE.m40; omega)⟩
/-- One round more. -/
theorem Inv.round (h : Inv q n m r n 0 S U) (hE : Egs n q m) (up : Upto (Arc q m) n r S) : Upto (Arc q m) n (r + 1) U ∧ Sound (Arc q m) U ∧ Bnd U (480 * ((r + 1 : Nat) : Int)) :=
  ⟨up.next h.lower (fun i j k c x hi g e => h.rows i hi j k c x g e), h.sound, h.bnd.mono (by have := hE.n6; omega)⟩
theorem tb0_bnd : Bnd tb0 (480 * ((0 : Nat) : Int)) := fun i k x e => by
  unfold tb0 at e
  split at e
  · obtain rfl := Option.some.inj e; omega
  · cases e
end
/-- Is a step tighter than what is known? -/
def need (U : Tb) (i a b : Nat) (c : Int) : Bool := match U i a with
  | none => false
  | some x => match U i b with
    | none => true
    | some y => decide (x + c < y)
end Go.Proofs.YtiebojccnaelbaeDoor
