/- What there is to be answered of bounds is there. -/
import Derived.Test.YtjdeeeefapijeaeDoorBoundsDefA
namespace Go.Proofs.YtjdeeeefapijeaeDoor
open Go.ChangeShapes Go.WideShapes Go.ChangeAt Go.RowKit
set_option linter.unusedVariables false

theorem least_nat (P : Nat → Prop) : ∀ n, P n → ∃ k, P k ∧ ∀ j, j < k → ¬ P j := by
  intro n
  induction n using Nat.strongRecOn with
  | _ n ih =>
    intro h
    by_cases c : ∃ j, j < n ∧ P j
    · obtain ⟨j, hj, hp⟩ := c
      exact ih j hj hp
    · exact ⟨n, h, fun j hj hp => c ⟨j, hj, hp⟩⟩
section
variable {q : Nat → Eg} {m n : Nat}
theorem wk_low (hE : Egs n q m) : ∀ {r i k : Nat} {c : Int}, Wk (Arc q m) r i k c → -((r : Int) * 1000000000000) ≤ c := by
  intro r
  induction r with
  | zero =>
    intro i k c w
    obtain ⟨_, rfl⟩ := w.zero
    omega
  | succ r ih =>
    intro i k c w
    obtain ⟨j, a, b, w1, g, rfl⟩ := w.last
    have h1 := ih w1
    have h2 := hE.small g
    omega
theorem dst_some (hE : Egs n q m) (hN : ¬ Neg (Arc q m) n) {i k r : Nat} {c : Int} (hi : i < n) (w : Wk (Arc q m) r i k c) : ∃ d, Dst (Arc q m) i k d := by
  have low : ∀ r c, Wk (Arc q m) r i k c → -6000000000000 ≤ c := fun r c w => by
    obtain ⟨r', c', h1, h2, w'⟩ := short hE.arc (not_neg hN) r i k c hi w
    have h3 := wk_low hE w'
    have h4 := hE.n6
    omega
  obtain ⟨t, ⟨r', w'⟩, hm⟩ := least_nat (fun t => ∃ r, Wk (Arc q m) r i k ((t : Int) - 6000000000000)) (c + 6000000000000).toNat (by
    have := low r c w
    refine ⟨r, ?_⟩
    rw [show (((c + 6000000000000).toNat : Nat) : Int) - 6000000000000 = c by omega]
    exact w)
  refine ⟨(t : Int) - 6000000000000, ⟨r', w'⟩, fun s c' v => ?_⟩
  apply Classical.byContradiction
  intro h
  have := low s c' v
  refine hm (c' + 6000000000000).toNat (by omega) ⟨s, ?_⟩
  rw [show (((c' + 6000000000000).toNat : Nat) : Int) - 6000000000000 = c' by omega]
  exact v
open Classical in
theorem isT_some (hE : Egs n q m) (hN : ¬ Neg (Arc q m) n) : ∃ T, IsT q m n T := by
  refine ⟨fun i k => if h : ∃ c, Dst (Arc q m) i k c then some h.choose else none, fun i k hi => ⟨fun x e => ?_, fun e r c w => ?_⟩⟩
  · by_cases h : ∃ c, Dst (Arc q m) i k c
    · simp only [dif_pos h] at e
      obtain rfl := Option.some.inj e
      exact h.choose_spec
    · simp only [dif_neg h] at e
      cases e
  · have h := dst_some hE hN hi w
    simp only [dif_pos h] at e
    cases e
theorem allA_some (hE : Egs n q m) : ∃ e T, AllA q m n e T := by
  by_cases hN : Neg (Arc q m) n
  · exact ⟨7, tb0, Or.inl ⟨hN, rfl⟩⟩
  · obtain ⟨T, hT⟩ := isT_some hE hN
    by_cases f : Far n T
    · exact ⟨1, T, Or.inr ⟨hN, hT, Or.inl ⟨f, rfl⟩⟩⟩
    · exact ⟨0, T, Or.inr ⟨hN, hT, Or.inr ⟨f, rfl⟩⟩⟩
end
theorem fitA_some (z : Int) (q : Nat → Eg) (m k : Nat) (c : Nat → Int) : ∃ b e, FitA z q m k c b e := by
  by_cases h : eE z q m = 0
  · by_cases h1 : (k : Int) = z
    · by_cases h2 : badC c k
      · exact ⟨_, _, Or.inr (Or.inr (Or.inl ⟨h, h1, h2, rfl, rfl⟩))⟩
      · exact ⟨_, _, Or.inr (Or.inr (Or.inr ⟨h, h1, h2, rfl, rfl⟩))⟩
    · exact ⟨_, _, Or.inr (Or.inl ⟨h, h1, rfl, rfl⟩)⟩
  · exact ⟨_, _, Or.inl ⟨h, rfl, rfl⟩⟩
theorem betA_some {q : Nat → Eg} {m n : Nat} {f : Int} {T : Tb} (hZ : eE n q m = 0) (hA : AllA q m n f T) (a b : Int) : ∃ lo hi e, BetA n q m a b lo hi e := by
  by_cases c : 0 ≤ a ∧ a < n ∧ 0 ≤ b ∧ b < n
  · by_cases h : f = 0
    · cases t : T a.toNat b.toNat with
      | none => exact ⟨0, 0, 5, Or.inr (Or.inr ⟨hZ, c, f, T, by rw [Int.toNat_natCast]; exact hA, Or.inr (Or.inl ⟨h, t, rfl, rfl, rfl⟩)⟩)⟩
      | some x => exact ⟨_, _, 0, Or.inr (Or.inr ⟨hZ, c, f, T, by rw [Int.toNat_natCast]; exact hA, Or.inr (Or.inr ⟨h, ⟨x, t⟩, rfl, rfl, rfl⟩)⟩)⟩
    · exact ⟨0, 0, f, Or.inr (Or.inr ⟨hZ, c, f, T, by rw [Int.toNat_natCast]; exact hA, Or.inl ⟨h, rfl, rfl, rfl⟩⟩)⟩
  · exact ⟨0, 0, 1, Or.inr (Or.inl ⟨hZ, by omega, rfl, rfl, rfl⟩)⟩
end Go.Proofs.YtjdeeeefapijeaeDoor
