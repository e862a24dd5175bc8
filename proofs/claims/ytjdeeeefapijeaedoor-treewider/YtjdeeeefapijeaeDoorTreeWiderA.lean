/- The ways through the law TreeWider. -/
import Derived.Test.YtjdeeeefapijeaeDoorTreeDef
import Derived.Test.YtjdeeeefapijeaeDoorBoundsDef
import Derived.Test.YtjdeeeefapijeaeDoorBoundsHoldM
import Derived.Test.YtjdeeeefapijeaeDoorSpanAdd
import Derived.Test.YtjdeeeefapijeaeDoorTold
import Derived.Deep.CutRange
import Derived.BigRegion
import Derived.IntWalk
import Derived.Deep.QuietTactic
import Derived.Deep.RegionHeld
import Derived.BigQuiet
import Derived.Lib.SmallJoins
namespace Go.Proofs.YtjdeeeefapijeaeDoor.treeWider
open Go.ChangeShapes Go.WideShapes Go.ChangeAt Go.RowKit Go.Joins Go.Proofs.YtjdeeeefapijeaeDoor.told
set_option linter.unusedVariables false
set_option linter.unusedSimpArgs false

/-- One edge, gone back. -/
def one (i : Nat) : Eg := ⟨1, 0, 5, 6⟩
theorem one_e0 : eE 2 one 1 = 0 := by decide
theorem one_te : teT one 1 2 0 1 = (-6, -5) := by decide +kernel
theorem one_row : (treeT one 1 2 0).row = [0, 1] := by decide +kernel
theorem one_in : inT one 1 2 0 1 = true := by
  unfold inT
  rw [one_row]
  simp
theorem one_far : ¬ FarT one 1 2 0 := by
  rintro ⟨v, hv, h⟩
  rw [one_row] at hv
  simp at hv
  rcases hv with rfl | rfl
  · exact absurd h (by decide +kernel)
  · exact absurd h (by decide +kernel)
theorem error_dec (e f : Int) (w : World) (he : EnvE w) : Calls Tryd.prog 12 #[errc e, .int .i64 f] w fun o w' => o = .returned (.bool (decide (e = f))) ∧ Below w.heap.size w w' := by
  have H : Hid (EnvE w) := he
  clear he
  by_cases z : e = 0
  · subst z
    rw [errc_zero]
    by_cases h : (0 : Int) = f
    · rw [decide_eq_true h]
      have h' : ((0 : Int) == f) = true := by simpa using h
      go_enter Tryd.func12, Tryd.ntmps12
      go_wp2_with (go_at_call 30; refine (told_nil _).mono ?_; rintro e u ⟨rfl, hb⟩)
      go_ret
      exact ⟨by simp [h'], hb⟩
    · rw [decide_eq_false h]
      have h' : ((0 : Int) == f) = false := by simpa using h
      go_enter Tryd.func12, Tryd.ntmps12
      go_wp2_with (go_at_call 30; refine (told_nil _).mono ?_; rintro e u ⟨rfl, hb⟩)
      go_ret
      exact ⟨by simp [h'], hb⟩
  · rw [errc_not z]
    clear z
    by_cases h : e = f
    · subst h
      rw [decide_eq_true rfl]
      exact error_errno e w H.out
    · rw [decide_eq_false h]
      have h' : (e == f) = false := by simpa using h
      go_enter Tryd.func12, Tryd.ntmps12
      go_wp2_with (go_at_call 30; refine (told_errno e _ H.out).mono ?_; rintro e u ⟨rfl, hb⟩)
      go_ret
      exact ⟨by simp [h'], hb⟩
/-- Who has no bound is not in the tree. -/
theorem bet_five {n r v : Nat} {q : Nat → Eg} {m : Nat} {lo hi : Int} (hr : r < n) (hv : v < n) (h : BetA n q m r v lo hi 5) (h0 : eE n q m = 0) : inT q m n r v = false := by
  rcases h with ⟨g, _⟩ | ⟨_, _, _, _, e⟩ | ⟨_, _, f, T, hA, hr'⟩
  · exact absurd h0 g
  · cases e
  · rw [Int.toNat_natCast] at hA
    rw [Int.toNat_natCast, Int.toNat_natCast] at hr'
    rcases hr' with ⟨hf, _, _, e⟩ | ⟨hf, t, _⟩ | ⟨_, _, _, _, e⟩
    · rcases hA with ⟨_, e'⟩ | ⟨_, _, ⟨_, e'⟩ | ⟨_, e'⟩⟩ <;> omega
    · rcases hA with ⟨_, e'⟩ | ⟨_, hT, _⟩
      · omega
      · unfold inT
        rw [decide_eq_false]
        intro hm
        have := (tree_isT (eE_zero h0) hr hT hv).2 hm
        rw [t] at this
        cases this
    · cases e
theorem bet_in {n r v : Nat} {q : Nat → Eg} {m : Nat} {lo hi : Int} (hr : r < n) (hv : v < n) (h : BetA n q m r v lo hi 0) (h0 : eE n q m = 0) : inT q m n r v = true ∧ (teT q m n r v).1 ≤ lo ∧ hi ≤ (teT q m n r v).2 := by
  obtain ⟨n', A, B, k⟩ := bet_zero h
  obtain rfl : A = r := by have := k.aA; omega
  obtain rfl : B = v := by have := k.bB; omega
  have hE := eE_zero h0
  have hm : B ∈ (treeT q m n A).row := by
    obtain ⟨⟨d, w⟩, _⟩ := k.d1
    exact tree_reach hE hr w
  refine ⟨by unfold inT; exact decide_eq_true hm, ?_⟩
  unfold teT
  rw [if_pos hm]
  exact tree_wider hE hr hm k.d1 k.d2
theorem te_ok {n r v : Nat} {q : Nat → Eg} {m : Nat} (nf : ¬ FarT q m n r) (hi : inT q m n r v = true) : okB (teT q m n r v).1 (teT q m n r v).2 = true := by
  have hm : v ∈ (treeT q m n r).row := by
    unfold inT at hi
    exact of_decide_eq_true hi
  unfold teT
  rw [if_pos hm]
  cases e : okB (wantT q m n r v).1 (wantT q m n r v).2 with
  | true => rfl
  | false => exact absurd ⟨v, hm, e⟩ nf
theorem te_fit {n r v : Nat} {q : Nat → Eg} {m k : Nat} {c : Nat → Int} (hr : r < n) (hi : inT q m n r v = true) (f : FitA n q m k c true 0) : (teT q m n r v).1 ≤ c v - c r ∧ c v - c r ≤ (teT q m n r v).2 := by
  have hm : v ∈ (treeT q m n r).row := by
    unfold inT at hi
    exact of_decide_eq_true hi
  rcases f with ⟨_, e, _⟩ | ⟨_, _, e, _⟩ | ⟨_, _, _, e, _⟩ | ⟨h0, hk, hb, e, _⟩
  · cases e
  · cases e
  · cases e
  · unfold teT
    rw [if_pos hm]
    exact tree_fit (eE_zero h0) hr hm (fitB_fit (eE_zero h0) e.symm)
end Go.Proofs.YtjdeeeefapijeaeDoor.treeWider
