/- What the document's own clock (package noonref2) answers: Point, in one. -/
import Derived.Test.YthdjjjajhjmajafDoorClockRefP
namespace Go.Proofs.YthdjjjajhjmajafDoor
open Go.ChangeShapes Go.WideShapes Go.ChangeAt Go.RowKit Go.Joins
set_option linter.unusedVariables false

theorem pt_cases (c : Ck) : (c.t = true ∧ c.mid < c.l ∧ c.pt = c.l) ∨ ((c.t = false ∨ (c.t = true ∧ c.l ≤ c.mid)) ∧ c.pt = c.mid) := by
  unfold Ck.pt
  by_cases h : c.t = true ∧ c.mid < c.l
  · rw [if_pos h]; exact Or.inl ⟨h.1, h.2, rfl⟩
  · rw [if_neg h]
    refine Or.inr ⟨?_, rfl⟩
    cases t : c.t with
    | false => exact Or.inl rfl
    | true =>
      refine Or.inr ⟨rfl, ?_⟩
      apply Classical.byContradiction
      intro q
      exact h ⟨t, by omega⟩
theorem rpoint_any (b : Nat) (c : Ck) (u : World) (hR : RC u b c) (hI : c.I) :
    Calls Tryd.prog 28 #[.pointer (some ⟨b, 0, none⟩)] u fun o w' => o = .returned (.tuple #[.int .i64 c.pointN, .int .i64 c.pointE]) ∧ RC w' b c.pointC ∧ Keeps (fun k => k = b) u w' := by
  by_cases hn : c.nowE = 0
  · refine (rpoint_k b c c.mid c.pt u hR hI hn rfl (pt_cases c)).mono ?_
    rintro o w' (⟨h, rfl, h1, h2⟩ | ⟨h, rfl, h1, h2⟩)
    · have e : c.pointE = 8 := by unfold Ck.pointE; rw [if_pos hn, if_pos h]
      have e1 : c.pointN = 0 := by unfold Ck.pointN; rw [if_neg (by rw [e]; decide)]
      have e2 : c.pointC = c := by unfold Ck.pointC; rw [if_neg (by rw [e]; decide)]
      rw [e, e1, e2]
      exact ⟨rfl, h1, h2⟩
    · have e : c.pointE = 0 := by unfold Ck.pointE; rw [if_pos hn, if_neg (by omega)]
      have e1 : c.pointN = c.pt := by unfold Ck.pointN; rw [if_pos e]
      have e2 : c.pointC = { c with t := true, l := c.pt } := by unfold Ck.pointC; rw [if_pos e]
      rw [e, e1, e2]
      exact ⟨rfl, h1, h2⟩
  · have e : c.pointE = c.nowE := by unfold Ck.pointE; rw [if_neg hn]
    have e1 : c.pointN = 0 := by unfold Ck.pointN; rw [if_neg (by rw [e]; exact hn)]
    have e2 : c.pointC = c := by unfold Ck.pointC; rw [if_neg (by rw [e]; exact hn)]
    rw [e, e1, e2]
    refine (rpoint_no b c u hR hI hn).mono ?_
    rintro o w' ⟨rfl, hb⟩
    exact ⟨rfl, RC.keep hb hR, Keeps.of hb⟩
end Go.Proofs.YthdjjjajhjmajafDoor
