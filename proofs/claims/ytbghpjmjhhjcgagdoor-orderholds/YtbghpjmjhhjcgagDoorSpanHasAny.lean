/- What package span answers: Has, of a span that is right. -/
import Derived.Test.YtbghpjmjhhjcgagDoorSpanChkC
import Derived.Test.YtbghpjmjhhjcgagDoorRow
namespace Go.Proofs.YtbghpjmjhhjcgagDoor
open Go.ChangeShapes Go.WideShapes Go.ChangeAt Go.RowKit
set_option linter.unusedVariables false

set_option maxHeartbeats 1000000 in
theorem has_any (a b n : Int) (B : Bool) (w : World) (h : okB a b = true) (hB : decide (a ≤ n ∧ n ≤ b) = B) :
    Calls Tryd.prog 16 #[.agg #[.int .i64 a, .int .i64 b], .int .i64 n] w fun e w' => e = .returned (.tuple #[.bool B, .nilIface]) ∧ Below w.heap.size w w' := by
  have cC := fun u => check_ok a b u h
  clear h
  have hc : (a ≤ n ∧ n ≤ b ∧ B = true) ∨ (¬ a ≤ n ∧ B = false) ∨ (a ≤ n ∧ ¬ n ≤ b ∧ B = false) := by
    by_cases c1 : a ≤ n
    · by_cases c2 : n ≤ b
      · exact Or.inl ⟨c1, c2, by rw [← hB]; exact decide_eq_true ⟨c1, c2⟩⟩
      · exact Or.inr (Or.inr ⟨c1, c2, by rw [← hB]; exact decide_eq_false (fun q => c2 q.2)⟩)
    · exact Or.inr (Or.inl ⟨c1, by rw [← hB]; exact decide_eq_false (fun q => c1 q.1)⟩)
  clear hB
  rcases hc with ⟨c1, c2, rfl⟩ | ⟨c1, rfl⟩ | ⟨c1, c2, rfl⟩
  all_goals
    go_enter Tryd.func16, Tryd.ntmps16
    go_wp2_with (go_at_call 29; refine (cC _).mono ?_; rintro e u0 ⟨rfl, hb⟩; have r := Row.on hb (Row.made (W := w) (vs := [.int .i64 a, .int .i64 b]) rfl); have r0 := r.c 0 _ rfl; have r1 := r.c 1 _ rfl; have HB : Hid _ := hb; clear hb r)
    go_ret2
    exact ⟨by simp [*], rbel_on HB.out (rbel_al (Below.refl _ _))⟩
end Go.Proofs.YtbghpjmjhhjcgagDoor
