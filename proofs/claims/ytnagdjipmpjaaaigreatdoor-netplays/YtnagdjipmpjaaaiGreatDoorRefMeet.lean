/- What the document's own reckoning (package noonref1) answers of what two spans have in common. -/
import Derived.Test.YtnagdjipmpjaaaiGreatDoorNm24
import Derived.Deep.RegionWith
import Derived.Deep.RegionHeld
namespace Go.Proofs.YtnagdjipmpjaaaiGreatDoor
open Go.ChangeShapes Go.WideShapes Go.ChangeAt Go.RowKit
set_option linter.unusedVariables false
set_option linter.unusedSimpArgs false

theorem rleast_any (a b x : Int) (w : World) (hx : Hid ((a < b ∧ x = a) ∨ (b ≤ a ∧ x = b))) :
    Calls Tryz.prog 95 #[.int .i64 a, .int .i64 b] w fun e w' => e = .returned (.int .i64 x) ∧ w' = w := by
  rcases hx.out with ⟨h, rfl⟩ | ⟨h, rfl⟩
  all_goals
    clear hx
    go_enter Tryz.func95, Tryz.ntmps95
    go_wp2
    go_ret
    exact ⟨rfl, rfl⟩

theorem rgreatest_any (a b x : Int) (w : World) (hx : Hid ((b < a ∧ x = a) ∨ (a ≤ b ∧ x = b))) :
    Calls Tryz.prog 94 #[.int .i64 a, .int .i64 b] w fun e w' => e = .returned (.int .i64 x) ∧ w' = w := by
  rcases hx.out with ⟨h, rfl⟩ | ⟨h, rfl⟩
  all_goals
    clear hx
    go_enter Tryz.func94, Tryz.ntmps94
    go_wp2
    go_ret
    exact ⟨rfl, rfl⟩

set_option maxRecDepth 100000 in
set_option maxHeartbeats 2000000 in
theorem rmeet_any (a b c d x y : Int) (w : World) (hx : Hid ((c < a ∧ x = a) ∨ (a ≤ c ∧ x = c))) (hy : Hid ((b < d ∧ y = b) ∨ (d ≤ b ∧ y = d))) :
    Calls Tryz.prog 58 #[.agg #[.int .i64 a, .int .i64 b], .agg #[.int .i64 c, .int .i64 d]] w fun e w' => e = .returned (.tuple #[.agg #[.int .i64 x, .int .i64 y], .bool (decide (x ≤ y))]) ∧ Below w.heap.size w w' := by
  go_enter Tryz.func58, Tryz.ntmps58
  go_wp2
  go_region_held (fun w' => w'.cell? ⟨w.heap.size, 0, none⟩ = some (.int .i64 a) ∧ w'.cell? ⟨w.heap.size, 1, none⟩ = some (.int .i64 b) ∧ w'.cell? ⟨w.heap.size + 1, 0, none⟩ = some (.int .i64 c) ∧ w'.cell? ⟨w.heap.size + 1, 1, none⟩ = some (.int .i64 d)) (go_keep) (first | (go_at_call 94; refine (rgreatest_any a c x _ hx).mono ?_; rintro e u ⟨rfl, rfl⟩) | (go_at_call 95; refine (rleast_any b d y _ hy).mono ?_; rintro e u ⟨rfl, rfl⟩))
  all_goals
    go_wp2
    go_region
    all_goals
      go_wp2
      exact bodyPost_ret (v := _) (by simp [results, Tryz.results58, go_sem, *]) rfl ⟨rfl, by (repeat (first | exact Below.refl _ _ | refine Below.alloc ?_ (by first | (simp; done) | (simp; omega) | omega) _ | refine Below.setCell ?_ (by first | (simp; done) | (simp; omega) | omega) _ | apply Below.drew | apply below_drewN))⟩
end Go.Proofs.YtnagdjipmpjaaaiGreatDoor
