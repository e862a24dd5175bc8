/- What the document's own reckoning (package noonref1) answers: Time, Span, of any numbers. What the document's own reckoning (package noonref1) answers of what two spans have in common. -/
import Derived.Test.YtadkgnbagmnkkakGreatDoorNm01
import Derived.WalkKit
import Derived.Lib.SmallJoins
import Derived.Deep.RegionWith
import Derived.Deep.RegionHeld
import Derived.BigRegion
namespace Go.Proofs.YtadkgnbagmnkkakGreatDoor
open Go.ChangeShapes Go.WideShapes Go.ChangeAt Go.RowKit Go.Joins
set_option linter.unusedVariables false

def timeB (n : Int) : Bool := decide (-1000000000000 ≤ n ∧ n ≤ 1000000000000)

theorem rtime_any (n : Int) (w : World) :
  Calls Tryz.prog 80 #[.int .i64 n] w fun e w' => e = .returned (.bool (timeB n)) ∧ w' = w := by
 by_cases h1 : -1000000000000 ≤ n
 ·by_cases h2 : n ≤ 1000000000000
  ·have e : timeB n = true := decide_eq_true ⟨h1, h2⟩
   rw [e]
   clear e
   go_enter Tryz.func80, Tryz.ntmps80
   go_wp2
   go_ret
   exact ⟨rfl, rfl⟩
  ·have e : timeB n = false := decide_eq_false (by omega)
   have h3 : decide (n ≤ 1000000000000) = false := decide_eq_false h2
   rw [e]
   clear e h2
   go_enter Tryz.func80, Tryz.ntmps80
   go_wp2
   go_ret
   exact ⟨rfl, rfl⟩
 ·have e : timeB n = false := decide_eq_false (by omega)
  have h3 : decide (-1000000000000 ≤ n) = false := decide_eq_false h1
  rw [e]
  clear e h1
  go_enter Tryz.func80, Tryz.ntmps80
  go_wp2
  go_ret
  exact ⟨rfl, rfl⟩

set_option maxHeartbeats 400000 in
theorem rspan_c (a b : Int) (x y z : Bool) (w : World) (hx : Hid (timeB a = x)) (hy : Hid (timeB b = y)) (hz : decide (a ≤ b) = z) :
  Calls Tryz.prog 139 #[.agg #[.int .i64 a, .int .i64 b]] w fun e w' => e = .returned (.bool (x && y && z)) ∧ Below w.heap.size w w' := by
 have cx : ∀ w, Calls Tryz.prog 80 #[.int .i64 a] w fun e w' => e = .returned (.bool x) ∧ w' = w := by rw [← hx.out]; exact rtime_any a
 have cy : ∀ w, Calls Tryz.prog 80 #[.int .i64 b] w fun e w' => e = .returned (.bool y) ∧ w' = w := by rw [← hy.out]; exact rtime_any b
 clear hx hy
 have cnt : Mark 0 := .mk _
 cases x <;> cases y <;> cases z
 all_goals
  go_enter Tryz.func139, Tryz.ntmps139
  go_wp2_with (first | (go_at_call 80; have cq : Mark 0 := cnt; refine (cx _).mono ?_; clear cq cnt; have cnt : Mark 1 := .mk _; rintro e u ⟨rfl, rfl⟩) | (go_at_call 80; have cq : Mark 1 := cnt; refine (cy _).mono ?_; clear cq cnt; have cnt : Mark 2 := .mk _; rintro e u ⟨rfl, rfl⟩))
  go_ret
  exact ⟨rfl, (Below.refl _ _).alloc (Nat.le_refl _) _⟩

theorem rspan_any (a b : Int) (w : World) :
  Calls Tryz.prog 139 #[.agg #[.int .i64 a, .int .i64 b]] w fun e w' => e = .returned (.bool (okB a b)) ∧ Below w.heap.size w w' := by
 have e : okB a b = (timeB a && timeB b && decide (a ≤ b)) := by
  unfold okB timeB
  rw [Bool.eq_iff_iff]
  simp only [Bool.and_eq_true, decide_eq_true_eq]
  omega
 rw [e]
 exact rspan_c a b _ _ _ w rfl rfl rfl
end Go.Proofs.YtadkgnbagmnkkakGreatDoor
namespace Go.Proofs.YtadkgnbagmnkkakGreatDoor
open Go.ChangeShapes Go.WideShapes Go.ChangeAt Go.RowKit
set_option linter.unusedVariables false
set_option linter.unusedSimpArgs false

theorem rleast_any (a b x : Int) (w : World) (hx : Hid ((a < b ∧ x = a) ∨ (b ≤ a ∧ x = b))) :
  Calls Tryz.prog 106 #[.int .i64 a, .int .i64 b] w fun e w' => e = .returned (.int .i64 x) ∧ w' = w := by
 rcases hx.out with ⟨h, rfl⟩ | ⟨h, rfl⟩
 all_goals
  clear hx
  go_enter Tryz.func106, Tryz.ntmps106
  go_wp2
  go_ret
  exact ⟨rfl, rfl⟩

theorem rgreatest_any (a b x : Int) (w : World) (hx : Hid ((b < a ∧ x = a) ∨ (a ≤ b ∧ x = b))) :
  Calls Tryz.prog 105 #[.int .i64 a, .int .i64 b] w fun e w' => e = .returned (.int .i64 x) ∧ w' = w := by
 rcases hx.out with ⟨h, rfl⟩ | ⟨h, rfl⟩
 all_goals
  clear hx
  go_enter Tryz.func105, Tryz.ntmps105
  go_wp2
  go_ret
  exact ⟨rfl, rfl⟩

set_option maxRecDepth 100000 in
set_option maxHeartbeats 2000000 in
theorem rmeet_any (a b c d x y : Int) (w : World) (hx : Hid ((c < a ∧ x = a) ∨ (a ≤ c ∧ x = c))) (hy : Hid ((b < d ∧ y = b) ∨ (d ≤ b ∧ y = d))) :
  Calls Tryz.prog 76 #[.agg #[.int .i64 a, .int .i64 b], .agg #[.int .i64 c, .int .i64 d]] w fun e w' => e = .returned (.tuple #[.agg #[.int .i64 x, .int .i64 y], .bool (decide (x ≤ y))]) ∧ Below w.heap.size w w' := by
 go_enter Tryz.func76, Tryz.ntmps76
 go_wp2
 go_region_held (fun w' => w'.cell? ⟨w.heap.size, 0, none⟩ = some (.int .i64 a) ∧ w'.cell? ⟨w.heap.size, 1, none⟩ = some (.int .i64 b) ∧ w'.cell? ⟨w.heap.size + 1, 0, none⟩ = some (.int .i64 c) ∧ w'.cell? ⟨w.heap.size + 1, 1, none⟩ = some (.int .i64 d)) (go_keep) (first | (go_at_call 105; refine (rgreatest_any a c x _ hx).mono ?_; rintro e u ⟨rfl, rfl⟩) | (go_at_call 106; refine (rleast_any b d y _ hy).mono ?_; rintro e u ⟨rfl, rfl⟩))
 all_goals
  go_wp2
  go_region
  all_goals
   go_wp2
   exact bodyPost_ret (v := _) (by simp [results, Tryz.results76, go_sem, *]) rfl ⟨rfl, by (repeat (first | exact Below.refl _ _ | refine Below.alloc ?_ (by first | (simp; done) | (simp; omega) | omega) _ | refine Below.setCell ?_ (by first | (simp; done) | (simp; omega) | omega) _ | apply Below.drew | apply below_drewN))⟩
end Go.Proofs.YtadkgnbagmnkkakGreatDoor
