/- What package span answers of two right spans (checkBoth, Before), and package order's isAhead. -/
import Derived.Test.YtbghpjmjhhjcgagDoorOrdDef
import Derived.Test.YtbghpjmjhhjcgagDoorSpanChkC
namespace Go.Proofs.YtbghpjmjhhjcgagDoor
open Go.ChangeShapes Go.WideShapes Go.ChangeAt Go.RowKit
set_option linter.unusedVariables false

theorem checkBoth_ok (a b c d : Int) (w : World) (h1 : okB a b = true) (h2 : okB c d = true) :
    Calls Tryd.prog 50 #[.agg #[.int .i64 a, .int .i64 b], .agg #[.int .i64 c, .int .i64 d]] w fun e w' => e = .returned (.nilIface) ∧ Below w.heap.size w w' := by
  go_enter Tryd.func50, Tryd.ntmps50
  go_wp2_with (first | (go_at_call 29; refine (check_ok _ _ _ (by assumption)).mono ?_; rintro e w1 ⟨rfl, hb⟩; obtain ⟨hc, hf⟩ := bcell hb; have hz := hb.size; (try simp only [World.size_alloc, Nat.add_one_le_iff] at hz); (try (have hz0 : w.heap.size < w1.heap.size := by omega)); (try (have hz1 : w.heap.size + 1 < w1.heap.size := by omega))))
  go_ret
  exact ⟨rfl, by (repeat (first | exact Below.refl _ _ | refine Below.alloc ?_ (by first | (simp; done) | (simp; omega) | omega) _ | refine Below.setCell ?_ (by first | (simp; done) | (simp; omega) | omega) _ | apply Below.drew | refine below_tr (by assumption) ?_))⟩
theorem before_ok (a b c d : Int) (w : World) (h1 : okB a b = true) (h2 : okB c d = true) :
    Calls Tryd.prog 40 #[.agg #[.int .i64 a, .int .i64 b], .agg #[.int .i64 c, .int .i64 d]] w fun e w' => e = .returned (.tuple #[.bool (decide (b < c)), .nilIface]) ∧ Below w.heap.size w w' := by
  go_enter Tryd.func40, Tryd.ntmps40
  go_wp2_with (first | (go_at_call 50; refine (checkBoth_ok _ _ _ _ _ (by assumption) (by assumption)).mono ?_; rintro e w1 ⟨rfl, hb⟩; obtain ⟨hc, hf⟩ := bcell hb; have hz := hb.size; (try simp only [World.size_alloc, Nat.add_one_le_iff] at hz); (try (have hz0 : w.heap.size < w1.heap.size := by omega)); (try (have hz1 : w.heap.size + 1 < w1.heap.size := by omega))))
  go_ret2
  exact ⟨rfl, by (repeat (first | exact Below.refl _ _ | refine Below.alloc ?_ (by first | (simp; done) | (simp; omega) | omega) _ | refine Below.setCell ?_ (by first | (simp; done) | (simp; omega) | omega) _ | apply Below.drew | refine below_tr (by assumption) ?_))⟩
set_option maxHeartbeats 1000000 in
theorem isAhead_any (x y : Ev) (w : World) (h1 : okB x.lo x.hi = true) (h2 : okB y.lo y.hi = true) :
    Calls Tryd.prog 56 #[.agg #[.int .i64 x.id, .int .i64 x.lo, .int .i64 x.hi], .agg #[.int .i64 y.id, .int .i64 y.lo, .int .i64 y.hi]] w fun e w' => e = .returned (.bool (decide (x.hi < y.lo))) ∧ Below w.heap.size w w' := by
  have cB := fun u => before_ok x.lo x.hi y.lo y.hi u h1 h2
  clear h1 h2
  generalize x.id = xi at *
  generalize x.lo = xl at *
  generalize x.hi = xh at *
  generalize y.id = yi at *
  generalize y.lo = yl at *
  generalize y.hi = yh at *
  generalize decide (xh < yl) = d at *
  go_enter Tryd.func56, Tryd.ntmps56
  go_wp2_with (go_at_call 40; refine (cB _).mono ?_; rintro e u0 ⟨rfl, hb⟩; have HB : Hid _ := hb; clear hb)
  go_ret
  exact ⟨rfl, rbel_on HB.out (rbel_al (rbel_al (Below.refl _ _)))⟩
end Go.Proofs.YtbghpjmjhhjcgagDoor
