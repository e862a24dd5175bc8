/- What the document's own reckoning (package noonref1) answers: Time, Span, of any numbers. -/
import Derived.Test.YthejaecljkjliakDoorSpan
import Derived.WalkKit
import Derived.Lib.SmallJoins
import Derived.Deep.RegionWith
import Derived.Deep.RegionHeld
import Derived.BigRegion
namespace Go.Proofs.YthejaecljkjliakDoor
open Go.ChangeShapes Go.WideShapes Go.ChangeAt Go.RowKit Go.Joins
set_option linter.unusedVariables false

def timeB (n : Int) : Bool := decide (-1000000000000 ≤ n ∧ n ≤ 1000000000000)

theorem rtime_any (n : Int) (w : World) :
    Calls Tryd.prog 17 #[.int .i64 n] w fun e w' => e = .returned (.bool (timeB n)) ∧ w' = w := by
  by_cases h1 : -1000000000000 ≤ n
  · by_cases h2 : n ≤ 1000000000000
    · have e : timeB n = true := decide_eq_true ⟨h1, h2⟩
      rw [e]
      clear e
      go_enter Tryd.func17, Tryd.ntmps17
      go_wp2
      go_ret
      exact ⟨rfl, rfl⟩
    · have e : timeB n = false := decide_eq_false (by omega)
      have h3 : decide (n ≤ 1000000000000) = false := decide_eq_false h2
      rw [e]
      clear e h2
      go_enter Tryd.func17, Tryd.ntmps17
      go_wp2
      go_ret
      exact ⟨rfl, rfl⟩
  · have e : timeB n = false := decide_eq_false (by omega)
    have h3 : decide (-1000000000000 ≤ n) = false := decide_eq_false h1
    rw [e]
    clear e h1
    go_enter Tryd.func17, Tryd.ntmps17
    go_wp2
    go_ret
    exact ⟨rfl, rfl⟩

set_option maxHeartbeats 400000 in
theorem rspan_c (a b : Int) (x y z : Bool) (w : World) (hx : Hid (timeB a = x)) (hy : Hid (timeB b = y)) (hz : decide (a ≤ b) = z) :
    Calls Tryd.prog 14 #[.agg #[.int .i64 a, .int .i64 b]] w fun e w' => e = .returned (.bool (x && y && z)) ∧ Below w.heap.size w w' := by
  have cx : ∀ w, Calls Tryd.prog 17 #[.int .i64 a] w fun e w' => e = .returned (.bool x) ∧ w' = w := by rw [← hx.out]; exact rtime_any a
  have cy : ∀ w, Calls Tryd.prog 17 #[.int .i64 b] w fun e w' => e = .returned (.bool y) ∧ w' = w := by rw [← hy.out]; exact rtime_any b
  clear hx hy
  have cnt : Mark 0 := .mk _
  cases x <;> cases y <;> cases z
  all_goals
    go_enter Tryd.func14, Tryd.ntmps14
    go_wp2_with (first | (go_at_call 17; have cq : Mark 0 := cnt; refine (cx _).mono ?_; clear cq cnt; have cnt : Mark 1 := .mk _; rintro e u ⟨rfl, rfl⟩) | (go_at_call 17; have cq : Mark 1 := cnt; refine (cy _).mono ?_; clear cq cnt; have cnt : Mark 2 := .mk _; rintro e u ⟨rfl, rfl⟩))
    go_ret
    exact ⟨rfl, (Below.refl _ _).alloc (Nat.le_refl _) _⟩

theorem rspan_any (a b : Int) (w : World) :
    Calls Tryd.prog 14 #[.agg #[.int .i64 a, .int .i64 b]] w fun e w' => e = .returned (.bool (okB a b)) ∧ Below w.heap.size w w' := by
  have e : okB a b = (timeB a && timeB b && decide (a ≤ b)) := by
    unfold okB timeB
    rw [Bool.eq_iff_iff]
    simp only [Bool.and_eq_true, decide_eq_true_eq]
    omega
  rw [e]
  exact rspan_c a b _ _ _ w rfl rfl rfl
end Go.Proofs.YthejaecljkjliakDoor
