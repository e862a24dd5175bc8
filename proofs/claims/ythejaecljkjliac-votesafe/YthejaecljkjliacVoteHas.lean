/- What span.Has answers, of any span and any number: no input is left out. -/
import Derived.Test.YthejaecljkjliacSpanChkC
namespace Go.Proofs.Ythejaecljkjliac
open Go.ChangeShapes Go.WideShapes Go.ChangeAt Go.RowKit
set_option linter.unusedVariables false

set_option maxHeartbeats 400000 in
theorem has_no (a b n : Int) (w : World) (h : okB a b = false) :
    Calls Try.prog 5 #[.agg #[.int .i64 a, .int .i64 b], .int .i64 n] w fun e w' => e = .returned (.tuple #[.bool false, .iface 36 (.int .i64 1)]) ∧ Below w.heap.size w w' := by
  have cnt : Mark 0 := .mk _
  go_enter Try.func5, Try.ntmps5
  go_wp2_with (first | (go_at_call 11; have cq : Mark 0 := cnt; refine (check_no _ _ _ h).mono ?_; clear cq cnt; have cnt : Mark 1 := .mk _; rintro e u0 ⟨rfl, hb0⟩; obtain ⟨hc0, hf0⟩ := bcell hb0; have hz0 := hb0.size; (try simp only [World.size_alloc, Nat.add_one_le_iff] at hz0); (try (have zb0_0 : w.heap.size < u0.heap.size := by omega))))
  go_ret2
  exact ⟨rfl, by (repeat (first | exact Below.refl _ _ | refine Below.alloc ?_ (by first | (simp; done) | (simp; omega) | omega) _ | refine Below.setCell ?_ (by first | (simp; done) | (simp; omega) | omega) _ | apply Below.drew | apply below_drewN | refine below_tr (by assumption) ?_))⟩

set_option maxHeartbeats 400000 in
theorem has_yes (a b n : Int) (w : World) (h : okB a b = true) (h1 : a ≤ n) (h2 : n ≤ b) :
    Calls Try.prog 5 #[.agg #[.int .i64 a, .int .i64 b], .int .i64 n] w fun e w' => e = .returned (.tuple #[.bool true, .nilIface]) ∧ Below w.heap.size w w' := by
  have cnt : Mark 0 := .mk _
  go_enter Try.func5, Try.ntmps5
  go_wp2_with (first | (go_at_call 11; have cq : Mark 0 := cnt; refine (check_ok _ _ _ h).mono ?_; clear cq cnt; have cnt : Mark 1 := .mk _; rintro e u0 ⟨rfl, hb0⟩; obtain ⟨hc0, hf0⟩ := bcell hb0; have hz0 := hb0.size; (try simp only [World.size_alloc, Nat.add_one_le_iff] at hz0); (try (have zb0_0 : w.heap.size < u0.heap.size := by omega))))
  go_ret2
  exact ⟨rfl, by (repeat (first | exact Below.refl _ _ | refine Below.alloc ?_ (by first | (simp; done) | (simp; omega) | omega) _ | refine Below.setCell ?_ (by first | (simp; done) | (simp; omega) | omega) _ | apply Below.drew | apply below_drewN | refine below_tr (by assumption) ?_))⟩

set_option maxHeartbeats 400000 in
theorem has_low (a b n : Int) (w : World) (h : okB a b = true) (h1 : n < a) :
    Calls Try.prog 5 #[.agg #[.int .i64 a, .int .i64 b], .int .i64 n] w fun e w' => e = .returned (.tuple #[.bool false, .nilIface]) ∧ Below w.heap.size w w' := by
  have cnt : Mark 0 := .mk _
  go_enter Try.func5, Try.ntmps5
  go_wp2_with (first | (go_at_call 11; have cq : Mark 0 := cnt; refine (check_ok _ _ _ h).mono ?_; clear cq cnt; have cnt : Mark 1 := .mk _; rintro e u0 ⟨rfl, hb0⟩; obtain ⟨hc0, hf0⟩ := bcell hb0; have hz0 := hb0.size; (try simp only [World.size_alloc, Nat.add_one_le_iff] at hz0); (try (have zb0_0 : w.heap.size < u0.heap.size := by omega))))
  go_ret2
  exact ⟨rfl, by (repeat (first | exact Below.refl _ _ | refine Below.alloc ?_ (by first | (simp; done) | (simp; omega) | omega) _ | refine Below.setCell ?_ (by first | (simp; done) | (simp; omega) | omega) _ | apply Below.drew | apply below_drewN | refine below_tr (by assumption) ?_))⟩

set_option maxHeartbeats 400000 in
theorem has_high (a b n : Int) (w : World) (h : okB a b = true) (h1 : a ≤ n) (h2 : decide (n ≤ b) = false) :
    Calls Try.prog 5 #[.agg #[.int .i64 a, .int .i64 b], .int .i64 n] w fun e w' => e = .returned (.tuple #[.bool false, .nilIface]) ∧ Below w.heap.size w w' := by
  have cnt : Mark 0 := .mk _
  go_enter Try.func5, Try.ntmps5
  go_wp2_with (first | (go_at_call 11; have cq : Mark 0 := cnt; refine (check_ok _ _ _ h).mono ?_; clear cq cnt; have cnt : Mark 1 := .mk _; rintro e u0 ⟨rfl, hb0⟩; obtain ⟨hc0, hf0⟩ := bcell hb0; have hz0 := hb0.size; (try simp only [World.size_alloc, Nat.add_one_le_iff] at hz0); (try (have zb0_0 : w.heap.size < u0.heap.size := by omega))))
  go_ret2
  exact ⟨rfl, by (repeat (first | exact Below.refl _ _ | refine Below.alloc ?_ (by first | (simp; done) | (simp; omega) | omega) _ | refine Below.setCell ?_ (by first | (simp; done) | (simp; omega) | omega) _ | apply Below.drew | apply below_drewN | refine below_tr (by assumption) ?_))⟩

def hasB (a b n : Int) : Bool := decide (a ≤ n ∧ n ≤ b)

theorem has_any (a b n : Int) (w : World) (h : okB a b = true) (r : Bool) (hr : Hid (hasB a b n = r)) :
    Calls Try.prog 5 #[.agg #[.int .i64 a, .int .i64 b], .int .i64 n] w fun e w' => e = .returned (.tuple #[.bool r, .nilIface]) ∧ Below w.heap.size w w' := by
  have hr := hr.out
  subst hr
  unfold hasB
  by_cases h1 : a ≤ n
  · by_cases h2 : n ≤ b
    · rw [decide_eq_true ⟨h1, h2⟩]; exact has_yes a b n w h h1 h2
    · rw [decide_eq_false (by omega)]; exact has_high a b n w h h1 (decide_eq_false h2)
  · rw [decide_eq_false (by omega)]; exact has_low a b n w h (by omega)

end Go.Proofs.Ythejaecljkjliac
