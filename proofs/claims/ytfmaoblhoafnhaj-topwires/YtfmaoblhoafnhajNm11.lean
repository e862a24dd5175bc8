/- What drift.GrowTimes and drift.Grow answer of any numbers. What drift.GrowTimes answers of numbers that are right: the world is as it was. -/
import Derived.Test.YtfmaoblhoafnhajNm06
import Derived.WalkKit
import Derived.ProofKit
import Derived.OpenShut
import Derived.Outline
import Derived.IntWalk
import Derived.WalkLawsBesides
namespace Go.Proofs.Ytfmaoblhoafnhaj
open Go.ChangeShapes Go.WideShapes Go.ChangeAt Go.RowKit
set_option linter.unusedVariables false
set_option linter.unusedSimpArgs false

theorem nt_b {n t p : Int} (h1 : 0 ≤ n) (h2 : n ≤ 1000000000000) (h5 : 0 ≤ t) (h6 : t ≤ 1000) (h3 : 0 ≤ p) (h4 : p ≤ 1000) : 0 ≤ n * t ∧ n * t ≤ 1000000000000000 ∧ 0 ≤ n * t * p ∧ n * t * p ≤ 1000000000000000000 := by
  obtain ⟨a, b⟩ := np_b h1 h2 h5 h6
  exact ⟨a, b, mul_low a h3, Int.le_trans (mul_high a h3 b h4) (by decide)⟩

set_option maxHeartbeats 1000000 in
theorem growT_ok (n t p : Int) (w : World) (h : rdy n p = true) (h5 : 0 ≤ t) (h6 : t ≤ 1000) :
    Calls Try.prog 33 #[.int .i64 n, .int .i64 t, .int .i64 p] w fun e w' => e = .returned (.tuple #[.int .i64 ((n * t * p + 1000000 - 1) / 1000000), .nilIface]) ∧ Below w.heap.size w w' := by
  have q := rdy_t h
  obtain ⟨h1, h2, h3, h4⟩ := q
  obtain ⟨b1, b2, b3, b4⟩ := nt_b h1 h2 h5 h6 h3 h4
  go_enter Try.func33, Try.ntmps33
  go_wp2_with (first | (go_at_call 46; refine (dcheck_ok _ _ _ (by assumption)).mono ?_; rintro e w1 ⟨rfl, hb⟩; obtain ⟨hc, hf⟩ := bcell hb; have hz := hb.size; (try simp only [World.size_alloc, Nat.add_one_le_iff] at hz); (try (have hz0 : w.heap.size < w1.heap.size := by omega)); (try (have hz1 : w.heap.size + 1 < w1.heap.size := by omega))) | (go_at_call 47; refine (divideUp_is _ _ _ (by omega) (by omega) (by omega) (by omega)).mono ?_; rintro e w1 ⟨rfl, hb⟩; obtain ⟨hc, hf⟩ := bcell hb; have hz := hb.size; (try simp only [World.size_alloc, Nat.add_one_le_iff] at hz); (try (have hz0 : w.heap.size < w1.heap.size := by omega)); (try (have hz1 : w.heap.size + 1 < w1.heap.size := by omega))))
  go_ret2
  exact ⟨rfl, by (repeat (first | exact Below.refl _ _ | refine Below.alloc ?_ (by first | (simp; done) | (simp; omega) | omega) _ | refine Below.setCell ?_ (by first | (simp; done) | (simp; omega) | omega) _ | apply Below.drew | refine below_tr (by assumption) ?_))⟩

set_option maxHeartbeats 1000000 in
theorem growT_no (n t p : Int) (w : World) (h : rdy n p = false) :
    Calls Try.prog 33 #[.int .i64 n, .int .i64 t, .int .i64 p] w fun e w' => e = .returned (.tuple #[.int .i64 0, .iface 73 (.int .i64 1)]) ∧ Below w.heap.size w w' := by
  go_enter Try.func33, Try.ntmps33
  go_wp2_with (first | (go_at_call 46; refine (dcheck_no _ _ _ (by assumption)).mono ?_; rintro e w1 ⟨rfl, hb⟩; obtain ⟨hc, hf⟩ := bcell hb; have hz := hb.size; (try simp only [World.size_alloc, Nat.add_one_le_iff] at hz); (try (have hz0 : w.heap.size < w1.heap.size := by omega)); (try (have hz1 : w.heap.size + 1 < w1.heap.size := by omega))))
  go_ret2
  exact ⟨rfl, by (repeat (first | exact Below.refl _ _ | refine Below.alloc ?_ (by first | (simp; done) | (simp; omega) | omega) _ | refine Below.setCell ?_ (by first | (simp; done) | (simp; omega) | omega) _ | apply Below.drew | refine below_tr (by assumption) ?_))⟩

theorem growT_one (n p : Int) (w : World) (h : rdy n p = true) : Calls Try.prog 33 #[.int .i64 n, .int .i64 1, .int .i64 p] w fun e w' => e = .returned (.tuple #[.int .i64 ((n * p + 1000000 - 1) / 1000000), .nilIface]) ∧ Below w.heap.size w w' := by
  have g := growT_ok n 1 p w h (by decide) (by decide)
  rw [Int.mul_one] at g; exact g

end Go.Proofs.Ytfmaoblhoafnhaj
namespace Go.Proofs.Ytfmaoblhoafnhaj
open Go.ChangeShapes Go.WideShapes Go.ChangeAt Go.RowKit
set_option linter.unusedVariables false
set_option linter.unusedSimpArgs false

set_option maxHeartbeats 1000000 in
theorem dcheck_same (n p : Int) (w : World) (h : rdy n p = true) :
    Calls Try.prog 46 #[.int .i64 n, .int .i64 p] w fun e w' => e = .returned (.nilIface) ∧ w' = w := by
  have q := rdy_t h
  obtain ⟨h1, h2, h3, h4⟩ := q
  clear h
  go_enter Try.func46, Try.ntmps46
  go_wp2
  go_ret
  exact ⟨rfl, rfl⟩
set_option maxHeartbeats 1000000 in
theorem divideUp_same (a b : Int) (w : World) (h1 : 0 ≤ a) (h2 : a ≤ 2000000000000000000) (h3 : 1 ≤ b) (h4 : b ≤ 2000000) :
    Calls Try.prog 47 #[.int .i64 a, .int .i64 b] w fun e w' => e = .returned (.int .i64 ((a + b - 1) / b)) ∧ w' = w := by
  go_enter Try.func47, Try.ntmps47
  go_wp2
  go_ret
  exact ⟨rfl, rfl⟩
set_option maxHeartbeats 1000000 in
theorem growT_same (n t p : Int) (w : World) (h : rdy n p = true) (h5 : 0 ≤ t) (h6 : t ≤ 1000) :
    Calls Try.prog 33 #[.int .i64 n, .int .i64 t, .int .i64 p] w fun e w' => e = .returned (.tuple #[.int .i64 ((n * t * p + 1000000 - 1) / 1000000), .nilIface]) ∧ w' = w := by
  have q := rdy_t h
  obtain ⟨h1, h2, h3, h4⟩ := q
  obtain ⟨b1, b2, b3, b4⟩ := nt_b h1 h2 h5 h6 h3 h4
  go_enter Try.func33, Try.ntmps33
  go_wp2_with (first | (go_at_call 46; refine (dcheck_same _ _ _ (by assumption)).mono ?_; rintro e w1 ⟨rfl, hu⟩; rw [hu]; clear hu) | (go_at_call 47; refine (divideUp_same _ _ _ (by omega) (by omega) (by omega) (by omega)).mono ?_; rintro e w1 ⟨rfl, hu⟩; rw [hu]; clear hu))
  go_ret2
  exact ⟨rfl, rfl⟩
end Go.Proofs.Ytfmaoblhoafnhaj
