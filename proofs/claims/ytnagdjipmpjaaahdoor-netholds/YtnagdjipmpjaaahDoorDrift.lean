/- What package drift answers of any numbers: check and divideUp. -/
import Derived.Test.YtnagdjipmpjaaahDoorNm01
import Derived.WalkKit
import Derived.ProofKit
import Derived.OpenShut
import Derived.Outline
import Derived.IntWalk
import Derived.WalkLawsBesides
namespace Go.Proofs.YtnagdjipmpjaaahDoor
open Go.ChangeShapes Go.WideShapes Go.ChangeAt Go.RowKit
set_option linter.unusedVariables false
set_option linter.unusedSimpArgs false

def rdy (n p : Int) : Bool := decide (0 ≤ n ∧ n ≤ 1000000000000 ∧ 0 ≤ p ∧ p ≤ 1000)
theorem rdy_t {n p : Int} (h : rdy n p = true) : 0 ≤ n ∧ n ≤ 1000000000000 ∧ 0 ≤ p ∧ p ≤ 1000 := of_decide_eq_true h
theorem rdy_f {n p : Int} (h : rdy n p = false) : n < 0 ∨ 1000000000000 < n ∨ p < 0 ∨ 1000 < p := by
  have := of_decide_eq_false h; omega
theorem mul_low {a b : Int} (ha : 0 ≤ a) (hb : 0 ≤ b) : 0 ≤ a * b := Int.mul_nonneg ha hb
theorem mul_high {a b x y : Int} (ha : 0 ≤ a) (hb : 0 ≤ b) (hx : a ≤ x) (hy : b ≤ y) : a * b ≤ x * y := Int.mul_le_mul hx hy hb (by omega)
theorem np_b {n p : Int} (h1 : 0 ≤ n) (h2 : n ≤ 1000000000000) (h3 : 0 ≤ p) (h4 : p ≤ 1000) : 0 ≤ n * p ∧ n * p ≤ 1000000000000000 :=
  ⟨mul_low h1 h3, Int.le_trans (mul_high h1 h3 h2 h4) (by decide)⟩
theorem nm_b {n p : Int} (h1 : 0 ≤ n) (h2 : n ≤ 1000000000000) (h3 : 0 ≤ p) (h4 : p ≤ 1000) : 0 ≤ n * (1000000 - p) ∧ n * (1000000 - p) ≤ 1000000000000000000 :=
  ⟨mul_low h1 (by omega), Int.le_trans (mul_high (y := 1000000) h1 (by omega) h2 (by omega)) (by decide)⟩
theorem nq_b {n p : Int} (h1 : 0 ≤ n) (h2 : n ≤ 1000000000000) (h3 : 0 ≤ p) (h4 : p ≤ 1000) : 0 ≤ n * (1000000 + p) ∧ n * (1000000 + p) ≤ 1001000000000000000 :=
  ⟨mul_low h1 (by omega), Int.le_trans (mul_high (y := 1001000) h1 (by omega) h2 (by omega)) (by decide)⟩
theorem quo_b {a b : Int} (h1 : 0 ≤ a) (h2 : 1 ≤ b) : 0 ≤ a / b ∧ a / b ≤ a := IntWalk.tdiv_le a b h1 h2

set_option maxHeartbeats 1000000 in
theorem dcheck_ok (n p : Int) (w : World) (h : rdy n p = true) :
    Calls Tryd.prog 82 #[.int .i64 n, .int .i64 p] w fun e w' => e = .returned (.nilIface) ∧ Below w.heap.size w w' := by
  have q := rdy_t h
  obtain ⟨h1, h2, h3, h4⟩ := q
  clear h
  go_enter Tryd.func82, Tryd.ntmps82
  go_wp2
  go_ret
  exact ⟨rfl, by (repeat (first | exact Below.refl _ _ | refine Below.alloc ?_ (by first | (simp; done) | (simp; omega) | omega) _ | refine Below.setCell ?_ (by first | (simp; done) | (simp; omega) | omega) _ | apply Below.drew | refine below_tr (by assumption) ?_))⟩

set_option maxHeartbeats 1000000 in
theorem dcheck_no (n p : Int) (w : World) (h : rdy n p = false) :
    Calls Tryd.prog 82 #[.int .i64 n, .int .i64 p] w fun e w' => e = .returned (.iface 95 (.int .i64 1)) ∧ Below w.heap.size w w' := by
  have h' := rdy_f h
  clear h
  by_cases h1 : n < 0
  · clear h'
    go_enter Tryd.func82, Tryd.ntmps82
    go_wp2
    go_ret
    exact ⟨rfl, Below.refl _ _⟩
  · by_cases h2 : 1000000000000 < n
    · clear h'
      go_enter Tryd.func82, Tryd.ntmps82
      go_wp2
      go_ret
      exact ⟨rfl, Below.refl _ _⟩
    · by_cases h3 : p < 0
      · clear h'
        go_enter Tryd.func82, Tryd.ntmps82
        go_wp2
        go_ret
        exact ⟨rfl, Below.refl _ _⟩
      · have h4 : 1000 < p := by omega
        clear h'
        go_enter Tryd.func82, Tryd.ntmps82
        go_wp2
        go_ret
        exact ⟨rfl, Below.refl _ _⟩

set_option maxHeartbeats 1000000 in
theorem divideUp_is (a b : Int) (w : World) (h1 : 0 ≤ a) (h2 : a ≤ 2000000000000000000) (h3 : 1 ≤ b) (h4 : b ≤ 2000000) :
    Calls Tryd.prog 83 #[.int .i64 a, .int .i64 b] w fun e w' => e = .returned (.int .i64 ((a + b - 1) / b)) ∧ Below w.heap.size w w' := by
  go_enter Tryd.func83, Tryd.ntmps83
  go_wp2
  go_ret
  exact ⟨rfl, by (repeat (first | exact Below.refl _ _ | refine Below.alloc ?_ (by first | (simp; done) | (simp; omega) | omega) _ | refine Below.setCell ?_ (by first | (simp; done) | (simp; omega) | omega) _ | apply Below.drew | refine below_tr (by assumption) ?_))⟩

end Go.Proofs.YtnagdjipmpjaaahDoor
