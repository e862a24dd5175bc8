/- What the document reckons of drift (package noonref1): Ready, Up; and what drift.Age answers, of any numbers. -/
import Derived.Test.YtdhgfdbghfefnaaDoorDriftGrow
import Derived.Test.YtdhgfdbghfefnaaDoorDriftTwo
import Derived.Test.YtdhgfdbghfefnaaDoorSpanMore
import Derived.WalkKit
import Derived.ProofKit
import Derived.OpenShut
import Derived.Outline
import Derived.IntWalk
import Derived.WalkLawsBesides
namespace Go.Proofs.YtdhgfdbghfefnaaDoor
open Go.ChangeShapes Go.WideShapes Go.ChangeAt Go.RowKit
set_option linter.unusedVariables false
set_option linter.unusedSimpArgs false

set_option maxHeartbeats 1000000 in
theorem rready_any (n p : Int) (w : World) :
    Calls Tryd.prog 23 #[.int .i64 n, .int .i64 p] w fun e w' => e = .returned (.bool (rdy n p)) ∧ Below w.heap.size w w' := by
  by_cases h1 : 0 ≤ n
  · by_cases h2 : n ≤ 1000000000000
    · by_cases h3 : 0 ≤ p
      · by_cases h4 : p ≤ 1000
        · have e : rdy n p = true := decide_eq_true ⟨h1, h2, h3, h4⟩
          rw [e]
          clear e
          go_enter Tryd.func23, Tryd.ntmps23
          go_wp2
          go_ret
          exact ⟨rfl, Below.refl _ _⟩
        · have e : rdy n p = false := decide_eq_false (by omega)
          have h5 : decide (p ≤ 1000) = false := decide_eq_false h4
          rw [e]
          clear e h4
          go_enter Tryd.func23, Tryd.ntmps23
          go_wp2
          go_ret
          exact ⟨rfl, Below.refl _ _⟩
      · have e : rdy n p = false := decide_eq_false (by omega)
        have h5 : decide (0 ≤ p) = false := decide_eq_false h3
        rw [e]
        clear e h3
        go_enter Tryd.func23, Tryd.ntmps23
        go_wp2
        go_ret
        exact ⟨rfl, Below.refl _ _⟩
    · have e : rdy n p = false := decide_eq_false (by omega)
      have h5 : decide (n ≤ 1000000000000) = false := decide_eq_false h2
      rw [e]
      clear e h2
      go_enter Tryd.func23, Tryd.ntmps23
      go_wp2
      go_ret
      exact ⟨rfl, Below.refl _ _⟩
  · have e : rdy n p = false := decide_eq_false (by omega)
    have h5 : decide (0 ≤ n) = false := decide_eq_false h1
    rw [e]
    clear e h1
    go_enter Tryd.func23, Tryd.ntmps23
    go_wp2
    go_ret
    exact ⟨rfl, Below.refl _ _⟩

theorem up_more {a b : Int} (h1 : 1 ≤ b) (h : a / b * b < a) : a / b + 1 = (a + b - 1) / b := by
  have e := Int.mul_ediv_add_emod a b
  have r1 := Int.emod_lt_of_pos a (show 0 < b by omega)
  have c : b * (a / b) = a / b * b := Int.mul_comm _ _
  have e2 : a + b - 1 = (a % b - 1) + b * (a / b + 1) := by rw [Int.mul_add]; omega
  have z : (a % b - 1) / b = 0 := Int.ediv_eq_zero_of_lt (by omega) (by omega)
  rw [e2, Int.add_mul_ediv_left _ _ (by omega), z]
  omega
theorem up_same {a b : Int} (h1 : 1 ≤ b) (h : ¬ a / b * b < a) : a / b = (a + b - 1) / b := by
  have e := Int.mul_ediv_add_emod a b
  have r0 := Int.emod_nonneg a (show b ≠ 0 by omega)
  have c : b * (a / b) = a / b * b := Int.mul_comm _ _
  have e2 : a + b - 1 = (b - 1) + b * (a / b) := by omega
  have z : (b - 1) / b = 0 := Int.ediv_eq_zero_of_lt (by omega) (by omega)
  rw [e2, Int.add_mul_ediv_left _ _ (by omega), z]
  omega
theorem up_b {a b : Int} (h0 : 0 ≤ a) (h1 : 1 ≤ b) : 0 ≤ a / b * b ∧ a / b * b ≤ a := by
  have e := Int.mul_ediv_add_emod a b
  have r0 := Int.emod_nonneg a (show b ≠ 0 by omega)
  have c : b * (a / b) = a / b * b := Int.mul_comm _ _
  exact ⟨mul_low (quo_b h0 h1).1 (by omega), by omega⟩

set_option maxHeartbeats 1000000 in
theorem rup_is (a b : Int) (w : World) (h1 : 0 ≤ a) (h2 : a ≤ 2000000000000000000) (h3 : 1 ≤ b) (h4 : b ≤ 2000000) :
    Calls Tryd.prog 24 #[.int .i64 a, .int .i64 b] w fun e w' => e = .returned (.int .i64 ((a + b - 1) / b)) ∧ Below w.heap.size w w' := by
  have q := quo_b h1 h3
  obtain ⟨q1, q2⟩ := q
  have r := up_b h1 h3
  obtain ⟨r1, r2⟩ := r
  have hnz : ¬ (b = 0) := by omega
  by_cases h : a / b * b < a
  · have H : Hid (a / b + 1 = (a + b - 1) / b) := up_more h3 h
    go_enter Tryd.func24, Tryd.ntmps24
    go_wp2
    go_ret
    exact ⟨(by rw [H.out]; rfl), Below.refl _ _⟩
  · have H : Hid (a / b = (a + b - 1) / b) := up_same h3 h
    go_enter Tryd.func24, Tryd.ntmps24
    go_wp2
    go_ret
    exact ⟨(by rw [← H.out]; rfl), Below.refl _ _⟩

set_option maxHeartbeats 1000000 in
theorem age_none (a b n p : Int) (w : World) (k : okB a b = false) :
    Calls Tryd.prog 28 #[.agg #[.int .i64 a, .int .i64 b], .int .i64 n, .int .i64 p] w fun e w' => e = .returned (.tuple #[.agg #[.int .i64 0, .int .i64 0], .iface 54 (.int .i64 1)]) ∧ Below w.heap.size w w' := by
  go_enter Tryd.func28, Tryd.ntmps28
  go_wp2_with (first | (go_at_call 8; refine (check_no _ _ _ (by assumption)).mono ?_; rintro e u ⟨rfl, hb⟩; have k00 : u.cell? ⟨w.heap.size, 0, none⟩ = some (.int .i64 a) := kept hb (by first | (simp [*]; done) | (simp [World.cell?_alloc_lt]; done)); have f00 : u.frozen? ⟨w.heap.size, 0, none⟩ = false := (by rw [hb.frozen (p := ⟨w.heap.size, 0, none⟩) (by first | assumption | (simp; done) | (simp; omega))]; first | (simp; done) | (simp [*]; done)); have k01 : u.cell? ⟨w.heap.size, 1, none⟩ = some (.int .i64 b) := kept hb (by first | (simp [*]; done) | (simp [World.cell?_alloc_lt]; done)); have f01 : u.frozen? ⟨w.heap.size, 1, none⟩ = false := (by rw [hb.frozen (p := ⟨w.heap.size, 1, none⟩) (by first | assumption | (simp; done) | (simp; omega))]; first | (simp; done) | (simp [*]; done)); have k10 : u.cell? ⟨w.heap.size + 1, 0, none⟩ = some (.int .i64 0) := kept hb (by first | (simp [*]; done) | (simp [World.cell?_alloc_lt]; done)); have f10 : u.frozen? ⟨w.heap.size + 1, 0, none⟩ = false := (by rw [hb.frozen (p := ⟨w.heap.size + 1, 0, none⟩) (by first | assumption | (simp; done) | (simp; omega))]; first | (simp; done) | (simp [*]; done)); have k11 : u.cell? ⟨w.heap.size + 1, 1, none⟩ = some (.int .i64 0) := kept hb (by first | (simp [*]; done) | (simp [World.cell?_alloc_lt]; done)); have f11 : u.frozen? ⟨w.heap.size + 1, 1, none⟩ = false := (by rw [hb.frozen (p := ⟨w.heap.size + 1, 1, none⟩) (by first | assumption | (simp; done) | (simp; omega))]; first | (simp; done) | (simp [*]; done)); have hw : Below w.heap.size w u := below_tr hb (by (repeat (first | assumption | exact Below.refl _ _ | refine Below.alloc ?_ (by first | (simp; done) | (simp; omega) | omega) _ | refine Below.setCell ?_ (by first | (simp; done) | (simp; omega) | omega) _ | apply Below.drew | refine below_tr (by assumption) ?_))); have hz : w.heap.size < u.heap.size := World.block_lt_of_cell? _ _ k00; have hz1 : w.heap.size + 1 < u.heap.size := World.block_lt_of_cell? _ _ k10; clear hb))
  exact bodyPost_ret (v := _) (by simp [results, Tryd.results28, go_sem, *]) rfl ⟨rfl, by (repeat (first | assumption | exact Below.refl _ _ | refine Below.alloc ?_ (by first | (simp; done) | (simp; omega) | omega) _ | refine Below.setCell ?_ (by first | (simp; done) | (simp; omega) | omega) _ | apply Below.drew | refine below_tr (by assumption) ?_))⟩

set_option maxHeartbeats 1000000 in
theorem age_no (a b n p : Int) (w : World) (k : okB a b = true) (h : rdy n p = false) :
    Calls Tryd.prog 28 #[.agg #[.int .i64 a, .int .i64 b], .int .i64 n, .int .i64 p] w fun e w' => e = .returned (.tuple #[.agg #[.int .i64 0, .int .i64 0], .iface 54 (.int .i64 1)]) ∧ Below w.heap.size w w' := by
  go_enter Tryd.func28, Tryd.ntmps28
  go_wp2_with (first | (go_at_call 8; refine (check_ok _ _ _ (by assumption)).mono ?_; rintro e u ⟨rfl, hb⟩; have k00 : u.cell? ⟨w.heap.size, 0, none⟩ = some (.int .i64 a) := kept hb (by first | (simp [*]; done) | (simp [World.cell?_alloc_lt]; done)); have f00 : u.frozen? ⟨w.heap.size, 0, none⟩ = false := (by rw [hb.frozen (p := ⟨w.heap.size, 0, none⟩) (by first | assumption | (simp; done) | (simp; omega))]; first | (simp; done) | (simp [*]; done)); have k01 : u.cell? ⟨w.heap.size, 1, none⟩ = some (.int .i64 b) := kept hb (by first | (simp [*]; done) | (simp [World.cell?_alloc_lt]; done)); have f01 : u.frozen? ⟨w.heap.size, 1, none⟩ = false := (by rw [hb.frozen (p := ⟨w.heap.size, 1, none⟩) (by first | assumption | (simp; done) | (simp; omega))]; first | (simp; done) | (simp [*]; done)); have k10 : u.cell? ⟨w.heap.size + 1, 0, none⟩ = some (.int .i64 0) := kept hb (by first | (simp [*]; done) | (simp [World.cell?_alloc_lt]; done)); have f10 : u.frozen? ⟨w.heap.size + 1, 0, none⟩ = false := (by rw [hb.frozen (p := ⟨w.heap.size + 1, 0, none⟩) (by first | assumption | (simp; done) | (simp; omega))]; first | (simp; done) | (simp [*]; done)); have k11 : u.cell? ⟨w.heap.size + 1, 1, none⟩ = some (.int .i64 0) := kept hb (by first | (simp [*]; done) | (simp [World.cell?_alloc_lt]; done)); have f11 : u.frozen? ⟨w.heap.size + 1, 1, none⟩ = false := (by rw [hb.frozen (p := ⟨w.heap.size + 1, 1, none⟩) (by first | assumption | (simp; done) | (simp; omega))]; first | (simp; done) | (simp [*]; done)); have hw : Below w.heap.size w u := below_tr hb (by (repeat (first | assumption | exact Below.refl _ _ | refine Below.alloc ?_ (by first | (simp; done) | (simp; omega) | omega) _ | refine Below.setCell ?_ (by first | (simp; done) | (simp; omega) | omega) _ | apply Below.drew | refine below_tr (by assumption) ?_))); have hz : w.heap.size < u.heap.size := World.block_lt_of_cell? _ _ k00; have hz1 : w.heap.size + 1 < u.heap.size := World.block_lt_of_cell? _ _ k10; clear hb) | (go_at_call 25; refine (grow_no _ _ _ (by assumption)).mono ?_; rintro e u ⟨rfl, hb⟩; have k00 : u.cell? ⟨w.heap.size, 0, none⟩ = some (.int .i64 a) := kept hb (by first | (simp [*]; done) | (simp [World.cell?_alloc_lt]; done)); have f00 : u.frozen? ⟨w.heap.size, 0, none⟩ = false := (by rw [hb.frozen (p := ⟨w.heap.size, 0, none⟩) (by first | assumption | (simp; done) | (simp; omega))]; first | (simp; done) | (simp [*]; done)); have k01 : u.cell? ⟨w.heap.size, 1, none⟩ = some (.int .i64 b) := kept hb (by first | (simp [*]; done) | (simp [World.cell?_alloc_lt]; done)); have f01 : u.frozen? ⟨w.heap.size, 1, none⟩ = false := (by rw [hb.frozen (p := ⟨w.heap.size, 1, none⟩) (by first | assumption | (simp; done) | (simp; omega))]; first | (simp; done) | (simp [*]; done)); have k10 : u.cell? ⟨w.heap.size + 1, 0, none⟩ = some (.int .i64 0) := kept hb (by first | (simp [*]; done) | (simp [World.cell?_alloc_lt]; done)); have f10 : u.frozen? ⟨w.heap.size + 1, 0, none⟩ = false := (by rw [hb.frozen (p := ⟨w.heap.size + 1, 0, none⟩) (by first | assumption | (simp; done) | (simp; omega))]; first | (simp; done) | (simp [*]; done)); have k11 : u.cell? ⟨w.heap.size + 1, 1, none⟩ = some (.int .i64 0) := kept hb (by first | (simp [*]; done) | (simp [World.cell?_alloc_lt]; done)); have f11 : u.frozen? ⟨w.heap.size + 1, 1, none⟩ = false := (by rw [hb.frozen (p := ⟨w.heap.size + 1, 1, none⟩) (by first | assumption | (simp; done) | (simp; omega))]; first | (simp; done) | (simp [*]; done)); have hw : Below w.heap.size w u := below_tr hb (by (repeat (first | assumption | exact Below.refl _ _ | refine Below.alloc ?_ (by first | (simp; done) | (simp; omega) | omega) _ | refine Below.setCell ?_ (by first | (simp; done) | (simp; omega) | omega) _ | apply Below.drew | refine below_tr (by assumption) ?_))); have hz : w.heap.size < u.heap.size := World.block_lt_of_cell? _ _ k00; have hz1 : w.heap.size + 1 < u.heap.size := World.block_lt_of_cell? _ _ k10; clear hb))
  exact bodyPost_ret (v := _) (by simp [results, Tryd.results28, go_sem, *]) rfl ⟨rfl, by (repeat (first | assumption | exact Below.refl _ _ | refine Below.alloc ?_ (by first | (simp; done) | (simp; omega) | omega) _ | refine Below.setCell ?_ (by first | (simp; done) | (simp; omega) | omega) _ | apply Below.drew | refine below_tr (by assumption) ?_))⟩

set_option maxHeartbeats 1000000 in
theorem age_ok (a b n p : Int) (w : World) (k : okB a b = true) (h : rdy n p = true) (k2 : okB (a - ((n * p + 1000000 - 1) / 1000000)) (b + ((n * p + 1000000 - 1) / 1000000)) = true) :
    Calls Tryd.prog 28 #[.agg #[.int .i64 a, .int .i64 b], .int .i64 n, .int .i64 p] w fun e w' => e = .returned (.tuple #[.agg #[.int .i64 (a - ((n * p + 1000000 - 1) / 1000000)), .int .i64 (b + ((n * p + 1000000 - 1) / 1000000))], .nilIface]) ∧ Below w.heap.size w w' := by
  have q := rdy_t h
  obtain ⟨h1, h2, h3, h4⟩ := q
  obtain ⟨b1, b2⟩ := np_b h1 h2 h3 h4
  go_enter Tryd.func28, Tryd.ntmps28
  go_wp2_with (first | (go_at_call 8; refine (check_ok _ _ _ (by assumption)).mono ?_; rintro e u ⟨rfl, hb⟩; have k00 : u.cell? ⟨w.heap.size, 0, none⟩ = some (.int .i64 a) := kept hb (by first | (simp [*]; done) | (simp [World.cell?_alloc_lt]; done)); have f00 : u.frozen? ⟨w.heap.size, 0, none⟩ = false := (by rw [hb.frozen (p := ⟨w.heap.size, 0, none⟩) (by first | assumption | (simp; done) | (simp; omega))]; first | (simp; done) | (simp [*]; done)); have k01 : u.cell? ⟨w.heap.size, 1, none⟩ = some (.int .i64 b) := kept hb (by first | (simp [*]; done) | (simp [World.cell?_alloc_lt]; done)); have f01 : u.frozen? ⟨w.heap.size, 1, none⟩ = false := (by rw [hb.frozen (p := ⟨w.heap.size, 1, none⟩) (by first | assumption | (simp; done) | (simp; omega))]; first | (simp; done) | (simp [*]; done)); have k10 : u.cell? ⟨w.heap.size + 1, 0, none⟩ = some (.int .i64 0) := kept hb (by first | (simp [*]; done) | (simp [World.cell?_alloc_lt]; done)); have f10 : u.frozen? ⟨w.heap.size + 1, 0, none⟩ = false := (by rw [hb.frozen (p := ⟨w.heap.size + 1, 0, none⟩) (by first | assumption | (simp; done) | (simp; omega))]; first | (simp; done) | (simp [*]; done)); have k11 : u.cell? ⟨w.heap.size + 1, 1, none⟩ = some (.int .i64 0) := kept hb (by first | (simp [*]; done) | (simp [World.cell?_alloc_lt]; done)); have f11 : u.frozen? ⟨w.heap.size + 1, 1, none⟩ = false := (by rw [hb.frozen (p := ⟨w.heap.size + 1, 1, none⟩) (by first | assumption | (simp; done) | (simp; omega))]; first | (simp; done) | (simp [*]; done)); have hw : Below w.heap.size w u := below_tr hb (by (repeat (first | assumption | exact Below.refl _ _ | refine Below.alloc ?_ (by first | (simp; done) | (simp; omega) | omega) _ | refine Below.setCell ?_ (by first | (simp; done) | (simp; omega) | omega) _ | apply Below.drew | refine below_tr (by assumption) ?_))); have hz : w.heap.size < u.heap.size := World.block_lt_of_cell? _ _ k00; have hz1 : w.heap.size + 1 < u.heap.size := World.block_lt_of_cell? _ _ k10; clear hb) | (go_at_call 25; refine (grow_ok _ _ _ (by assumption)).mono ?_; rintro e u ⟨rfl, hb⟩; have k00 : u.cell? ⟨w.heap.size, 0, none⟩ = some (.int .i64 a) := kept hb (by first | (simp [*]; done) | (simp [World.cell?_alloc_lt]; done)); have f00 : u.frozen? ⟨w.heap.size, 0, none⟩ = false := (by rw [hb.frozen (p := ⟨w.heap.size, 0, none⟩) (by first | assumption | (simp; done) | (simp; omega))]; first | (simp; done) | (simp [*]; done)); have k01 : u.cell? ⟨w.heap.size, 1, none⟩ = some (.int .i64 b) := kept hb (by first | (simp [*]; done) | (simp [World.cell?_alloc_lt]; done)); have f01 : u.frozen? ⟨w.heap.size, 1, none⟩ = false := (by rw [hb.frozen (p := ⟨w.heap.size, 1, none⟩) (by first | assumption | (simp; done) | (simp; omega))]; first | (simp; done) | (simp [*]; done)); have k10 : u.cell? ⟨w.heap.size + 1, 0, none⟩ = some (.int .i64 0) := kept hb (by first | (simp [*]; done) | (simp [World.cell?_alloc_lt]; done)); have f10 : u.frozen? ⟨w.heap.size + 1, 0, none⟩ = false := (by rw [hb.frozen (p := ⟨w.heap.size + 1, 0, none⟩) (by first | assumption | (simp; done) | (simp; omega))]; first | (simp; done) | (simp [*]; done)); have k11 : u.cell? ⟨w.heap.size + 1, 1, none⟩ = some (.int .i64 0) := kept hb (by first | (simp [*]; done) | (simp [World.cell?_alloc_lt]; done)); have f11 : u.frozen? ⟨w.heap.size + 1, 1, none⟩ = false := (by rw [hb.frozen (p := ⟨w.heap.size + 1, 1, none⟩) (by first | assumption | (simp; done) | (simp; omega))]; first | (simp; done) | (simp [*]; done)); have hw : Below w.heap.size w u := below_tr hb (by (repeat (first | assumption | exact Below.refl _ _ | refine Below.alloc ?_ (by first | (simp; done) | (simp; omega) | omega) _ | refine Below.setCell ?_ (by first | (simp; done) | (simp; omega) | omega) _ | apply Below.drew | refine below_tr (by assumption) ?_))); have hz : w.heap.size < u.heap.size := World.block_lt_of_cell? _ _ k00; have hz1 : w.heap.size + 1 < u.heap.size := World.block_lt_of_cell? _ _ k10; clear hb) | (go_at_call 13; refine (widen_ok a b ((n * p + 1000000 - 1) / 1000000) _ (by assumption) (by omega) (by omega) (by assumption)).mono ?_; rintro e u ⟨rfl, hb⟩; have k00 : u.cell? ⟨w.heap.size, 0, none⟩ = some (.int .i64 a) := kept hb (by first | (simp [*]; done) | (simp [World.cell?_alloc_lt]; done)); have f00 : u.frozen? ⟨w.heap.size, 0, none⟩ = false := (by rw [hb.frozen (p := ⟨w.heap.size, 0, none⟩) (by first | assumption | (simp; done) | (simp; omega))]; first | (simp; done) | (simp [*]; done)); have k01 : u.cell? ⟨w.heap.size, 1, none⟩ = some (.int .i64 b) := kept hb (by first | (simp [*]; done) | (simp [World.cell?_alloc_lt]; done)); have f01 : u.frozen? ⟨w.heap.size, 1, none⟩ = false := (by rw [hb.frozen (p := ⟨w.heap.size, 1, none⟩) (by first | assumption | (simp; done) | (simp; omega))]; first | (simp; done) | (simp [*]; done)); have k10 : u.cell? ⟨w.heap.size + 1, 0, none⟩ = some (.int .i64 0) := kept hb (by first | (simp [*]; done) | (simp [World.cell?_alloc_lt]; done)); have f10 : u.frozen? ⟨w.heap.size + 1, 0, none⟩ = false := (by rw [hb.frozen (p := ⟨w.heap.size + 1, 0, none⟩) (by first | assumption | (simp; done) | (simp; omega))]; first | (simp; done) | (simp [*]; done)); have k11 : u.cell? ⟨w.heap.size + 1, 1, none⟩ = some (.int .i64 0) := kept hb (by first | (simp [*]; done) | (simp [World.cell?_alloc_lt]; done)); have f11 : u.frozen? ⟨w.heap.size + 1, 1, none⟩ = false := (by rw [hb.frozen (p := ⟨w.heap.size + 1, 1, none⟩) (by first | assumption | (simp; done) | (simp; omega))]; first | (simp; done) | (simp [*]; done)); have hw : Below w.heap.size w u := below_tr hb (by (repeat (first | assumption | exact Below.refl _ _ | refine Below.alloc ?_ (by first | (simp; done) | (simp; omega) | omega) _ | refine Below.setCell ?_ (by first | (simp; done) | (simp; omega) | omega) _ | apply Below.drew | refine below_tr (by assumption) ?_))); have hz : w.heap.size < u.heap.size := World.block_lt_of_cell? _ _ k00; have hz1 : w.heap.size + 1 < u.heap.size := World.block_lt_of_cell? _ _ k10; clear hb))
  exact bodyPost_ret (v := _) (by simp [results, Tryd.results28, go_sem, *]) rfl ⟨rfl, by (repeat (first | assumption | exact Below.refl _ _ | refine Below.alloc ?_ (by first | (simp; done) | (simp; omega) | omega) _ | refine Below.setCell ?_ (by first | (simp; done) | (simp; omega) | omega) _ | apply Below.drew | refine below_tr (by assumption) ?_))⟩

set_option maxHeartbeats 1000000 in
theorem age_out (a b n p : Int) (w : World) (k : okB a b = true) (h : rdy n p = true) (k2 : okB (a - ((n * p + 1000000 - 1) / 1000000)) (b + ((n * p + 1000000 - 1) / 1000000)) = false) :
    Calls Tryd.prog 28 #[.agg #[.int .i64 a, .int .i64 b], .int .i64 n, .int .i64 p] w fun e w' => e = .returned (.tuple #[.agg #[.int .i64 0, .int .i64 0], .iface 54 (.int .i64 1)]) ∧ Below w.heap.size w w' := by
  have q := rdy_t h
  obtain ⟨h1, h2, h3, h4⟩ := q
  obtain ⟨b1, b2⟩ := np_b h1 h2 h3 h4
  go_enter Tryd.func28, Tryd.ntmps28
  go_wp2_with (first | (go_at_call 8; refine (check_ok _ _ _ (by assumption)).mono ?_; rintro e u ⟨rfl, hb⟩; have k00 : u.cell? ⟨w.heap.size, 0, none⟩ = some (.int .i64 a) := kept hb (by first | (simp [*]; done) | (simp [World.cell?_alloc_lt]; done)); have f00 : u.frozen? ⟨w.heap.size, 0, none⟩ = false := (by rw [hb.frozen (p := ⟨w.heap.size, 0, none⟩) (by first | assumption | (simp; done) | (simp; omega))]; first | (simp; done) | (simp [*]; done)); have k01 : u.cell? ⟨w.heap.size, 1, none⟩ = some (.int .i64 b) := kept hb (by first | (simp [*]; done) | (simp [World.cell?_alloc_lt]; done)); have f01 : u.frozen? ⟨w.heap.size, 1, none⟩ = false := (by rw [hb.frozen (p := ⟨w.heap.size, 1, none⟩) (by first | assumption | (simp; done) | (simp; omega))]; first | (simp; done) | (simp [*]; done)); have k10 : u.cell? ⟨w.heap.size + 1, 0, none⟩ = some (.int .i64 0) := kept hb (by first | (simp [*]; done) | (simp [World.cell?_alloc_lt]; done)); have f10 : u.frozen? ⟨w.heap.size + 1, 0, none⟩ = false := (by rw [hb.frozen (p := ⟨w.heap.size + 1, 0, none⟩) (by first | assumption | (simp; done) | (simp; omega))]; first | (simp; done) | (simp [*]; done)); have k11 : u.cell? ⟨w.heap.size + 1, 1, none⟩ = some (.int .i64 0) := kept hb (by first | (simp [*]; done) | (simp [World.cell?_alloc_lt]; done)); have f11 : u.frozen? ⟨w.heap.size + 1, 1, none⟩ = false := (by rw [hb.frozen (p := ⟨w.heap.size + 1, 1, none⟩) (by first | assumption | (simp; done) | (simp; omega))]; first | (simp; done) | (simp [*]; done)); have hw : Below w.heap.size w u := below_tr hb (by (repeat (first | assumption | exact Below.refl _ _ | refine Below.alloc ?_ (by first | (simp; done) | (simp; omega) | omega) _ | refine Below.setCell ?_ (by first | (simp; done) | (simp; omega) | omega) _ | apply Below.drew | refine below_tr (by assumption) ?_))); have hz : w.heap.size < u.heap.size := World.block_lt_of_cell? _ _ k00; have hz1 : w.heap.size + 1 < u.heap.size := World.block_lt_of_cell? _ _ k10; clear hb) | (go_at_call 25; refine (grow_ok _ _ _ (by assumption)).mono ?_; rintro e u ⟨rfl, hb⟩; have k00 : u.cell? ⟨w.heap.size, 0, none⟩ = some (.int .i64 a) := kept hb (by first | (simp [*]; done) | (simp [World.cell?_alloc_lt]; done)); have f00 : u.frozen? ⟨w.heap.size, 0, none⟩ = false := (by rw [hb.frozen (p := ⟨w.heap.size, 0, none⟩) (by first | assumption | (simp; done) | (simp; omega))]; first | (simp; done) | (simp [*]; done)); have k01 : u.cell? ⟨w.heap.size, 1, none⟩ = some (.int .i64 b) := kept hb (by first | (simp [*]; done) | (simp [World.cell?_alloc_lt]; done)); have f01 : u.frozen? ⟨w.heap.size, 1, none⟩ = false := (by rw [hb.frozen (p := ⟨w.heap.size, 1, none⟩) (by first | assumption | (simp; done) | (simp; omega))]; first | (simp; done) | (simp [*]; done)); have k10 : u.cell? ⟨w.heap.size + 1, 0, none⟩ = some (.int .i64 0) := kept hb (by first | (simp [*]; done) | (simp [World.cell?_alloc_lt]; done)); have f10 : u.frozen? ⟨w.heap.size + 1, 0, none⟩ = false := (by rw [hb.frozen (p := ⟨w.heap.size + 1, 0, none⟩) (by first | assumption | (simp; done) | (simp; omega))]; first | (simp; done) | (simp [*]; done)); have k11 : u.cell? ⟨w.heap.size + 1, 1, none⟩ = some (.int .i64 0) := kept hb (by first | (simp [*]; done) | (simp [World.cell?_alloc_lt]; done)); have f11 : u.frozen? ⟨w.heap.size + 1, 1, none⟩ = false := (by rw [hb.frozen (p := ⟨w.heap.size + 1, 1, none⟩) (by first | assumption | (simp; done) | (simp; omega))]; first | (simp; done) | (simp [*]; done)); have hw : Below w.heap.size w u := below_tr hb (by (repeat (first | assumption | exact Below.refl _ _ | refine Below.alloc ?_ (by first | (simp; done) | (simp; omega) | omega) _ | refine Below.setCell ?_ (by first | (simp; done) | (simp; omega) | omega) _ | apply Below.drew | refine below_tr (by assumption) ?_))); have hz : w.heap.size < u.heap.size := World.block_lt_of_cell? _ _ k00; have hz1 : w.heap.size + 1 < u.heap.size := World.block_lt_of_cell? _ _ k10; clear hb) | (go_at_call 13; refine (widen_out a b ((n * p + 1000000 - 1) / 1000000) _ (by assumption) (by omega) (by omega) (by assumption)).mono ?_; rintro e u ⟨rfl, hb⟩; have k00 : u.cell? ⟨w.heap.size, 0, none⟩ = some (.int .i64 a) := kept hb (by first | (simp [*]; done) | (simp [World.cell?_alloc_lt]; done)); have f00 : u.frozen? ⟨w.heap.size, 0, none⟩ = false := (by rw [hb.frozen (p := ⟨w.heap.size, 0, none⟩) (by first | assumption | (simp; done) | (simp; omega))]; first | (simp; done) | (simp [*]; done)); have k01 : u.cell? ⟨w.heap.size, 1, none⟩ = some (.int .i64 b) := kept hb (by first | (simp [*]; done) | (simp [World.cell?_alloc_lt]; done)); have f01 : u.frozen? ⟨w.heap.size, 1, none⟩ = false := (by rw [hb.frozen (p := ⟨w.heap.size, 1, none⟩) (by first | assumption | (simp; done) | (simp; omega))]; first | (simp; done) | (simp [*]; done)); have k10 : u.cell? ⟨w.heap.size + 1, 0, none⟩ = some (.int .i64 0) := kept hb (by first | (simp [*]; done) | (simp [World.cell?_alloc_lt]; done)); have f10 : u.frozen? ⟨w.heap.size + 1, 0, none⟩ = false := (by rw [hb.frozen (p := ⟨w.heap.size + 1, 0, none⟩) (by first | assumption | (simp; done) | (simp; omega))]; first | (simp; done) | (simp [*]; done)); have k11 : u.cell? ⟨w.heap.size + 1, 1, none⟩ = some (.int .i64 0) := kept hb (by first | (simp [*]; done) | (simp [World.cell?_alloc_lt]; done)); have f11 : u.frozen? ⟨w.heap.size + 1, 1, none⟩ = false := (by rw [hb.frozen (p := ⟨w.heap.size + 1, 1, none⟩) (by first | assumption | (simp; done) | (simp; omega))]; first | (simp; done) | (simp [*]; done)); have hw : Below w.heap.size w u := below_tr hb (by (repeat (first | assumption | exact Below.refl _ _ | refine Below.alloc ?_ (by first | (simp; done) | (simp; omega) | omega) _ | refine Below.setCell ?_ (by first | (simp; done) | (simp; omega) | omega) _ | apply Below.drew | refine below_tr (by assumption) ?_))); have hz : w.heap.size < u.heap.size := World.block_lt_of_cell? _ _ k00; have hz1 : w.heap.size + 1 < u.heap.size := World.block_lt_of_cell? _ _ k10; clear hb))
  exact bodyPost_ret (v := _) (by simp [results, Tryd.results28, go_sem, *]) rfl ⟨rfl, by (repeat (first | assumption | exact Below.refl _ _ | refine Below.alloc ?_ (by first | (simp; done) | (simp; omega) | omega) _ | refine Below.setCell ?_ (by first | (simp; done) | (simp; omega) | omega) _ | apply Below.drew | refine below_tr (by assumption) ?_))⟩

end Go.Proofs.YtdhgfdbghfefnaaDoor
