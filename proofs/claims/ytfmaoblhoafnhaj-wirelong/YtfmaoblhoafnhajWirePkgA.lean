/- What package wire answers: isNode, isTime, Check. -/
import Derived.Test.YtfmaoblhoafnhajNm03
import Derived.Lib.SmallJoins
import Derived.BigQuiet
import Derived.IntWalk
import Derived.Deep.CutRange
import Derived.Deep.CutBlock
namespace Go.Proofs.Ytfmaoblhoafnhaj
open Go.ChangeShapes Go.WideShapes Go.ChangeAt Go.RowKit Go.Joins
set_option linter.unusedVariables false
set_option linter.unusedSimpArgs false

theorem wnode_t {a : Int} (h1 : 0 ≤ a) (h2 : a < 6) (u : World) : Calls Try.prog 30 #[.int .i64 a] u fun o w' => o = .returned (.bool true) ∧ w' = u := by
  go_enter Try.func30, Try.ntmps30
  go_wp2
  go_ret
  exact ⟨rfl, rfl⟩
theorem wnode_f {a : Int} (h : a < 0 ∨ 6 ≤ a) (u : World) : Calls Try.prog 30 #[.int .i64 a] u fun o w' => o = .returned (.bool false) ∧ w' = u := by
  by_cases h1 : 0 ≤ a
  · have h3 : decide (a < 6) = false := decide_eq_false (by omega)
    have h4 : ¬ (a < 6) := by omega
    clear h
    go_enter Try.func30, Try.ntmps30
    go_wp2
    go_ret
    exact ⟨rfl, rfl⟩
  · have h3 : decide (0 ≤ a) = false := decide_eq_false h1
    clear h1 h
    go_enter Try.func30, Try.ntmps30
    go_wp2
    go_ret
    exact ⟨rfl, rfl⟩
theorem wtime_t {a : Int} (h1 : 0 ≤ a) (h2 : a ≤ 1000000000000) (u : World) : Calls Try.prog 31 #[.int .i64 a] u fun o w' => o = .returned (.bool true) ∧ w' = u := by
  go_enter Try.func31, Try.ntmps31
  go_wp2
  go_ret
  exact ⟨rfl, rfl⟩
theorem wtime_f {a : Int} (h : a < 0 ∨ 1000000000000 < a) (u : World) : Calls Try.prog 31 #[.int .i64 a] u fun o w' => o = .returned (.bool false) ∧ w' = u := by
  by_cases h1 : 0 ≤ a
  · have h3 : decide (a ≤ 1000000000000) = false := decide_eq_false (by omega)
    have h4 : ¬ (a ≤ 1000000000000) := by omega
    clear h
    go_enter Try.func31, Try.ntmps31
    go_wp2
    go_ret
    exact ⟨rfl, rfl⟩
  · have h3 : decide (0 ≤ a) = false := decide_eq_false h1
    clear h1 h
    go_enter Try.func31, Try.ntmps31
    go_wp2
    go_ret
    exact ⟨rfl, rfl⟩
set_option maxRecDepth 100000 in
set_option maxHeartbeats 4000000 in
theorem wcheck_no0 (l1 l2 : Int) (l3 : Bool) (l4 l5 l6 : Int)  (c0 : ∀ u, Calls Try.prog 30 #[.int .i64 l1] u fun o w' => o = .returned (.bool false) ∧ w' = u) (u : World) : Calls Try.prog 15 #[.agg #[.int .i64 l1, .int .i64 l2, .bool l3, .int .i64 l4, .int .i64 l5, .int .i64 l6]] u fun o w' => o = .returned (errc 1) ∧ Below u.heap.size u w' := by
  rw [errc_not (e := 1) (by decide)]
  have cnt : Mark 0 := .mk _
  go_enter Try.func15, Try.ntmps15
  go_wp2_with (first | (have cm : Mark 0 := cnt; go_at_call 30; clear cm cnt; refine (c0 _).mono ?_; have cnt : Mark 1 := .mk _; rintro o w0 ⟨rfl, hu⟩; rw [hu]; clear hu))
  go_ret
  exact ⟨rfl, rbel_al (Below.refl _ _)⟩
set_option maxRecDepth 100000 in
set_option maxHeartbeats 4000000 in
theorem wcheck_no1 (l1 l2 : Int) (l3 : Bool) (l4 l5 l6 : Int) (c0 : ∀ u, Calls Try.prog 30 #[.int .i64 l1] u fun o w' => o = .returned (.bool true) ∧ w' = u) (c1 : ∀ u, Calls Try.prog 30 #[.int .i64 l2] u fun o w' => o = .returned (.bool false) ∧ w' = u) (u : World) : Calls Try.prog 15 #[.agg #[.int .i64 l1, .int .i64 l2, .bool l3, .int .i64 l4, .int .i64 l5, .int .i64 l6]] u fun o w' => o = .returned (errc 1) ∧ Below u.heap.size u w' := by
  rw [errc_not (e := 1) (by decide)]
  have cnt : Mark 0 := .mk _
  go_enter Try.func15, Try.ntmps15
  go_wp2_with (first | (have cm : Mark 0 := cnt; go_at_call 30; clear cm cnt; refine (c0 _).mono ?_; have cnt : Mark 1 := .mk _; rintro o w0 ⟨rfl, hu⟩; rw [hu]; clear hu) | (have cm : Mark 1 := cnt; go_at_call 30; clear cm cnt; refine (c1 _).mono ?_; have cnt : Mark 2 := .mk _; rintro o w1 ⟨rfl, hu⟩; rw [hu]; clear hu))
  go_ret
  exact ⟨rfl, rbel_al (Below.refl _ _)⟩
set_option maxRecDepth 100000 in
set_option maxHeartbeats 4000000 in
theorem wcheck_no2 (l1 l2 : Int) (l3 : Bool) (l4 l5 l6 : Int) (c0 : ∀ u, Calls Try.prog 30 #[.int .i64 l1] u fun o w' => o = .returned (.bool true) ∧ w' = u) (c1 : ∀ u, Calls Try.prog 30 #[.int .i64 l2] u fun o w' => o = .returned (.bool true) ∧ w' = u) (c2 : ∀ u, Calls Try.prog 31 #[.int .i64 l6] u fun o w' => o = .returned (.bool false) ∧ w' = u) (u : World) : Calls Try.prog 15 #[.agg #[.int .i64 l1, .int .i64 l2, .bool l3, .int .i64 l4, .int .i64 l5, .int .i64 l6]] u fun o w' => o = .returned (errc 1) ∧ Below u.heap.size u w' := by
  rw [errc_not (e := 1) (by decide)]
  have cnt : Mark 0 := .mk _
  go_enter Try.func15, Try.ntmps15
  go_wp2_with (first | (have cm : Mark 0 := cnt; go_at_call 30; clear cm cnt; refine (c0 _).mono ?_; have cnt : Mark 1 := .mk _; rintro o w0 ⟨rfl, hu⟩; rw [hu]; clear hu) | (have cm : Mark 1 := cnt; go_at_call 30; clear cm cnt; refine (c1 _).mono ?_; have cnt : Mark 2 := .mk _; rintro o w1 ⟨rfl, hu⟩; rw [hu]; clear hu) | (have cm : Mark 2 := cnt; go_at_call 31; clear cm cnt; refine (c2 _).mono ?_; have cnt : Mark 3 := .mk _; rintro o w2 ⟨rfl, hu⟩; rw [hu]; clear hu))
  go_ret
  exact ⟨rfl, rbel_al (Below.refl _ _)⟩
set_option maxRecDepth 100000 in
set_option maxHeartbeats 4000000 in
theorem wcheck_no3 (l1 l2 : Int) (l3 : Bool) (l4 l5 l6 : Int) (c0 : ∀ u, Calls Try.prog 30 #[.int .i64 l1] u fun o w' => o = .returned (.bool true) ∧ w' = u) (c1 : ∀ u, Calls Try.prog 30 #[.int .i64 l2] u fun o w' => o = .returned (.bool true) ∧ w' = u) (c2 : ∀ u, Calls Try.prog 31 #[.int .i64 l6] u fun o w' => o = .returned (.bool true) ∧ w' = u) (c3 : ∀ u, Calls Try.prog 31 #[.int .i64 l4] u fun o w' => o = .returned (.bool false) ∧ w' = u) (u : World) : Calls Try.prog 15 #[.agg #[.int .i64 l1, .int .i64 l2, .bool l3, .int .i64 l4, .int .i64 l5, .int .i64 l6]] u fun o w' => o = .returned (errc 1) ∧ Below u.heap.size u w' := by
  rw [errc_not (e := 1) (by decide)]
  have cnt : Mark 0 := .mk _
  go_enter Try.func15, Try.ntmps15
  go_wp2_with (first | (have cm : Mark 0 := cnt; go_at_call 30; clear cm cnt; refine (c0 _).mono ?_; have cnt : Mark 1 := .mk _; rintro o w0 ⟨rfl, hu⟩; rw [hu]; clear hu) | (have cm : Mark 1 := cnt; go_at_call 30; clear cm cnt; refine (c1 _).mono ?_; have cnt : Mark 2 := .mk _; rintro o w1 ⟨rfl, hu⟩; rw [hu]; clear hu) | (have cm : Mark 2 := cnt; go_at_call 31; clear cm cnt; refine (c2 _).mono ?_; have cnt : Mark 3 := .mk _; rintro o w2 ⟨rfl, hu⟩; rw [hu]; clear hu) | (have cm : Mark 3 := cnt; go_at_call 31; clear cm cnt; refine (c3 _).mono ?_; have cnt : Mark 4 := .mk _; rintro o w3 ⟨rfl, hu⟩; rw [hu]; clear hu))
  go_ret
  exact ⟨rfl, rbel_al (Below.refl _ _)⟩
set_option maxRecDepth 100000 in
set_option maxHeartbeats 4000000 in
theorem wcheck_no4 (l1 l2 : Int) (l3 : Bool) (l4 l5 l6 : Int) (c0 : ∀ u, Calls Try.prog 30 #[.int .i64 l1] u fun o w' => o = .returned (.bool true) ∧ w' = u) (c1 : ∀ u, Calls Try.prog 30 #[.int .i64 l2] u fun o w' => o = .returned (.bool true) ∧ w' = u) (c2 : ∀ u, Calls Try.prog 31 #[.int .i64 l6] u fun o w' => o = .returned (.bool true) ∧ w' = u) (c3 : ∀ u, Calls Try.prog 31 #[.int .i64 l4] u fun o w' => o = .returned (.bool true) ∧ w' = u) (c4 : ∀ u, Calls Try.prog 31 #[.int .i64 l5] u fun o w' => o = .returned (.bool false) ∧ w' = u) (u : World) : Calls Try.prog 15 #[.agg #[.int .i64 l1, .int .i64 l2, .bool l3, .int .i64 l4, .int .i64 l5, .int .i64 l6]] u fun o w' => o = .returned (errc 1) ∧ Below u.heap.size u w' := by
  rw [errc_not (e := 1) (by decide)]
  have cnt : Mark 0 := .mk _
  go_enter Try.func15, Try.ntmps15
  go_wp2_with (first | (have cm : Mark 0 := cnt; go_at_call 30; clear cm cnt; refine (c0 _).mono ?_; have cnt : Mark 1 := .mk _; rintro o w0 ⟨rfl, hu⟩; rw [hu]; clear hu) | (have cm : Mark 1 := cnt; go_at_call 30; clear cm cnt; refine (c1 _).mono ?_; have cnt : Mark 2 := .mk _; rintro o w1 ⟨rfl, hu⟩; rw [hu]; clear hu) | (have cm : Mark 2 := cnt; go_at_call 31; clear cm cnt; refine (c2 _).mono ?_; have cnt : Mark 3 := .mk _; rintro o w2 ⟨rfl, hu⟩; rw [hu]; clear hu) | (have cm : Mark 3 := cnt; go_at_call 31; clear cm cnt; refine (c3 _).mono ?_; have cnt : Mark 4 := .mk _; rintro o w3 ⟨rfl, hu⟩; rw [hu]; clear hu) | (have cm : Mark 4 := cnt; go_at_call 31; clear cm cnt; refine (c4 _).mono ?_; have cnt : Mark 5 := .mk _; rintro o w4 ⟨rfl, hu⟩; rw [hu]; clear hu))
  go_ret
  exact ⟨rfl, rbel_al (Below.refl _ _)⟩
set_option maxRecDepth 100000 in
set_option maxHeartbeats 4000000 in
theorem wcheck_yes (l1 l2 : Int) (l3 : Bool) (l4 l5 l6 : Int) (c0 : ∀ u, Calls Try.prog 30 #[.int .i64 l1] u fun o w' => o = .returned (.bool true) ∧ w' = u) (c1 : ∀ u, Calls Try.prog 30 #[.int .i64 l2] u fun o w' => o = .returned (.bool true) ∧ w' = u) (c2 : ∀ u, Calls Try.prog 31 #[.int .i64 l6] u fun o w' => o = .returned (.bool true) ∧ w' = u) (c3 : ∀ u, Calls Try.prog 31 #[.int .i64 l4] u fun o w' => o = .returned (.bool true) ∧ w' = u) (c4 : ∀ u, Calls Try.prog 31 #[.int .i64 l5] u fun o w' => o = .returned (.bool true) ∧ w' = u) (u : World) (e : Value) (he : (l1 = l2 ∧ e = .iface 73 (.int .i64 3)) ∨ (l1 ≠ l2 ∧ l3 = true ∧ e = .nilIface) ∨ (l1 ≠ l2 ∧ l3 = false ∧ l4 ≠ 0 ∧ e = .iface 73 (.int .i64 3)) ∨ (l1 ≠ l2 ∧ l3 = false ∧ l4 = 0 ∧ l5 ≠ 0 ∧ e = .iface 73 (.int .i64 3)) ∨ (l1 ≠ l2 ∧ l3 = false ∧ l4 = 0 ∧ l5 = 0 ∧ e = .nilIface)) : Calls Try.prog 15 #[.agg #[.int .i64 l1, .int .i64 l2, .bool l3, .int .i64 l4, .int .i64 l5, .int .i64 l6]] u fun o w' => o = .returned e ∧ Below u.heap.size u w' := by
  have cnt : Mark 0 := .mk _
  go_enter Try.func15, Try.ntmps15
  go_upto_region 3 with (first | (have cm : Mark 0 := cnt; go_at_call 30; clear cm cnt; refine (c0 _).mono ?_; have cnt : Mark 1 := .mk _; rintro o w0 ⟨rfl, hu⟩; rw [hu]; clear hu) | (have cm : Mark 1 := cnt; go_at_call 30; clear cm cnt; refine (c1 _).mono ?_; have cnt : Mark 2 := .mk _; rintro o w1 ⟨rfl, hu⟩; rw [hu]; clear hu) | (have cm : Mark 2 := cnt; go_at_call 31; clear cm cnt; refine (c2 _).mono ?_; have cnt : Mark 3 := .mk _; rintro o w2 ⟨rfl, hu⟩; rw [hu]; clear hu) | (have cm : Mark 3 := cnt; go_at_call 31; clear cm cnt; refine (c3 _).mono ?_; have cnt : Mark 4 := .mk _; rintro o w3 ⟨rfl, hu⟩; rw [hu]; clear hu) | (have cm : Mark 4 := cnt; go_at_call 31; clear cm cnt; refine (c4 _).mono ?_; have cnt : Mark 5 := .mk _; rintro o w4 ⟨rfl, hu⟩; rw [hu]; clear hu))
  clear c0 c1 c2 c3 c4
  rcases he with ⟨q, rfl⟩ | ⟨q, rfl, rfl⟩ | ⟨q, rfl, p, rfl⟩ | ⟨q, rfl, rfl, p, rfl⟩ | ⟨q, rfl, rfl, rfl, rfl⟩
  · have dq : (l1 == l2) = true := by simpa using q
    go_wp2
    go_ret
    exact ⟨rfl, rbel_al (Below.refl _ _)⟩
  · have dq : (l1 == l2) = false := by simpa using q
    go_wp2
    go_ret
    exact ⟨rfl, rbel_al (Below.refl _ _)⟩
  · have dq : (l1 == l2) = false := by simpa using q
    have dp : (l4 != 0) = true := by simpa using p
    clear p
    go_wp2
    go_ret
    exact ⟨rfl, rbel_al (Below.refl _ _)⟩
  · have dq : (l1 == l2) = false := by simpa using q
    have dp : (l5 != 0) = true := by simpa using p
    clear p
    go_wp2
    go_ret
    exact ⟨rfl, rbel_al (Below.refl _ _)⟩
  · have dq : (l1 == l2) = false := by simpa using q
    go_wp2
    go_ret
    exact ⟨rfl, rbel_al (Below.refl _ _)⟩
theorem wcheck_any (l : Lt) (u : World) : Calls Try.prog 15 #[ltv l] u fun o w' => o = .returned (errc (ltE l)) ∧ Below u.heap.size u w' := by
  obtain ⟨l1, l2, l3, l4, l5, l6⟩ := l
  unfold ltv
  unfold ltE
  simp only
  by_cases h0 : l1 < 0 ∨ 6 ≤ l1
  · rw [if_pos (by omega)]
    exact wcheck_no0 l1 l2 l3 l4 l5 l6  (wnode_f h0) u
  have c0 := fun u => wnode_t (a := l1) (by omega) (by omega) u
  by_cases h1 : l2 < 0 ∨ 6 ≤ l2
  · rw [if_pos (by omega)]
    exact wcheck_no1 l1 l2 l3 l4 l5 l6 c0 (wnode_f h1) u
  have c1 := fun u => wnode_t (a := l2) (by omega) (by omega) u
  by_cases h2 : l6 < 0 ∨ 1000000000000 < l6
  · rw [if_pos (by omega)]
    exact wcheck_no2 l1 l2 l3 l4 l5 l6 c0 c1 (wtime_f h2) u
  have c2 := fun u => wtime_t (a := l6) (by omega) (by omega) u
  by_cases h3 : l4 < 0 ∨ 1000000000000 < l4
  · rw [if_pos (by omega)]
    exact wcheck_no3 l1 l2 l3 l4 l5 l6 c0 c1 c2 (wtime_f h3) u
  have c3 := fun u => wtime_t (a := l4) (by omega) (by omega) u
  by_cases h4 : l5 < 0 ∨ 1000000000000 < l5
  · rw [if_pos (by omega)]
    exact wcheck_no4 l1 l2 l3 l4 l5 l6 c0 c1 c2 c3 (wtime_f h4) u
  have c4 := fun u => wtime_t (a := l5) (by omega) (by omega) u
  rw [if_neg (by omega)]
  by_cases q : l1 = l2
  · rw [if_pos (Or.inl q)]
    exact wcheck_yes l1 l2 l3 l4 l5 l6 c0 c1 c2 c3 c4 u (errc 3) (Or.inl ⟨q, rfl⟩)
  cases l3 with
  | true =>
    rw [if_neg (by rintro (h | ⟨h, _⟩); exact q h; cases h)]
    exact wcheck_yes l1 l2 true l4 l5 l6 c0 c1 c2 c3 c4 u (errc 0) (Or.inr (Or.inl ⟨q, rfl, rfl⟩))
  | false =>
    by_cases p : l4 = 0
    · by_cases r : l5 = 0
      · rw [if_neg (by rintro (h | ⟨_, h | h⟩); exact q h; exact h p; exact h r)]
        exact wcheck_yes l1 l2 false l4 l5 l6 c0 c1 c2 c3 c4 u (errc 0) (Or.inr (Or.inr (Or.inr (Or.inr ⟨q, rfl, p, r, rfl⟩))))
      · rw [if_pos (Or.inr ⟨rfl, Or.inr r⟩)]
        exact wcheck_yes l1 l2 false l4 l5 l6 c0 c1 c2 c3 c4 u (errc 3) (Or.inr (Or.inr (Or.inr (Or.inl ⟨q, rfl, p, r, rfl⟩))))
    · rw [if_pos (Or.inr ⟨rfl, Or.inl p⟩)]
      exact wcheck_yes l1 l2 false l4 l5 l6 c0 c1 c2 c3 c4 u (errc 3) (Or.inr (Or.inr (Or.inl ⟨q, rfl, p, rfl⟩)))
end Go.Proofs.Ytfmaoblhoafnhaj
