/- The ways through the law WaitMore. -/
import Derived.Test.YthhhlfbifcnmpagWaitDefW
import Derived.Lib.SmallJoins
namespace Go.Proofs.Ythhhlfbifcnmpag.waitMore
open Go.ChangeShapes Go.WideShapes Go.ChangeAt Go.RowKit Go.Joins
set_option linter.unusedVariables false
set_option linter.unusedSimpArgs false

theorem fact : waN 10 20 19 0 = 10 ∧ waE 10 20 19 0 = 0 := by decide
set_option maxRecDepth 100000 in
set_option maxHeartbeats 8000000 in
theorem ways (lo hi t u a b x y e f : Int) (w : World) (C : WtW w) (wl : In64 lo) (wh : In64 hi) (wt : In64 t) (wu : In64 u) (wa : In64 a) (wb : In64 b) (hx : waN lo hi t a = x) (hy : waN lo hi u b = y) (he : waE lo hi t a = e) (hf : waE lo hi u b = f)
    (h : (e = 1) ∨ (e = 0 ∧ f = 1) ∨ (e = 0 ∧ f = 0 ∧ u < t) ∨ (e = 0 ∧ f = 0 ∧ ¬ u < t ∧ b < a) ∨ (e = 0 ∧ f = 0 ∧ ¬ u < t ∧ ¬ b < a ∧ x ≤ y)) :
    Calls Try.prog 3 #[.agg #[.int .i64 lo, .int .i64 hi], .int .i64 t, .int .i64 u, .int .i64 a, .int .i64 b] w fun o w' => o = .returned (.bool true) ∧ Below w.heap.size w w' := by
  have c0 := fun v hv => C.wait 10 20 19 0 v hv (by decide) (by decide) (by decide) (by decide)
  rw [fact.1, fact.2, errc_zero] at c0
  have c1 := fun v hv => C.wait lo hi t a v hv wl wh wt wa
  have c2 := fun v hv => C.wait lo hi u b v hv wl wh wu wb
  rw [hx, he] at c1
  rw [hy, hf] at c2
  clear hx hy he hf wl wh wt wu wa wb
  have hf2 : errc 1 = .iface 31 (.int .i64 1) := errc_not (by decide)
  have cnt : Mark 0 := .mk _
  rcases h with rfl | ⟨rfl, rfl⟩ | ⟨rfl, rfl, d1⟩ | ⟨rfl, rfl, d1, d2⟩ | ⟨rfl, rfl, d1, d2, d3⟩
  all_goals
    (try rw [hf2] at c1)
    (try rw [hf2] at c2)
    (try rw [errc_zero] at c1)
    (try rw [errc_zero] at c2)
    clear hf2
    go_enter Try.func3, Try.ntmps3
    go_wp2_with (first
      | (go_at_call 4; have cq : Mark 0 := cnt; refine (c0 _ (rbel_al (Below.refl _ _))).mono ?_; clear cq cnt; have cnt : Mark 1 := .mk _; rintro o x1 ⟨rfl, hb⟩; have X1 : Hid (Row x1 w.heap.size [.int .i64 lo, .int .i64 hi]) := Row.on hb (Row.made (W := w) (vs := [.int .i64 lo, .int .i64 hi]) rfl); have B1 : Hid (Below w.heap.size w x1) := rbel_on hb (rbel_al (Below.refl _ _)); have r0 := X1.out.c 0 _ rfl; have r1 := X1.out.c 1 _ rfl; clear hb)
      | (go_at_call 4; have cq : Mark 1 := cnt; refine (c1 _ B1.out).mono ?_; clear cq cnt; have cnt : Mark 2 := .mk _; rintro o x2 ⟨rfl, hb⟩; have X2 : Hid (Row x2 w.heap.size [.int .i64 lo, .int .i64 hi]) := Row.on hb X1.out; have B2 : Hid (Below w.heap.size w x2) := rbel_on hb B1.out; have r2 := X2.out.c 0 _ rfl; have r3 := X2.out.c 1 _ rfl; clear hb)
      | (go_at_call 4; have cq : Mark 2 := cnt; refine (c2 _ B2.out).mono ?_; clear cq cnt; rintro o x3 ⟨rfl, hb⟩; have B3 : Hid (Below w.heap.size w x3) := rbel_on hb B2.out; clear hb))
    go_ret
    exact ⟨by simp [*], B3.out⟩
theorem all_ways (lo hi t u a b : Int) (w : World) (C : WtW w) (wl : In64 lo) (wh : In64 hi) (wt : In64 t) (wu : In64 u) (wa : In64 a) (wb : In64 b) :
    Calls Try.prog 3 #[.agg #[.int .i64 lo, .int .i64 hi], .int .i64 t, .int .i64 u, .int .i64 a, .int .i64 b] w fun o w' => o = .returned (.bool true) ∧ Below w.heap.size w w' := by
  refine ways lo hi t u a b _ _ _ _ w C wl wh wt wu wa wb rfl rfl rfl rfl ?_
  by_cases h : waE lo hi t a = 0
  · by_cases g : waE lo hi u b = 0
    · by_cases d1 : u < t
      · exact Or.inr (Or.inr (Or.inl ⟨h, g, d1⟩))
      · by_cases d2 : b < a
        · exact Or.inr (Or.inr (Or.inr (Or.inl ⟨h, g, d1, d2⟩)))
        · exact Or.inr (Or.inr (Or.inr (Or.inr ⟨h, g, d1, d2, wait_more h g (by omega) (by omega)⟩)))
    · exact Or.inr (Or.inl ⟨h, wa_one g⟩)
  · exact Or.inl (wa_one h)
end Go.Proofs.Ythhhlfbifcnmpag.waitMore
