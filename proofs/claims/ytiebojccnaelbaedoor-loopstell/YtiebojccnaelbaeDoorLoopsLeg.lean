/- What package loops says of steps: legOf, isStep, goesRound. -/
import Derived.Test.YtiebojccnaelbaeDoorLoopsBf
import Derived.Test.YtiebojccnaelbaeDoorBoundsRow
import Derived.Lib.SmallJoins
import Derived.Deep.CutRange
import Derived.BigRegion
import Derived.BigQuiet
import Derived.Deep.QuietTactic
import Derived.IntWalk
namespace Go.Proofs.YtiebojccnaelbaeDoor
open Go.ChangeShapes Go.WideShapes Go.ChangeAt Go.RowKit Go.Joins
set_option linter.unusedVariables false
set_option linter.unusedSimpArgs false

abbrev lgv (a b c : Int) : Value := .agg #[.int .i64 a, .int .i64 b, .int .i64 c]
set_option maxRecDepth 100000 in
set_option maxHeartbeats 4000000 in
theorem legOf_along (b off m cap j : Nat) (qa qb ql qh : Int) (w : World) (hj : j < m) (h40 : m ≤ 40)
    (x0 : w.cell? ⟨b, off + j * 4, none⟩ = some (.int .i64 qa)) (x1 : w.cell? ⟨b, off + j * 4 + 1, none⟩ = some (.int .i64 qb)) (x2 : w.cell? ⟨b, off + j * 4 + 2, none⟩ = some (.int .i64 ql)) (x3 : w.cell? ⟨b, off + j * 4 + 3, none⟩ = some (.int .i64 qh)) :
    Calls Tryd.prog 18 #[.slice (some ⟨b, off, none⟩) m cap, .int .i64 ((j : Int) + 1)] w fun e w' => e = .returned (lgv qa qb qh) ∧ Below w.heap.size w w' := by
  have hbz : b < w.heap.size := World.block_lt_of_cell? _ _ x0
  have hl3 : (j : Int) < m := by omega
  have wj : IntKind.i64.wrap ((j : Int) + 1 - 1) = (j : Int) := by rw [show (j : Int) + 1 - 1 = j by omega]; exact IntWalk.i64_in _ (by omega)
  have hp : (0 : Int) < (j : Int) + 1 := by omega
  go_enter Tryd.func18, Tryd.ntmps18
  go_wp2
  exact bodyPost_ret (v := lgv qa qb qh) (by simp [results, Tryd.results18, go_sem, *]) rfl ⟨rfl, rbel_al (rbel_al (Below.refl _ _))⟩
set_option maxRecDepth 100000 in
set_option maxHeartbeats 4000000 in
theorem legOf_back (b off m cap j : Nat) (qa qb ql qh : Int) (w : World) (hj : j < m) (h40 : m ≤ 40) (hl : -1000000000000 ≤ ql) (hl' : ql ≤ 1000000000000)
    (x0 : w.cell? ⟨b, off + j * 4, none⟩ = some (.int .i64 qa)) (x1 : w.cell? ⟨b, off + j * 4 + 1, none⟩ = some (.int .i64 qb)) (x2 : w.cell? ⟨b, off + j * 4 + 2, none⟩ = some (.int .i64 ql)) (x3 : w.cell? ⟨b, off + j * 4 + 3, none⟩ = some (.int .i64 qh)) :
    Calls Tryd.prog 18 #[.slice (some ⟨b, off, none⟩) m cap, .int .i64 (-((j : Int) + 1))] w fun e w' => e = .returned (lgv qb qa (-ql)) ∧ Below w.heap.size w w' := by
  have hbz : b < w.heap.size := World.block_lt_of_cell? _ _ x0
  have hl3 : (j : Int) < m := by omega
  obtain ⟨x, hx⟩ : ∃ x : Int, x = -((j : Int) + 1) := ⟨_, rfl⟩
  rw [← hx]
  have wn : IntKind.i64.wrap (-x) = (j : Int) + 1 := by rw [show -x = (j : Int) + 1 by omega]; exact IntWalk.i64_in _ (by omega)
  have wj : IntKind.i64.wrap ((j : Int) + 1 - 1) = (j : Int) := by rw [show (j : Int) + 1 - 1 = j by omega]; exact IntWalk.i64_in _ (by omega)
  have wl : IntKind.i64.wrap (-ql) = -ql := IntWalk.i64_in _ (by omega)
  have hp : ¬ ((0 : Int) < x) := by omega
  clear hx
  go_enter Tryd.func18, Tryd.ntmps18
  go_wp2
  exact bodyPost_ret (v := lgv qb qa (-ql)) (by simp [results, Tryd.results18, go_sem, *]) rfl ⟨rfl, rbel_al (rbel_al (Below.refl _ _))⟩
theorem ok_two {m : Nat} {x : Int} (h : okS m x) : (∃ j : Nat, j < m ∧ x = (j : Int) + 1 ∧ ixS x = j) ∨ ∃ j : Nat, j < m ∧ x = -((j : Int) + 1) ∧ ixS x = j := by
  obtain ⟨h1, h2, h3⟩ := h
  by_cases c : 0 < x
  · exact Or.inl ⟨(x - 1).toNat, by omega, by omega, by unfold ixS; rw [if_pos c]⟩
  · exact Or.inr ⟨(-x - 1).toNat, by omega, by omega, by unfold ixS; rw [if_neg c]⟩
/-- A step's ends, and its room. -/
theorem legOf_any (n : Nat) (a : Option Addr) (m cap : Nat) (q : Nat → Eg) (x : Int) (w : World) (hE : Egs n q m) (hH : EHanded w a m q) (ok : okS m x) :
    Calls Tryd.prog 18 #[.slice a m cap, .int .i64 x] w fun e w' => e = .returned (.agg #[.int .i64 (frS q x), .int .i64 (toS q x), .int .i64 (coS q x)]) ∧ Below w.heap.size w w' := by
  have h40 := hE.m40
  have ix := ixS_lt ok
  obtain ⟨b, off, rfl, hP⟩ : ∃ b off : Nat, a = some ⟨b, off, none⟩ ∧ Esp w b off m q := by
    rcases hH.2 with e | h
    · omega
    · exact h
  unfold frS toS coS
  rcases ok_two ok with ⟨j, hj, rfl, e⟩ | ⟨j, hj, rfl, e⟩
  · obtain ⟨x0, x1, x2, x3⟩ := hP j hj
    rw [e, if_pos (by omega), if_pos (by omega), if_pos (by omega)]
    exact legOf_along b off m cap j _ _ _ _ w hj h40 x0 x1 x2 x3
  · obtain ⟨x0, x1, x2, x3⟩ := hP j hj
    obtain ⟨_, _, okk⟩ := hE.each j hj
    have o := okB_t okk
    rw [e, if_neg (by omega), if_neg (by omega), if_neg (by omega)]
    exact legOf_back b off m cap j _ _ _ _ w hj h40 (by omega) (by omega) x0 x1 x2 x3
/-- A field of what legOf answers. -/
theorem leg_f (x y z : Int) (w : World) : (Instr.field 55 (.agg #[.int .i64 x, .int .i64 y, .int .i64 z]) 0).run Tryd.prog w = .ok (.int .i64 x) w := by kernel_rfl
theorem leg_t (x y z : Int) (w : World) : (Instr.field 55 (.agg #[.int .i64 x, .int .i64 y, .int .i64 z]) 1).run Tryd.prog w = .ok (.int .i64 y) w := by kernel_rfl
theorem leg_r (x y z : Int) (w : World) : (Instr.field 55 (.agg #[.int .i64 x, .int .i64 y, .int .i64 z]) 2).run Tryd.prog w = .ok (.int .i64 z) w := by kernel_rfl
/-- Is it a step of an edge? -/
def okSB (m : Nat) (x : Int) : Bool := decide (x ≠ 0 ∧ x ≤ m ∧ -(m : Int) ≤ x)
theorem okSB_t {m : Nat} {x : Int} (h : okSB m x = true) : okS m x := by
  have := of_decide_eq_true (p := x ≠ 0 ∧ x ≤ m ∧ -(m : Int) ≤ x) h
  exact this
theorem okSB_f {m : Nat} {x : Int} (h : okSB m x = false) : ¬ okS m x := by
  have := of_decide_eq_false (p := x ≠ 0 ∧ x ≤ m ∧ -(m : Int) ≤ x) h
  exact this
set_option maxRecDepth 100000 in
set_option maxHeartbeats 4000000 in
theorem isStep_any (a : Option Addr) (m cap : Nat) (x : Int) (w : World) (h40 : m ≤ 40) :
    Calls Tryd.prog 32 #[.slice a m cap, .int .i64 x] w fun e w' => e = .returned (.bool (okSB m x)) ∧ w' = w := by
  have wm : IntKind.i64.wrap (-(m : Int)) = -(m : Int) := IntWalk.i64_in _ (by omega)
  by_cases h1 : x = 0
  · subst h1
    rw [show okSB m 0 = false from decide_eq_false (by omega)]
    go_enter Tryd.func32, Tryd.ntmps32
    go_wp2
    go_ret
    exact ⟨rfl, rfl⟩
  · have d1 : (x == 0) = false := by simpa using h1
    by_cases h2 : -(m : Int) ≤ x
    · by_cases h3 : x ≤ m
      · rw [show okSB m x = true from decide_eq_true ⟨h1, h3, h2⟩]
        go_enter Tryd.func32, Tryd.ntmps32
        go_wp2
        go_ret
        exact ⟨by simp_all, rfl⟩
      · rw [show okSB m x = false from decide_eq_false (by omega)]
        have d3 : decide (x ≤ (m : Int)) = false := decide_eq_false h3
        clear h3
        go_enter Tryd.func32, Tryd.ntmps32
        go_wp2
        go_ret
        exact ⟨by simp_all, rfl⟩
    · rw [show okSB m x = false from decide_eq_false (by omega)]
      have d2 : decide (-(m : Int) ≤ x) = false := decide_eq_false h2
      clear h2
      go_enter Tryd.func32, Tryd.ntmps32
      go_wp2
      go_ret
      exact ⟨by simp_all, rfl⟩
set_option maxHeartbeats 4000000 in
theorem notStep_any (a : Option Addr) (m cap B : Nat) (x : Int) (w : World) (h40 : m ≤ 40) (hc : w.cell? ⟨B, 0, none⟩ = some (.slice a m cap)) :
    Calls Tryd.prog 31 #[.int .i64 x, .pointer (some ⟨B, 0, none⟩)] w fun e w' => e = .returned (.bool (!okSB m x)) ∧ w' = w := by
  have cS := fun u => isStep_any a m cap x u h40
  generalize okSB m x = B' at *
  go_enter Tryd.func31, Tryd.ntmps31
  go_wp2_with (go_at_call 32; refine (cS _).mono ?_; rintro e u0 ⟨rfl, hu⟩; rw [hu]; clear hu)
  go_ret
  exact ⟨rfl, rfl⟩
end Go.Proofs.YtiebojccnaelbaeDoor
