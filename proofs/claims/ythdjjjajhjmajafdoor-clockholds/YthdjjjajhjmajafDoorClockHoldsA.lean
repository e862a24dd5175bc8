/- The ways through the law ClockHolds: what is left out, what a clock shows. -/
import Derived.Test.YthdjjjajhjmajafDoorClockDef
import Derived.Test.YthdjjjajhjmajafDoorTold
import Derived.Lib.SmallJoins
import Derived.IntWalk
namespace Go.Proofs.YthdjjjajhjmajafDoor.clockHolds
open Go.ChangeShapes Go.WideShapes Go.ChangeAt Go.RowKit Go.Joins Go.Proofs.YthdjjjajhjmajafDoor.told
set_option linter.unusedVariables false
set_option linter.unusedSimpArgs false

theorem in64_mid {n : Int} (h1 : -4611686018427387904 ≤ n) (h2 : n ≤ 4611686018427387904) : In64 n := by
  show (Lit.int .i64 n).wf = true
  simp [Lit.wf, IntKind.min, IntKind.max, IntKind.signed, IntKind.bits]
  omega
theorem error_not (k f : Int) (w : World) (he : EnvE w) (h : ¬ (k = f)) :
    Calls Tryd.prog 9 #[.iface 68 (.int .i64 k), .int .i64 f] w fun e w' => e = .returned (.bool false) ∧ Below w.heap.size w w' := by
  have H : Hid (EnvE w) := he
  clear he
  go_enter Tryd.func9, Tryd.ntmps9
  go_wp2_with (go_at_call 31; refine (told_errno k _ H.out).mono ?_; rintro e u ⟨rfl, hb⟩)
  go_ret
  exact ⟨by simp [h], hb⟩
theorem mil_tdiv (s : Int) : (s.tdiv 1000000 = s / 1000000 ∧ ¬ s < s.tdiv 1000000 * 1000000) ∨ (s.tdiv 1000000 = s / 1000000 + 1 ∧ s < s.tdiv 1000000 * 1000000) := by
  by_cases h : 0 ≤ s
  · rw [Int.tdiv_eq_ediv_of_nonneg h]
    left
    omega
  · have e : s.tdiv 1000000 = -((-s) / 1000000) := by
      have : s = -(-s) := by omega
      rw [this, Int.neg_tdiv, Int.tdiv_eq_ediv_of_nonneg (by omega)]
      simp
    rw [e]
    omega
set_option maxHeartbeats 2000000 in
theorem shows_any (r T : Int) (w : World) (r0 : -1000 ≤ r) (r1 : r ≤ 1000) (t0 : 0 ≤ T) (t1 : T ≤ 60000000) :
    Calls Tryd.prog 23 #[.int .i64 0, .int .i64 r, .int .i64 T] w fun o w' => o = .returned (.int .i64 (shM r T)) ∧ w' = w := by
  have z1 : T * r ≤ T * 1000 := Int.mul_le_mul_of_nonneg_left (by omega) t0
  have z2 : T * (-1000) ≤ T * r := Int.mul_le_mul_of_nonneg_left (by omega) t0
  have es : shM r T = T + T * r / 1000000 := rfl
  rw [es]
  have mt := mil_tdiv (T * r)
  obtain ⟨X, hX⟩ : ∃ X, X = T * r := ⟨_, rfl⟩
  have wX : IntKind.i64.wrap (T * r) = X := by rw [IntWalk.i64_in _ (by omega)]; exact hX.symm
  rw [← hX] at mt z1 z2 ⊢
  obtain ⟨Q, hQ⟩ : ∃ Q, Q = X.tdiv 1000000 := ⟨_, rfl⟩
  have tQ : X.tdiv 1000000 = Q := hQ.symm
  rw [tQ] at mt
  have bQ : -60001 ≤ Q ∧ Q ≤ 60001 := by omega
  obtain ⟨bQ0, bQ1⟩ := bQ
  have wQ : IntKind.i64.wrap Q = Q := IntWalk.i64_in _ (by omega)
  have wQ2 : IntKind.i64.wrap (Q * 1000000) = Q * 1000000 := IntWalk.i64_in _ (by omega)
  have wQ1 : IntKind.i64.wrap (Q - 1) = Q - 1 := IntWalk.i64_in _ (by omega)
  have wT : IntKind.i64.wrap (T + Q) = T + Q := IntWalk.i64_in _ (by omega)
  have wT1 : IntKind.i64.wrap (T + (Q - 1)) = T + (Q - 1) := IntWalk.i64_in _ (by omega)
  have E : Hid ((Q = X / 1000000 ∧ ¬ X < Q * 1000000) ∨ (Q = X / 1000000 + 1 ∧ X < Q * 1000000)) := mt
  clear hX hQ es
  rcases mt with ⟨e1, d1⟩ | ⟨e1, d1⟩
  · have EE : Hid (T + Q = T + X / 1000000) := by show _ = _; rw [e1]
    clear e1
    go_enter Tryd.func23, Tryd.ntmps23
    go_wp2
    go_ret
    exact ⟨by rw [← EE.out]; simp [*], rfl⟩
  · have EE : Hid (T + (Q - 1) = T + X / 1000000) := by show _ = _; omega
    clear e1
    go_enter Tryd.func23, Tryd.ntmps23
    go_wp2
    go_ret
    exact ⟨by rw [← EE.out]; simp [*], rfl⟩
/-- The clock that is asked first. -/
def k1 : Ck := ⟨100, 1000, false, 0, 0, 0, false, 0⟩
def k2 : Ck := ⟨100, 1000, true, 5, 7, 1000, false, 0⟩
theorem k1_step : (Ck.made 100).stepE 1000 = 0 ∧ (Ck.made 100).stepC 1000 = k1 := ⟨by decide, rfl⟩
theorem k2_learn : k1.learnE 5 7 = 0 ∧ k1.learnC 5 7 = k2 := ⟨by decide, rfl⟩
theorem k2_now : k2.nowE = 0 ∧ k2.nowLo = 1004 ∧ k2.nowHi = 1008 := ⟨by decide, by decide, by decide⟩
end Go.Proofs.YthdjjjajhjmajafDoor.clockHolds
