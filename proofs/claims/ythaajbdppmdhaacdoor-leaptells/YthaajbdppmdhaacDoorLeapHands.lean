/- What package leap reckons of hours, minutes and seconds: numbers, label, split. -/
import Derived.Test.YthaajbdppmdhaacDoorLeapDef
import Derived.Test.YthaajbdppmdhaacDoorLeapGrow
import Derived.WalkKit
import Derived.ProofKit
import Derived.OpenShut
import Derived.Outline
import Derived.IntWalk
import Derived.Below
import Derived.WalkLawsBesides
import Derived.Deep.QuietTactic
import Derived.BigQuiet
import Derived.ChangeKeysEq
import Derived.Laws.StructEq
namespace Go.Proofs.YthaajbdppmdhaacDoor
open Go.ChangeShapes Go.WideShapes Go.ChangeAt Go.RowKit
set_option linter.unusedVariables false
set_option linter.unusedSimpArgs false

abbrev hms (h i s : Int) : Value := .agg #[.int .i64 h, .int .i64 i, .int .i64 s]
set_option maxHeartbeats 1000000 in
theorem numbers_any (y m d h i s : Int) (w : World) :
    Calls Tryd.prog 70 #[lbl y m d h i s] w fun e w' => e = .returned (hms h i s) ∧ Gr w w' := by
  go_enter Tryd.func70, Tryd.ntmps70
  go_wp2
  exact bodyPost_ret (v := hms h i s) (by simp [results, Tryd.results70, go_sem, *]) rfl ⟨rfl, by repeat (first | exact Gr.refl | apply Gr.al)⟩
set_option maxHeartbeats 1000000 in
theorem label_any (y m d h i s : Int) (w : World) :
    Calls Tryd.prog 73 #[.agg #[.int .i64 y, .int .i64 m, .int .i64 d], hms h i s] w fun e w' => e = .returned (lbl y m d h i s) ∧ Gr w w' := by
  go_enter Tryd.func73, Tryd.ntmps73
  go_wp2
  exact bodyPost_ret (v := lbl y m d h i s) (by simp [results, Tryd.results73, go_sem, *]) rfl ⟨rfl, by repeat (first | exact Gr.refl | apply Gr.al)⟩
theorem ret_h {h i s h' i' s' : Int} (a : h = h') (b : i = i') (c : s = s') : Ending.returned (hms h i s) = .returned (hms h' i' s') := by rw [a, b, c]
set_option maxHeartbeats 1000000 in
theorem split_any (s : Int) (w : World) (h0 : 0 ≤ s) (h1 : s ≤ 86400) :
    Calls Tryd.prog 71 #[.int .i64 s] w fun e w' => e = .returned (hms (lab s).1 (lab s).2.1 (lab s).2.2) ∧ Gr w w' := by
  have T : Hid (min s 86399 / 60 / 60 = (lab s).1 ∧ min s 86399 / 60 % 60 = (lab s).2.1 ∧ s - 60 * (min s 86399 / 60) = (lab s).2.2) := by
    show _ ∧ _ ∧ _
    unfold lab
    split
    · subst s; decide
    · refine ⟨?_, ?_, ?_⟩ <;> simp only <;> omega
  go_enter Tryd.func71, Tryd.ntmps71
  go_wp2
  exact bodyPost_ret (v := hms (min s 86399 / 60 / 60) (min s 86399 / 60 % 60) (s - 60 * (min s 86399 / 60))) (by simp [results, Tryd.results71, go_sem, *]) rfl ⟨ret_h T.out.1 T.out.2.1 T.out.2.2, by repeat (first | exact Gr.refl | apply Gr.al)⟩
/-- Arrays of three numbers, held against each other. -/
theorem eq_hms (a b c h i s : Int) (w : World) : (Op.equalIn 10000 100 (.agg #[.int .i64 a, .int .i64 b, .int .i64 c]) (.agg #[.int .i64 h, .int .i64 i, .int .i64 s])).run Tryd.prog w = .ok (a == h && (b == i && c == s)) w := by
  have ce : Tryd.prog.cellsOf 3 = 1 := by kernel_rfl
  have hs : (Tryd.prog.info? 3).isSome = true := by kernel_rfl
  obtain ⟨ti, hi⟩ := Option.isSome_iff_exists.1 hs
  have hu : Tryd.prog.underlying 100 = some (.array 3 3) := Tryd.underlying100
  rw [run_equalIn_array w 9999 (e := 3) (n := 3) _ _ hu hi, ce]
  have E : ∀ (x y : Int) (w : World), (Op.equalIn 9999 3 (.int .i64 x) (.int .i64 y)).run Tryd.prog w = .ok (x == y) w := fun x y w => run_equalIn_int w 9998 3 .i64 .i64 x y Tryd.underlying3
  have p0 : ∀ (x y z : Int) (w : World), (part 3 #[.int .i64 x, .int .i64 y, .int .i64 z] 0).run Tryd.prog w = .ok (.int .i64 x) w := fun x y z w => by simp [part, isAgg, run_underlying Tryd.underlying3]
  have p1 : ∀ (x y z : Int) (w : World), (part 3 #[.int .i64 x, .int .i64 y, .int .i64 z] 1).run Tryd.prog w = .ok (.int .i64 y) w := fun x y z w => by simp [part, isAgg, run_underlying Tryd.underlying3]
  have p2 : ∀ (x y z : Int) (w : World), (part 3 #[.int .i64 x, .int .i64 y, .int .i64 z] 2).run Tryd.prog w = .ok (.int .i64 z) w := fun x y z w => by simp [part, isAgg, run_underlying Tryd.underlying3]
  rw [show List.range 3 = [0, 1, 2] from rfl]
  simp only [Op.eqItems, Nat.zero_mul, Nat.one_mul, Nat.mul_one, Sem.run_bind, p0, p1, p2, E, Result.andThen_ok]
  cases (a == h)
  · rfl
  · simp only [Bool.not_true, Bool.false_eq_true, if_false, Sem.run_bind, p1, E, Result.andThen_ok]
    cases (b == i)
    · rfl
    · simp only [Bool.not_true, Bool.false_eq_true, if_false, Sem.run_bind, p2, E, Result.andThen_ok]
      cases (c == s)
      · rfl
      · rfl
end Go.Proofs.YthaajbdppmdhaacDoor
