/- What package leap reckons of hours, minutes and seconds: numbers, label, split. What leap.checkNumbers answers of a label's numbers, by the table ends. The table ends of package leap, cell by cell. -/
import Derived.Test.YtigcliepeapcpajGreatDoorNm04
import Derived.Test.YtigcliepeapcpajGreatDoorNm20
import Derived.WalkKit
import Derived.ProofKit
import Derived.OpenShut
import Derived.Outline
import Derived.IntWalk
import Derived.Below
import Derived.WalkLawsBesides
import Derived.Deep.QuietTactic
import Derived.BigQuiet
import Derived.ChangeKeysEq
import Derived.Laws.StructEq
namespace Go.Proofs.YtigcliepeapcpajGreatDoor
open Go.ChangeShapes Go.WideShapes Go.ChangeAt Go.RowKit
set_option linter.unusedVariables false
set_option linter.unusedSimpArgs false

abbrev hms (h i s : Int) : Value := .agg #[.int .i64 h, .int .i64 i, .int .i64 s]
set_option maxHeartbeats 1000000 in
theorem numbers_any (y m d h i s : Int) (w : World) :
    Calls Tryz.prog 67 #[lbl y m d h i s] w fun e w' => e = .returned (hms h i s) ∧ Gr w w' := by
  go_enter Tryz.func67, Tryz.ntmps67
  go_wp2
  exact bodyPost_ret (v := hms h i s) (by simp [results, Tryz.results67, go_sem, *]) rfl ⟨rfl, by repeat (first | exact Gr.refl | apply Gr.al)⟩
set_option maxHeartbeats 1000000 in
theorem label_any (y m d h i s : Int) (w : World) :
    Calls Tryz.prog 34 #[.agg #[.int .i64 y, .int .i64 m, .int .i64 d], hms h i s] w fun e w' => e = .returned (lbl y m d h i s) ∧ Gr w w' := by
  go_enter Tryz.func34, Tryz.ntmps34
  go_wp2
  exact bodyPost_ret (v := lbl y m d h i s) (by simp [results, Tryz.results34, go_sem, *]) rfl ⟨rfl, by repeat (first | exact Gr.refl | apply Gr.al)⟩
theorem ret_h {h i s h' i' s' : Int} (a : h = h') (b : i = i') (c : s = s') : Ending.returned (hms h i s) = .returned (hms h' i' s') := by rw [a, b, c]
set_option maxHeartbeats 1000000 in
theorem split_any (s : Int) (w : World) (h0 : 0 ≤ s) (h1 : s ≤ 86400) :
    Calls Tryz.prog 35 #[.int .i64 s] w fun e w' => e = .returned (hms (lab s).1 (lab s).2.1 (lab s).2.2) ∧ Gr w w' := by
  have T : Hid (min s 86399 / 60 / 60 = (lab s).1 ∧ min s 86399 / 60 % 60 = (lab s).2.1 ∧ s - 60 * (min s 86399 / 60) = (lab s).2.2) := by
    show _ ∧ _ ∧ _
    unfold lab
    split
    · subst s; decide
    · refine ⟨?_, ?_, ?_⟩ <;> simp only <;> omega
  go_enter Tryz.func35, Tryz.ntmps35
  go_wp2
  exact bodyPost_ret (v := hms (min s 86399 / 60 / 60) (min s 86399 / 60 % 60) (s - 60 * (min s 86399 / 60))) (by simp [results, Tryz.results35, go_sem, *]) rfl ⟨ret_h T.out.1 T.out.2.1 T.out.2.2, by repeat (first | exact Gr.refl | apply Gr.al)⟩
/-- Arrays of three numbers, held against each other. -/
theorem eq_hms (a b c h i s : Int) (w : World) : (Op.equalIn 10000 96 (.agg #[.int .i64 a, .int .i64 b, .int .i64 c]) (.agg #[.int .i64 h, .int .i64 i, .int .i64 s])).run Tryz.prog w = .ok (a == h && (b == i && c == s)) w := by
  have ce : Tryz.prog.cellsOf 3 = 1 := by kernel_rfl
  have hs : (Tryz.prog.info? 3).isSome = true := by kernel_rfl
  obtain ⟨ti, hi⟩ := Option.isSome_iff_exists.1 hs
  have hu : Tryz.prog.underlying 96 = some (.array 3 3) := Tryz.underlying96
  rw [run_equalIn_array w 9999 (e := 3) (n := 3) _ _ hu hi, ce]
  have E : ∀ (x y : Int) (w : World), (Op.equalIn 9999 3 (.int .i64 x) (.int .i64 y)).run Tryz.prog w = .ok (x == y) w := fun x y w => run_equalIn_int w 9998 3 .i64 .i64 x y Tryz.underlying3
  have p0 : ∀ (x y z : Int) (w : World), (part 3 #[.int .i64 x, .int .i64 y, .int .i64 z] 0).run Tryz.prog w = .ok (.int .i64 x) w := fun x y z w => by simp [part, isAgg, run_underlying Tryz.underlying3]
  have p1 : ∀ (x y z : Int) (w : World), (part 3 #[.int .i64 x, .int .i64 y, .int .i64 z] 1).run Tryz.prog w = .ok (.int .i64 y) w := fun x y z w => by simp [part, isAgg, run_underlying Tryz.underlying3]
  have p2 : ∀ (x y z : Int) (w : World), (part 3 #[.int .i64 x, .int .i64 y, .int .i64 z] 2).run Tryz.prog w = .ok (.int .i64 z) w := fun x y z w => by simp [part, isAgg, run_underlying Tryz.underlying3]
  rw [show List.range 3 = [0, 1, 2] from rfl]
  simp only [Op.eqItems, Nat.zero_mul, Nat.one_mul, Nat.mul_one, Sem.run_bind, p0, p1, p2, E, Result.andThen_ok]
  cases (a == h)
  · rfl
  · simp only [Bool.not_true, Bool.false_eq_true, if_false, Sem.run_bind, p1, E, Result.andThen_ok]
    cases (b == i)
    · rfl
    · simp only [Bool.not_true, Bool.false_eq_true, if_false, Sem.run_bind, p2, E, Result.andThen_ok]
      cases (c == s)
      · rfl
      · rfl
end Go.Proofs.YtigcliepeapcpajGreatDoor
namespace Go.Proofs.YtigcliepeapcpajGreatDoor
open Go.ChangeShapes Go.WideShapes Go.ChangeAt Go.RowKit
set_option linter.unusedVariables false
set_option linter.unusedSimpArgs false

/-- What package leap reads of the package variables: what the numbers of a label are below, and what they are worth. -/
def EnvN (w : World) : Prop := w.cell? ⟨0, 0, none⟩ = some (.int .i64 24) ∧ w.cell? ⟨0, 1, none⟩ = some (.int .i64 60) ∧ w.cell? ⟨0, 2, none⟩ = some (.int .i64 61)
theorem EnvN.below {w w' : World} (h : EnvN w) (hb : Below w.heap.size w w') : EnvN w' :=
  ⟨by rw [hb.cell (World.block_lt_of_cell? _ _ h.1)]; exact h.1, by rw [hb.cell (World.block_lt_of_cell? _ _ h.2.1)]; exact h.2.1, by rw [hb.cell (World.block_lt_of_cell? _ _ h.2.2)]; exact h.2.2⟩
/-- What is wrong with hour, minute and second. -/
def eH (h i s : Int) : Int := if okH h i s = true then 0 else 1
theorem eH_ok {h i s : Int} (o : okH h i s = true) : eH h i s = 0 := if_pos o
theorem eH_no {h i s : Int} (o : okH h i s = false) : eH h i s = 1 := if_neg (by rw [o]; decide)
theorem eH_bad {h i s : Int} (o : ¬ (0 ≤ h ∧ h ≤ 23 ∧ 0 ≤ i ∧ i ≤ 59 ∧ 0 ≤ s ∧ s ≤ 60)) : .iface 71 (.int .i64 1) = errc (eH h i s) := by
  rw [eH_no (decide_eq_false o), errc_not (by decide)]
theorem eH_good {h i s : Int} (o : 0 ≤ h ∧ h ≤ 23 ∧ 0 ≤ i ∧ i ≤ 59 ∧ 0 ≤ s ∧ s ≤ 60) : .nilIface = errc (eH h i s) := by
  rw [eH_ok (decide_eq_true o), errc_zero]

set_option maxRecDepth 100000 in
set_option maxHeartbeats 4000000 in
theorem hands_any (y m d h i s : Int) (w : World) (he : EnvN w) :
    Calls Tryz.prog 38 #[lbl y m d h i s] w fun e w' => e = .returned (errc (eH h i s)) ∧ Below w.heap.size w w' := by
  have cN := fun u => numbers_any y m d h i s u
  have ix0 : ∀ w, (Instr.index 96 (.agg #[.int .i64 h, .int .i64 i, .int .i64 s]) (.int .i64 0)).run Tryz.prog w = .ok (.int .i64 h) w := fun _ => by kernel_rfl
  have ix1 : ∀ w, (Instr.index 96 (.agg #[.int .i64 h, .int .i64 i, .int .i64 s]) (.int .i64 1)).run Tryz.prog w = .ok (.int .i64 i) w := fun _ => by kernel_rfl
  have ix2 : ∀ w, (Instr.index 96 (.agg #[.int .i64 h, .int .i64 i, .int .i64 s]) (.int .i64 2)).run Tryz.prog w = .ok (.int .i64 s) w := fun _ => by kernel_rfl
  have HE : Hid (EnvN w) := he
  clear he
  go_enter Tryz.func38, Tryz.ntmps38
  go_wp2_with (go_at_call 67; refine (cN _).mono ?_; rintro e u ⟨rfl, hg⟩; have hw : Below w.heap.size w u := rbel_on hg.below (rbel_al (Below.refl _ _)); clear hg)
  have hE := HE.out.below hw
  obtain ⟨e0, e1, e2⟩ := hE
  go_loopw [7] (fun i' wr => ∃ k : Nat, k ≤ 3 ∧ i' = .int .i64 k ∧ wr = u ∧ Hid ((1 ≤ k → 0 ≤ h ∧ h ≤ 23) ∧ (2 ≤ k → 0 ≤ i ∧ i ≤ 59) ∧ (3 ≤ k → 0 ≤ s ∧ s ≤ 60))) (fun i _ => 3 - (intOf i).toNat)
  case atStart => exact ⟨0, Nat.zero_le _, rfl, rfl, (⟨fun k => by omega, fun k => by omega, fun k => by omega⟩ : _ ∧ _ ∧ _)⟩
  case round =>
    obtain ⟨k, hk, rfl, rfl, HK⟩ := hrel
    have hc : k = 0 ∨ k = 1 ∨ k = 2 ∨ k = 3 := by omega
    rcases hc with rfl | rfl | rfl | rfl
    · by_cases c1 : h < 0
      · have E : Hid (.iface 71 (.int .i64 1) = errc (eH h i s)) := eH_bad (by omega)
        go_wp2
        go_ret
        exact ⟨congrArg Ending.returned E.out, hw⟩
      · by_cases c2 : 24 ≤ h
        · have E : Hid (.iface 71 (.int .i64 1) = errc (eH h i s)) := eH_bad (by omega)
          go_wp2
          go_ret
          exact ⟨congrArg Ending.returned E.out, hw⟩
        · go_wp2
          go_roundw
          case rel => exact ⟨1, by omega, rfl, trivial, (⟨fun k => by omega, fun k => by omega, fun k => by omega⟩ : _ ∧ _ ∧ _)⟩
          case measure => simp [intOf]
    · have q1 := HK.out.1 (by omega)
      by_cases c1 : i < 0
      · have E : Hid (.iface 71 (.int .i64 1) = errc (eH h i s)) := eH_bad (by omega)
        go_wp2
        go_ret
        exact ⟨congrArg Ending.returned E.out, hw⟩
      · by_cases c2 : 60 ≤ i
        · have E : Hid (.iface 71 (.int .i64 1) = errc (eH h i s)) := eH_bad (by omega)
          go_wp2
          go_ret
          exact ⟨congrArg Ending.returned E.out, hw⟩
        · go_wp2
          go_roundw
          case rel => exact ⟨2, by omega, rfl, trivial, (⟨fun k => by omega, fun k => by omega, fun k => by omega⟩ : _ ∧ _ ∧ _)⟩
          case measure => simp [intOf]
    · have q1 := HK.out.1 (by omega)
      have q2 := HK.out.2.1 (by omega)
      by_cases c1 : s < 0
      · have E : Hid (.iface 71 (.int .i64 1) = errc (eH h i s)) := eH_bad (by omega)
        go_wp2
        go_ret
        exact ⟨congrArg Ending.returned E.out, hw⟩
      · by_cases c2 : 61 ≤ s
        · have E : Hid (.iface 71 (.int .i64 1) = errc (eH h i s)) := eH_bad (by omega)
          go_wp2
          go_ret
          exact ⟨congrArg Ending.returned E.out, hw⟩
        · go_wp2
          go_roundw
          case rel => exact ⟨3, by omega, rfl, trivial, (⟨fun k => by omega, fun k => by omega, fun k => by omega⟩ : _ ∧ _ ∧ _)⟩
          case measure => simp [intOf]
    · have q1 := HK.out.1 (by omega)
      have q2 := HK.out.2.1 (by omega)
      have q3 := HK.out.2.2 (by omega)
      have E : Hid (.nilIface = errc (eH h i s)) := eH_good (by omega)
      go_wp2
      go_ret
      exact ⟨congrArg Ending.returned E.out, hw⟩

end Go.Proofs.YtigcliepeapcpajGreatDoor
namespace Go.Proofs.YtigcliepeapcpajGreatDoor
open Go.ChangeShapes Go.WideShapes Go.ChangeAt Go.RowKit
set_option linter.unusedVariables false

def endsTab : List Int := [24, 60, 61]
theorem EnvN.of_cells {w : World} (h : ∀ k, k < endsTab.length → w.cell? ⟨0, k, none⟩ = some (.int .i64 (endsTab.getD k 0))) : EnvN w := ⟨h 0 (by decide), h 1 (by decide), h 2 (by decide)⟩
end Go.Proofs.YtigcliepeapcpajGreatDoor
