/- What package leap answers of the numbers of a label: checkNumbers, join; its two tables are package variables. -/
import Derived.Test.YthaajbdppmdhaacDoorLeapHands
namespace Go.Proofs.YthaajbdppmdhaacDoor
open Go.ChangeShapes Go.WideShapes Go.ChangeAt Go.RowKit
set_option linter.unusedVariables false
set_option linter.unusedSimpArgs false

/-- What package leap reads of the package variables: what the numbers of a label are below, and what they are worth. -/
def EnvN (w : World) : Prop := w.cell? ⟨1, 0, none⟩ = some (.int .i64 24) ∧ w.cell? ⟨1, 1, none⟩ = some (.int .i64 60) ∧ w.cell? ⟨1, 2, none⟩ = some (.int .i64 61)
def EnvW (w : World) : Prop := w.cell? ⟨2, 0, none⟩ = some (.int .i64 3600) ∧ w.cell? ⟨2, 1, none⟩ = some (.int .i64 60) ∧ w.cell? ⟨2, 2, none⟩ = some (.int .i64 1)
theorem EnvN.below {w w' : World} (h : EnvN w) (hb : Below w.heap.size w w') : EnvN w' :=
  ⟨by rw [hb.cell (World.block_lt_of_cell? _ _ h.1)]; exact h.1, by rw [hb.cell (World.block_lt_of_cell? _ _ h.2.1)]; exact h.2.1, by rw [hb.cell (World.block_lt_of_cell? _ _ h.2.2)]; exact h.2.2⟩
theorem EnvW.below {w w' : World} (h : EnvW w) (hb : Below w.heap.size w w') : EnvW w' :=
  ⟨by rw [hb.cell (World.block_lt_of_cell? _ _ h.1)]; exact h.1, by rw [hb.cell (World.block_lt_of_cell? _ _ h.2.1)]; exact h.2.1, by rw [hb.cell (World.block_lt_of_cell? _ _ h.2.2)]; exact h.2.2⟩
/-- What is wrong with hour, minute and second. -/
def eH (h i s : Int) : Int := if okH h i s = true then 0 else 1
theorem eH_ok {h i s : Int} (o : okH h i s = true) : eH h i s = 0 := if_pos o
theorem eH_no {h i s : Int} (o : okH h i s = false) : eH h i s = 1 := if_neg (by rw [o]; decide)
theorem eH_bad {h i s : Int} (o : ¬ (0 ≤ h ∧ h ≤ 23 ∧ 0 ≤ i ∧ i ≤ 59 ∧ 0 ≤ s ∧ s ≤ 60)) : .iface 81 (.int .i64 1) = errc (eH h i s) := by
  rw [eH_no (decide_eq_false o), errc_not (by decide)]
theorem eH_good {h i s : Int} (o : 0 ≤ h ∧ h ≤ 23 ∧ 0 ≤ i ∧ i ≤ 59 ∧ 0 ≤ s ∧ s ≤ 60) : .nilIface = errc (eH h i s) := by
  rw [eH_ok (decide_eq_true o), errc_zero]

set_option maxRecDepth 100000 in
set_option maxHeartbeats 4000000 in
theorem hands_any (y m d h i s : Int) (w : World) (he : EnvN w) :
    Calls Tryd.prog 67 #[lbl y m d h i s] w fun e w' => e = .returned (errc (eH h i s)) ∧ Below w.heap.size w w' := by
  have cN := fun u => numbers_any y m d h i s u
  have ix0 : ∀ w, (Instr.index 100 (.agg #[.int .i64 h, .int .i64 i, .int .i64 s]) (.int .i64 0)).run Tryd.prog w = .ok (.int .i64 h) w := fun _ => by kernel_rfl
  have ix1 : ∀ w, (Instr.index 100 (.agg #[.int .i64 h, .int .i64 i, .int .i64 s]) (.int .i64 1)).run Tryd.prog w = .ok (.int .i64 i) w := fun _ => by kernel_rfl
  have ix2 : ∀ w, (Instr.index 100 (.agg #[.int .i64 h, .int .i64 i, .int .i64 s]) (.int .i64 2)).run Tryd.prog w = .ok (.int .i64 s) w := fun _ => by kernel_rfl
  have HE : Hid (EnvN w) := he
  clear he
  go_enter Tryd.func67, Tryd.ntmps67
  go_wp2_with (go_at_call 70; refine (cN _).mono ?_; rintro e u ⟨rfl, hg⟩; have hw : Below w.heap.size w u := rbel_on hg.below (rbel_al (Below.refl _ _)); clear hg)
  have hE := HE.out.below hw
  obtain ⟨e0, e1, e2⟩ := hE
  go_loopw [7] (fun i' wr => ∃ k : Nat, k ≤ 3 ∧ i' = .int .i64 k ∧ wr = u ∧ Hid ((1 ≤ k → 0 ≤ h ∧ h ≤ 23) ∧ (2 ≤ k → 0 ≤ i ∧ i ≤ 59) ∧ (3 ≤ k → 0 ≤ s ∧ s ≤ 60))) (fun i _ => 3 - (intOf i).toNat)
  case atStart => exact ⟨0, Nat.zero_le _, rfl, rfl, (⟨fun k => by omega, fun k => by omega, fun k => by omega⟩ : _ ∧ _ ∧ _)⟩
  case round =>
    obtain ⟨k, hk, rfl, rfl, HK⟩ := hrel
    have hc : k = 0 ∨ k = 1 ∨ k = 2 ∨ k = 3 := by omega
    rcases hc with rfl | rfl | rfl | rfl
    · by_cases c1 : h < 0
      · have E : Hid (.iface 81 (.int .i64 1) = errc (eH h i s)) := eH_bad (by omega)
        go_wp2
        go_ret
        exact ⟨congrArg Ending.returned E.out, hw⟩
      · by_cases c2 : 24 ≤ h
        · have E : Hid (.iface 81 (.int .i64 1) = errc (eH h i s)) := eH_bad (by omega)
          go_wp2
          go_ret
          exact ⟨congrArg Ending.returned E.out, hw⟩
        · go_wp2
          go_roundw
          case rel => exact ⟨1, by omega, rfl, trivial, (⟨fun k => by omega, fun k => by omega, fun k => by omega⟩ : _ ∧ _ ∧ _)⟩
          case measure => simp [intOf]
    · have q1 := HK.out.1 (by omega)
      by_cases c1 : i < 0
      · have E : Hid (.iface 81 (.int .i64 1) = errc (eH h i s)) := eH_bad (by omega)
        go_wp2
        go_ret
        exact ⟨congrArg Ending.returned E.out, hw⟩
      · by_cases c2 : 60 ≤ i
        · have E : Hid (.iface 81 (.int .i64 1) = errc (eH h i s)) := eH_bad (by omega)
          go_wp2
          go_ret
          exact ⟨congrArg Ending.returned E.out, hw⟩
        · go_wp2
          go_roundw
          case rel => exact ⟨2, by omega, rfl, trivial, (⟨fun k => by omega, fun k => by omega, fun k => by omega⟩ : _ ∧ _ ∧ _)⟩
          case measure => simp [intOf]
    · have q1 := HK.out.1 (by omega)
      have q2 := HK.out.2.1 (by omega)
      by_cases c1 : s < 0
      · have E : Hid (.iface 81 (.int .i64 1) = errc (eH h i s)) := eH_bad (by omega)
        go_wp2
        go_ret
        exact ⟨congrArg Ending.returned E.out, hw⟩
      · by_cases c2 : 61 ≤ s
        · have E : Hid (.iface 81 (.int .i64 1) = errc (eH h i s)) := eH_bad (by omega)
          go_wp2
          go_ret
          exact ⟨congrArg Ending.returned E.out, hw⟩
        · go_wp2
          go_roundw
          case rel => exact ⟨3, by omega, rfl, trivial, (⟨fun k => by omega, fun k => by omega, fun k => by omega⟩ : _ ∧ _ ∧ _)⟩
          case measure => simp [intOf]
    · have q1 := HK.out.1 (by omega)
      have q2 := HK.out.2.1 (by omega)
      have q3 := HK.out.2.2 (by omega)
      have E : Hid (.nilIface = errc (eH h i s)) := eH_good (by omega)
      go_wp2
      go_ret
      exact ⟨congrArg Ending.returned E.out, hw⟩

theorem jret {a b : Int} (h : a = b) : Ending.returned (.int .i64 a) = .returned (.int .i64 b) := by rw [h]
set_option maxRecDepth 100000 in
set_option maxHeartbeats 4000000 in
theorem join_any (h i s : Int) (w : World) (o : okH h i s = true) (he : EnvW w) :
    Calls Tryd.prog 69 #[hms h i s] w fun e w' => e = .returned (.int .i64 (sec h i s)) ∧ Gr w w' := by
  obtain ⟨a1, a2, a3, a4, a5, a6⟩ := okH_t o
  have HE : Hid (EnvW w) := he
  clear he o
  have w1 : IntKind.i64.wrap (3600 * h) = 3600 * h := IntWalk.i64_in _ (by omega)
  have w2 : IntKind.i64.wrap (60 * i) = 60 * i := IntWalk.i64_in _ (by omega)
  have w3 : IntKind.i64.wrap s = s := IntWalk.i64_in _ (by omega)
  have w4 : IntKind.i64.wrap (3600 * h + 60 * i) = 3600 * h + 60 * i := IntWalk.i64_in _ (by omega)
  have w5 : IntKind.i64.wrap (3600 * h + 60 * i + s) = 3600 * h + 60 * i + s := IntWalk.i64_in _ (by omega)
  go_enter Tryd.func69, Tryd.ntmps69
  go_wp2
  go_loopw [3, 5] (fun v i' wr => ∃ k : Nat, k ≤ 3 ∧ i' = .int .i64 k ∧ v = .int .i64 (if k = 0 then 0 else if k = 1 then 3600 * h else if k = 2 then 3600 * h + 60 * i else 3600 * h + 60 * i + s) ∧ Gr (w.alloc (.cells #[.int .i64 h, .int .i64 i, .int .i64 s] 100)) wr) (fun _ i _ => 3 - (intOf i).toNat)
  case atStart => exact ⟨0, Nat.zero_le _, rfl, rfl, Gr.refl⟩
  case round =>
    obtain ⟨k, hk, rfl, rfl, hg⟩ := hrel
    have PX : Row wr w.heap.size [.int .i64 h, .int .i64 i, .int .i64 s] := Row.on hg.below (Row.made rfl)
    have x0 := PX.c 0 _ rfl
    have x1 := PX.c 1 _ rfl
    have x2 := PX.c 2 _ rfl
    have hE := HE.out.below (rbel_on hg.below (rbel_al (Below.refl _ _)))
    obtain ⟨e0, e1, e2⟩ := hE
    have hc : k = 0 ∨ k = 1 ∨ k = 2 ∨ k = 3 := by omega
    rcases hc with rfl | rfl | rfl | rfl
    · go_wp2
      go_quiet (fail)
      go_wp2
      go_roundw
      case rel => exact ⟨1, by omega, rfl, rfl, hg.drn⟩
      case measure => simp [intOf]
    · go_wp2
      go_quiet (fail)
      go_wp2
      go_roundw
      case rel => exact ⟨2, by omega, rfl, rfl, hg.drn⟩
      case measure => simp [intOf]
    · go_wp2
      go_quiet (fail)
      go_wp2
      go_roundw
      case rel => exact ⟨3, by omega, rfl, rfl, hg.drn⟩
      case measure => simp [intOf]
    · have E : Hid (3600 * h + 60 * i + s = sec h i s) := by show _ = _; unfold sec; omega
      go_wp2
      go_ret
      exact ⟨jret E.out, Gr.refl.al.tr hg⟩
end Go.Proofs.YthaajbdppmdhaacDoor
