/- What leap.Check answers of any leaps. -/
import Derived.Test.YthaajbdppmdhaacDoorLeapMore
import Derived.Test.YthaajbdppmdhaacDoorCivilYear
import Derived.Deep.QuietTactic
namespace Go.Proofs.YthaajbdppmdhaacDoor
open Go.ChangeShapes Go.WideShapes Go.ChangeAt Go.RowKit
set_option linter.unusedVariables false
set_option linter.unusedSimpArgs false

set_option maxHeartbeats 1000000 in
theorem check_full (a : Option Addr) (n cap : Nat) (w : World) (hn : 20 < n) (hm : n ≤ 9223372036854775807) :
    Calls Tryd.prog 28 #[.slice a n cap] w fun e w' => e = .returned (.iface 81 (.int .i64 4)) ∧ w' = w := by
  go_enter Tryd.func28, Tryd.ntmps28
  go_wp2
  go_ret
  exact ⟨rfl, rfl⟩
set_option maxHeartbeats 1000000 in
theorem check_none (a : Option Addr) (cap : Nat) (w : World) :
    Calls Tryd.prog 28 #[.slice a 0 cap] w fun e w' => e = .returned .nilIface ∧ w' = w := by
  go_enter Tryd.func28, Tryd.ntmps28
  go_wp2
  refine wp_loop_rounds 1 ?_
  rw [rounds_succ]
  go_wp2
  go_ret
  exact ⟨rfl, rfl⟩
theorem lEr_one {q : Nat → Int × Bool} {i : Nat} (h : (q i).1 < 1 ∨ 84005 ≤ (q i).1) : lEr q i = 1 := by unfold lEr; rw [if_pos h]
theorem lEr_three {q : Nat → Int × Bool} {i : Nat} (h : ¬ ((q i).1 < 1 ∨ 84005 ≤ (q i).1)) (h0 : 0 < i) (h1 : (q i).1 < (q (i - 1)).1 + 2) : lEr q i = 3 := by unfold lEr; rw [if_neg h, if_pos ⟨h0, by omega⟩]
theorem lEr_none {q : Nat → Int × Bool} {i : Nat} (h : ¬ ((q i).1 < 1 ∨ 84005 ≤ (q i).1)) (h1 : i = 0 ∨ ¬ (q i).1 < (q (i - 1)).1 + 2) : lEr q i = 0 := by
  unfold lEr
  rw [if_neg h, if_neg (fun e => by omega)]
theorem lFr_bad {q : Nat → Int × Bool} {k n : Nat} {e : Int} (g : ∀ i, i < k → lEr q i = 0) (hk : k < n) (h : lEr q k = e) (h0 : e ≠ 0) : errc (lFr q n) = .iface 81 (.int .i64 e) := by
  rw [lFr_first g (by rw [h]; exact h0) n hk, h, errc_not h0]
set_option maxRecDepth 100000 in
set_option maxHeartbeats 4000000 in
theorem check_row (b off n cap : Nat) (q : Nat → Int × Bool) (w : World) (h20 : n ≤ 20) (hP : Lsp w b off n q) :
    Calls Tryd.prog 28 #[.slice (some ⟨b, off, none⟩) n cap] w fun e w' => e = .returned (errc (lFr q n)) ∧ Below w.heap.size w w' := by
  have HP : Hid (Lsp w b off n q) := hP
  clear hP
  have cL := fun u => last_any u
  go_enter Tryd.func28, Tryd.ntmps28
  go_wp2
  go_loopw [11] (fun i wr => ∃ k : Nat, k ≤ n ∧ i = .int .i64 k ∧ Below w.heap.size w wr ∧ ∀ i, i < k → lEr q i = 0) (fun i _ => n - (intOf i).toNat)
  case atStart => exact ⟨0, Nat.zero_le _, rfl, Below.refl _ _, fun i hi => by omega⟩
  case round =>
    obtain ⟨k, hk, rfl, hw, hg⟩ := hrel
    have HG : Hid (∀ i, i < k → lEr q i = 0) := hg
    clear hg
    by_cases hlt : k < n
    · obtain ⟨x0, x1⟩ := (HP.out.on hw) k hlt
      have FB : Hid (∀ e : Int, lEr q k = e → e ≠ 0 → errc (lFr q n) = .iface 81 (.int .i64 e)) := fun e h h0 => lFr_bad HG.out hlt h h0
      have hB : b < wr.heap.size := World.block_lt_of_cell? _ _ x0
      by_cases c1 : (q k).1 < 1
      · have d1 : decide ((q k).1 < 1) = true := decide_eq_true c1
        have E : Hid (.iface 81 (.int .i64 1) = errc (lFr q n)) := (FB.out 1 (lEr_one (Or.inl c1)) (by decide)).symm
        go_wp2
        go_quiet (fail)
        go_wp2
        go_ret
        exact ⟨congrArg Ending.returned E.out, rbel_drn (rbel_al hw)⟩
      · have d1 : decide ((q k).1 < 1) = false := decide_eq_false c1
        by_cases c2 : 84005 ≤ (q k).1
        · have d2 : decide (84005 ≤ (q k).1) = true := decide_eq_true c2
          have E : Hid (.iface 81 (.int .i64 1) = errc (lFr q n)) := (FB.out 1 (lEr_one (Or.inr c2)) (by decide)).symm
          go_wp2
          go_quiet (first | (go_at_call 57; refine Calls.quiet_of_same (cL _)))
          go_wp2
          go_ret
          exact ⟨congrArg Ending.returned E.out, rbel_drn (rbel_al hw)⟩
        · have d2 : decide (84005 ≤ (q k).1) = false := decide_eq_false c2
          by_cases c3 : k = 0
          · have Z : Hid (lEr q k = 0) := lEr_none (by omega) (Or.inl c3)
            subst c3
            simp only [Nat.zero_mul, Nat.add_zero] at x0 x1
            have d3 : decide (0 < (0 : Int)) = false := rfl
            go_wp2
            go_quiet (first | (go_at_call 57; refine Calls.quiet_of_same (cL _)))
            go_wp2
            go_quiet (fail)
            go_wp2
            go_roundw
            case rel => exact ⟨1, by omega, by go_num, rbel_drn (rbel_al hw), fun i hi => by
              have e : i = 0 := by omega
              rw [e]; exact Z.out⟩
            case measure => simp [intOf]; omega
          · obtain ⟨j, rfl⟩ : ∃ j, k = j + 1 := ⟨k - 1, by omega⟩
            obtain ⟨y0, y1⟩ := (HP.out.on hw) j (by omega)
            have pj := lEr_zero (HG.out j (by omega))
            obtain ⟨p1, p2, _⟩ := pj
            have d3 : decide (0 < ((j + 1 : Nat) : Int)) = true := decide_eq_true (by omega)
            have ej : ((j + 1 : Nat) : Int) - 1 = (j : Int) := by omega
            have jn : (j : Int) < (n : Int) := by omega
            have wa : IntKind.i64.wrap ((q j).1 + 2) = (q j).1 + 2 := IntWalk.i64_in _ (by omega)
            have wb : IntKind.i64.wrap (((j + 1 : Nat) : Int) - 1) = (j : Int) := by rw [ej]; exact IntWalk.i64_in _ (by omega)
            by_cases c4 : (q (j + 1)).1 < (q j).1 + 2
            · have d4 : decide ((q (j + 1)).1 < (q j).1 + 2) = true := decide_eq_true c4
              have E : Hid (.iface 81 (.int .i64 3) = errc (lFr q n)) := (FB.out 3 (lEr_three (by omega) (by omega) c4) (by decide)).symm
              go_wp2
              go_quiet (first | (go_at_call 57; refine Calls.quiet_of_same (cL _)))
              go_wp2
              go_quiet (fail)
              go_wp2
              go_ret
              exact ⟨congrArg Ending.returned E.out, rbel_drn (rbel_al hw)⟩
            · have d4 : decide ((q (j + 1)).1 < (q j).1 + 2) = false := decide_eq_false c4
              have Z : Hid (lEr q (j + 1) = 0) := lEr_none (by omega) (Or.inr c4)
              go_wp2
              go_quiet (first | (go_at_call 57; refine Calls.quiet_of_same (cL _)))
              go_wp2
              go_quiet (fail)
              go_wp2
              go_roundw
              case rel => exact ⟨j + 1 + 1, by omega, by go_num, rbel_drn (rbel_al hw), fun i hi => by
                by_cases e : i = j + 1
                · rw [e]; exact Z.out
                · exact HG.out i (by omega)⟩
              case measure => simp [intOf]; omega
    · have kn : k = n := by omega
      subst kn
      have E : Hid (.nilIface = errc (lFr q k)) := by show _ = _; rw [lFr_ok HG.out, errc_zero]
      go_wp2
      go_ret
      exact ⟨congrArg Ending.returned E.out, hw⟩
end Go.Proofs.YthaajbdppmdhaacDoor
