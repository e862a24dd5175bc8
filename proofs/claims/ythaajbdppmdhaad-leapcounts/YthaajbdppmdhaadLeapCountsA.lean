/- The law LeapCounts, over what leap.Check and leap.Ahead must answer. -/
import Derived.Test.YthaajbdppmdhaadLeapCnt
import Derived.Test.YthaajbdppmdhaadLeapLpC
import Derived.Lib.SmallJoins
import Derived.WalkKit
import Derived.ProofKit
import Derived.OpenShut
import Derived.Outline
import Derived.Below
import Derived.IntWalk
import Derived.WalkLawsBesides
namespace Go.Proofs.Ythaajbdppmdhaad.leapCounts
open Go.ChangeShapes Go.WideShapes Go.ChangeAt Go.RowKit Go.Joins
set_option linter.unusedVariables false
set_option linter.unusedSimpArgs false

theorem infoLeap : (Try.prog.info? 25).map (fun i => (i.zero, i.size, i.bytes)) = some (some (.agg #[.int .i64 0, .bool false]), 2, 16) := by kernel_rfl
set_option maxRecDepth 100000 in
set_option maxHeartbeats 4000000 in
theorem all_ways (a : Option Addr) (n cap : Nat) (z : Nat → Int) (up : Bool) (w : World) (C : LpC w) (hI : IHanded w a n z) :
    Calls Try.prog 3 #[.slice a n cap, .bool up] w fun e w' => e = .returned (.bool true) ∧ Below w.heap.size w w' := by
  obtain ⟨i0, hi0, hz0, hz1, hz2⟩ := info_parts infoLeap
  obtain ⟨hn, hI⟩ := hI
  have CD : Hid (∀ k, 0 ≤ cdy z k ∧ cdy z k ≤ 1002 * k) := cdy_in z
  have CK : Hid (∀ k u v, k ≤ 20 → Below w.heap.size w u → u.ownsRow w.heap.size 25 2 v (cLs z up k).length (celL (cLs z up k)) → ∃ a cap, v = .slice a (cLs z up k).length cap ∧
      (∀ u', Below u.heap.size u u' → Calls Try.prog 4 #[.slice a (cLs z up k).length cap] u' fun x w' => x = .returned .nilIface ∧ Below u'.heap.size u' w') ∧
      (∀ u', Below u.heap.size u u' → Calls Try.prog 5 #[.slice a (cLs z up k).length cap, .int .i64 (86400 * (cdy z k + 3) + 100)] u' fun x w' => x = .returned (.tuple #[.int .i64 ((cLs z up k).length * sgn up), .nilIface]) ∧ Below u'.heap.size u' w')) := by
    intro k u v hk hu ho
    have len := cLs_len z up k
    obtain ⟨a, cap, rfl, hH⟩ := lhanded_own ho (by omega)
    have cd := cdy_in z k
    refine ⟨a, cap, rfl, fun u' hu' => ?_, fun u' hu' => ?_⟩
    · have c := C.check a _ cap _ u' (rbel_on hu' hu) (hH.on hu')
      rwa [lE_of (cLs_lps z up k hk) (by omega), errc_zero] at c
    · have c := C.ahead a _ cap _ _ _ 0 u' (rbel_on hu' hu) (hH.on hu') (WalkArith.wf_i64 (by omega)) (counts_ahead z up k hk)
      rwa [errc_zero] at c
  have LN : Hid (∀ k, (cLs z up k).length ≤ k) := cLs_len z up
  clear C
  go_enter Try.func3, Try.ntmps3
  go_wp2
  go_loopw [5, 6, 7] (fun v d i wr => ∃ k : Nat, k ≤ n ∧ k ≤ 20 ∧ i = .int .i64 k ∧ d = .int .i64 (cdy z k) ∧ wr.ownsRow w.heap.size 25 2 v (cLs z up k).length (celL (cLs z up k)) ∧ Below w.heap.size w wr) (fun _ _ i _ => 20 - (intOf i).toNat)
  case atStart => exact ⟨0, Nat.zero_le _, Nat.zero_le _, rfl, rfl, World.ownsRow_nil _ _ _ _, Below.refl _ _⟩
  case round =>
    obtain ⟨k, hk, hk2, rfl, rfl, hown, hw⟩ := hrel
    obtain ⟨p1, p2⟩ := CD.out k
    have ln := LN.out k
    have zw := hw.size
    by_cases hlt : k < n
    · by_cases h20 : k < 20
      · obtain ⟨b, off, rfl, hP⟩ : ∃ b off : Nat, a = some ⟨b, off, none⟩ ∧ Ird w b off n z := by
          rcases hI with e | h
          · omega
          · exact h
        have x0 := (hP.on hw) k hlt
        have hbl : b < w.heap.size := World.block_lt_of_cell? _ _ (hP k hlt)
        have nb : ¬ (b = wr.heap.size) := by omega
        have nb2 : ¬ (wr.heap.size = b) := by omega
        have hl3 : (k : Int) < n := by omega
        have hl4 : (k : Int) < 20 := by omega
        clear hP hI CK CD LN
        by_cases d1 : z k < 0
        · have E1 : Hid (cLs z up (k + 1) = cLs z up k) := if_pos (Or.inl d1)
          have E2 : Hid (cdy z (k + 1) = cdy z k) := if_pos (Or.inl d1)
          have HO : Hid _ := hown
          clear hown
          go_wp2
          go_roundw
          case rel => exact ⟨k + 1, by omega, by omega, by go_num, by rw [E2.out], by rw [E1.out]; exact HO.out, hw⟩
          case measure => simp [intOf]; omega
        · by_cases d2 : 1000 < z k
          · have E1 : Hid (cLs z up (k + 1) = cLs z up k) := if_pos (Or.inr d2)
            have E2 : Hid (cdy z (k + 1) = cdy z k) := if_pos (Or.inr d2)
            have HO : Hid _ := hown
            clear hown
            go_wp2
            go_roundw
            case rel => exact ⟨k + 1, by omega, by omega, by go_num, by rw [E2.out], by rw [E1.out]; exact HO.out, hw⟩
            case measure => simp [intOf]; omega
          · have E1 : Hid (cLs z up (k + 1) = cLs z up k ++ [(cdy z k + 2 + z k, up)]) := if_neg (by omega)
            have E2 : Hid (cdy z (k + 1) = cdy z k + 2 + z k) := if_neg (by omega)
            go_wp2_with (at_builtin; refine wpList_append_own _ rfl _ _ 23 rfl w.heap.size 25 i0 (.agg #[.int .i64 0, .bool false]) 2 16 Try.underlying23 hi0 hz0 hz1 hz2 rfl (by decide) _ _ _ rfl (hown.alloc _) ⟨wr.heap.size, 0, none⟩ 1 1 [.int .i64 (cdy z k + 2 + z k), .bool up] rfl rfl ?c1 ?c2 ?c3 ?c4 ?c5 ?_)
            case c2 => first | exact ⟨rfl, rfl⟩ | (intro u hu; simp at hu; rcases hu with rfl | rfl <;> rfl)
            case c3 => unfold maxLen; omega
            case c4 => omega
            case c5 => first | omega | (simp; omega)
            intro v' w1 hown' hgrow _
            have hown1 : Hid (w1.ownsRow w.heap.size 25 2 v' (cLs z up (k + 1)).length (celL (cLs z up (k + 1)))) := by
              show w1.ownsRow w.heap.size 25 2 v' _ _
              rw [E1.out, celL_app, List.length_append]
              exact hown'
            have hb1 : Below w.heap.size w w1 := (rbel_al hw).grown hgrow (by simp; omega) (fun j hj => (hown.lt j hj).1)
            clear hown' hgrow hown
            go_wp2
            go_roundw
            case rel => exact ⟨k + 1, by omega, by omega, by go_num, by rw [E2.out], hown1.out, hb1⟩
            case measure => simp [intOf]; omega
      · have kn : k = 20 := by omega
        have t1 : decide ((k : Int) < n) = true := decide_eq_true (by omega)
        have t2 : decide ((k : Int) < 20) = false := decide_eq_false (by omega)
        have t3 : ¬ ((k : Int) < 20) := by omega
        have t4 : (k : Int) < n := by omega
        clear kn
        obtain ⟨a', cap', rfl, cC, cA⟩ := CK.out k wr _ hk2 hw hown
        have ln := LN.out k
        obtain ⟨p1, p2⟩ := CD.out k
        clear CK CD LN hown hI
        generalize cdy z k = D at *
        generalize (cLs z up k).length = len at *
        have cnt : Mark 0 := .mk _
        cases up with
        | true =>
          rw [show ((len : Int) * sgn true) = len from by show (len : Int) * 1 = len; omega] at cA
          go_wp2_with (first | (go_at_call 4; refine (cC _ (Below.refl _ _)).mono ?_; rintro e u0 ⟨rfl, hb⟩; have hb0 : Below wr.heap.size wr u0 := hb; have hw1 : Below w.heap.size w u0 := rbel_on hb hw; clear hb) | (go_at_call 5; refine (cA _ hb0).mono ?_; rintro e u1 ⟨rfl, hb⟩; have hw2 : Below w.heap.size w u1 := rbel_on hb hw1; clear hb))
          go_ret
          exact ⟨by first | rfl | simp, hw2⟩
        | false =>
          rw [show ((len : Int) * sgn false) = -len from by show (len : Int) * (-1) = -len; omega] at cA
          go_wp2_with (first | (go_at_call 4; refine (cC _ (Below.refl _ _)).mono ?_; rintro e u0 ⟨rfl, hb⟩; have hb0 : Below wr.heap.size wr u0 := hb; have hw1 : Below w.heap.size w u0 := rbel_on hb hw; clear hb) | (go_at_call 5; refine (cA _ hb0).mono ?_; rintro e u1 ⟨rfl, hb⟩; have hw2 : Below w.heap.size w u1 := rbel_on hb hw1; clear hb))
          go_ret
          exact ⟨by first | rfl | simp, hw2⟩
    · have t1 : decide ((k : Int) < n) = false := decide_eq_false (by omega)
      have t3 : ¬ ((k : Int) < n) := by omega
      obtain ⟨a', cap', rfl, cC, cA⟩ := CK.out k wr _ hk2 hw hown
      have ln := LN.out k
      obtain ⟨p1, p2⟩ := CD.out k
      clear CK CD LN hown hI
      generalize cdy z k = D at *
      generalize (cLs z up k).length = len at *
      have cnt : Mark 0 := .mk _
      cases up with
      | true =>
        rw [show ((len : Int) * sgn true) = len from by show (len : Int) * 1 = len; omega] at cA
        go_wp2_with (first | (go_at_call 4; refine (cC _ (Below.refl _ _)).mono ?_; rintro e u0 ⟨rfl, hb⟩; have hb0 : Below wr.heap.size wr u0 := hb; have hw1 : Below w.heap.size w u0 := rbel_on hb hw; clear hb) | (go_at_call 5; refine (cA _ hb0).mono ?_; rintro e u1 ⟨rfl, hb⟩; have hw2 : Below w.heap.size w u1 := rbel_on hb hw1; clear hb))
        go_ret
        exact ⟨by first | rfl | simp, hw2⟩
      | false =>
        rw [show ((len : Int) * sgn false) = -len from by show (len : Int) * (-1) = -len; omega] at cA
        go_wp2_with (first | (go_at_call 4; refine (cC _ (Below.refl _ _)).mono ?_; rintro e u0 ⟨rfl, hb⟩; have hb0 : Below wr.heap.size wr u0 := hb; have hw1 : Below w.heap.size w u0 := rbel_on hb hw; clear hb) | (go_at_call 5; refine (cA _ hb0).mono ?_; rintro e u1 ⟨rfl, hb⟩; have hw2 : Below w.heap.size w u1 := rbel_on hb hw1; clear hb))
        go_ret
        exact ⟨by first | rfl | simp, hw2⟩
end Go.Proofs.Ythaajbdppmdhaad.leapCounts
