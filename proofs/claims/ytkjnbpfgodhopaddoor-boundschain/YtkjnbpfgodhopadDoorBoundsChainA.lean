/- The ways through the law BoundsChain. -/
import Derived.Test.YtkjnbpfgodhopadDoorBoundsRow
import Derived.Test.YtkjnbpfgodhopadDoorBoundsDef
import Derived.Test.YtkjnbpfgodhopadDoorTold
import Derived.Deep.CutRange
import Derived.BigRegion
import Derived.IntWalk
import Derived.Deep.QuietTactic
import Derived.BigQuiet
import Derived.Lib.SmallJoins
namespace Go.Proofs.YtkjnbpfgodhopadDoor.boundsChain
open Go.ChangeShapes Go.WideShapes Go.ChangeAt Go.RowKit Go.Joins Go.Proofs.YtkjnbpfgodhopadDoor.told
set_option linter.unusedVariables false
set_option linter.unusedSimpArgs false

set_option maxRecDepth 100000 in
set_option maxHeartbeats 4000000 in
theorem wrong (n lo hi : Int) (w : World) (he : EnvE w) (B : Bd w) (h : n < 2 ∨ 6 < n ∨ lo < -1000 ∨ hi < lo ∨ 1000 < hi) :
    Calls Tryd.prog 7 #[.int .i64 n, .int .i64 lo, .int .i64 hi] w fun e w' => e = .returned (.bool true) ∧ Below w.heap.size w w' := by
  have cB := fun u (hu : Below w.heap.size w u) => B.between 0 none 0 0 (fun _ => ⟨0, 0, 0, 0⟩) 0 0 0 0 1 u hu ⟨by omega, Or.inl rfl⟩ (by decide) (by decide) (by decide) (Or.inl ⟨by decide, rfl, rfl, by decide⟩)
  rw [errc_not (by decide)] at cB
  have HE : Hid (EnvE w) := he
  clear he B
  by_cases d1 : n < 2
  · have e1 : decide (n < 2) = true := decide_eq_true d1
    clear h
    go_enter Tryd.func7, Tryd.ntmps7
    go_wp2_with (first | (go_at_call 22; refine (cB _ (Below.refl _ _)).mono ?_; rintro e u0 ⟨rfl, hb⟩; have HB : Hid _ := hb; clear hb) | (go_at_call 16; refine (error_errno 1 _ (HE.out.below (rbel_al HB.out))).mono ?_; rintro e u1 ⟨rfl, hb⟩; have HB1 : Hid _ := hb; clear hb))
    go_ret
    exact ⟨rfl, rbel_on HB1.out (rbel_al HB.out)⟩
  · have e1 : decide (n < 2) = false := decide_eq_false d1
    by_cases d2 : 6 < n
    · have e2 : decide (6 < n) = true := decide_eq_true d2
      clear h
      go_enter Tryd.func7, Tryd.ntmps7
      go_wp2_with (first | (go_at_call 22; refine (cB _ (Below.refl _ _)).mono ?_; rintro e u0 ⟨rfl, hb⟩; have HB : Hid _ := hb; clear hb) | (go_at_call 16; refine (error_errno 1 _ (HE.out.below (rbel_al HB.out))).mono ?_; rintro e u1 ⟨rfl, hb⟩; have HB1 : Hid _ := hb; clear hb))
      go_ret
      exact ⟨rfl, rbel_on HB1.out (rbel_al HB.out)⟩
    · have e2 : decide (6 < n) = false := decide_eq_false d2
      by_cases d3 : lo < -1000
      · have e3 : decide (lo < -1000) = true := decide_eq_true d3
        clear h
        go_enter Tryd.func7, Tryd.ntmps7
        go_wp2_with (first | (go_at_call 22; refine (cB _ (Below.refl _ _)).mono ?_; rintro e u0 ⟨rfl, hb⟩; have HB : Hid _ := hb; clear hb) | (go_at_call 16; refine (error_errno 1 _ (HE.out.below (rbel_al HB.out))).mono ?_; rintro e u1 ⟨rfl, hb⟩; have HB1 : Hid _ := hb; clear hb))
        go_ret
        exact ⟨rfl, rbel_on HB1.out (rbel_al HB.out)⟩
      · have e3 : decide (lo < -1000) = false := decide_eq_false d3
        by_cases d4 : hi < lo
        · have e4 : decide (hi < lo) = true := decide_eq_true d4
          clear h
          go_enter Tryd.func7, Tryd.ntmps7
          go_wp2_with (first | (go_at_call 22; refine (cB _ (Below.refl _ _)).mono ?_; rintro e u0 ⟨rfl, hb⟩; have HB : Hid _ := hb; clear hb) | (go_at_call 16; refine (error_errno 1 _ (HE.out.below (rbel_al HB.out))).mono ?_; rintro e u1 ⟨rfl, hb⟩; have HB1 : Hid _ := hb; clear hb))
          go_ret
          exact ⟨rfl, rbel_on HB1.out (rbel_al HB.out)⟩
        · have e4 : decide (hi < lo) = false := decide_eq_false d4
          have d5 : 1000 < hi := by omega
          have e5 : decide (1000 < hi) = true := decide_eq_true d5
          clear h
          go_enter Tryd.func7, Tryd.ntmps7
          go_wp2_with (first | (go_at_call 22; refine (cB _ (Below.refl _ _)).mono ?_; rintro e u0 ⟨rfl, hb⟩; have HB : Hid _ := hb; clear hb) | (go_at_call 16; refine (error_errno 1 _ (HE.out.below (rbel_al HB.out))).mono ?_; rintro e u1 ⟨rfl, hb⟩; have HB1 : Hid _ := hb; clear hb))
          go_ret
          exact ⟨rfl, rbel_on HB1.out (rbel_al HB.out)⟩
set_option maxRecDepth 100000 in
set_option maxHeartbeats 8000000 in
theorem good (m : Nat) (lo hi : Int) (w : World) (B : Bd w) (h1 : 1 ≤ m) (h5 : m ≤ 5) (l1 : -1000 ≤ lo) (l2 : lo ≤ hi) (l3 : hi ≤ 1000) :
    Calls Tryd.prog 7 #[.int .i64 ((m : Int) + 1), .int .i64 lo, .int .i64 hi] w fun e w' => e = .returned (.bool true) ∧ Below w.heap.size w w' := by
  obtain ⟨b1, b2⟩ := chain_bet h1 h5 l1 l2 l3
  have p1 := prod_small (x := lo) h5 l1 (by omega)
  have p2 := prod_small (x := hi) h5 (by omega) l3
  have cB1 := fun u (hu : Below w.heap.size w u) a cap (hH : EHanded u a m (chain lo hi)) => B.between ((m + 1 : Nat) : Int) a m cap (chain lo hi) 0 m _ _ 0 u hu hH (in64_small (by omega) (by omega)) (by decide) (in64_small (by omega) (by omega)) b1
  have cB2 := fun u (hu : Below w.heap.size w u) a cap (hH : EHanded u a m (chain lo hi)) => B.between ((m + 1 : Nat) : Int) a m cap (chain lo hi) m 0 _ _ 0 u hu hH (in64_small (by omega) (by omega)) (in64_small (by omega) (by omega)) (by decide) b2
  rw [errc_zero, show ((m + 1 : Nat) : Int) = (m : Int) + 1 by omega] at cB1 cB2
  have w1 : IntKind.i64.wrap ((m : Int) + 1 - 1) = m := by rw [show (m : Int) + 1 - 1 = m by omega]; exact IntWalk.i64_in _ (by omega)
  have w2 : IntKind.i64.wrap ((m : Int) * lo) = (m : Int) * lo := IntWalk.i64_in _ (by omega)
  have w3 : IntKind.i64.wrap ((m : Int) * hi) = (m : Int) * hi := IntWalk.i64_in _ (by omega)
  have w4 : IntKind.i64.wrap (-((m : Int) * lo)) = -((m : Int) * lo) := IntWalk.i64_in _ (by omega)
  have w5 : IntKind.i64.wrap (-((m : Int) * hi)) = -((m : Int) * hi) := IntWalk.i64_in _ (by omega)
  clear b1 b2 B p1 p2
  have e1 : decide ((m : Int) + 1 < 2) = false := decide_eq_false (by omega)
  have e2 : decide (6 < (m : Int) + 1) = false := decide_eq_false (by omega)
  have e3 : decide (lo < -1000) = false := decide_eq_false (by omega)
  have e4 : decide (hi < lo) = false := decide_eq_false (by omega)
  have e5 : decide (1000 < hi) = false := decide_eq_false (by omega)
  obtain ⟨i0, hi0, hz0, hz1, hz2⟩ := info_parts infoEdge
  go_enter Tryd.func7, Tryd.ntmps7
  go_wp2
  go_loopw [9, 10] (fun v i wr => ∃ k : Nat, k ≤ m ∧ i = .int .i64 ((k : Int) + 1) ∧ wr.ownsRow w.heap.size 50 4 v k (ecs (chain lo hi) k) ∧ Below w.heap.size w wr) (fun _ i _ => m + 1 - (intOf i).toNat)
  case atStart => exact ⟨0, Nat.zero_le _, rfl, World.ownsRow_nil _ _ _ _, Below.refl _ _⟩
  case round =>
    obtain ⟨k, hk, rfl, hown, hw⟩ := hrel
    have zz := hw.size
    by_cases hlt : k < m
    · have hl3 : (k : Int) + 1 < (m : Int) + 1 := by omega
      have wk : IntKind.i64.wrap ((k : Int) + 1 - 1) = k := by rw [show (k : Int) + 1 - 1 = k by omega]; exact IntWalk.i64_in _ (by omega)
      have HO : Hid (∀ j, u9.ownBlock = some j → w.heap.size ≤ j) := fun j hj => (hown.lt j hj).1
      have HW : Hid _ := hw
      clear w1 w2 w3 w4 w5 cB1 cB2 hw
      go_wp2_with (at_builtin; refine wpList_append_own _ rfl _ _ 42 rfl w.heap.size 50 i0 (.agg #[.int .i64 0, .int .i64 0, .int .i64 0, .int .i64 0]) 4 32 Tryd.underlying42 hi0 hz0 hz1 hz2 rfl (by decide) _ _ _ rfl (hown.alloc _) ⟨wr.heap.size, 0, none⟩ 1 1 [.int .i64 k, .int .i64 ((k : Int) + 1), .int .i64 lo, .int .i64 hi] rfl rfl ?c1 ?c2 ?c3 ?c4 ?c5 ?_)
      case c1 =>
        intro j u hj
        rw [Addr.add_lit, World.cell?_alloc_at _ _ _ _ (by simp)]
        simpa using hj
      case c2 =>
        intro u hu
        simp at hu
        rcases hu with rfl | rfl | rfl | rfl <;> rfl
      case c3 => unfold maxLen; omega
      case c4 => omega
      case c5 => simp; omega
      intro v' w1 hown' hgrow _
      have hown1 : Hid (w1.ownsRow w.heap.size 50 4 v' (k + 1) (ecs (chain lo hi) (k + 1))) := hown'
      have hw1 : Hid (Below w.heap.size w w1) := (rbel_al HW.out).grown hgrow (by simp; omega) HO.out
      clear hown' hgrow hown HO HW
      go_wp2
      go_roundw
      case rel => exact ⟨k + 1, by omega, by go_num, hown1.out, hw1.out⟩
      case measure => simp [intOf]; omega
    · have hl3 : ¬ ((k : Int) + 1 < (m : Int) + 1) := by omega
      obtain rfl : k = m := by omega
      obtain ⟨a, cap, rfl, hH⟩ := own_edges hown (by omega)
      have HW : Hid _ := hw
      have HH : Hid (EHanded wr a k (chain lo hi)) := hH
      clear hown hH hw
      have cnt : Mark 0 := .mk _
      go_wp2_with (first
        | (go_at_call 22; have cq : Mark 0 := cnt; refine (cB1 _ HW.out _ _ HH.out).mono ?_; clear cq cnt; have cnt : Mark 1 := .mk _; rintro e u0 ⟨rfl, hb⟩; have HB : Hid _ := hb; have HW1 : Hid _ := rbel_al (ob := .cells #[.int .i64 ((k : Int) * lo), .int .i64 ((k : Int) * hi)] 48) (rbel_on hb HW.out); have HH1 : Hid (EHanded (u0.alloc (.cells #[.int .i64 ((k : Int) * lo), .int .i64 ((k : Int) * hi)] 48)) a k (chain lo hi)) := (HH.out.on hb).on (rbel_al (Below.refl _ _)); clear hb)
        | (go_at_call 22; have cq : Mark 1 := cnt; refine (cB2 _ HW1.out _ _ HH1.out).mono ?_; clear cq cnt; have cnt : Mark 2 := .mk _; rintro e u1 ⟨rfl, hb⟩; have HB1 : Hid _ := hb; have r := Row.on hb (Row.made (W := u0) (vs := [.int .i64 ((k : Int) * lo), .int .i64 ((k : Int) * hi)]) rfl); have r0 := r.c 0 _ rfl; have r1 := r.c 1 _ rfl; have rl := r.lt; clear hb r))
      go_ret
      exact ⟨rfl, rbel_al (rbel_on HB1.out HW1.out)⟩
theorem all_ways (n lo hi : Int) (w : World) (he : EnvE w) (B : Bd w) :
    Calls Tryd.prog 7 #[.int .i64 n, .int .i64 lo, .int .i64 hi] w fun e w' => e = .returned (.bool true) ∧ Below w.heap.size w w' := by
  by_cases h : n < 2 ∨ 6 < n ∨ lo < -1000 ∨ hi < lo ∨ 1000 < hi
  · exact wrong n lo hi w he B h
  · obtain ⟨m, rfl⟩ : ∃ m : Nat, n = (m : Int) + 1 := ⟨(n - 1).toNat, by omega⟩
    exact good m lo hi w B (by omega) (by omega) (by omega) (by omega) (by omega)
end Go.Proofs.YtkjnbpfgodhopadDoor.boundsChain
