/- The ways through the law TreeAll. -/
import Derived.Test.YtjdeeeefapijeaeDoorTreeDef
import Derived.Test.YtjdeeeefapijeaeDoorBoundsRow
import Derived.Test.YtjdeeeefapijeaeDoorTold
import Derived.Deep.CutRange
import Derived.BigRegion
import Derived.IntWalk
import Derived.Deep.QuietTactic
import Derived.BigQuiet
import Derived.Lib.SmallJoins
namespace Go.Proofs.YtjdeeeefapijeaeDoor.treeAll
open Go.ChangeShapes Go.WideShapes Go.ChangeAt Go.RowKit Go.Joins Go.Proofs.YtjdeeeefapijeaeDoor.told
set_option linter.unusedVariables false
set_option linter.unusedSimpArgs false

theorem chain_tree : ∀ n, n < 7 → ∀ r, r < n → ∀ i, i < n → (treeT (chain 1 2) (n - 1) n r).by_ i = if i = r then -1 else if r < i then (i : Int) - 1 else i := by decide +kernel
theorem chain_e0 : ∀ n : Nat, n < 7 → 0 < n → eE n (chain 1 2) (n - 1) = 0 := by decide +kernel
set_option maxRecDepth 100000 in
set_option maxHeartbeats 1000000 in
theorem wrong (n root : Int) (w : World) (h : n < 1 ∨ 6 < n) :
    Calls Tryd.prog 8 #[.int .i64 n, .int .i64 root] w fun e w' => e = .returned (.bool true) ∧ Below w.heap.size w w' := by
  by_cases d1 : n < 1
  · have e1 : decide (n < 1) = true := decide_eq_true d1
    clear h
    go_enter Tryd.func8, Tryd.ntmps8
    go_wp2
    go_ret
    exact ⟨rfl, Below.refl _ _⟩
  · have e1 : decide (n < 1) = false := decide_eq_false d1
    have d2 : 6 < n := by omega
    have e2 : decide (6 < n) = true := decide_eq_true d2
    clear h
    go_enter Tryd.func8, Tryd.ntmps8
    go_wp2
    go_ret
    exact ⟨rfl, Below.refl _ _⟩
set_option maxRecDepth 100000 in
set_option maxHeartbeats 8000000 in
theorem good (m : Nat) (root : Int) (w : World) (he : EnvE w) (B : Ts w) (h5 : m ≤ 5) (wr0 : In64 root) :
    Calls Tryd.prog 8 #[.int .i64 ((m : Int) + 1), .int .i64 root] w fun e w' => e = .returned (.bool true) ∧ Below w.heap.size w w' := by
  have e0 := chain_e0 (m + 1) (by omega) (by omega)
  have HE : Hid (EnvE w) := he
  have HB : Hid (Ts w) := B
  have H0 : Hid (eE ((m + 1 : Nat) : Int) (chain 1 2) m = 0) := e0
  have e1 : decide ((m : Int) + 1 < 1) = false := decide_eq_false (by omega)
  have e2 : decide (6 < (m : Int) + 1) = false := decide_eq_false (by omega)
  have WR : Hid (In64 root) := wr0
  obtain ⟨i0, hi0, hz0, hz1, hz2⟩ := info_parts infoEdge
  clear he B e0 wr0
  go_enter Tryd.func8, Tryd.ntmps8
  go_wp2
  go_loopw [5, 6] (fun v i wr => ∃ k : Nat, k ≤ m ∧ i = .int .i64 ((k : Int) + 1) ∧ wr.ownsRow w.heap.size 43 4 v k (ecs (chain 1 2) k) ∧ Below w.heap.size w wr) (fun _ i _ => m + 1 - (intOf i).toNat)
  case atStart => exact ⟨0, Nat.zero_le _, rfl, World.ownsRow_nil _ _ _ _, Below.refl _ _⟩
  case round =>
    obtain ⟨k, hk, rfl, hown, hw⟩ := hrel
    have zz := hw.size
    by_cases hlt : k < m
    · have hl3 : (k : Int) + 1 < (m : Int) + 1 := by omega
      have wk : IntKind.i64.wrap ((k : Int) + 1 - 1) = k := by rw [show (k : Int) + 1 - 1 = k by omega]; exact IntWalk.i64_in _ (by omega)
      have HO : Hid (∀ j, u5.ownBlock = some j → w.heap.size ≤ j) := fun j hj => (hown.lt j hj).1
      have HW : Hid (Below w.heap.size w wr) := hw
      clear hw HB H0 HE WR
      go_wp2_with (at_builtin; refine wpList_append_own _ rfl _ _ 22 rfl w.heap.size 43 i0 (.agg #[.int .i64 0, .int .i64 0, .int .i64 0, .int .i64 0]) 4 32 Tryd.underlying22 hi0 hz0 hz1 hz2 rfl (by decide) _ _ _ rfl (hown.alloc _) ⟨wr.heap.size, 0, none⟩ 1 1 [.int .i64 k, .int .i64 ((k : Int) + 1), .int .i64 1, .int .i64 2] rfl rfl ?c1 ?c2 ?c3 ?c4 ?c5 ?_)
      case c1 =>
        intro j u hj
        rw [Addr.add_lit, World.cell?_alloc_at _ _ _ _ (by simp)]
        simpa using hj
      case c2 =>
        intro u hu
        simp at hu
        rcases hu with rfl | rfl | rfl | rfl <;> rfl
      case c3 => unfold maxLen; omega
      case c4 => omega
      case c5 => simp; omega
      intro v' w1 hown' hgrow _
      have hown1 : Hid (w1.ownsRow w.heap.size 43 4 v' (k + 1) (ecs (chain 1 2) (k + 1))) := hown'
      have hw1 : Hid (Below w.heap.size w w1) := (rbel_al HW.out).grown hgrow (by simp; omega) HO.out
      clear hown' hgrow hown HO HW
      go_wp2
      go_roundw
      case rel => exact ⟨k + 1, by omega, by go_num, hown1.out, hw1.out⟩
      case measure => simp [intOf]; omega
    · have hl3 : ¬ ((k : Int) + 1 < (m : Int) + 1) := by omega
      obtain rfl : k = m := by omega
      obtain ⟨a, cap, rfl, hH⟩ := own_edges hown (by omega)
      have HW : Hid (Below w.heap.size w wr) := hw
      have ik : In64 ((k + 1 : Nat) : Int) := in64_small (by omega) (by omega)
      by_cases hr : 0 ≤ root ∧ root < (k : Int) + 1
      · obtain ⟨r, rfl⟩ : ∃ r : Nat, root = r := ⟨root.toNat, by omega⟩
        have cP := HB.out.parents ((k + 1 : Nat) : Int) a k cap (chain 1 2) r 0 wr hw hH ik WR.out (Or.inr (Or.inr ⟨H0.out, by omega, rfl⟩))
        rw [errc_zero, show ((k + 1 : Nat) : Int) = (k : Int) + 1 by omega] at cP
        have g1 : decide ((r : Int) < 0) = false := decide_eq_false (by omega)
        have g2 : decide ((k : Int) + 1 ≤ (r : Int)) = false := decide_eq_false (by omega)
        have hrk : r < k + 1 := by omega
        clear hown hH hw HB H0 HE WR hr
        go_wp2_with (go_at_call 19; refine cP.mono ?_; rintro e' u0 ⟨lx, kx, cx, sx, rfl, hn, _, hz, hb⟩; obtain ⟨ek, hs⟩ := hz (by trivial); have HN : Hid (NHanded u0 lx kx sx) := hn; have HS : Hid (∀ i, i < kx → sx i = (treeT (chain 1 2) k (k + 1) r).by_ i) := (fun i hi => (hs i hi).trans (by rw [show ((k : Int) + 1).toNat = k + 1 by omega, Int.toNat_natCast])); obtain rfl : kx = k + 1 := (by omega); have HW0 : Hid (Below w.heap.size w u0) := rbel_on hb HW.out; clear hb hn hz hs ek)
        obtain ⟨pb, po, rfl, hNr⟩ : ∃ b off : Nat, lx = some ⟨b, off, none⟩ ∧ Nrd u0 b off (k + 1) sx := by
          rcases HN.out.2 with e' | h
          · omega
          · exact h
        have HNr : Hid (Nrd u0 pb po (k + 1) sx) := hNr
        clear hNr HN cP
        go_loopw [9] (fun vi wr => ∃ i : Nat, i ≤ k + 1 ∧ vi = .int .i64 i ∧ wr = u0) (fun i _ => k + 1 - (intOf i).toNat)
        case atStart => exact ⟨0, Nat.zero_le _, rfl, rfl⟩
        case round =>
          obtain ⟨i, hi, rfl, rfl⟩ := hrel
          by_cases hli : i < k + 1
          · have hl4 : (i : Int) < (k : Int) + 1 := by omega
            have x0 := HNr.out i hli
            rw [HS.out i hli] at x0
            have ct := chain_tree (k + 1) (by omega) r hrk i hli
            rw [show k + 1 - 1 = k by omega] at ct
            rw [ct] at x0
            clear ct
            by_cases c1 : i = r
            · subst c1
              rw [if_pos rfl] at x0
              as_aux_lemma =>
                go_wp2
                go_roundw
                case rel => exact ⟨i + 1, by omega, by go_num, trivial⟩
                case measure => simp [intOf]; omega
            · rw [if_neg c1] at x0
              have b1 : ((i : Int) == (r : Int)) = false := by simp; omega
              by_cases c2 : r < i
              · rw [if_pos c2] at x0
                have b2 : decide ((r : Int) < i) = true := decide_eq_true (by omega)
                have wi : IntKind.i64.wrap ((i : Int) - 1) = (i : Int) - 1 := IntWalk.i64_in _ (by omega)
                as_aux_lemma =>
                  go_wp2
                  go_roundw
                  case rel => exact ⟨i + 1, by omega, by go_num, trivial⟩
                  case measure => simp [intOf]; omega
              · rw [if_neg c2] at x0
                have b2 : decide ((r : Int) < i) = false := decide_eq_false (by omega)
                as_aux_lemma =>
                  go_wp2
                  go_roundw
                  case rel => exact ⟨i + 1, by omega, by go_num, trivial⟩
                  case measure => simp [intOf]; omega
          · have hl4 : ¬ ((i : Int) < (k : Int) + 1) := by omega
            go_wp2
            go_ret
            exact ⟨rfl, HW0.out⟩
      · have cP := HB.out.parents ((k + 1 : Nat) : Int) a k cap (chain 1 2) root 1 wr hw hH ik WR.out (Or.inr (Or.inl ⟨H0.out, by omega, rfl⟩))
        rw [errc_not (by decide), show ((k + 1 : Nat) : Int) = (k : Int) + 1 by omega] at cP
        by_cases r0 : root < 0
        · have g1 : decide (root < 0) = true := decide_eq_true r0
          clear hown hH hw HB H0 WR hr
          as_aux_lemma =>
            go_wp2_with (first
              | (go_at_call 19; refine cP.mono ?_; rintro e' u0 ⟨lx, kx, cx, sx, rfl, _, _, _, hb⟩; have HW0 : Hid (Below w.heap.size w u0) := rbel_on hb HW.out; clear hb)
              | (go_at_call 12; refine (error_errno 1 _ (HE.out.below HW0.out)).mono ?_; rintro e' u1 ⟨rfl, hb⟩; have HW1 : Hid (Below w.heap.size w u1) := rbel_on hb HW0.out; clear hb))
            go_ret
            exact ⟨rfl, HW1.out⟩
        · have g1 : decide (root < 0) = false := decide_eq_false r0
          have g2 : decide ((k : Int) + 1 ≤ root) = true := decide_eq_true (by omega)
          clear hown hH hw HB H0 WR hr
          as_aux_lemma =>
            go_wp2_with (first
              | (go_at_call 19; refine cP.mono ?_; rintro e' u0 ⟨lx, kx, cx, sx, rfl, _, _, _, hb⟩; have HW0 : Hid (Below w.heap.size w u0) := rbel_on hb HW.out; clear hb)
              | (go_at_call 12; refine (error_errno 1 _ (HE.out.below HW0.out)).mono ?_; rintro e' u1 ⟨rfl, hb⟩; have HW1 : Hid (Below w.heap.size w u1) := rbel_on hb HW0.out; clear hb))
            go_ret
            exact ⟨rfl, HW1.out⟩
theorem all_ways (n root : Int) (w : World) (he : EnvE w) (B : Ts w) (wr0 : In64 root) :
    Calls Tryd.prog 8 #[.int .i64 n, .int .i64 root] w fun e w' => e = .returned (.bool true) ∧ Below w.heap.size w w' := by
  by_cases h : n < 1 ∨ 6 < n
  · exact wrong n root w h
  · obtain ⟨m, rfl⟩ : ∃ m : Nat, n = (m : Int) + 1 := ⟨(n - 1).toNat, by omega⟩
    exact good m root w he B (by omega) wr0
end Go.Proofs.YtjdeeeefapijeaeDoor.treeAll
