/- The ways through the law OrderFree. -/
import Derived.Test.YtbghpjmjhhjcgagOrdDefF
import Derived.Test.YtbghpjmjhhjcgagOrdRow
import Derived.Lib.SmallJoins
import Derived.OwnWalk
import Derived.Laws.AppendOwnNone
import Derived.BigQuiet
import Derived.Deep.QuietTactic
import Derived.IntWalk
namespace Go.Proofs.Ytbghpjmjhhjcgag.orderFree
open Go.ChangeShapes Go.WideShapes Go.ChangeAt Go.RowKit Go.Joins
set_option linter.unusedVariables false
set_option linter.unusedSimpArgs false

/-- The law's own events: of one span, or one behind the other. -/
def evF (ap : Bool) (i : Nat) : Ev := ⟨i, if ap then 20 * i else 0, if ap then 20 * i + 10 else 10⟩
theorem evF_ok (ap : Bool) {n : Nat} (h : n ≤ 12) : EvE n (evF ap) 0 := Or.inr (Or.inr ⟨h, fun j hj => ⟨by
  cases ap
  · rfl
  · exact okB_mk ⟨by show (20 * (j : Int)) ≤ 20 * j + 10; omega, by show -1000000000000 ≤ (20 * (j : Int)); omega, by show (20 * (j : Int) + 10) ≤ 1000000000000; omega⟩, fun k hk e => by
  have e' : (k : Int) = (j : Int) := e
  omega⟩, rfl⟩)
theorem evF_idw (ap : Bool) {n : Nat} (h : n ≤ 12) : IdW n (evF ap) := fun i hi => WalkArith.wf_i64 (by show -9223372036854775808 ≤ (i : Int) ∧ (i : Int) ≤ 9223372036854775807; omega)
theorem sur_f (i k : Nat) : sur (evF false) i k = false := rfl
theorem sur_t (i k : Nat) : sur (evF true) i k = true ↔ i < k := by
  show decide ((20 * (i : Int) + 10) < 20 * (k : Int)) = true ↔ i < k
  rw [decide_eq_true_eq]
  omega
theorem mny_f (n : Nat) : mny (evF false) n = fac n := waysL_free (fun i k _ _ => sur_f i k) n _ (cntN_all n)
theorem mny_t (n : Nat) : mny (evF true) n = 1 := by
  unfold mny
  rw [waysL_congr n (S' := fun i => decide (i < n)) (fun i hi => by simp [hi])]
  exact waysL_apart (fun i k _ _ => sur_t i k) n (Nat.le_refl _)
theorem rk_f {n : Nat} (h : n ≤ 12) : ∀ i, i < n → rkO (evF false) n i = 1 := RkI.one (evF_ok false h).zero.2 (rkO_is (evF_ok false h).zero.2) (r' := fun _ => 1) (fun i hi => ⟨Int.le_refl _, (fun k hk s => absurd s (by rw [sur_f]; simp)), Or.inl rfl⟩)
theorem rk_t {n : Nat} (h : n ≤ 12) : ∀ i, i < n → rkO (evF true) n i = (i : Int) + 1 := RkI.one (r' := fun i => (i : Int) + 1) (evF_ok true h).zero.2 (rkO_is (evF_ok true h).zero.2) (fun i hi => ⟨by show (1 : Int) ≤ i + 1; omega, fun k hk s => by have := (sur_t k i).1 s; show (k : Int) + 1 < i + 1; omega, by
  by_cases i0 : i = 0
  · subst i0; exact Or.inl rfl
  · exact Or.inr ⟨i - 1, by omega, (sur_t _ _).2 (by omega), by show (i : Int) + 1 = ((i - 1 : Nat) : Int) + 1 + 1; omega⟩⟩)
theorem fac_le {i : Nat} (h : i ≤ 12) : fac i ≤ 479001600 := Nat.le_trans (fac_mono h) (by decide)
/-- What the law wants. -/
def wan (ap : Bool) (i : Nat) : Nat := if ap then 1 else fac i
theorem wan_mny (ap : Bool) (n : Nat) : wan ap n = mny (evF ap) n := by
  cases ap
  · exact (mny_f n).symm
  · exact (mny_t n).symm
set_option maxRecDepth 100000 in
set_option maxHeartbeats 4000000 in
theorem all_ways (n : Int) (ap : Bool) (w : World) (F : OdF w) (hn : In64 n) : Calls Try.prog 4 #[.int .i64 n, .bool ap] w fun r w' => r = .returned (.bool true) ∧ Below w.heap.size w w' := by
  obtain ⟨i0, hi0, hz0, hz1, hz2⟩ := info_parts infoEvent
  by_cases c1 : n < 0
  · have d1 : decide (n < 0) = true := decide_eq_true c1
    clear F
    go_enter Try.func4, Try.ntmps4
    go_wp2
    go_ret
    exact ⟨rfl, Below.refl _ _⟩
  have d1 : decide (n < 0) = false := decide_eq_false c1
  by_cases c2 : 12 < n
  · have d2 : decide (12 < n) = true := decide_eq_true c2
    clear F
    go_enter Try.func4, Try.ntmps4
    go_wp2
    go_ret
    exact ⟨rfl, Below.refl _ _⟩
  have d2 : decide (12 < n) = false := decide_eq_false c2
  obtain ⟨N, rfl⟩ : ∃ N : Nat, n = (N : Int) := ⟨n.toNat, by omega⟩
  have N12 : N ≤ 12 := by omega
  have cM : Hid (∀ u a cap, Below w.heap.size w u → VHanded u a N (evF ap) → N ≤ cap → Calls Try.prog 6 #[.slice a N cap] u fun r w' => r = .returned (.tuple #[.int .i64 (wan ap N : Nat), .nilIface]) ∧ Below u.heap.size u w') := fun u a cap hu hv hcp => by
    have h := F.many a N cap (evF ap) 0 u hu hv hcp (evF_ok ap N12)
    rw [if_pos rfl, errc_zero, ← wan_mny] at h
    exact h
  have cR : Hid (∀ u a cap, Below w.heap.size w u → VHanded u a N (evF ap) → N ≤ cap → Calls Try.prog 7 #[.slice a N cap] u fun r w' => ∃ ta tc, r = .returned (.tuple #[.slice ta N tc, .nilIface]) ∧ NHanded w' ta N (fun i => if ap then (i : Int) + 1 else 1) ∧ Below u.heap.size u w') := fun u a cap hu hv hcp => (F.ranks a N cap (evF ap) 0 u hu hv hcp (evF_idw ap N12) (evF_ok ap N12)).mono (by
    rintro r w' ⟨ta, kk, tc, t, rfl, hN, _, h2, hb⟩
    obtain ⟨q1, q2⟩ := h2 rfl
    subst q1
    rw [errc_zero]
    refine ⟨ta, tc, rfl, ⟨hN.1, hN.2.imp id (fun ⟨b, off, e, s⟩ => ⟨b, off, e, fun j hj => ?_⟩)⟩, hb⟩
    have e2 : t j = if ap then (j : Int) + 1 else 1 := by
      rw [q2 j hj]
      cases ap
      · exact rk_f N12 j hj
      · exact rk_t N12 j hj
    show w'.cell? ⟨b, off + j, none⟩ = some (.int .i64 (if ap then (j : Int) + 1 else 1))
    rw [← e2]
    exact s j hj)
  clear F hn c1 c2
  go_enter Try.func4, Try.ntmps4
  go_wp2
  go_loopw [5, 6, 7, 8] (fun v vw vi vs wr => ∃ i W : Nat, i ≤ N ∧ vi = .int .i64 i ∧ vw = .int .i64 W ∧ W = wan ap i ∧ wr.ownsRow w.heap.size 31 3 v i (vcs (evF ap) i) ∧ Below w.heap.size w wr) (fun _ _ i _ _ => N - (intOf i).toNat)
  case atStart => exact ⟨0, 1, Nat.zero_le _, rfl, rfl, by cases ap <;> rfl, World.ownsRow_nil _ _ _ _, Below.refl _ _⟩
  case round =>
    obtain ⟨i, W, hi, rfl, rfl, hW, hown, hw⟩ := hrel
    have HW : Hid (Below w.heap.size w wr) := hw
    have HWn : Hid (W = wan ap i) := hW
    have zz := hw.size
    have W4 : W ≤ 479001600 := by
      rw [hW]
      cases ap
      · exact fac_le (by omega)
      · show 1 ≤ 479001600
        decide
    clear hW
    by_cases hlt : i < N
    · have hl3 : (i : Int) < N := by omega
      have HB : Hid (∀ q, u5.ownBlock = some q → w.heap.size ≤ q) := fun q hq => (hown.lt q hq).1
      have HN : Hid (wr.ownsRow w.heap.size 31 3 u5 i (vcs (evF ap) i)) := hown
      clear hown hw
      cases ap with
      | false =>
        have HV : Hid (vcs (evF false) (i + 1) = vcs (evF false) i ++ [.int .i64 i, .int .i64 0, .int .i64 10]) := rfl
        have w2 : IntKind.i64.wrap ((W : Int) * ((i : Int) + 1)) = ((W * (i + 1) : Nat) : Int) := by
          have : W * (i + 1) ≤ 479001600 := by
            rw [HWn.out]
            show fac i * (i + 1) ≤ _
            rw [Nat.mul_comm]
            exact fac_le (i := i + 1) (by omega)
          rw [show (W : Int) * ((i : Int) + 1) = ((W * (i + 1) : Nat) : Int) by rw [Int.natCast_mul]; rfl]
          exact IntWalk.i64_in _ (by omega)
        have HWx : Hid (W * (i + 1) = wan false (i + 1)) := by
          show W * (i + 1) = (i + 1) * fac i
          rw [HWn.out, Nat.mul_comm]
          rfl
        clear HWn
        generalize vcs (evF false) i = xs at *
        go_wp2_with (at_builtin; refine wpList_append_own _ rfl _ _ 29 rfl w.heap.size 31 i0 (.agg #[.int .i64 0, .int .i64 0, .int .i64 0]) 3 24 Try.underlying29 hi0 hz0 hz1 hz2 rfl (by decide) _ _ _ rfl ((HN.out.alloc _).alloc _) ⟨wr.heap.size + 1, 0, none⟩ 1 1 [.int .i64 i, .int .i64 0, .int .i64 10] rfl rfl (fun q u hq => by rw [Addr.add_lit]; exact (Row.made (W := wr.alloc (.cells #[.int .i64 0, .int .i64 10] 23)) (vs := [.int .i64 i, .int .i64 0, .int .i64 10]) (by simp)).c _ _ (by simpa using hq)) (fun u hu => by simp at hu; rcases hu with rfl | rfl | rfl <;> rfl) (by unfold maxLen; omega) (by omega) (by simp; omega) ?_)
        intro v' x2 hown' hgrow _
        have HO1 : Hid (x2.ownsRow w.heap.size 31 3 v' (i + 1) (vcs (evF false) (i + 1))) := by
          show x2.ownsRow w.heap.size 31 3 v' (i + 1) (vcs (evF false) (i + 1))
          rw [HV.out]
          exact hown'
        have HX2 : Hid (Below w.heap.size w x2) := (rbel_al (rbel_al HW.out)).grown hgrow (by simp; omega) HB.out
        clear hown' hgrow HN HB HV HW
        go_wp2
        go_roundw
        case rel => exact ⟨i + 1, W * (i + 1), by omega, by go_num, by first | rfl | go_num, HWx.out, HO1.out, HX2.out⟩
        case measure => simp [intOf]; omega
      | true =>
        have HV : Hid (vcs (evF true) (i + 1) = vcs (evF true) i ++ [.int .i64 i, .int .i64 (20 * i), .int .i64 (20 * i + 10)]) := rfl
        have w1 : IntKind.i64.wrap (20 * (i : Int)) = 20 * (i : Int) := IntWalk.i64_in _ (by omega)
        have w2 : IntKind.i64.wrap (20 * (i : Int) + 10) = 20 * (i : Int) + 10 := IntWalk.i64_in _ (by omega)
        have HWx : Hid (W = wan true (i + 1)) := HWn.out
        clear HWn
        generalize vcs (evF true) i = xs at *
        go_wp2_with (at_builtin; refine wpList_append_own _ rfl _ _ 29 rfl w.heap.size 31 i0 (.agg #[.int .i64 0, .int .i64 0, .int .i64 0]) 3 24 Try.underlying29 hi0 hz0 hz1 hz2 rfl (by decide) _ _ _ rfl ((HN.out.alloc _).alloc _) ⟨wr.heap.size + 1, 0, none⟩ 1 1 [.int .i64 i, .int .i64 (20 * i), .int .i64 (20 * i + 10)] rfl rfl (fun q u hq => by rw [Addr.add_lit]; exact (Row.made (W := wr.alloc (.cells #[.int .i64 (20 * i), .int .i64 (20 * i + 10)] 23)) (vs := [.int .i64 i, .int .i64 (20 * i), .int .i64 (20 * i + 10)]) (by simp)).c _ _ (by simpa using hq)) (fun u hu => by simp at hu; rcases hu with rfl | rfl | rfl <;> rfl) (by unfold maxLen; omega) (by omega) (by simp; omega) ?_)
        intro v' x2 hown' hgrow _
        have HO1 : Hid (x2.ownsRow w.heap.size 31 3 v' (i + 1) (vcs (evF true) (i + 1))) := by
          show x2.ownsRow w.heap.size 31 3 v' (i + 1) (vcs (evF true) (i + 1))
          rw [HV.out]
          exact hown'
        have HX2 : Hid (Below w.heap.size w x2) := (rbel_al (rbel_al HW.out)).grown hgrow (by simp; omega) HB.out
        clear hown' hgrow HN HB HV HW
        go_wp2
        go_roundw
        case rel => exact ⟨i + 1, W, by omega, by go_num, rfl, HWx.out, HO1.out, HX2.out⟩
        case measure => simp [intOf]; omega
    · have hl3 : ¬ ((i : Int) < N) := by omega
      have e : N = i := by omega
      subst e
      obtain ⟨a, cp, rfl, hV, hcq⟩ := own_events hown (by omega)
      have HCp : Hid (N ≤ cp) := hcq
      have HVn : Hid (∀ u, Below wr.heap.size wr u → VHanded u a N (evF ap)) := fun u hu => hV.on hu
      rw [← HWn.out] at cM
      clear hown hw hV HWn hlt hcq
      go_wp2_with (first
        | (go_at_call 6; refine (cM.out _ _ _ HW.out (HVn.out _ (Below.refl _ _)) HCp.out).mono ?_; rintro r x1 ⟨rfl, hb⟩; have HX1 : Hid (Below w.heap.size w x1) := rbel_on hb HW.out; have HVx : Hid (VHanded x1 a N (evF ap)) := HVn.out _ hb; clear hb)
        | (go_at_call 7; refine (cR.out _ _ _ HX1.out HVx.out HCp.out).mono ?_; rintro r x2 ⟨ta, tc, rfl, hT, hb⟩; have HX2 : Hid (Below w.heap.size w x2) := rbel_on hb HX1.out; have HT : Hid (NHanded x2 ta N (fun i => if ap then (i : Int) + 1 else 1)) := hT; clear hb hT))
      clear HW HX1 HVx cM cR HVn
      go_loopw [13] (fun vi wr => ∃ i : Nat, i ≤ N ∧ vi = .int .i64 i ∧ wr = x2) (fun i _ => N - (intOf i).toNat)
      case atStart => exact ⟨0, Nat.zero_le _, rfl, rfl⟩
      case round =>
        obtain ⟨i, hi, rfl, rfl⟩ := hrel
        by_cases hlt : i < N
        · have hl3 : (i : Int) < N := by omega
          obtain ⟨tb, tt, rfl, hP⟩ : ∃ tb tt : Nat, ta = some ⟨tb, tt, none⟩ ∧ Nrd wr tb tt N (fun i => if ap then (i : Int) + 1 else 1) := by
            rcases HT.out.2 with e | h
            · omega
            · exact h
          have x0 := hP i hlt
          have w1 : IntKind.i64.wrap ((i : Int) + 1) = (i : Int) + 1 := IntWalk.i64_in _ (by omega)
          clear hP
          cases ap with
          | false =>
            simp only [if_neg (show ¬ (false = true) by simp)] at x0
            go_wp2
            go_roundw
            case rel => exact ⟨i + 1, by omega, by go_num, by first | rfl | trivial⟩
            case measure => simp [intOf]; omega
          | true =>
            simp only [if_true] at x0
            go_wp2
            go_roundw
            case rel => exact ⟨i + 1, by omega, by go_num, by first | rfl | trivial⟩
            case measure => simp [intOf]; omega
        · have hl3 : ¬ ((i : Int) < N) := by omega
          go_wp2
          go_ret
          exact ⟨rfl, HX2.out⟩
end Go.Proofs.Ytbghpjmjhhjcgag.orderFree
