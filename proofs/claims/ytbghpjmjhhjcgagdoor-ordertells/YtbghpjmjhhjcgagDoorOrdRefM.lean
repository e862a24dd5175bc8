/- What the document's own reckoning (package noonref2) answers of events: Ways. -/
import Derived.Test.YtbghpjmjhhjcgagDoorOrdRefW
import Derived.Test.YtbghpjmjhhjcgagDoorOrdTbl
import Derived.Test.YtbghpjmjhhjcgagDoorKeeps
import Derived.Deep.CutRange
import Derived.Deep.CutBlock
namespace Go.Proofs.YtbghpjmjhhjcgagDoor
open Go.ChangeShapes Go.WideShapes Go.ChangeAt Go.RowKit Go.Joins
set_option linter.unusedVariables false
set_option linter.unusedSimpArgs false

set_option maxRecDepth 100000 in
set_option maxHeartbeats 8000000 in
theorem rways_any (ad : Option Addr) (n cap : Nat) (f : Nat → Ev) (w : World) (hn : n ≤ 12) (hok : ∀ j, j < n → okAt f j) (hH : VHanded w ad n f) : Calls Tryd.prog 26 #[.slice ad n cap] w fun e w' => e = .returned (.int .i64 (mny f n : Nat)) ∧ Below w.heap.size w w' := by
  have HIr : Hid (Irr f n) := okAt.irr hok
  have HV : Hid (∀ u, Below w.heap.size w u → VHanded u ad n f) := fun u hu => hH.on hu
  obtain ⟨N, hN⟩ : ∃ N, N = 2 ^ n := ⟨_, rfl⟩
  have HNn : Hid (N = 2 ^ n) := hN
  have N4 : N ≤ 4096 := by rw [hN]; exact pow_le_4096 hn
  have N1 : 1 ≤ N := by rw [hN]; exact pow_pos2 n
  clear hH hok
  go_enter Tryd.func26, Tryd.ntmps26
  go_wp2
  go_loopw [3, 4] (fun v vi wr => ∃ i S : Nat, i ≤ n ∧ vi = .int .i64 i ∧ v = .int .i64 S ∧ S = 2 ^ i ∧ w = wr) (fun _ i _ => n - (intOf i).toNat)
  case atStart => exact ⟨0, 1, Nat.zero_le _, rfl, rfl, rfl, rfl⟩
  case round =>
    obtain ⟨i, S, hi, rfl, rfl, hS, rfl⟩ := hrel
    have HS : Hid (S = 2 ^ i) := hS
    have S4 : S ≤ 4096 := by rw [hS]; exact pow_le_4096 (by omega)
    clear hS
    by_cases hlt : i < n
    · have hl3 : (i : Int) < n := by omega
      have w2 : IntKind.i64.wrap (2 * (S : Int)) = ((2 * S : Nat) : Int) := by rw [show (2 * (S : Int)) = ((2 * S : Nat) : Int) by omega]; exact IntWalk.i64_in _ (by omega)
      have HS2 : Hid (2 * S = 2 ^ (i + 1)) := by show 2 * S = 2 ^ (i + 1); rw [HS.out, Nat.pow_succ]; omega
      go_wp2
      go_roundw
      case rel => exact ⟨i + 1, 2 * S, by omega, by go_num, by first | rfl | go_num, HS2.out, by first | rfl | trivial⟩
      case measure => simp [intOf]; omega
    · have hl3 : ¬ ((i : Int) < n) := by omega
      have e : n = i := by omega
      subst e
      have eS : N = S := by rw [HS.out, hN]
      subst eS
      have hmk := mk_intsM N N4
      have c0 : (w.alloc (.cells (Array.replicate N (.int .i64 0)) 3)).cell? ⟨w.heap.size, 0, none⟩ = some (.int .i64 0) := (tbl_made w N 0 N1).1
      have f0 := (tbl_made w N 0 N1).2
      have T0 : Hid (Tbl (w.alloc (.cells ((Array.replicate N (.int .i64 0)).setIfInBounds 0 (.int .i64 1)) 3)) w.heap.size N (tabW f n 0 0)) := (tbl_made1 w N).same (fun U hU => by rw [tabW_zero])
      have K0 : Hid (Below w.heap.size w (w.alloc (.cells ((Array.replicate N (.int .i64 0)).setIfInBounds 0 (.int .i64 1)) 3))) := rbel_al (Below.refl _ _)
      have s0 : (0 : Int) < N := by omega
      clear HS hN S4 hi hl3 hlt
      go_wp2
      clear c0 f0 hmk
      go_loopw [6] (fun v wr => ∃ T : Nat, T ≤ N ∧ v = .int .i64 T ∧ Tbl wr w.heap.size N (tabW f n T 0) ∧ Below w.heap.size w wr) (fun v _ => N - (intOf v).toNat)
      case atStart => exact ⟨0, Nat.zero_le _, rfl, T0.out, K0.out⟩
      case round =>
        clear T0 K0
        obtain ⟨T, hT, rfl, hTb, hw⟩ := hrel
        have HTb : Hid (Tbl wr w.heap.size N (tabW f n T 0)) := hTb
        have HW : Hid (Below w.heap.size w wr) := hw
        by_cases hTN : T < N
        · have hl4 : (T : Int) < N := by omega
          have HTP : Hid (T < 2 ^ n) := by show T < 2 ^ n; rw [← HNn.out]; exact hTN
          clear hTb hw
          go_wp2
          go_loopw [7, 8] (fun v vk wr => ∃ k B : Nat, k ≤ n ∧ vk = .int .i64 k ∧ v = .int .i64 B ∧ B = 2 ^ k ∧ Tbl wr w.heap.size N (tabW f n T k) ∧ Below w.heap.size w wr) (fun _ k _ => n - (intOf k).toNat)
          case atStart => exact ⟨0, 1, Nat.zero_le _, rfl, rfl, rfl, HTb.out, HW.out⟩
          case round =>
            clear HTb HW
            obtain ⟨k, B, hk, rfl, rfl, hB, hTb, hw⟩ := hrel
            have HTb : Hid (Tbl wr w.heap.size N (tabW f n T k)) := hTb
            have HW : Hid (Below w.heap.size w wr) := hw
            have HBk : Hid (B = 2 ^ k) := hB
            have B1 : 1 ≤ B := by rw [hB]; exact pow_pos2 k
            have B4 : B ≤ 4096 := by rw [hB]; exact pow_le_4096 (by omega)
            by_cases hkn : k < n
            · have hl5 : (k : Int) < n := by omega
              have Bn : ¬ ((B : Int) = 0) := by omega
              have Bn' : ¬ (B = 0) := by omega
              have dv : (T : Int).tdiv (B : Int) = ((T / B : Nat) : Int) := by rw [Int.tdiv_eq_ediv_of_nonneg (by omega)]; rfl
              obtain ⟨D, hD⟩ : ∃ D, D = T / B := ⟨_, rfl⟩
              rw [← hD] at dv
              have Dl : D ≤ 4096 := by rw [hD]; exact Nat.le_trans (Nat.div_le_self _ _) (by omega)
              have wd1 : IntKind.i64.wrap (D : Int) = (D : Int) := IntWalk.i64_in _ (by omega)
              have dv' : IntKind.i64.wrap ((T : Int).tdiv (B : Int)) = (D : Int) := by rw [dv]; exact wd1
              have r2 : (D : Int).tmod 2 = ((D % 2 : Nat) : Int) := by rw [Int.tmod_eq_emod_of_nonneg (by omega)]; omega
              have w2 : IntKind.i64.wrap (2 * (B : Int)) = ((2 * B : Nat) : Int) := by rw [show (2 * (B : Int)) = ((2 * B : Nat) : Int) by omega]; exact IntWalk.i64_in _ (by omega)
              have HB2 : Hid (2 * B = 2 ^ (k + 1)) := by show 2 * B = 2 ^ (k + 1); rw [HBk.out, Nat.pow_succ]; omega
              have HBt : Hid (bit T k = decide (D % 2 = 1)) := by show bit T k = _; rw [hD, hB]; rfl
              have cR : Hid (∀ u, Below w.heap.size w u → Calls Tryd.prog 43 #[.slice ad n cap, .int .i64 T, .int .i64 k] u fun e w' => e = .returned (.bool (rdyB f n (bit T) k)) ∧ Below u.heap.size u w') := fun u hu => rready_any ad n cap T k f u hn (by omega) hkn (HV.out u hu)
              clear hTb hw hB hD
              by_cases o : D % 2 = 0
              · rw [o] at r2
                cases hr : rdyB f n (bit T) k with
                | false =>
                  have HS : Hid (Tbl wr w.heap.size N (tabW f n T (k + 1))) := HTb.out.same (fun U _ => (tabW_skip hkn (Or.inr hr) U).symm)
                  rw [hr] at cR
                  clear HTb HBt hr o
                  go_wp2_with (go_at_call 43; refine (cR.out _ HW.out).mono ?_; rintro e u0 ⟨rfl, hb⟩; have HW0 : Hid (Below w.heap.size w u0) := rbel_on hb HW.out; have HS0 : Hid (Tbl u0 w.heap.size N (tabW f n T (k + 1))) := HS.out.on hb; clear hb)
                  go_roundw
                  case rel => exact ⟨k + 1, 2 * B, by omega, by go_num, by first | rfl | go_num, HB2.out, HS0.out, HW0.out⟩
                  case measure => simp [intOf]; omega
                | true =>
                  have bF : bit T k = false := by rw [HBt.out, o]; rfl
                  have tl : T + B < N := by rw [HBk.out, HNn.out]; exact add_lt HTP.out hkn bF
                  obtain ⟨x, hx⟩ : ∃ x, x = tabW f n T k (T + B) := ⟨_, rfl⟩
                  obtain ⟨y, hy⟩ : ∃ y, y = tabW f n T k T := ⟨_, rfl⟩
                  have ey : y = wd f n (bit T) := by rw [hy]; exact tabW_self HIr.out HTP.out
                  have pt : tabW f n T (k + 1) (T + B) = x + y := by rw [HBk.out, tabW_put hkn bF hr, if_pos rfl, ← HBk.out, ← hx, ← ey]
                  have xy : x + y ≤ 479001600 := by rw [← pt]; exact tabW_le HIr.out hn (by rw [← HNn.out]; exact tl)
                  have HS : Hid (∀ u, Tbl u w.heap.size N (tabW f n T k) → Tbl (u.setCell ⟨w.heap.size, T + B, none⟩ (.int .i64 ((x + y : Nat) : Int))) w.heap.size N (tabW f n T (k + 1))) := fun u hu => (hu.put (V := T + B) (x := x + y) tl).same (fun U hU => by
                    by_cases q : U = T + B
                    · rw [if_pos q, q, pt]
                    · rw [if_neg q, tabW_put hkn bF hr, if_neg (by rw [← HBk.out]; exact q)]
                      rfl)
                  have HXY : Hid (∀ u, Tbl u w.heap.size N (tabW f n T k) → (u.cell? ⟨w.heap.size, T + B, none⟩ = some (.int .i64 (x : Nat)) ∧ u.frozen? ⟨w.heap.size, T + B, none⟩ = false) ∧ u.cell? ⟨w.heap.size, T, none⟩ = some (.int .i64 (y : Nat))) := fun u hu => ⟨by rw [hx]; exact hu (T + B) tl, by rw [hy]; exact (hu T hTN).1⟩
                  have wa : IntKind.i64.wrap ((T : Int) + (B : Int)) = ((T + B : Nat) : Int) := by rw [show (T : Int) + (B : Int) = ((T + B : Nat) : Int) by omega]; exact IntWalk.i64_in _ (by omega)
                  have wx : IntKind.i64.wrap ((x : Int) + (y : Int)) = ((x + y : Nat) : Int) := by rw [show (x : Int) + (y : Int) = ((x + y : Nat) : Int) by omega]; exact IntWalk.i64_in _ (by omega)
                  rw [hr] at cR
                  clear HBt hr o bF pt ey hx hy
                  go_upto_if 42 with (go_at_call 43; refine (cR.out _ HW.out).mono ?_; rintro e u0 ⟨rfl, hb⟩; have HW0 : Hid (Below w.heap.size w u0) := rbel_on hb HW.out; have HT0 : Hid (Tbl u0 w.heap.size N (tabW f n T k)) := HTb.out.on hb; clear hb)
                  obtain ⟨⟨c1, f1⟩, c2⟩ := HXY.out u0 HT0.out
                  have a1 : ((T + B : Nat) : Int) < N := by omega
                  have a2 : T + B < N := tl
                  have gl : w.heap.size < u0.heap.size := World.block_lt_of_cell? _ _ c2
                  clear HXY cR HTb HW
                  go_wp2
                  go_region
                  all_goals
                    go_wp2
                    go_roundw
                    case rel => exact ⟨k + 1, 2 * B, by omega, by go_num, by first | rfl | go_num, HB2.out, by first | exact HS.out _ HT0.out.dr | exact (HS.out _ HT0.out).dr, by first | exact rbel_put (Nat.le_refl _) (rbel_dr HW0.out) | exact rbel_dr (rbel_put (Nat.le_refl _) HW0.out)⟩
                    case measure => simp [intOf]; omega
              · have o1 : D % 2 = 1 := by omega
                have HS : Hid (Tbl wr w.heap.size N (tabW f n T (k + 1))) := HTb.out.same (fun U _ => (tabW_skip hkn (Or.inl (by rw [HBt.out, o1]; rfl)) U).symm)
                rw [o1] at r2
                clear HTb HBt o o1 cR
                go_wp2
                go_roundw
                case rel => exact ⟨k + 1, 2 * B, by omega, by go_num, by first | rfl | go_num, HB2.out, HS.out, HW.out⟩
                case measure => simp [intOf]; omega
            · have hl5 : ¬ ((k : Int) < n) := by omega
              have e : n = k := by omega
              have HS : Hid (Tbl wr w.heap.size N (tabW f n (T + 1) 0)) := hTb.same (fun U _ => by rw [← e]; exact tabW_next T U)
              clear hTb hw HTb HBk hB
              go_wp2
              go_roundw
              case rel => exact ⟨T + 1, by omega, by go_num, HS.out, HW.out⟩
              case measure => simp [intOf]; omega
        · have hl4 : ¬ ((T : Int) < N) := by omega
          have e : N = T := by omega
          obtain ⟨M, hM⟩ : ∃ M, M = N - 1 := ⟨_, rfl⟩
          have wM : IntKind.i64.wrap ((N : Int) - 1) = (M : Int) := by rw [show (N : Int) - 1 = (M : Int) by omega]; exact IntWalk.i64_in _ (by omega)
          have ml : (M : Int) < N := by omega
          have c1 : wr.cell? ⟨w.heap.size, M, none⟩ = some (.int .i64 (mny f n : Nat)) := by
            have c := (hTb M (by omega)).1
            rw [tabW_done HIr.out (by omega) (by rw [← HNn.out]; omega), hM, HNn.out, wd_full, ← HNn.out, ← hM] at c
            exact c
          clear hTb hw HTb hM e
          go_wp2
          go_ret
          exact ⟨rfl, HW.out⟩
end Go.Proofs.YtbghpjmjhhjcgagDoor
