/- The ways through the law KeeperWrites. -/
import Derived.Test.YtigcliepeapcpajKeeperDef
import Derived.Lib.SmallJoins
import Derived.IntWalk
namespace Go.Proofs.Ytigcliepeapcpaj.keeperWrites
open Go.ChangeShapes Go.WideShapes Go.ChangeAt Go.RowKit Go.Joins
set_option linter.unusedVariables false
set_option linter.unusedSimpArgs false

set_option maxRecDepth 100000 in
set_option maxHeartbeats 4000000 in
theorem bad (a n : Int) (w : World) (C : Kq w) (wa : In64 a) (ha : a < 1 ∨ 1000000 < a) :
    Calls Try.prog 6 #[.int .i64 a, .int .i64 n] w fun o w' => o = .returned (.bool true) ∧ Below w.heap.size w w' := by
  have cN := C.bad a w (Below.refl _ _) wa ha
  have ha2 : a < 1 ∨ (¬ a < 1 ∧ 1000000 < a) := by omega
  clear wa ha
  rcases ha2 with d | ⟨d, d2⟩
  all_goals
    go_enter Try.func6, Try.ntmps6
    go_wp2_with (go_at_call 17; refine cN.mono ?_; rintro o u0 ⟨v, rfl, hb⟩; have HB : Hid (Below w.heap.size w u0) := hb; clear hb)
    go_ret
    exact ⟨rfl, HB.out⟩
set_option maxRecDepth 100000 in
set_option maxHeartbeats 4000000 in
theorem far (a n : Int) (w : World) (C : Kq w) (h0 : 1 ≤ a) (h1 : a ≤ 1000000) (hn : n < 0 ∨ 200 < n) :
    Calls Try.prog 6 #[.int .i64 a, .int .i64 n] w fun o w' => o = .returned (.bool true) ∧ Below w.heap.size w w' := by
  have cN := C.new a w (Below.refl _ _) h0 h1
  have hn2 : n < 0 ∨ (¬ n < 0 ∧ 200 < n) := by omega
  clear hn
  rcases hn2 with d | ⟨d, d2⟩
  all_goals
    go_enter Try.func6, Try.ntmps6
    go_wp2_with (go_at_call 17; refine cN.mono ?_; rintro o u0 ⟨p, rfl, hl, hR, hb⟩; have HB : Hid (Below w.heap.size w u0) := hb; clear hb hR hl)
    go_ret
    exact ⟨rfl, HB.out⟩
set_option maxRecDepth 100000 in
set_option maxHeartbeats 4000000 in
theorem good (a : Int) (n : Nat) (w : World) (C : Kq w) (h0 : 1 ≤ a) (h1 : a ≤ 1000000) (hn : n ≤ 200) :
    Calls Try.prog 6 #[.int .i64 a, .int .i64 n] w fun o w' => o = .returned (.bool true) ∧ Below w.heap.size w w' := by
  have cN := C.new a w (Below.refl _ _) h0 h1
  have d1 : ¬ ((n : Int) < 0) := by omega
  have d2 : ¬ (200 < (n : Int)) := by omega
  go_enter Try.func6, Try.ntmps6
  go_wp2_with (go_at_call 17; refine cN.mono ?_; rintro o u0 ⟨p, rfl, hl, hR, hb⟩; have S0 : Hid (Ks w C u0 p (Kp.at a 0) 0) := ⟨by rw [Kp.at_zero h0]; exact hR, by rw [Kp.at_zero h0]; exact Kp.made_i h0 h1, hb, hl⟩; clear hb hR hl)
  clear cN
  go_loopw [7] (fun v wr => ∃ i : Nat, i ≤ n ∧ v = .int .i64 i ∧ Ks w C wr p (Kp.at a i) i) (fun v _ => n - (intOf v).toNat)
  case atStart => exact ⟨0, Nat.zero_le _, rfl, S0.out⟩
  case round =>
    clear S0
    obtain ⟨i, hi, rfl, hS⟩ := hrel
    have HS : Hid (Ks w C wr p (Kp.at a i) i) := hS
    by_cases hlt : i < n
    · have hl3 : (i : Int) < n := by omega
      have cR := C.read p (Kp.at a i) i 0 wr hS.hw hS.lb hS.r hS.i (by omega) (by decide)
      obtain ⟨e1, e2, e3⟩ := Kp.at_next (i := i) h0 h1 (by omega)
      rw [e1, e2, e3, errc_zero] at cR
      have HI : Hid ((Kp.at a (i + 1)).I (i + 1)) := by show (Kp.at a (i + 1)).I (i + 1); rw [← e3]; exact Kp.read_i hS.i 0
      clear hS e1 e2 e3
      go_wp2_with (go_at_call 18; refine cR.mono ?_; rintro o u1 ⟨rfl, hR, hK⟩; have S1 : Hid (Ks w C u1 p (Kp.at a (i + 1)) (i + 1)) := HS.out.go hR HI.out hK; clear hR hK)
      go_roundw
      case rel => exact ⟨i + 1, by omega, by go_num, S1.out⟩
      case measure => simp [intOf]; omega
    · have hl3 : ¬ ((i : Int) < n) := by omega
      have e : n = i := by omega
      subst e
      have cW := fun u (h : Ks w C u p (Kp.at a n) n) => C.writes p (Kp.at a n) n u h.hw h.lb h.r h.i (by omega)
      obtain ⟨q, hq⟩ : ∃ q, q = ((n : Int) + a - 1) / a := ⟨_, rfl⟩
      have es : (Kp.at a n).s = q := hq.symm
      rw [es] at cW
      have w1 : IntKind.i64.wrap ((n : Int) + a) = (n : Int) + a := IntWalk.i64_in _ (by omega)
      have w2 : IntKind.i64.wrap ((n : Int) + a - 1) = (n : Int) + a - 1 := IntWalk.i64_in _ (by omega)
      have td : ((n : Int) + a - 1).tdiv a = q := by rw [hq, Int.tdiv_eq_ediv_of_nonneg (by omega)]
      have qb : 0 ≤ q ∧ q ≤ 1000200 := by
        have := Int.ediv_nonneg (a := (n : Int) + a - 1) (b := a) (by omega) (by omega)
        have := Int.ediv_le_self (a := (n : Int) + a - 1) a (by omega)
        omega
      have w3 : IntKind.i64.wrap q = q := IntWalk.i64_in _ (by omega)
      have a0 : ¬ (a = 0) := by omega
      have td' : IntKind.i64.wrap (((n : Int) + a - 1).tdiv a) = q := by rw [td]; exact w3
      clear hS hq es
      go_wp2
      go_region_with (first | (go_at_call 21; refine (cW _ (HS.out.on (rbel_dr (Below.refl _ _)))).mono ?_; rintro o u1 ⟨rfl, hR, hK⟩; have S1 : Hid (Below w.heap.size w u1) := kbelK HS.out.lb hK (rbel_dr HS.out.hw); clear hR hK))
      all_goals
        go_wp2
        go_ret
        exact ⟨rfl, S1.out⟩
theorem all_ways (a n : Int) (w : World) (C : Kq w) (wa : In64 a) (wn : In64 n) :
    Calls Try.prog 6 #[.int .i64 a, .int .i64 n] w fun o w' => o = .returned (.bool true) ∧ Below w.heap.size w w' := by
  by_cases ha : a < 1 ∨ 1000000 < a
  · exact bad a n w C wa ha
  · by_cases hn : n < 0 ∨ 200 < n
    · exact far a n w C (by omega) (by omega) hn
    · obtain ⟨N, rfl⟩ : ∃ N : Nat, n = (N : Int) := ⟨n.toNat, by omega⟩
      exact good a N w C (by omega) (by omega) (by omega)
end Go.Proofs.Ytigcliepeapcpaj.keeperWrites
