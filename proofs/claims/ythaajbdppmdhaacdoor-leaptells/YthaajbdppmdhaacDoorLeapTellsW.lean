/- From what package leap must answer to the law LeapTells. -/
import Derived.Test.YthaajbdppmdhaacDoorLeapRefs
import Derived.Test.YthaajbdppmdhaacDoorLeapTellsA
import Derived.Test.YthaajbdppmdhaacDoorLeapTellsB
import Derived.Test.YthaajbdppmdhaacDoorLeapTellsC
namespace Go.Proofs.YthaajbdppmdhaacDoor.leapTells
open Go.ChangeShapes Go.WideShapes Go.ChangeAt Go.RowKit Go.Proofs.YthaajbdppmdhaacDoor.told
set_option linter.unusedVariables false

theorem tai_some (q : Nat → Int × Bool) (n : Nat) (y m d h i s : Int) : ∃ v e, TaiL q n y m d h i s v e := by
  cases o : (okD y m d && okH h i s) with
  | false => exact ⟨0, 1, Or.inl ⟨o, rfl, rfl⟩⟩
  | true =>
    by_cases c : okL (lng q n (dnum y m d)) h i s
    · exact ⟨_, 0, Or.inr (Or.inr ⟨o, c, rfl, rfl⟩)⟩
    · exact ⟨0, 5, Or.inr (Or.inl ⟨o, c, rfl, rfl⟩)⟩
set_option maxHeartbeats 2000000 in
theorem all_ways (a : Option Addr) (n cap : Nat) (q : Nat → Int × Bool) (N y m d h i s : Int) (t : ByteArray) (w : World) (L : Lp w) (LS : LpS w) (LT : LpT w) (hH : LHanded w a n q) (wN : In64 N) (w1 : In64 y) (w2 : In64 m) (w3 : In64 d) (w4 : In64 h) (w5 : In64 i) (w6 : In64 s) (ht : t.size ≤ maxLen) (he : EnvE w) :
    Calls Tryd.prog 7 #[.slice a n cap, .int .i64 N, lbl y m d h i s, .string t] w fun e w' => e = .returned (.bool true) ∧ Below w.heap.size w w' := by
  obtain ⟨py, pm, pd, ph, pi, ps, e4, hR⟩ := rl_some t
  have ht' : t.size ≤ 9223372036854775807 := by unfold maxLen at ht; omega
  have hg : Hid (EnvE w) := he
  have kL := fun u (hu : Below w.heap.size w u) => rleaps_any a n cap q u (hH.on hu)
  have kC := fun u (hu : Below w.heap.size w u) => L.check a n cap q u hu (hH.on hu)
  have kRR := fun u (hu : Below w.heap.size w u) => rlab_any t py pm pd ph pi ps e4 u ht' hR
  have kPa := fun u (hu : Below w.heap.size w u) => LT.parse t py pm pd ph pi ps e4 u hu ht hR
  have kH := fun u (hu : Below w.heap.size w u) => rhands_any y m d h i s u
  have kP := fun u (hu : Below w.heap.size w u) => LT.print y m d h i s u hu w1 w2 w3 w4 w5 w6
  by_cases z : lE q n = 0
  · have hL := lps_of z
    have h20 := (lE_zero z).1
    obtain ⟨v, f, hT⟩ := tai_some q n y m d h i s
    have kRT := fun u (hu : Below w.heap.size w u) => rtai_any a n cap q y m d h i s v f u h20 hL (hH.on hu) hT
    have kT := fun u (hu : Below w.heap.size w u) => LT.tai a n cap q y m d h i s v f u hu (hH.on hu) w1 w2 w3 w4 w5 w6 (Or.inr ⟨z, hT⟩)
    have kSe := fun u (hu : Below w.heap.size w u) => rsecond_any a n cap q N u h20 hL (hH.on hu)
    rw [z] at kL kC
    by_cases x : inS q n N
    · rw [decide_eq_true (show 0 ≤ N ∧ N < bg q n 84006 from x)] at kSe
      obtain ⟨ly, lm, ld, lh, li, ls, hU⟩ := utc_some hL x
      obtain ⟨sm, hS⟩ := smr_some hL N x.1 x.2
      have ok := hU.1
      have rg := dnum_range ok
      have hD := hU.2.1
      have kU := fun u (hu : Below w.heap.size w u) => L.utc a n cap q N ly lm ld lh li ls 0 u hu (hH.on hu) wN (Or.inr ⟨z, x, rfl, hU⟩)
      have kA := fun u (hu : Below w.heap.size w u) => L.ahead a n cap q N (mor q n (dnum ly lm ld)) 0 u hu (hH.on hu) wN (Or.inr ⟨z, x, rfl, _, hD, rfl⟩)
      have kS := fun u (hu : Below w.heap.size w u) => LS.smear a n cap q N sm 0 u hu (hH.on hu) wN (Or.inr ⟨z, x, rfl, hS⟩)
      have kRU : ∀ u, Below w.heap.size w u → Calls Tryd.prog 32 #[.slice a n cap, .int .i64 N] u fun e w' => e = .returned (lbl ly lm ld lh li ls) ∧ Below u.heap.size u w' := fun u hu => by
        have k := rutc_any a n cap q N (dnum ly lm ld) ly lm ld _ u h20 hL (hH.on hu) x.1 (by omega) (by omega) hD ok rfl rfl
        rw [← hU.2.2.1, ← hU.2.2.2.1, ← hU.2.2.2.2] at k
        exact k
      have kDO := fun u (hu : Below w.heap.size w u) => (rday_any a n cap q N (dnum ly lm ld) u h20 hL (hH.on hu) x.1 (by omega) (by omega) hD).mono fun _ _ h => same_below h
      have kMo := fun u (hu : Below w.heap.size w u) => (rmore_any a n cap q (dnum ly lm ld) u h20 hL (hH.on hu)).mono fun _ _ h => same_below h
      have kRS := fun u (hu : Below w.heap.size w u) => rsmear_any a n cap q N sm (dnum ly lm ld) u h20 hL (hH.on hu) x.1 (by omega) (by omega) hD hS
      cases o : (okD y m d && okH h i s) with
      | true =>
        rw [o] at kH
        simp only [o, if_true] at kP
        have o' := o
        rw [Bool.and_eq_true] at o'
        have kLT := fun u (hu : Below w.heap.size w u) => rltext_any y m d h i s u o'.1 o'.2
        exact way_Ch a n cap N y m d h i s py pm pd ph pi ps e4 t f v ly lm ld lh li ls _ _ sm _ w hg kL kC kRT kT kSe kRU kDO kMo kRS kU kA kS kH kLT kP kRR kPa
      | false =>
        rw [o] at kH
        simp only [o, Bool.false_eq_true, if_false] at kP
        exact way_Cn a n cap N y m d h i s py pm pd ph pi ps e4 t f v ly lm ld lh li ls _ _ sm w hg kL kC kRT kT kSe kRU kDO kMo kRS kU kA kS kH kP kRR kPa
    · rw [decide_eq_false (show ¬ (0 ≤ N ∧ N < bg q n 84006) from x)] at kSe
      have sx : sE q n N 1 := Or.inr ⟨z, x, rfl⟩
      have kU := fun u (hu : Below w.heap.size w u) => L.utc a n cap q N 0 0 0 0 0 0 1 u hu (hH.on hu) wN (Or.inl ⟨sx, rfl, rfl, rfl, rfl, rfl, rfl⟩)
      have kA := fun u (hu : Below w.heap.size w u) => L.ahead a n cap q N 0 1 u hu (hH.on hu) wN (Or.inl ⟨sx, rfl⟩)
      have kS := fun u (hu : Below w.heap.size w u) => LS.smear a n cap q N 0 1 u hu (hH.on hu) wN (Or.inl ⟨sx, rfl⟩)
      cases o : (okD y m d && okH h i s) with
      | true =>
        rw [o] at kH
        simp only [o, if_true] at kP
        have o' := o
        rw [Bool.and_eq_true] at o'
        have kLT := fun u (hu : Below w.heap.size w u) => rltext_any y m d h i s u o'.1 o'.2
        exact way_Bh a n cap N y m d h i s py pm pd ph pi ps e4 t f v _ w hg kL kC kRT kT kSe kU kA kS kH kLT kP kRR kPa
      | false =>
        rw [o] at kH
        simp only [o, Bool.false_eq_true, if_false] at kP
        exact way_Bn a n cap N y m d h i s py pm pd ph pi ps e4 t f v w hg kL kC kRT kT kSe kU kA kS kH kP kRR kPa
  · have sx : sE q n N (lE q n) := Or.inl ⟨z, rfl⟩
    have kT := fun u (hu : Below w.heap.size w u) => LT.tai a n cap q y m d h i s 0 (lE q n) u hu (hH.on hu) w1 w2 w3 w4 w5 w6 (Or.inl ⟨z, rfl, rfl⟩)
    have kU := fun u (hu : Below w.heap.size w u) => L.utc a n cap q N 0 0 0 0 0 0 (lE q n) u hu (hH.on hu) wN (Or.inl ⟨sx, rfl, rfl, rfl, rfl, rfl, rfl⟩)
    have kA := fun u (hu : Below w.heap.size w u) => L.ahead a n cap q N 0 (lE q n) u hu (hH.on hu) wN (Or.inl ⟨sx, rfl⟩)
    have kS := fun u (hu : Below w.heap.size w u) => LS.smear a n cap q N 0 (lE q n) u hu (hH.on hu) wN (Or.inl ⟨sx, rfl⟩)
    have z' : (lE q n == 0) = false := by simpa using z
    cases o : (okD y m d && okH h i s) with
    | true =>
      rw [o] at kH
      simp only [o, if_true] at kP
      have o' := o
      rw [Bool.and_eq_true] at o'
      have kLT := fun u (hu : Below w.heap.size w u) => rltext_any y m d h i s u o'.1 o'.2
      exact way_Ah a n cap N y m d h i s py pm pd ph pi ps e4 t (lE q n) _ w hg z' kL kC kT kU kA kS kH kLT kP kRR kPa
    | false =>
      rw [o] at kH
      simp only [o, Bool.false_eq_true, if_false] at kP
      exact way_An a n cap N y m d h i s py pm pd ph pi ps e4 t (lE q n) w hg z' kL kC kT kU kA kS kH kP kRR kPa
end Go.Proofs.YthaajbdppmdhaacDoor.leapTells
