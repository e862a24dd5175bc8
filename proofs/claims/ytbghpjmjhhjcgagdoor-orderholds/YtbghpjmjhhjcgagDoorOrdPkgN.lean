/- What package order answers: hasBit, neededAhead. -/
import Derived.Test.YtbghpjmjhhjcgagDoorOrdPkgS
import Derived.Test.YtbghpjmjhhjcgagDoorOrdBits
import Derived.Test.YtbghpjmjhhjcgagDoorOrdTbl
import Derived.Test.YtbghpjmjhhjcgagDoorKeeps
import Derived.Lib.SmallJoins
import Derived.BigQuiet
import Derived.BigRegion
import Derived.Deep.QuietTactic
import Derived.IntWalk
import Derived.Deep.CutRange
import Derived.Deep.CutBlock
namespace Go.Proofs.YtbghpjmjhhjcgagDoor
open Go.ChangeShapes Go.WideShapes Go.ChangeAt Go.RowKit Go.Joins
set_option linter.unusedVariables false
set_option linter.unusedSimpArgs false

theorem hasBit_any (T i : Nat) (w : World) (hT : T < 8192) (hi : i < 12) :
    Calls Tryd.prog 46 #[.int .i64 T, .int .i64 i] w fun e w' => e = .returned (.bool (bit T i)) ∧ w' = w := by
  obtain ⟨D, hD⟩ : ∃ D, D = T / 2 ^ i := ⟨_, rfl⟩
  have q : (T : Int) / 2 ^ i = (D : Int) := by rw [hD]; norm_cast
  have d1 : bits .and .i64 (D : Int) 1 = ((D % 2 : Nat) : Int) := and1_i64 (by rw [hD]; exact Nat.lt_of_le_of_lt (Nat.div_le_self _ _) hT)
  have hb : bit T i = decide (D % 2 = 1) := by unfold bit; rw [hD]
  rw [hb]
  clear hb hD hT
  have : D % 2 = 0 ∨ D % 2 = 1 := by omega
  rcases this with e | e
  · rw [e] at d1 ⊢
    go_enter Tryd.func46, Tryd.ntmps46
    go_wp2
    go_ret
    exact ⟨rfl, rfl⟩
  · rw [e] at d1 ⊢
    go_enter Tryd.func46, Tryd.ntmps46
    go_wp2
    go_ret
    exact ⟨rfl, rfl⟩
/-- What the table of needs holds on the way. -/
def ndT (f : Nat → Ev) (n k i j : Nat) : Nat := if j < k then ndS f j n else if j = k then ndS f k i else 0
theorem ndT_next (f : Nat → Ev) (n k j : Nat) : ndT f n k n j = ndT f n (k + 1) 0 j := by
  unfold ndT
  by_cases a : j < k
  · rw [if_pos a, if_pos (show j < k + 1 by omega)]
  · rw [if_neg a]
    by_cases b : j = k
    · rw [if_pos b, if_pos (show j < k + 1 by omega), b]
    · rw [if_neg b, if_neg (show ¬ j < k + 1 by omega)]
      split <;> rfl
theorem ndT_self (f : Nat → Ev) (n k i : Nat) : ndT f n k i k = ndS f k i := by unfold ndT; rw [if_neg (by omega), if_pos rfl]
theorem ndT_other (f : Nat → Ev) (n k i i' j : Nat) (h : j ≠ k) : ndT f n k i j = ndT f n k i' j := by unfold ndT; rw [if_neg h, if_neg h]
set_option maxRecDepth 100000 in
set_option maxHeartbeats 8000000 in
theorem needed_any (ad : Option Addr) (n cap : Nat) (f : Nat → Ev) (w : World) (hn : n ≤ 12) (hok : ∀ j, j < n → okAt f j) (hH : VHanded w ad n f) : Calls Tryd.prog 45 #[.slice ad n cap] w fun e w' => e = .returned (.slice (some ⟨w.heap.size, 0, none⟩) n n) ∧ Tbl w' w.heap.size n (fun k => ndS f k n) ∧ Below w.heap.size w w' := by
  have HA : Hid (n = 0 ∨ ∃ b off : Nat, ad = some ⟨b, off, none⟩ ∧ Evs w b off n f) := hH.2
  have HOk : Hid (∀ j, j < n → okAt f j) := hok
  have hmk := mk_intsM n (by omega)
  have T0 : Hid (Tbl (w.alloc (.cells (Array.replicate n (.int .i64 0)) 3)) w.heap.size n (ndT f n 0 0)) := (tbl_made w n).same (fun U hU => by unfold ndT; rw [if_neg (by omega)]; split <;> rfl)
  have K0 : Hid (Below w.heap.size w (w.alloc (.cells (Array.replicate n (.int .i64 0)) 3))) := rbel_al (Below.refl _ _)
  clear hH hok
  go_enter Tryd.func45, Tryd.ntmps45
  go_wp2
  clear hmk
  go_loopw [13] (fun v wr => ∃ k : Nat, k ≤ n ∧ v = .int .i64 k ∧ Tbl wr w.heap.size n (ndT f n k 0) ∧ Below w.heap.size w wr) (fun v _ => n - (intOf v).toNat)
  case atStart => exact ⟨0, Nat.zero_le _, rfl, T0.out, K0.out⟩
  case round =>
    clear T0 K0
    obtain ⟨k, hk, rfl, hTb, hw⟩ := hrel
    obtain ⟨wo, rfl⟩ : ∃ x, x = wr := ⟨wr, rfl⟩
    have HTb : Hid (Tbl wo w.heap.size n (ndT f n k 0)) := hTb
    have HW : Hid (Below w.heap.size w wo) := hw
    by_cases hlt : k < n
    · have hl3 : (k : Int) < n := by omega
      obtain ⟨b, off, rfl, hP⟩ : ∃ b off : Nat, ad = some ⟨b, off, none⟩ ∧ Evs w b off n f := by
        rcases HA.out with e | h
        · omega
        · exact h
      have HP : Hid (Evs w b off n f) := hP
      obtain ⟨x0, x1, x2⟩ := (hP.on hw) k hlt
      have zb : b < wo.heap.size := World.block_lt_of_cell? _ _ x0
      have HGE : Hid (w.heap.size < wo.heap.size) := World.block_lt_of_cell? _ _ (hTb k hlt).1
      obtain ⟨yk, hyk⟩ : ∃ y, y = f k := ⟨_, rfl⟩
      rw [← hyk] at x0 x1 x2
      have HO2 : Hid (okB yk.lo yk.hi = true) := by show okB yk.lo yk.hi = true; rw [hyk]; exact (HOk.out k hlt).1
      have HS : Hid (∀ i, sur f i k = decide ((f i).hi < yk.lo)) := fun i => by rw [hyk]; rfl
      clear hTb hw hP hyk
      have HTE : Hid (∀ t, Tbl (wo.alloc (.cells #[.int .i64 yk.id, .int .i64 yk.lo, .int .i64 yk.hi] t)) w.heap.size n (ndT f n k 0)) := fun t => HTb.out.on (rbel_al (Below.refl _ _))
      have HRE : Hid (∀ t, Row (wo.alloc (.cells #[.int .i64 yk.id, .int .i64 yk.lo, .int .i64 yk.hi] t)) wo.heap.size [.int .i64 yk.id, .int .i64 yk.lo, .int .i64 yk.hi]) := fun t => Row.made rfl
      have HWE : Hid (∀ ob, Below w.heap.size w (wo.alloc ob)) := fun ob => rbel_al HW.out
      have cI : Hid (∀ i u, i < n → Calls Tryd.prog 56 #[.agg #[.int .i64 (f i).id, .int .i64 (f i).lo, .int .i64 (f i).hi], .agg #[.int .i64 yk.id, .int .i64 yk.lo, .int .i64 yk.hi]] u fun e w' => e = .returned (.bool (sur f i k)) ∧ Below u.heap.size u w') := fun i u hi => by
        rw [HS.out i]
        exact isAhead_any (f i) yk u (HOk.out i hi).1 HO2.out
      clear HS HO2
      generalize yk.id = yi at *
      generalize yk.lo = yl at *
      generalize yk.hi = yh at *
      go_wp2
      clear x0 x1 x2 zb
      go_loopw [20] (fun v wr => ∃ i : Nat, i ≤ n ∧ v = .int .i64 i ∧ Tbl wr w.heap.size n (ndT f n k i) ∧ Row wr wo.heap.size [.int .i64 yi, .int .i64 yl, .int .i64 yh] ∧ Below w.heap.size w wr) (fun v _ => n - (intOf v).toNat)
      case atStart => exact ⟨0, Nat.zero_le _, rfl, HTE.out _, HRE.out _, HWE.out _⟩
      case round =>
        clear HTE HRE HWE HTb HW
        obtain ⟨i, hi, rfl, hTb, hR, hw⟩ := hrel
        have HTb : Hid (Tbl wr w.heap.size n (ndT f n k i)) := hTb
        have HR : Hid (Row wr wo.heap.size [.int .i64 yi, .int .i64 yl, .int .i64 yh]) := hR
        have HW : Hid (Below w.heap.size w wr) := hw
        by_cases hin : i < n
        · have hl4 : (i : Int) < n := by omega
          obtain ⟨x0, x1, x2⟩ := (HP.out.on hw) i hin
          have c0 := hR.c 0 _ rfl
          have c1 := hR.c 1 _ rfl
          have c2 := hR.c 2 _ rfl
          have zb : b < wr.heap.size := World.block_lt_of_cell? _ _ x0
          have zo : wo.heap.size < wr.heap.size := World.block_lt_of_cell? _ _ c0
          have zg : w.heap.size < wr.heap.size := World.block_lt_of_cell? _ _ (hTb k hlt).1
          have cC := fun u => cI.out i u hin
          obtain ⟨M, hM⟩ : ∃ M, M = ndS f k i := ⟨_, rfl⟩
          obtain ⟨B, hB⟩ : ∃ B, B = 2 ^ i := ⟨_, rfl⟩
          have B4 : B ≤ 4096 := by rw [hB]; exact pow_le_4096 (by omega)
          have Ml : M < B := by rw [hM, hB]; exact ndS_lt f k i
          have wB : IntKind.i64.wrap ((2 : Int) ^ i) = (B : Int) := by rw [show (2 : Int) ^ i = (B : Int) by rw [hB]; norm_cast]; exact IntWalk.i64_in _ (by omega)
          have oB : bits .or .i64 (M : Int) (B : Int) = ((M + B : Nat) : Int) := or_i64 (by omega) (by omega) hB (by rw [hM]; exact bit_out (ndS_lt f k i) (Nat.le_refl _))
          generalize hxi : (f i).id = xi at *
          generalize hxl : (f i).lo = xl at *
          generalize hxh : (f i).hi = xh at *
          clear hxi hxl hxh hTb hR hw
          cases s : sur f i k with
          | false =>
            rw [s] at cC
            have HN : Hid (∀ u, Tbl u w.heap.size n (ndT f n k i) → Tbl u w.heap.size n (ndT f n k (i + 1))) := fun u h => h.same (fun U _ => by
              by_cases q : U = k
              · subst q
                rw [ndT_self, ndT_self]
                show _ = ndS f U i + _
                rw [s]
                rfl
              · exact ndT_other f n k i (i + 1) U q)
            clear s
            go_wp2_with (go_at_call 56; refine (cC _).mono ?_; rintro e u0 ⟨rfl, hb⟩; have HB : Hid (Below wr.heap.size wr u0) := rbel_on hb (rbel_al (Below.refl _ _)); clear hb)
            go_roundw
            case rel => exact ⟨i + 1, by omega, by go_num, HN.out _ (HTb.out.on HB.out), HR.out.on HB.out, rbel_on HB.out HW.out⟩
            case measure => simp [intOf]; omega
          | true =>
            rw [s] at cC
            have HN : Hid (∀ u, Tbl u w.heap.size n (ndT f n k i) → Tbl (u.setCell ⟨w.heap.size, k, none⟩ (.int .i64 ((M + B : Nat) : Int))) w.heap.size n (ndT f n k (i + 1))) := fun u h => (h.put (V := k) (x := M + B) hlt).same (fun U _ => by
              by_cases q : U = k
              · subst q
                rw [if_pos rfl, ndT_self]
                show _ = ndS f U i + _
                rw [s, hM, hB]
                rfl
              · rw [if_neg q]
                exact ndT_other f n k i (i + 1) U q)
            have HM : Hid (∀ u, Tbl u w.heap.size n (ndT f n k i) → u.cell? ⟨w.heap.size, k, none⟩ = some (.int .i64 (M : Nat)) ∧ u.frozen? ⟨w.heap.size, k, none⟩ = false) := fun u h => by
              have z := h k hlt
              rw [ndT_self, ← hM] at z
              exact z
            clear s hM hB
            go_upto_if 9 with (go_at_call 56; refine (cC _).mono ?_; rintro e u0 ⟨rfl, hb⟩; have HB : Hid (Below wr.heap.size wr u0) := rbel_on hb (rbel_al (Below.refl _ _)); clear hb)
            have HT0 : Hid (Tbl u0 w.heap.size n (ndT f n k i)) := HTb.out.on HB.out
            have HW0 : Hid (Below w.heap.size w u0) := rbel_on HB.out HW.out
            have HR0 : Hid (Row u0 wo.heap.size [.int .i64 yi, .int .i64 yl, .int .i64 yh]) := HR.out.on HB.out
            obtain ⟨m1, m2⟩ := HM.out u0 HT0.out
            have gl : w.heap.size < u0.heap.size := World.block_lt_of_cell? _ _ m1
            have wB2 : IntKind.i64.wrap (1 * (2 : Int) ^ (i : Int).toNat) = (B : Int) := by rw [Int.one_mul, Int.toNat_natCast]; exact wB
            have HNe : Hid (w.heap.size ≠ wo.heap.size) := by have := HGE.out; show w.heap.size ≠ wo.heap.size; omega
            clear c0 c1 c2 x0 x1 x2 zb zo zg HTb HR HW HB HM
            go_region
            all_goals
              go_wp2
              go_roundw
              case rel => exact ⟨i + 1, by omega, by go_num, by first | exact HN.out _ HT0.out.dr | exact (HN.out _ HT0.out).dr, by first | exact Row.far HNe.out (Row.dr HR0.out) | exact Row.dr (Row.far HNe.out HR0.out), by first | exact rbel_put (Nat.le_refl _) (rbel_dr HW0.out) | exact rbel_dr (rbel_put (Nat.le_refl _) HW0.out)⟩
              case measure => simp [intOf]; omega
        · have hl4 : ¬ ((i : Int) < n) := by omega
          have e : n = i := by omega
          have HS : Hid (Tbl wr w.heap.size n (ndT f n (k + 1) 0)) := hTb.same (fun U hU => by rw [← ndT_next, e])
          clear hTb hw HTb hR HR e
          go_wp2
          go_roundw
          case rel => exact ⟨k + 1, by omega, by go_num, HS.out, HW.out⟩
          case measure => simp [intOf]; omega
    · have hl3 : ¬ ((k : Int) < n) := by omega
      have HS : Hid (Tbl wo w.heap.size n (fun k => ndS f k n)) := hTb.same (fun U hU => by unfold ndT; rw [if_pos (by omega)])
      clear hTb hw HTb
      go_wp2
      go_ret
      exact ⟨rfl, HS.out, HW.out⟩
end Go.Proofs.YtbghpjmjhhjcgagDoor
