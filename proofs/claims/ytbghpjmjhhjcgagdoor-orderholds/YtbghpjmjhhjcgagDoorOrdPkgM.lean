/- What package order answers: Many. -/
import Derived.Test.YtbghpjmjhhjcgagDoorOrdPkgN
import Derived.Test.YtbghpjmjhhjcgagDoorOrdPkgK
namespace Go.Proofs.YtbghpjmjhhjcgagDoor
open Go.ChangeShapes Go.WideShapes Go.ChangeAt Go.RowKit Go.Joins
set_option linter.unusedVariables false
set_option linter.unusedSimpArgs false

theorem many_bad (a : Option Addr) (n cap : Nat) (f : Nat → Ev) (e : Int) (w : World) (hH : VHanded w a n f) (hcp : n ≤ cap) (hE : EvE n f e) (he : e ≠ 0) :
    Calls Tryd.prog 28 #[.slice a n cap] w fun r w' => r = .returned (.tuple #[.int .i64 0, errc e]) ∧ Below w.heap.size w w' := by
  have cK := ocheck_any a n cap f e w hH hcp hE
  rw [errc_not he] at cK ⊢
  clear hH hE he hcp
  go_enter Tryd.func28, Tryd.ntmps28
  go_wp2_with (go_at_call 18; refine cK.mono ?_; rintro e u0 ⟨rfl, hb⟩; have HB : Hid _ := hb; clear hb)
  go_ret2
  exact ⟨rfl, HB.out⟩
theorem Tbl.far {W : World} {g g' N i : Nat} {A : Nat → Nat} {x : Value} (hne : g' ≠ g) (h : Tbl W g N A) : Tbl (W.setCell ⟨g', i, none⟩ x) g N A := fun U hU => by
  obtain ⟨a, b⟩ := h U hU
  exact ⟨by rw [World.cell?_setCell_far _ _ _ _ hne]; exact a, by rw [World.frozen?_setCell]; exact b⟩
set_option maxRecDepth 100000 in
set_option maxHeartbeats 8000000 in
theorem many_ok (ad : Option Addr) (n cap : Nat) (f : Nat → Ev) (w : World) (hH : VHanded w ad n f) (hcp : n ≤ cap) (hE : EvE n f 0) : Calls Tryd.prog 28 #[.slice ad n cap] w fun e w' => e = .returned (.tuple #[.int .i64 (mny f n : Nat), .nilIface]) ∧ Below w.heap.size w w' := by
  have cK := ocheck_any ad n cap f 0 w hH hcp hE
  rw [errc_zero] at cK
  obtain ⟨hn, hok⟩ := hE.zero
  have cN : Hid (∀ u, Below w.heap.size w u → Calls Tryd.prog 45 #[.slice ad n cap] u fun e w' => e = .returned (.slice (some ⟨u.heap.size, 0, none⟩) n n) ∧ Tbl w' u.heap.size n (fun k => ndS f k n) ∧ Below u.heap.size u w') := fun u hu => needed_any ad n cap f u hn hok (hH.on hu)
  have HIr : Hid (Irr f n) := okAt.irr hok
  obtain ⟨N, hN⟩ : ∃ N, N = 2 ^ n := ⟨_, rfl⟩
  have HNn : Hid (N = 2 ^ n) := hN
  have N4 : N ≤ 4096 := by rw [hN]; exact pow_le_4096 hn
  have N1 : 1 ≤ N := by rw [hN]; exact pow_pos2 n
  have s0 : (0 : Int) < N := by omega
  have wN : IntKind.i64.wrap ((2 : Int) ^ n) = (N : Int) := by rw [show (2 : Int) ^ n = (N : Int) by rw [hN]; norm_cast]; exact IntWalk.i64_in _ (by omega)
  have hmk := mk_intsM N N4
  clear hH hok hE hcp hN
  go_enter Tryd.func28, Tryd.ntmps28
  go_wp2_with (first | (go_at_call 18; refine cK.mono ?_; rintro e u0 ⟨rfl, hb⟩; have HB : Hid (Below w.heap.size w u0) := hb; clear hb) | (go_at_call 45; refine (cN.out _ HB.out).mono ?_; rintro e u1 ⟨rfl, hT, hb⟩; have HT : Hid (Tbl u1 u0.heap.size n (fun k => ndS f k n)) := hT; have HB1 : Hid (Below w.heap.size w u1) := rbel_on hb HB.out; have HS1 : Hid (w.heap.size ≤ u0.heap.size) := HB.out.size; have HG : Hid (u0.heap.size < u1.heap.size ∨ n = 0) := (by by_cases z : n = 0; exact Or.inr z; exact Or.inl (World.block_lt_of_cell? _ _ (hT 0 (by omega)).1)); have c0 : (u1.alloc (.cells (Array.replicate N (.int .i64 0)) 3)).cell? ⟨u1.heap.size, 0, none⟩ = some (.int .i64 0) := (tbl_made u1 N 0 N1).1; have f0 := (tbl_made u1 N 0 N1).2; clear hb hT))
  have T0 : Hid (Tbl (u1.alloc (.cells ((Array.replicate N (.int .i64 0)).setIfInBounds 0 (.int .i64 1)) 3)) u1.heap.size N (tabW f n 0 0)) := (tbl_made1 u1 N).same (fun U hU => by rw [tabW_zero])
  have D0 : Hid (Tbl (u1.alloc (.cells ((Array.replicate N (.int .i64 0)).setIfInBounds 0 (.int .i64 1)) 3)) u0.heap.size n (fun k => ndS f k n)) := HT.out.on (rbel_al (Below.refl _ _))
  have K0 : Hid (Below w.heap.size w (u1.alloc (.cells ((Array.replicate N (.int .i64 0)).setIfInBounds 0 (.int .i64 1)) 3))) := rbel_al HB1.out
  have HWS : Hid (w.heap.size ≤ u1.heap.size) := HB1.out.size
  clear c0 f0 hmk HT HB1 HB cN cK wN
  generalize u1.heap.size = gm at *
  generalize u0.heap.size = gd at *
  go_loopw [25] (fun v wr => ∃ T : Nat, T ≤ N ∧ v = .int .i64 T ∧ Tbl wr gm N (tabW f n T 0) ∧ Tbl wr gd n (fun k => ndS f k n) ∧ Below w.heap.size w wr) (fun v _ => N - (intOf v).toNat)
  case atStart => exact ⟨0, Nat.zero_le _, rfl, T0.out, D0.out, K0.out⟩
  case round =>
    clear T0 K0 D0
    obtain ⟨T, hT, rfl, hTb, hDb, hw⟩ := hrel
    have HTb : Hid (Tbl wr gm N (tabW f n T 0)) := hTb
    have HDb : Hid (Tbl wr gd n (fun k => ndS f k n)) := hDb
    have HW : Hid (Below w.heap.size w wr) := hw
    by_cases hTN : T < N
    · have hl4 : (T : Int) < N := by omega
      have HTP : Hid (T < 2 ^ n) := by show T < 2 ^ n; rw [← HNn.out]; exact hTN
      clear hTb hDb hw
      go_wp2
      go_loopw [30] (fun vk wr => ∃ k : Nat, k ≤ n ∧ vk = .int .i64 k ∧ Tbl wr gm N (tabW f n T k) ∧ Tbl wr gd n (fun k => ndS f k n) ∧ Below w.heap.size w wr) (fun k _ => n - (intOf k).toNat)
      case atStart => exact ⟨0, Nat.zero_le _, rfl, HTb.out, HDb.out, HW.out⟩
      case round =>
        clear HTb HDb HW
        obtain ⟨k, hk, rfl, hTb, hDb, hw⟩ := hrel
        have HTb : Hid (Tbl wr gm N (tabW f n T k)) := hTb
        have HDb : Hid (Tbl wr gd n (fun k => ndS f k n)) := hDb
        have HW : Hid (Below w.heap.size w wr) := hw
        by_cases hkn : k < n
        · have hl5 : (k : Int) < n := by omega
          have HNe : Hid (gm ≠ gd) := by
            rcases HG.out with z | z
            · show gm ≠ gd; omega
            · omega
          obtain ⟨M, hM⟩ : ∃ M, M = ndS f k n := ⟨_, rfl⟩
          have c0 : wr.cell? ⟨gd, k, none⟩ = some (.int .i64 (M : Nat)) := by rw [hM]; exact (hDb k hkn).1
          have Ml : M < 8192 := by have := ndS_lt f k n; have := pow_le_4096 hn; omega
          have cB : ∀ u, Calls Tryd.prog 46 #[.int .i64 T, .int .i64 k] u fun e w' => e = .returned (.bool (bit T k)) ∧ w' = u := fun u => hasBit_any T k u (by omega) (by omega)
          cases hbt : bit T k with
          | true =>
            rw [hbt] at cB
            have HS : Hid (Tbl wr gm N (tabW f n T (k + 1))) := HTb.out.same (fun U _ => (tabW_skip hkn (Or.inl hbt) U).symm)
            clear HTb hTb hDb hw hM hbt
            go_wp2_with (go_at_call 46; refine (cB _).mono ?_; rintro e u2 ⟨rfl, hu⟩; rw [hu]; clear hu)
            go_roundw
            case rel => exact ⟨k + 1, by omega, by go_num, HS.out, HDb.out, HW.out⟩
            case measure => simp [intOf]; omega
          | false =>
            rw [hbt] at cB
            obtain ⟨Z, hZ⟩ : ∃ Z, Z = M &&& (18446744073709551615 - T) := ⟨_, rfl⟩
            have dZ : bits .andNot .i64 (M : Int) (T : Int) = (Z : Int) := by rw [hZ]; exact not_i64 Ml (by omega)
            have iZ : Z = 0 ↔ rdyB f n (bit T) k = true := by rw [hZ, hM]; exact rdy_need hn (by omega)
            cases hr : rdyB f n (bit T) k with
            | false =>
              have z0 : ¬ (Z = 0) := fun q => by rw [iZ.1 q] at hr; cases hr
              have z1 : ((Z : Int) == 0) = false := by simp; omega
              have HS : Hid (Tbl wr gm N (tabW f n T (k + 1))) := HTb.out.same (fun U _ => (tabW_skip hkn (Or.inr hr) U).symm)
              clear HTb hTb hDb hw hM hbt hr iZ hZ
              go_wp2_with (go_at_call 46; refine (cB _).mono ?_; rintro e u2 ⟨rfl, hu⟩; rw [hu]; clear hu)
              go_roundw
              case rel => exact ⟨k + 1, by omega, by go_num, HS.out, HDb.out, HW.out⟩
              case measure => simp [intOf]; omega
            | true =>
              have z0 : Z = 0 := iZ.2 hr
              rw [z0] at dZ
              obtain ⟨B, hB⟩ : ∃ B, B = 2 ^ k := ⟨_, rfl⟩
              have HBk : Hid (B = 2 ^ k) := hB
              have B4 : B ≤ 4096 := by rw [hB]; exact pow_le_4096 (by omega)
              have tl : T + B < N := by rw [HBk.out, HNn.out]; exact add_lt HTP.out hkn hbt
              obtain ⟨x, hx⟩ : ∃ x, x = tabW f n T k (T + B) := ⟨_, rfl⟩
              obtain ⟨y, hy⟩ : ∃ y, y = tabW f n T k T := ⟨_, rfl⟩
              have ey : y = wd f n (bit T) := by rw [hy]; exact tabW_self HIr.out HTP.out
              have pt : tabW f n T (k + 1) (T + B) = x + y := by rw [HBk.out, tabW_put hkn hbt hr, if_pos rfl, ← HBk.out, ← hx, ← ey]
              have xy : x + y ≤ 479001600 := by rw [← pt]; exact tabW_le HIr.out hn (by rw [← HNn.out]; exact tl)
              have HS : Hid (∀ u, Tbl u gm N (tabW f n T k) → Tbl (u.setCell ⟨gm, T + B, none⟩ (.int .i64 ((x + y : Nat) : Int))) gm N (tabW f n T (k + 1))) := fun u hu => (hu.put (V := T + B) (x := x + y) tl).same (fun U hU => by
                by_cases q : U = T + B
                · rw [if_pos q, q, pt]
                · rw [if_neg q, tabW_put hkn hbt hr, if_neg (by rw [← HBk.out]; exact q)]
                  rfl)
              have c1 : wr.cell? ⟨gm, T + B, none⟩ = some (.int .i64 (x : Nat)) := by rw [hx]; exact (hTb (T + B) tl).1
              have f1 : wr.frozen? ⟨gm, T + B, none⟩ = false := (hTb (T + B) tl).2
              have c2 : wr.cell? ⟨gm, T, none⟩ = some (.int .i64 (y : Nat)) := by rw [hy]; exact (hTb T hTN).1
              have wx : IntKind.i64.wrap ((x : Int) + (y : Int)) = ((x + y : Nat) : Int) := by rw [show (x : Int) + (y : Int) = ((x + y : Nat) : Int) by omega]; exact IntWalk.i64_in _ (by omega)
              have wB : IntKind.i64.wrap ((2 : Int) ^ k) = (B : Int) := by rw [show (2 : Int) ^ k = (B : Int) by rw [hB]; norm_cast]; exact IntWalk.i64_in _ (by omega)
              have wB2 : IntKind.i64.wrap (1 * (2 : Int) ^ (k : Int).toNat) = (B : Int) := by rw [Int.one_mul, Int.toNat_natCast]; exact wB
              have oB : bits .or .i64 (T : Int) (B : Int) = ((T + B : Nat) : Int) := or_i64 (by omega) (by omega) hB hbt
              have oB2 : bits .or .i64 (T : Int) ((2 : Int) ^ k) = ((T + B : Nat) : Int) := by rw [show (2 : Int) ^ k = (B : Int) by rw [hB]; norm_cast]; exact oB
              have a1 : ((T + B : Nat) : Int) < N := by omega
              have a2 : T + B < N := tl
              have gl : gm < wr.heap.size := World.block_lt_of_cell? _ _ c2
              clear hTb hDb hw hM hbt hr iZ hZ pt ey hx hy z0 hB
              go_upto_if 14 with (go_at_call 46; refine (cB _).mono ?_; rintro e u2 ⟨rfl, hu⟩; rw [hu]; clear hu)
              clear c0
              go_region
              all_goals
                go_wp2
                go_roundw
                case rel => exact ⟨k + 1, by omega, by go_num, by first | exact HS.out _ HTb.out.dr | exact (HS.out _ HTb.out).dr, by first | exact Tbl.far HNe.out HDb.out.dr | exact (Tbl.far HNe.out HDb.out).dr, by first | exact rbel_put HWS.out (rbel_dr HW.out) | exact rbel_dr (rbel_put HWS.out HW.out)⟩
                case measure => simp [intOf]; omega
        · have hl5 : ¬ ((k : Int) < n) := by omega
          have e : n = k := by omega
          have HS : Hid (Tbl wr gm N (tabW f n (T + 1) 0)) := hTb.same (fun U _ => by rw [← e]; exact tabW_next T U)
          clear hTb hDb hw HTb e
          go_wp2
          go_roundw
          case rel => exact ⟨T + 1, by omega, by go_num, HS.out, HDb.out, HW.out⟩
          case measure => simp [intOf]; omega
    · have hl4 : ¬ ((T : Int) < N) := by omega
      have e : N = T := by omega
      obtain ⟨M, hM⟩ : ∃ M, M = N - 1 := ⟨_, rfl⟩
      have wM : IntKind.i64.wrap ((N : Int) - 1) = (M : Int) := by rw [show (N : Int) - 1 = (M : Int) by omega]; exact IntWalk.i64_in _ (by omega)
      have ml : (M : Int) < N := by omega
      have c1 : wr.cell? ⟨gm, M, none⟩ = some (.int .i64 (mny f n : Nat)) := by
        have c := (hTb M (by omega)).1
        rw [tabW_done HIr.out (by omega) (by rw [← HNn.out]; omega), hM, HNn.out, wd_full, ← HNn.out, ← hM] at c
        exact c
      clear hTb hDb hw HTb hM e
      go_wp2
      go_ret2
      exact ⟨rfl, HW.out⟩
theorem many_any (a : Option Addr) (n cap : Nat) (f : Nat → Ev) (e : Int) (w : World) (hH : VHanded w a n f) (hcp : n ≤ cap) (hE : EvE n f e) :
    Calls Tryd.prog 28 #[.slice a n cap] w fun r w' => r = .returned (.tuple #[.int .i64 (if e = 0 then ((mny f n : Nat) : Int) else 0), errc e]) ∧ Below w.heap.size w w' := by
  by_cases z : e = 0
  · subst z
    rw [if_pos rfl, errc_zero]
    exact many_ok a n cap f w hH hcp hE
  · rw [if_neg z]
    exact many_bad a n cap f e w hH hcp hE z
end Go.Proofs.YtbghpjmjhhjcgagDoor
