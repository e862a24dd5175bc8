/- The ways through the law NetAll. -/
import Derived.Test.YtnagdjipmpjaaaiNm16
import Derived.Test.YtnagdjipmpjaaaiNetStar
import Derived.Test.YtnagdjipmpjaaaiNm04
import Derived.Maps.AppendAt
import Derived.Lib.SmallJoins
import Derived.BigQuiet
import Derived.Deep.QuietTactic
import Derived.Deep.RegionWith
import Derived.Deep.CutRange
import Derived.Deep.CutBlock
import Derived.IntWalk
namespace Go.Proofs.Ytnagdjipmpjaaai.netAll
open Go.ChangeShapes Go.WideShapes Go.ChangeAt Go.RowKit Go.Joins
set_option linter.unusedVariables false
set_option linter.unusedSimpArgs false

set_option maxRecDepth 100000 in
set_option maxHeartbeats 16000000 in
theorem small (n late : Int) (w : World) (h : n < 2 ∨ 6 < n ∨ late < 0 ∨ 1000 < late) :
    Calls Try.prog 3 #[.int .i64 n, .int .i64 late] w fun o w' => o = .returned (.bool true) ∧ Below w.heap.size w w' := by
  have d : n < 2 ∨ (¬ n < 2 ∧ 6 < n) ∨ (¬ n < 2 ∧ ¬ 6 < n ∧ late < 0) ∨ (¬ n < 2 ∧ ¬ 6 < n ∧ ¬ late < 0 ∧ 1000 < late) := by omega
  clear h
  rcases d with d1 | ⟨d1, d2⟩ | ⟨d1, d2, d3⟩ | ⟨d1, d2, d3, d4⟩
  all_goals
    go_enter Try.func3, Try.ntmps3
    go_wp2
    go_ret
    exact ⟨rfl, Below.refl _ _⟩
set_option maxRecDepth 100000 in
set_option maxHeartbeats 16000000 in
theorem good (n : Nat) (late : Int) (w : World) (C : NtW w) (h2 : 2 ≤ n) (h6 : n ≤ 6) (l0 : 0 ≤ late) (l1 : late ≤ 1000) :
    Calls Try.prog 3 #[.int .i64 n, .int .i64 late] w fun o w' => o = .returned (.bool true) ∧ Below w.heap.size w w' := by
  obtain ⟨i0, hi0, hz0, hz1, hz2⟩ := info_parts infoIntN
  have d1 : ¬ ((n : Int) < 2) := by omega
  have d2 : ¬ (6 < (n : Int)) := by omega
  have d3 : ¬ (late < 0) := by omega
  have d4 : ¬ (1000 < late) := by omega
  have HB0 : Hid (Below w.heap.size w w) := Below.refl _ _
  go_enter Try.func3, Try.ntmps3
  go_wp2
  go_loopw [5, 6, 7] (fun va vb vi wr => ∃ k : Nat, k ≤ n ∧ vi = .int .i64 k ∧ wr.ownsRow w.heap.size 3 1 va k (icn zs k) ∧ wr.ownsRow w.heap.size 3 1 vb k (icn rs k) ∧ (∀ g, va.ownBlock = some g → vb.ownBlock ≠ some g) ∧ Below w.heap.size w wr) (fun _ _ vi _ => n - (intOf vi).toNat)
  case atStart => exact ⟨0, Nat.zero_le _, rfl, World.ownsRow_nil _ _ _ _, World.ownsRow_nil _ _ _ _, (fun g e => by cases e), HB0.out⟩
  case round =>
    obtain ⟨k, hk, rfl, ha, hb, hne, hw⟩ := hrel
    have HA : Hid (wr.ownsRow w.heap.size 3 1 u5 k (icn zs k)) := ha
    have HBB : Hid (wr.ownsRow w.heap.size 3 1 u6 k (icn rs k)) := hb
    have HNE : Hid (∀ g, u5.ownBlock = some g → u6.ownBlock ≠ some g) := hne
    have HW : Hid (Below w.heap.size w wr) := hw
    have zz := hw.size
    by_cases hlt : k < n
    · have hl : (k : Int) < n := by omega
      have e1 : IntKind.i64.wrap (10 * (k : Int)) = zs k := IntWalk.i64_in _ (by omega)
      have e2 : IntKind.i64.wrap (5 * (k : Int)) = rs k := IntWalk.i64_in _ (by omega)
      have I1 : Hid (icn zs (k + 1) = icn zs k ++ [.int .i64 (zs k)]) := rfl
      have I2 : Hid (icn rs (k + 1) = icn rs k ++ [.int .i64 (rs k)]) := rfl
      have A1 : Hid (∀ g, u5.ownBlock = some g → w.heap.size ≤ g ∧ g < wr.heap.size) := fun g hg => ha.lt g hg
      have A2 : Hid (∀ g, u6.ownBlock = some g → w.heap.size ≤ g ∧ g < wr.heap.size) := fun g hg => hb.lt g hg
      clear ha hb hne hw HB0
      generalize zs k = za at *
      generalize rs k = zb at *
      generalize icn zs k = xa at *
      generalize icn rs k = xb at *
      go_wp2_with (at_builtin; refine wpList_append_own_at _ rfl _ _ 22 rfl w.heap.size 3 i0 (.int .i64 0) 1 8 Try.underlying22 hi0 hz0 hz1 hz2 rfl (by decide) u5 _ _ rfl (HA.out.alloc _) ⟨wr.heap.size, 0, none⟩ 1 1 [.int .i64 za] rfl rfl (fun q u hq => by rw [Addr.add_lit]; exact (Row.made (W := wr) (vs := [.int .i64 za]) rfl).c _ _ (by simpa using hq)) (fun u hu => by simp at hu; rw [hu]; rfl) (by unfold maxLen; omega) (by omega) (by simp; omega) ?_)
      intro v1 x1 own1 grow1 _ at1
      have O1 : Hid (x1.ownsRow w.heap.size 3 1 v1 (k + 1) (icn zs (k + 1))) := by
        show x1.ownsRow w.heap.size 3 1 v1 (k + 1) (icn zs (k + 1))
        rw [I1.out]
        exact own1
      have W1 : Hid (Below w.heap.size w x1) := (rbel_al HW.out).grown grow1 (by simp; omega) (fun g hg => (A1.out g hg).1)
      have B1 : Hid (x1.ownsRow w.heap.size 3 1 u6 k xb) := own_grownN grow1 (fun g hg e => HNE.out g e.symm hg) (HBB.out.alloc _)
      have sz1 : Hid (wr.heap.size + 1 ≤ x1.heap.size) := (show wr.heap.size + 1 ≤ x1.heap.size by have := grow1.size; simpa using this)
      have N1 : Hid (∀ g, v1.ownBlock = some g → u6.ownBlock ≠ some g) := fun g e q => by
        rcases at1 with h | h
        · rw [h] at e; exact HNE.out g e q
        · rw [h] at e
          have e' := Option.some.inj e
          have l := (A2.out g q).2
          try simp at e'
          omega
      have zx := sz1.out
      clear own1 grow1 at1 HA HBB HNE A1 HW I1
      go_wp2_with (at_builtin; refine wpList_append_own_at _ rfl _ _ 22 rfl w.heap.size 3 i0 (.int .i64 0) 1 8 Try.underlying22 hi0 hz0 hz1 hz2 rfl (by decide) u6 _ _ rfl (B1.out.alloc _) ⟨x1.heap.size, 0, none⟩ 1 1 [.int .i64 zb] rfl rfl (fun q u hq => by rw [Addr.add_lit]; exact (Row.made (W := x1) (vs := [.int .i64 zb]) rfl).c _ _ (by simpa using hq)) (fun u hu => by simp at hu; rw [hu]; rfl) (by unfold maxLen; omega) (by omega) (by simp; omega) ?_)
      intro v2 x2 own2 grow2 _ at2
      have O2 : Hid (x2.ownsRow w.heap.size 3 1 v2 (k + 1) (icn rs (k + 1))) := by
        show x2.ownsRow w.heap.size 3 1 v2 (k + 1) (icn rs (k + 1))
        rw [I2.out]
        exact own2
      have W2 : Hid (Below w.heap.size w x2) := (rbel_al W1.out).grown grow2 (by simp; omega) (fun g hg => (A2.out g hg).1)
      have O1' : Hid (x2.ownsRow w.heap.size 3 1 v1 (k + 1) (icn zs (k + 1))) := own_grownN grow2 (fun g hg e => N1.out g hg e.symm) (O1.out.alloc _)
      have N2 : Hid (∀ g, v1.ownBlock = some g → v2.ownBlock ≠ some g) := fun g e q => by
        rcases at2 with h | h
        · rw [h] at q; exact N1.out g e q
        · rw [h] at q
          have q' := Option.some.inj q
          have l := (O1.out.lt g e).2
          try simp at q'
          omega
      clear own2 grow2 at2 O1 B1 N1 W1 A2 I2
      go_wp2
      go_roundw
      case rel => exact ⟨k + 1, by omega, by go_num, O1'.out, O2.out, N2.out, W2.out⟩
      case measure => simp [intOf]; omega
    · have hl : ¬ ((k : Int) < n) := by omega
      obtain rfl : n = k := by omega
      obtain ⟨aa, ac, rfl, haH, _⟩ := own_intsN ha (by omega)
      obtain ⟨ba, bc, rfl, hbH, _⟩ := own_intsN hb (by omega)
      have cN := Nv.made (sc := ac) (rc := bc) C.toNt hw haH hbH (by decide) (be h2 h6)
      clear ha hb hne hw HA HBB HNE HB0 haH hbH
      go_wp2_with (go_at_call 5; refine cN.mono ?_; rintro o u1 ⟨b, F, rfl, hN, hN1, hN2⟩; have G0 : Hid (Nv w C.toNt u1 b F (Nn.made n zs rs 100)) := hN; clear hN hN1 hN2)
      clear cN HW
      go_loopw [10] (fun vi wr => ∃ (k : Nat) (F : Nat → Prop) (N : Nn), k + 1 ≤ n ∧ vi = .int .i64 ((k + 1 : Nat) : Int) ∧ St n k late N ∧ Nv w C.toNt wr b F N) (fun vi _ => n - (intOf vi).toNat)
      case atStart => exact ⟨0, F, _, by omega, rfl, first h2 h6, G0.out⟩
      case round =>
        clear G0
        clear F
        obtain ⟨k, F, N, hk1, rfl, hSt, hG⟩ := hrel
        have G : Hid (Nv w C.toNt wr b F N) := hG
        clear hG
        by_cases hlt : k + 1 < n
        · have hl : ((k + 1 : Nat) : Int) < n := by omega
          obtain ⟨N1, N2, N3, N4, N5, q1, q2, q3, q4, q5, hS5⟩ := step hSt hlt h6 l0 l1
          have cD1 : Hid (∀ u F', Nv w C.toNt u b F' N → Calls Try.prog 6 #[.pointer (some ⟨b, 0, none⟩), .agg #[.int .i64 2, .int .i64 0, .int .i64 ((k + 1 : Nat) : Int)]] u fun o w' => ∃ F2, o = .returned .nilIface ∧ Nv w C.toNt w' b F2 N1) := fun u F' g => (g.act (by decide) (by decide) (in64N (by omega)) q1).mono (by
            rintro o w' ⟨F2, rfl, h1, _, _⟩
            exact ⟨F2, by rw [errc_zero], h1⟩)
          have cD2 : Hid (∀ u F', Nv w C.toNt u b F' N1 → Calls Try.prog 6 #[.pointer (some ⟨b, 0, none⟩), .agg #[.int .i64 1, .int .i64 late, .int .i64 0]] u fun o w' => ∃ F2, o = .returned .nilIface ∧ Nv w C.toNt w' b F2 N2) := fun u F' g => (g.act (by decide) (in64N (by omega)) (by decide) q2).mono (by
            rintro o w' ⟨F2, rfl, h1, _, _⟩
            exact ⟨F2, by rw [errc_zero], h1⟩)
          have cD3 : Hid (∀ u F', Nv w C.toNt u b F' N2 → Calls Try.prog 6 #[.pointer (some ⟨b, 0, none⟩), .agg #[.int .i64 3, .int .i64 0, .int .i64 0]] u fun o w' => ∃ F2, o = .returned .nilIface ∧ Nv w C.toNt w' b F2 N3) := fun u F' g => (g.act (by decide) (by decide) (by decide) q3).mono (by
            rintro o w' ⟨F2, rfl, h1, _, _⟩
            exact ⟨F2, by rw [errc_zero], h1⟩)
          have cD4 : Hid (∀ u F', Nv w C.toNt u b F' N3 → Calls Try.prog 6 #[.pointer (some ⟨b, 0, none⟩), .agg #[.int .i64 1, .int .i64 late, .int .i64 0]] u fun o w' => ∃ F2, o = .returned .nilIface ∧ Nv w C.toNt w' b F2 N4) := fun u F' g => (g.act (by decide) (in64N (by omega)) (by decide) q4).mono (by
            rintro o w' ⟨F2, rfl, h1, _, _⟩
            exact ⟨F2, by rw [errc_zero], h1⟩)
          have cD5 : Hid (∀ u F', Nv w C.toNt u b F' N4 → Calls Try.prog 6 #[.pointer (some ⟨b, 0, none⟩), .agg #[.int .i64 3, .int .i64 0, .int .i64 0]] u fun o w' => ∃ F2, o = .returned .nilIface ∧ Nv w C.toNt w' b F2 N5) := fun u F' g => (g.act (by decide) (by decide) (by decide) q5).mono (by
            rintro o w' ⟨F2, rfl, h1, _, _⟩
            exact ⟨F2, by rw [errc_zero], h1⟩)
          have H5 : Hid (St n (k + 1) late N5) := hS5
          have cnt : Mark 0 := .mk _
          clear q1 q2 q3 q4 q5 hS5 hSt
          go_wp2_with (first
            | (go_at_call 6; have cq : Mark 0 := cnt; refine (cD1.out _ _ G.out).mono ?_; clear cq cnt; rintro o y1 ⟨F1, rfl, hg⟩; have G1 : Hid (Nv w C.toNt y1 b F1 N1) := hg; have cnt : Mark 1 := .mk _; clear hg)
            | (go_at_call 6; have cq : Mark 1 := cnt; refine (cD2.out _ _ G1.out).mono ?_; clear cq cnt; rintro o y2 ⟨F2, rfl, hg⟩; have G2 : Hid (Nv w C.toNt y2 b F2 N2) := hg; have cnt : Mark 2 := .mk _; clear hg)
            | (go_at_call 6; have cq : Mark 2 := cnt; refine (cD3.out _ _ G2.out).mono ?_; clear cq cnt; rintro o y3 ⟨F3, rfl, hg⟩; have G3 : Hid (Nv w C.toNt y3 b F3 N3) := hg; have cnt : Mark 3 := .mk _; clear hg)
            | (go_at_call 6; have cq : Mark 3 := cnt; refine (cD4.out _ _ G3.out).mono ?_; clear cq cnt; rintro o y4 ⟨F4, rfl, hg⟩; have G4 : Hid (Nv w C.toNt y4 b F4 N4) := hg; have cnt : Mark 4 := .mk _; clear hg)
            | (go_at_call 6; have cq : Mark 4 := cnt; refine (cD5.out _ _ G4.out).mono ?_; clear cq cnt; rintro o y5 ⟨F5, rfl, hg⟩; have G5 : Hid (Nv w C.toNt y5 b F5 N5) := hg; have cnt : Mark 5 := .mk _; clear hg))
          go_roundw
          case rel => exact ⟨k + 1, F5, N5, by omega, by go_num, H5.out, G5.out⟩
          case measure => simp [intOf]; omega
        · have hl : ¬ (((k + 1 : Nat) : Int) < n) := by omega
          obtain rfl : k = n - 1 := by omega
          have HS : Hid (St n (n - 1) late N) := hSt
          clear hSt
          go_wp2
          go_loopw [11, 12, 13, 14] (fun va _ _ _ wr => ∃ a : Nat, a ≤ n ∧ va = .int .i64 a ∧ Nv w C.toNt wr b F N) (fun va _ _ _ _ => n - (intOf va).toNat)
          case atStart => exact ⟨0, Nat.zero_le _, rfl, G.out⟩
          case round =>
            clear G
            obtain ⟨a, ha, rfl, hG⟩ := hrel
            have G : Hid (Nv w C.toNt wr b F N) := hG
            clear hG
            by_cases han : a < n
            · have hla : (a : Int) < n := by omega
              go_wp2
              go_loopw [12, 13, 14] (fun vb _ _ wr => ∃ c : Nat, c ≤ n ∧ vb = .int .i64 c ∧ Nv w C.toNt wr b F N) (fun vb _ _ _ => n - (intOf vb).toNat)
              case atStart => exact ⟨0, Nat.zero_le _, rfl, G.out⟩
              case round =>
                clear G
                obtain ⟨c, hc, rfl, hG⟩ := hrel
                have G : Hid (Nv w C.toNt wr b F N) := hG
                clear hG
                by_cases hcn : c < n
                · have hlc : (c : Int) < n := by omega
                  obtain ⟨lo, hi, hB, hZ⟩ := all_bet HS.out h2 han hcn
                  have cO := C.off b F N a c lo hi 0 wr G.out.h G.out.t (in64N (by omega)) (in64N (by omega)) hB
                  rw [errc_zero] at cO
                  clear hB
                  by_cases e : a = c
                  · obtain ⟨rfl, rfl⟩ := hZ e
                    subst e
                    clear hZ
                    go_wp2_with (go_at_call 7; refine cO.mono ?_; rintro o y1 ⟨rfl, hb⟩; have GY : Hid (Nv w C.toNt y1 b F N) := G.out.on hb; clear hb)
                    go_roundw
                    case rel => exact ⟨a + 1, by omega, by go_num, GY.out.on (rbel_al (Below.refl _ _))⟩
                    case measure => simp [intOf]; omega
                  · have ne : ((a : Int) == c) = false := by simpa using (fun q => e (by omega))
                    clear hZ
                    go_wp2_with (go_at_call 7; refine cO.mono ?_; rintro o y1 ⟨rfl, hb⟩; have GY : Hid (Nv w C.toNt y1 b F N) := G.out.on hb; clear hb)
                    go_roundw
                    case rel => exact ⟨c + 1, by omega, by go_num, GY.out.on (rbel_al (Below.refl _ _))⟩
                    case measure => simp [intOf]; omega
                · have hlc : ¬ ((c : Int) < n) := by omega
                  go_wp2
                  go_roundw
                  case rel => exact ⟨a + 1, by omega, by go_num, G.out⟩
                  case measure => simp [intOf]; omega
            · have hla : ¬ ((a : Int) < n) := by omega
              obtain ⟨T, hA⟩ := eoN_all HS.out.t
              obtain ⟨p1, p2⟩ := wide HS.out h2 hA
              have cW := C.wide b F N T wr G.out.h G.out.t hA
              clear hA
              generalize wid N.W.n T = wv at *
              go_wp2_with (go_at_call 8; refine cW.mono ?_; rintro o y1 ⟨rfl, hb⟩; have HY : Hid (Below w.heap.size w y1) := rbel_on hb G.out.hw; clear hb)
              go_ret
              exact ⟨by simp [p1], HY.out⟩
theorem all_ways (n late : Int) (w : World) (C : NtW w) :
    Calls Try.prog 3 #[.int .i64 n, .int .i64 late] w fun o w' => o = .returned (.bool true) ∧ Below w.heap.size w w' := by
  by_cases h : n < 2 ∨ 6 < n ∨ late < 0 ∨ 1000 < late
  · exact small n late w h
  · obtain ⟨m, rfl⟩ : ∃ m : Nat, n = m := ⟨n.toNat, by omega⟩
    exact good m late w C (by omega) (by omega) (by omega) (by omega)
end Go.Proofs.Ytnagdjipmpjaaai.netAll
