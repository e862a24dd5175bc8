/- The ways through the law LoopsTell. -/
import Derived.Test.YtiebojccnaelbaeDoorLoopsRoom
import Derived.Test.YtiebojccnaelbaeDoorBoundsTight
import Derived.Test.YtiebojccnaelbaeDoorTold
import Derived.Deep.CutRange
import Derived.BigRegion
import Derived.IntWalk
import Derived.Deep.QuietTactic
import Derived.BigQuiet
import Derived.Lib.SmallJoins
namespace Go.Proofs.YtiebojccnaelbaeDoor.loopsTell
open Go.ChangeShapes Go.WideShapes Go.ChangeAt Go.RowKit Go.Joins Go.Proofs.YtiebojccnaelbaeDoor.told
set_option linter.unusedVariables false
set_option linter.unusedSimpArgs false

theorem error_c (f : Int) (w : World) (he : EnvE w) : Calls Tryd.prog 9 #[errc f, .int .i64 f] w fun e w' => e = .returned (.bool true) ∧ Below w.heap.size w w' := error_same f w he
theorem eE_five (z : Int) (q : Nat → Eg) (m : Nat) : eE z q m ≠ 5 := by
  have h1 : ∀ i, eEr z q i ≠ 5 := fun i => by
    unfold eEr
    split
    · decide
    · split
      · decide
      · split <;> decide
  have h2 : ∀ m, eFr z q m ≠ 5 := fun m => by
    induction m with
    | zero => simp [eFr]
    | succ m ih =>
      simp only [eFr]
      split
      · exact h1 m
      · exact ih
  unfold eE
  split
  · decide
  · split
    · decide
    · exact h2 m
set_option maxRecDepth 100000 in
set_option maxHeartbeats 4000000 in
theorem wrong (z : Int) (a : Option Addr) (m cap : Nat) (la : Option Addr) (k lc : Nat) (e0 : Int) (w : World) (he : EnvE w) (h0 : e0 ≠ 0) (h5 : e0 ≠ 5) (hm : m ≤ 9223372036854775807)
    (cE : ∀ u, Below w.heap.size w u → Calls Tryd.prog 6 #[.int .i64 z, .slice a m cap] u fun e w' => e = .returned (.int .i64 e0) ∧ Below u.heap.size u w')
    (cR : ∀ u, Below w.heap.size w u → Calls Tryd.prog 8 #[.int .i64 z, .slice a m cap, .slice la k lc] u fun e w' => e = .returned (.tuple #[.int .i64 0, errc e0]) ∧ Below u.heap.size u w')
    (cF : ∀ u, Below w.heap.size w u → Calls Tryd.prog 11 #[.int .i64 z, .slice a m cap] u fun e w' => e = .returned (.tuple #[.int .i64 0, errc e0]) ∧ Below u.heap.size u w')
    (cX : ∀ u, Below w.heap.size w u → Calls Tryd.prog 12 #[.int .i64 z, .slice a m cap] u fun e w' => ∃ v, e = .returned (.tuple #[v, errc e0]) ∧ Below u.heap.size u w') :
    Calls Tryd.prog 3 #[.int .i64 z, .slice a m cap, .slice la k lc] w fun e w' => e = .returned (.bool true) ∧ Below w.heap.size w w' := by
  have HE : Hid (EnvE w) := he
  have cS := fun u (h : EnvE u) => error_c e0 u h
  have d0 : (e0 == 0) = false := by simpa using h0
  have d5 : (e0 == 5) = false := by simpa using h5
  clear he h5
  generalize errc e0 = er at *
  have cnt : Mark 0 := .mk _
  by_cases hm0 : (0 : Int) < m
  all_goals
    go_enter Tryd.func3, Tryd.ntmps3
    go_wp2_with (first
      | (go_at_call 6; refine (cE _ (Below.refl _ _)).mono ?_; rintro e' u0 ⟨rfl, hb⟩; have HW0 : Hid (Below w.heap.size w u0) := hb; clear hb)
      | (go_at_call 8; refine (cR _ HW0.out).mono ?_; rintro e' u1 ⟨rfl, hb⟩; have HW1 : Hid (Below w.heap.size w u1) := rbel_on hb HW0.out; clear hb)
      | (go_at_call 9; have cq : Mark 0 := cnt; refine (cS _ (HE.out.below HW1.out)).mono ?_; clear cq cnt; have cnt : Mark 1 := .mk _; rintro e' u2 ⟨rfl, hb⟩; have HW2 : Hid (Below w.heap.size w u2) := rbel_on hb HW1.out; clear hb))
    refine wp_loop_rounds 1 ?_
    rw [rounds_succ]
    go_wp2_with (first
      | (go_at_call 11; refine (cF _ HW2.out).mono ?_; rintro e' u3 ⟨rfl, hb⟩; have HW3 : Hid (Below w.heap.size w u3) := rbel_on hb HW2.out; clear hb)
      | (go_at_call 9; have cq : Mark 1 := cnt; refine (cS _ (HE.out.below HW3.out)).mono ?_; clear cq cnt; have cnt : Mark 2 := .mk _; rintro e' u4 ⟨rfl, hb⟩; have HW4 : Hid (Below w.heap.size w u4) := rbel_on hb HW3.out; clear hb)
      | (go_at_call 12; refine (cX _ HW4.out).mono ?_; rintro e' u5 ⟨vx, rfl, hb⟩; have HW5 : Hid (Below w.heap.size w u5) := rbel_on hb HW4.out; clear hb)
      | (go_at_call 9; have cq : Mark 2 := cnt; refine (cS _ (HE.out.below HW5.out)).mono ?_; clear cq cnt; have cnt : Mark 3 := .mk _; rintro e' u6 ⟨rfl, hb⟩; have HW6 : Hid (Below w.heap.size w u6) := rbel_on hb HW5.out; clear hb))
    go_ret
    exact ⟨rfl, HW6.out⟩
set_option maxRecDepth 100000 in
set_option maxHeartbeats 8000000 in
theorem good (n : Nat) (a : Option Addr) (m cap : Nat) (q : Nat → Eg) (la : Option Addr) (k lc : Nat) (s : Nat → Int) (r fe : Int) (w : World) (he : EnvE w) (B : Ls w) (h0 : eE n q m = 0) (hH : EHanded w a m q) (hc : m ≤ cap) (hcm : cap ≤ 9223372036854775807) (hL : NHanded w la k s) (hR : RmR q m k s r fe) (wz : In64 n) :
    Calls Tryd.prog 3 #[.int .i64 n, .slice a m cap, .slice la k lc] w fun e w' => e = .returned (.bool true) ∧ Below w.heap.size w w' := by
  have hE := eE_zero h0
  have h40 := hE.m40
  have h6 : n ≤ 6 := by have := hE.n6; omega
  have HE : Hid (EnvE w) := he
  have cE := redges_any n a m cap q w hH
  rw [h0] at cE
  have cQ := fun u (hu : Below w.heap.size w u) => rroom_any n a m cap q la k lc s r fe u hE (hH.on hu) (hL.on hu) hR
  have cR := fun u (hu : Below w.heap.size w u) => B.room n a m cap q la k lc s r fe u hu (hH.on hu) (hL.on hu) wz (Or.inr ⟨h0, hR⟩)
  have cT : Hid (∀ (i : Nat) u, i < m → Below w.heap.size w u → Calls Tryd.prog 10 #[.int .i64 n, .slice a (i + 1) cap] u fun e w' => TightR q n (i + 1) e w' ∧ Below u.heap.size u w') := fun i u hi hu => rtight_any n a (i + 1) cap q u ⟨hE.n1, hE.n6, by omega, fun j hj => hE.each j (by omega)⟩ ⟨by omega, by
    rcases hH.2 with e | ⟨b, off, e, hs⟩
    · omega
    · exact Or.inr ⟨b, off, e, fun j hj => (hs.on hu) j (by omega)⟩⟩
  have cF : Hid (∀ f e u, Below w.heap.size w u → FaultA n q m f e → Calls Tryd.prog 11 #[.int .i64 n, .slice a m cap] u fun o w' => o = .returned (.tuple #[.int .i64 f, errc e]) ∧ Below u.heap.size u w') := fun f e u hu h => B.fault n a m cap q f e u hu (hH.on hu) hc hcm wz h
  have cX : Hid (∀ e u, Below w.heap.size w u → FindE n q m e → Calls Tryd.prog 12 #[.int .i64 n, .slice a m cap] u fun o w' => ∃ (la : Option Addr) (k lc : Nat), o = .returned (.tuple #[.slice la k lc, errc e]) ∧ (e = 0 → 0 < k) ∧ Below u.heap.size u w') := fun e u hu h => (B.find n a m cap q e u hu (hH.on hu) wz h).mono (by
    rintro o w' ⟨la, k, lc, s, h1, h2, h3, h4⟩
    refine ⟨la, k, lc, h1, fun e0 => ?_, h4⟩
    obtain ⟨_, r, hr, lt⟩ := h3 e0
    rcases hr with ⟨g, _⟩ | ⟨_, ⟨_, _, g⟩ | ⟨_, _, g⟩ | ⟨g, _⟩ | ⟨g, _⟩ | ⟨g, _⟩⟩
    · exact absurd h0 g
    · cases g
    · cases g
    all_goals exact g.1)
  have H0 : Hid (eE n q m = 0) := h0
  have cS := fun f u (h : EnvE u) => error_c f u h
  clear he h0 hH hL hR B hE
  have cnt : Mark 0 := .mk _
  go_enter Tryd.func3, Tryd.ntmps3
  go_wp2_with (first
    | (go_at_call 6; refine cE.mono ?_; rintro e' u0 ⟨rfl, hb⟩; have HW0 : Hid (Below w.heap.size w u0) := hb; clear hb)
    | (go_at_call 7; refine (cQ _ HW0.out).mono ?_; rintro e' v1 ⟨rfl, hb⟩; have HV1 : Hid (Below w.heap.size w v1) := rbel_on hb HW0.out; clear hb)
    | (go_at_call 8; refine (cR _ HV1.out).mono ?_; rintro e' u1 ⟨rfl, hb⟩; have HW1 : Hid (Below w.heap.size w u1) := rbel_on hb HV1.out; clear hb)
    | (go_at_call 9; refine (cS fe _ (HE.out.below HW1.out)).mono ?_; rintro e' u2 ⟨rfl, hb⟩; have HW2 : Hid (Below w.heap.size w u2) := rbel_on hb HW1.out; clear hb))
  clear cE cQ cR HW0 HV1 HW1
  go_loopw [7, 13, 14] (fun ve vf vi wr => ∃ i : Nat, i ≤ m ∧ vi = .int .i64 i ∧ Below w.heap.size w wr ∧ ((ve = .int .i64 5 ∧ vf = .int .i64 0 ∧ ¬ Neg (Arc q i) n) ∨ ∃ j : Nat, i = j + 1 ∧ ve = .int .i64 0 ∧ vf = .int .i64 j ∧ Neg (Arc q (j + 1)) n ∧ ¬ Neg (Arc q j) n)) (fun _ _ i _ => m - (intOf i).toNat)
  case atStart => exact ⟨0, Nat.zero_le _, rfl, HW2.out, Or.inl ⟨rfl, rfl, arc_none⟩⟩
  case round =>
    clear HW2
    obtain ⟨i, hi, rfl, hw, hd⟩ := hrel
    have HW : Hid (Below w.heap.size w wr) := hw
    have cnt : Mark 0 := .mk _
    clear hw
    rcases hd with ⟨rfl, rfl, hN⟩ | ⟨j, rfl, rfl, rfl, hN1, hN2⟩
    · by_cases hlt : i < m
      · have hl3 : (i : Int) < m := by omega
        have wi : IntKind.i64.wrap ((i : Int) + 1) = ((i + 1 : Nat) : Int) := by rw [show (i : Int) + 1 = ((i + 1 : Nat) : Int) by omega]; exact IntWalk.i64_in _ (by omega)
        have cTi := cT.out i wr hlt HW.out
        have HN : Hid (¬ Neg (Arc q i) n) := hN
        have ic : ((i : Int) + 1) ≤ cap := by omega
        clear hN cF cX cS
        go_wp2_with (fail)
        refine cTi.mono ?_
        rintro e' u3 ⟨hT, hb⟩
        have HW3 : Hid (Below w.heap.size w u3) := rbel_on hb HW.out
        clear hb cTi cT
        rcases hT with ⟨hN1, rfl⟩ | ⟨hN1, gd, cd, gh, ch, Db, Hb, S, rfl, _, _⟩
        · have HN1 : Hid (Neg (Arc q (i + 1)) n) := hN1
          clear hN1
          as_aux_lemma =>
            go_wp2
            go_roundw
            case rel => exact ⟨i + 1, by omega, by go_num, HW3.out, Or.inr ⟨i, rfl, rfl, rfl, HN1.out, HN.out⟩⟩
            case measure => simp [intOf]; omega
        · have HN1 : Hid (¬ Neg (Arc q (i + 1)) n) := hN1
          clear hN1
          as_aux_lemma =>
            go_wp2
            go_roundw
            case rel => exact ⟨i + 1, by omega, by go_num, HW3.out, Or.inl ⟨rfl, rfl, HN1.out⟩⟩
            case measure => simp [intOf]; omega
      · have hl3 : ¬ ((i : Int) < m) := by omega
        have im : i = m := by omega
        rw [im] at hN
        have cFa := fun u hu => cF.out 0 5 u hu (Or.inr (Or.inl ⟨H0.out, by rw [Int.toNat_natCast]; exact hN, rfl, rfl⟩))
        have cXa := fun u hu => cX.out 5 u hu (Or.inr (Or.inl ⟨H0.out, by rw [Int.toNat_natCast]; exact hN, rfl⟩))
        have cSe := fun u h => cS 5 u h
        clear hN im cF cX cS cT
        generalize errc 5 = E5 at *
        as_aux_lemma =>
          go_wp2_with (first
            | (go_at_call 11; refine (cFa _ HW.out).mono ?_; rintro e' u3 ⟨rfl, hb⟩; have HW3 : Hid (Below w.heap.size w u3) := rbel_on hb HW.out; clear hb)
            | (go_at_call 9; have cq : Mark 0 := cnt; refine (cSe _ (HE.out.below HW3.out)).mono ?_; clear cq cnt; have cnt : Mark 1 := .mk _; rintro e' u4 ⟨rfl, hb⟩; have HW4 : Hid (Below w.heap.size w u4) := rbel_on hb HW3.out; clear hb)
            | (go_at_call 12; refine (cXa _ HW4.out).mono ?_; rintro e' u5 ⟨lx, kx, cx, rfl, hk0, hb⟩; clear hk0; have HW5 : Hid (Below w.heap.size w u5) := rbel_on hb HW4.out; clear hb)
            | (go_at_call 9; have cq : Mark 1 := cnt; refine (cSe _ (HE.out.below HW5.out)).mono ?_; clear cq cnt; have cnt : Mark 2 := .mk _; rintro e' u6 ⟨rfl, hb⟩; have HW6 : Hid (Below w.heap.size w u6) := rbel_on hb HW5.out; clear hb))
          go_ret
          exact ⟨rfl, HW6.out⟩
    · have cFa := fun u hu => cF.out j 0 u hu (Or.inr (Or.inr ⟨H0.out, rfl, j, by omega, rfl, by rw [Int.toNat_natCast]; exact hN1, by rw [Int.toNat_natCast]; exact hN2⟩))
      have cXa := fun u hu => cX.out 0 u hu (Or.inr (Or.inr ⟨H0.out, by rw [Int.toNat_natCast]; exact neg_less (by omega) hN1, rfl⟩))
      have cSe := fun u h => cS 0 u h
      clear hN1 hN2 cF cX cS cT
      generalize errc 0 = E0 at *
      by_cases hlt : ((j + 1 : Nat) : Int) < m
      · as_aux_lemma =>
          go_wp2_with (first
            | (go_at_call 11; refine (cFa _ HW.out).mono ?_; rintro e' u3 ⟨rfl, hb⟩; have HW3 : Hid (Below w.heap.size w u3) := rbel_on hb HW.out; clear hb)
            | (go_at_call 9; have cq : Mark 0 := cnt; refine (cSe _ (HE.out.below HW3.out)).mono ?_; clear cq cnt; have cnt : Mark 1 := .mk _; rintro e' u4 ⟨rfl, hb⟩; have HW4 : Hid (Below w.heap.size w u4) := rbel_on hb HW3.out; clear hb)
            | (go_at_call 12; refine (cXa _ HW4.out).mono ?_; rintro e' u5 ⟨lx, kx, cx, rfl, hk0, hb⟩; have kx0 : decide (0 < kx) = true := decide_eq_true (hk0 (by trivial)); clear hk0; have HW5 : Hid (Below w.heap.size w u5) := rbel_on hb HW4.out; clear hb)
            | (go_at_call 9; have cq : Mark 1 := cnt; refine (cSe _ (HE.out.below HW5.out)).mono ?_; clear cq cnt; have cnt : Mark 2 := .mk _; rintro e' u6 ⟨rfl, hb⟩; have HW6 : Hid (Below w.heap.size w u6) := rbel_on hb HW5.out; clear hb))
          go_ret
          exact ⟨rfl, HW6.out⟩
      · as_aux_lemma =>
          go_wp2_with (first
            | (go_at_call 11; refine (cFa _ HW.out).mono ?_; rintro e' u3 ⟨rfl, hb⟩; have HW3 : Hid (Below w.heap.size w u3) := rbel_on hb HW.out; clear hb)
            | (go_at_call 9; have cq : Mark 0 := cnt; refine (cSe _ (HE.out.below HW3.out)).mono ?_; clear cq cnt; have cnt : Mark 1 := .mk _; rintro e' u4 ⟨rfl, hb⟩; have HW4 : Hid (Below w.heap.size w u4) := rbel_on hb HW3.out; clear hb)
            | (go_at_call 12; refine (cXa _ HW4.out).mono ?_; rintro e' u5 ⟨lx, kx, cx, rfl, hk0, hb⟩; have kx0 : decide (0 < kx) = true := decide_eq_true (hk0 (by trivial)); clear hk0; have HW5 : Hid (Below w.heap.size w u5) := rbel_on hb HW4.out; clear hb)
            | (go_at_call 9; have cq : Mark 1 := cnt; refine (cSe _ (HE.out.below HW5.out)).mono ?_; clear cq cnt; have cnt : Mark 2 := .mk _; rintro e' u6 ⟨rfl, hb⟩; have HW6 : Hid (Below w.heap.size w u6) := rbel_on hb HW5.out; clear hb))
          go_ret
          exact ⟨rfl, HW6.out⟩
theorem all_ways (z : Int) (a : Option Addr) (m cap : Nat) (q : Nat → Eg) (la : Option Addr) (k lc : Nat) (s : Nat → Int) (w : World) (he : EnvE w) (B : Ls w) (hH : EHanded w a m q) (hc : m ≤ cap) (hcm : cap ≤ 9223372036854775807) (hL : NHanded w la k s) (wz : In64 z) :
    Calls Tryd.prog 3 #[.int .i64 z, .slice a m cap, .slice la k lc] w fun e w' => e = .returned (.bool true) ∧ Below w.heap.size w w' := by
  by_cases h : eE z q m = 0
  · obtain ⟨n, rfl⟩ : ∃ n : Nat, z = n := ⟨z.toNat, by have := (eE_zero h).n1; omega⟩
    obtain ⟨r, fe, hR⟩ := rmR_some q m k s
    exact good n a m cap q la k lc s r fe w he B h hH hc hcm hL hR wz
  · exact wrong z a m cap la k lc (eE z q m) w he h (eE_five z q m) hH.1 (fun u hu => redges_any z a m cap q u (hH.on hu))
      (fun u hu => B.room z a m cap q la k lc s 0 _ u hu (hH.on hu) (hL.on hu) wz (Or.inl ⟨h, rfl, rfl⟩)) (fun u hu => B.fault z a m cap q 0 _ u hu (hH.on hu) hc hcm wz (Or.inl ⟨h, rfl, rfl⟩))
      (fun u hu => (B.find z a m cap q _ u hu (hH.on hu) wz (Or.inl ⟨h, rfl⟩)).mono (by rintro o w' ⟨la, k, lc, s, h1, _, _, h2⟩; exact ⟨_, h1, h2⟩))
end Go.Proofs.YtiebojccnaelbaeDoor.loopsTell
