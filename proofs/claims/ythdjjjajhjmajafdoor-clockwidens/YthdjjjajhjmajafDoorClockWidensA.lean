/- The ways through the law ClockWidens. -/
import Derived.Test.YthdjjjajhjmajafDoorClockDef
import Derived.Test.YthdjjjajhjmajafDoorTold
import Derived.Lib.SmallJoins
import Derived.Deep.CutRange
import Derived.IntWalk
namespace Go.Proofs.YthdjjjajhjmajafDoor.clockWidens
open Go.ChangeShapes Go.WideShapes Go.ChangeAt Go.RowKit Go.Joins Go.Proofs.YthdjjjajhjmajafDoor.told
set_option linter.unusedVariables false
set_option linter.unusedSimpArgs false

set_option maxRecDepth 100000 in
set_option maxHeartbeats 4000000 in
theorem no_ppm (p lo hi : Int) (ga : Option Addr) (k cap : Nat) (w : World) (C : Cp w) (wp : In64 p) (hp : p < 0 ∨ 1000 < p) :
    Calls Tryd.prog 6 #[.int .i64 p, .int .i64 lo, .int .i64 hi, .slice ga k cap] w fun o w' => o = .returned (.bool true) ∧ Below w.heap.size w w' := by
  have cN := C.bad p w (Below.refl _ _) wp hp
  clear wp
  rcases hp with d | d
  · go_enter Tryd.func6, Tryd.ntmps6
    go_wp2_with (go_at_call 19; refine cN.mono ?_; rintro o u0 ⟨v, rfl, hb⟩; have HB : Hid _ := hb; clear hb)
    go_ret
    exact ⟨rfl, HB.out⟩
  · have d1 : ¬ (p < 0) := by omega
    go_enter Tryd.func6, Tryd.ntmps6
    go_wp2_with (go_at_call 19; refine cN.mono ?_; rintro o u0 ⟨v, rfl, hb⟩; have HB : Hid _ := hb; clear hb)
    go_ret
    exact ⟨rfl, HB.out⟩
set_option maxRecDepth 100000 in
set_option maxHeartbeats 4000000 in
theorem no_span (p lo hi : Int) (ga : Option Addr) (k cap : Nat) (w : World) (he : EnvE w) (C : Cp w) (h0 : 0 ≤ p) (h1 : p ≤ 1000) (hs : lo < -1000 ∨ (¬ lo < -1000 ∧ hi < lo) ∨ (¬ lo < -1000 ∧ ¬ hi < lo ∧ 1000 < hi)) :
    Calls Tryd.prog 6 #[.int .i64 p, .int .i64 lo, .int .i64 hi, .slice ga k cap] w fun o w' => o = .returned (.bool true) ∧ Below w.heap.size w w' := by
  have cN := C.new p w (Below.refl _ _) h0 h1
  have cW : Hid (∀ (b : Nat) (u : World), Below w.heap.size w u → w.heap.size ≤ b → C.R u b (Ck.made p) → Calls Tryd.prog 22 #[.pointer (some ⟨b, 0, none⟩)] u fun o w' => o = .returned (.tuple #[.agg #[.int .i64 0, .int .i64 0], .iface 68 (.int .i64 6)]) ∧ Keeps (fun k => k = b) u w') := fun b u hu hb hR => by
    refine (C.now b _ u hu hb hR (Ck.made_i h0 h1)).mono ?_
    rintro o w' ⟨rfl, _, hK⟩
    exact ⟨rfl, hK⟩
  have HE : Hid (EnvE w) := he
  clear he h0 h1
  rcases hs with d1 | ⟨d1, d2⟩ | ⟨d1, d2, d3⟩
  all_goals
    go_enter Tryd.func6, Tryd.ntmps6
    go_wp2_with (first
      | (go_at_call 19; refine cN.mono ?_; rintro o u0 ⟨b, rfl, hl, hR, hb⟩; have HB : Hid (Below w.heap.size w u0) := hb; have HR : Hid (C.R u0 b (Ck.made p)) := hR; have HL : Hid (w.heap.size ≤ b) := hl; clear hb hR hl)
      | (go_at_call 22; refine (cW.out b _ HB.out HL.out HR.out).mono ?_; rintro o u1 ⟨rfl, hK⟩; have HB1 : Hid (Below w.heap.size w u1) := kbel (B := 0) HL.out hK HB.out; clear hK)
      | (go_at_call 9; refine (error_same 6 _ (HE.out.below (rbel_al HB1.out))).mono ?_; rintro o u2 ⟨rfl, hb⟩; have HB2 : Hid _ := hb; clear hb))
    go_ret
    exact ⟨rfl, rbel_on HB2.out (rbel_al HB1.out)⟩
theorem in64_mid {n : Int} (h1 : -4611686018427387904 ≤ n) (h2 : n ≤ 4611686018427387904) : In64 n := by
  show (Lit.int .i64 n).wf = true
  simp [Lit.wf, IntKind.min, IntKind.max, IntKind.signed, IntKind.bits]
  omega
/-- A clock that learned once, and goes on. -/
def cw (p lo hi x : Int) : Ck := ⟨p, x, true, lo, hi, 0, false, 0⟩
section
variable {p lo hi x y : Int}
theorem cw_i (h0 : 0 ≤ p) (h1 : p ≤ 1000) (l0 : -1000 ≤ lo) (l1 : lo ≤ hi) (l2 : hi ≤ 1000) (x0 : 0 ≤ x) (x1 : x ≤ 1000000000000) : (cw p lo hi x).I :=
  ⟨h0, h1, x0, x1, Int.le_refl _, x0, okB_mk (show lo ≤ hi ∧ -1000000000000 ≤ lo ∧ hi ≤ 1000000000000 by omega), by show -1000000000000 ≤ (0 : Int); omega, by show (0 : Int) ≤ 1000000000000; omega⟩
theorem cw_learn (l0 : -1000 ≤ lo) (l1 : lo ≤ hi) (l2 : hi ≤ 1000) : (Ck.made p).learnE lo hi = 0 ∧ (Ck.made p).learnC lo hi = cw p lo hi 0 := by
  have o : okB lo hi = true := okB_mk (by omega)
  have e : (Ck.made p).learnE lo hi = 0 := by unfold Ck.learnE; rw [if_pos o]; rfl
  refine ⟨e, ?_⟩
  unfold Ck.learnC
  rw [if_pos e]
  rfl
def wd (p lo hi x : Int) : Int := hi - lo + 2 * (1 + upM (x * 2 * p))
theorem up_b2 (h0 : 0 ≤ p) (h1 : p ≤ 1000) (x0 : 0 ≤ x) (x1 : x ≤ 30000000) : 0 ≤ upM (x * 2 * p) ∧ upM (x * 2 * p) ≤ 60000 := by
  have m1 : 0 ≤ x * 2 * p := Int.mul_nonneg (by omega) h0
  have m2 : x * 2 * p ≤ 60000000 * 1000 := Int.mul_le_mul (by omega) h1 h0 (by omega)
  unfold upM
  omega
theorem cw_now (h0 : 0 ≤ p) (h1 : p ≤ 1000) (l0 : -1000 ≤ lo) (l1 : lo ≤ hi) (l2 : hi ≤ 1000) (x0 : 0 ≤ x) (x1 : x ≤ 30000000) : (cw p lo hi x).nowE = 0 ∧ (cw p lo hi x).nowHi - (cw p lo hi x).nowLo = wd p lo hi x ∧ -1000000000 ≤ (cw p lo hi x).nowLo ∧ (cw p lo hi x).nowHi ≤ 1000000000 ∧ (cw p lo hi x).nowLo ≤ (cw p lo hi x).nowHi := by
  have b := up_b2 h0 h1 x0 x1
  have en : (cw p lo hi x).n = 1 + upM (x * 2 * p) := by unfold Ck.n cw; simp
  have o : okB (lo - (cw p lo hi x).n + x) (hi + (cw p lo hi x).n + x) = true := okB_mk (by omega)
  have e : (cw p lo hi x).nowE = 0 := by
    unfold Ck.nowE
    rw [if_pos (show (cw p lo hi x).k = true from rfl)]
    exact if_pos o
  refine ⟨e, ?_⟩
  unfold Ck.nowLo Ck.nowHi wd
  rw [if_pos e, if_pos e]
  show hi + (cw p lo hi x).n + x - (lo - (cw p lo hi x).n + x) = _ ∧ -1000000000 ≤ lo - (cw p lo hi x).n + x ∧ hi + (cw p lo hi x).n + x ≤ 1000000000 ∧ lo - (cw p lo hi x).n + x ≤ hi + (cw p lo hi x).n + x
  omega
theorem cw_step (x0 : 0 ≤ x) (y0 : x ≤ y) (y1 : y ≤ 1000000000000) : (cw p lo hi x).stepE y = 0 ∧ (cw p lo hi x).stepC y = cw p lo hi y := by
  have e : (cw p lo hi x).stepE y = 0 := by
    unfold Ck.stepE
    rw [if_neg (by omega), if_neg (show ¬ y < (cw p lo hi x).h by show ¬ y < x; omega)]
  refine ⟨e, ?_⟩
  unfold Ck.stepC
  rw [if_pos e]
  rfl
theorem wd_more (h0 : 0 ≤ p) (y0 : x ≤ y) : wd p lo hi x ≤ wd p lo hi y := by
  have m : x * 2 * p ≤ y * 2 * p := Int.mul_le_mul_of_nonneg_right (by omega) h0
  unfold wd upM
  omega
end
set_option maxRecDepth 100000 in
set_option maxHeartbeats 8000000 in
theorem good (p lo hi : Int) (ga : Option Addr) (k cap : Nat) (z : Nat → Int) (w : World) (C : Cp w) (h0 : 0 ≤ p) (h1 : p ≤ 1000) (l0 : -1000 ≤ lo) (l1 : lo ≤ hi) (l2 : hi ≤ 1000) (hG : NHanded w ga k z) (wl : In64 lo) (wh : In64 hi) :
    Calls Tryd.prog 6 #[.int .i64 p, .int .i64 lo, .int .i64 hi, .slice ga k cap] w fun o w' => o = .returned (.bool true) ∧ Below w.heap.size w w' := by
  have cN := C.new p w (Below.refl _ _) h0 h1
  have cL : Hid (∀ (b : Nat) (u : World), Below w.heap.size w u → w.heap.size ≤ b → C.R u b (Ck.made p) → Calls Tryd.prog 21 #[.pointer (some ⟨b, 0, none⟩), .agg #[.int .i64 lo, .int .i64 hi]] u fun o w' => o = .returned .nilIface ∧ C.R w' b (cw p lo hi 0) ∧ Keeps (fun k => k = b) u w') := fun b u hu hb hR => by
    have := C.learn b _ lo hi u hu hb hR (Ck.made_i h0 h1) wl wh
    rwa [(cw_learn l0 l1 l2).1, (cw_learn l0 l1 l2).2, errc_zero] at this
  have cW : Hid (∀ (x : Int) (b : Nat) (u : World), 0 ≤ x → x ≤ 30000000 → Below w.heap.size w u → w.heap.size ≤ b → C.R u b (cw p lo hi x) → Calls Tryd.prog 22 #[.pointer (some ⟨b, 0, none⟩)] u fun o w' => ∃ X Y, o = .returned (.tuple #[.agg #[.int .i64 X, .int .i64 Y], .nilIface]) ∧ Y - X = wd p lo hi x ∧ -1000000000 ≤ X ∧ Y ≤ 1000000000 ∧ X ≤ Y ∧ C.R w' b (cw p lo hi x) ∧ Keeps (fun k => k = b) u w') := fun x b u x0 x1 hu hb hR => by
    obtain ⟨e1, e2, e3, e4, e5⟩ := cw_now h0 h1 l0 l1 l2 x0 x1
    have := C.now b _ u hu hb hR (cw_i h0 h1 l0 l1 l2 x0 (by omega))
    rw [e1, errc_zero] at this
    refine this.mono ?_
    rintro o w' ⟨rfl, hR', hK⟩
    exact ⟨_, _, rfl, e2, e3, e4, e5, hR', hK⟩
  have cS : Hid (∀ (x y : Int) (b : Nat) (u : World), 0 ≤ x → x ≤ y → y ≤ 30000000 → Below w.heap.size w u → w.heap.size ≤ b → C.R u b (cw p lo hi x) → Calls Tryd.prog 20 #[.pointer (some ⟨b, 0, none⟩), .int .i64 y] u fun o w' => o = .returned .nilIface ∧ C.R w' b (cw p lo hi y) ∧ Keeps (fun k => k = b) u w') := fun x y b u x0 y0 y1 hu hb hR => by
    obtain ⟨e1, e2⟩ := cw_step (p := p) (lo := lo) (hi := hi) x0 y0 (show y ≤ 1000000000000 by omega)
    have := C.step b _ y u hu hb hR (cw_i h0 h1 l0 l1 l2 x0 (by omega)) (in64_mid (by omega) (by omega))
    rwa [e1, e2, errc_zero] at this
  have HM : Hid (∀ x y, x ≤ y → wd p lo hi x ≤ wd p lo hi y) := fun x y h => wd_more h0 h
  have HG : Hid (NHanded w ga k z) := hG
  have g1 := hG.1
  have wd0 : Hid (0 ≤ wd p lo hi 0 ∧ hi - lo ≤ wd p lo hi 0) := by
    have := up_b2 h0 h1 (x := 0) (by decide) (by decide)
    show 0 ≤ wd p lo hi 0 ∧ hi - lo ≤ wd p lo hi 0
    unfold wd; omega
  have d1 : ¬ (lo < -1000) := by omega
  have d2 : ¬ (hi < lo) := by omega
  have d3 : ¬ (1000 < hi) := by omega
  clear hG wl wh h0 h1 l0 l1 l2
  go_enter Tryd.func6, Tryd.ntmps6
  go_wp2_with (first
    | (go_at_call 19; refine cN.mono ?_; rintro o u0 ⟨b, rfl, hl, hR, hb⟩; have HB : Hid (Below w.heap.size w u0) := hb; have HR : Hid (C.R u0 b (Ck.made p)) := hR; have HL : Hid (w.heap.size ≤ b) := hl; clear hb hR hl)
    | (go_at_call 21; refine (cL.out b _ HB.out HL.out HR.out).mono ?_; rintro o u1 ⟨rfl, hR, hK⟩; have HB1 : Hid (Below w.heap.size w u1) := kbel (B := 0) HL.out hK HB.out; have HR1 : Hid (C.R u1 b (cw p lo hi 0)) := hR; clear hK hR)
    | (go_at_call 22; refine (cW.out 0 b _ (by decide) (by decide) HB1.out HL.out HR1.out).mono ?_; rintro o u2 ⟨X, Y, rfl, eX, x0, x1, x2, hR, hK⟩; have HB2 : Hid (Below w.heap.size w u2) := kbel (B := 0) HL.out hK HB1.out; have HR2 : Hid (C.R u2 b (cw p lo hi 0)) := hR; have EX : Hid _ := eX; clear hK hR eX))
  have zl : Hid (u2.heap.size ≠ b) := fun h => by have := C.lt HR2.out; omega
  have zw : Hid (w.heap.size ≤ u2.heap.size) := HB2.out.size
  go_loopw [15, 16, 17] (fun vw va vi wr => ∃ (i : Nat) (x : Int) (X Y : Int), i ≤ k ∧ i ≤ 30 ∧ 0 ≤ x ∧ x ≤ 1000000 * i ∧ vw = .int .i64 (wd p lo hi x) ∧ va = .int .i64 x ∧ vi = .int .i64 i ∧ 0 ≤ wd p lo hi x ∧ wd p lo hi x ≤ 2000000000 ∧ wd p lo hi 0 ≤ wd p lo hi x ∧ C.R wr b (cw p lo hi x) ∧ Row wr u2.heap.size [.int .i64 X, .int .i64 Y] ∧ Below w.heap.size w wr) (fun _ _ vi _ => 30 - (intOf vi).toNat)
  case atStart =>
    have e := EX.out
    exact ⟨0, 0, X, Y, Nat.zero_le _, by omega, by omega, by omega, by rw [e], rfl, rfl, wd0.out.1, by omega, Int.le_refl _, C.al HR2.out, Row.made rfl, rbel_al HB2.out⟩
  case round =>
    clear HB HR HB1 HR1 HB2 HR2 EX x0 x1 x2 cN
    obtain ⟨i, x, X1, Y1, hik, hi30, x0, x1, rfl, rfl, rfl, w0, w1, w2, hR, hS, hw⟩ := hrel
    have HR : Hid (C.R wr b (cw p lo hi x)) := hR
    have HS : Hid (Row wr u2.heap.size [.int .i64 X1, .int .i64 Y1]) := hS
    have HW : Hid (Below w.heap.size w wr) := hw
    obtain ⟨W, eW⟩ : ∃ W, W = wd p lo hi x := ⟨_, rfl⟩
    have EW : Hid (W = wd p lo hi x) := eW
    rw [← eW] at w0 w1 ⊢
    by_cases hlt : i < k
    · have hl3 : (i : Int) < k := by omega
      by_cases hl30 : i < 30
      · have hl4 : (i : Int) < 30 := by omega
        obtain ⟨gb, go, rfl, hN⟩ : ∃ gb go : Nat, ga = some ⟨gb, go, none⟩ ∧ Nrd w gb go k z := by
          rcases HG.out.2 with e | h
          · omega
          · exact h
        have y0 := (hN.on hw) i hlt
        have W2 : Hid (wd p lo hi 0 ≤ W) := by show _ ≤ _; rw [eW]; exact w2
        clear hN hR hS hw w2 eW
        generalize z i = g at *
        by_cases gd : 0 ≤ g ∧ g ≤ 1000000
        · obtain ⟨g0, g1⟩ := gd
          have n1 : ¬ (g < 0) := by omega
          have n2 : ¬ (1000000 < g) := by omega
          have cS1 := fun u => cS.out x (x + g) b u x0 (by omega) (by omega)
          have cW1 := fun u => cW.out (x + g) b u (by omega) (by omega)
          have wx : IntKind.i64.wrap (x + g) = x + g := IntWalk.i64_in _ (by omega)
          obtain ⟨V, eV⟩ : ∃ V, V = wd p lo hi (x + g) := ⟨_, rfl⟩
          have EV : Hid (V = wd p lo hi (x + g)) := eV
          have vw : ¬ (V < W) := by have := HM.out x (x + g) (by omega); have := EW.out; omega
          rw [← eV] at cW1
          clear eV
          go_wp2_with (first
            | (go_at_call 20; refine (cS1 _ HW.out HL.out HR.out).mono ?_; rintro o u3 ⟨rfl, hR, hK⟩; have HB3 : Hid (Below w.heap.size w u3) := kbel (B := 0) HL.out hK HW.out; have HR3 : Hid (C.R u3 b (cw p lo hi (x + g))) := hR; have HS3 : Hid (Row u3 u2.heap.size [.int .i64 X1, .int .i64 Y1]) := hK.row (fun h => zl.out h) HS.out; clear hK hR)
            | (go_at_call 22; refine (cW1 _ HB3.out HL.out HR3.out).mono ?_; rintro o u4 ⟨X', Y', rfl, eX, x3, x4, x5, hR, hK⟩; have HB4 : Hid (Below w.heap.size w u4) := kbel (B := 0) HL.out hK HB3.out; have HR4 : Hid (C.R u4 b (cw p lo hi (x + g))) := hR; have s4 := hK.row (fun h => zl.out h) HS3.out; have s0 := s4.c 0 _ rfl; have s1 := s4.c 1 _ rfl; have f0 := s4.f 0 _ rfl; have f1 := s4.f 1 _ rfl; have HS4 : Hid (Row u4 u2.heap.size [.int .i64 X1, .int .i64 Y1]) := s4; have wX : IntKind.i64.wrap (Y' - X') = V := (by rw [IntWalk.i64_in _ (by omega)]; exact eX); clear hK hR s4))
          go_roundw
          case rel => exact ⟨i + 1, x + g, X', Y', by omega, by omega, by omega, by omega, by rw [← EV.out], rfl, by go_num, by rw [← EV.out]; omega, by rw [← EV.out]; omega, by rw [← EV.out]; have := W2.out; omega, C.put (C.put HR4.out (fun h => zl.out h.symm)) (fun h => zl.out h.symm), Row.put 1 (Row.put 0 HS4.out), rbel_put zw.out (rbel_put zw.out HB4.out)⟩
          case measure => simp [intOf]; omega
        · have gd2 : g < 0 ∨ (¬ g < 0 ∧ 1000000 < g) := by omega
          clear gd
          rcases gd2 with n1 | ⟨n1, n2⟩
          all_goals
            go_wp2
            go_roundw
            case rel => exact ⟨i + 1, x, X1, Y1, by omega, by omega, x0, by omega, by rw [← EW.out], rfl, by go_num, by rw [← EW.out]; exact w0, by rw [← EW.out]; exact w1, by rw [← EW.out]; exact W2.out, HR.out, HS.out, HW.out⟩
            case measure => simp [intOf]; omega
      · have hl4 : ¬ ((i : Int) < 30) := by omega
        have ge : hi - lo ≤ W := by have := wd0.out.2; omega
        have wz : IntKind.i64.wrap (hi - lo) = hi - lo := IntWalk.i64_in _ (by omega)
        clear hR hS hw w2 eW
        go_wp2
        go_ret
        exact ⟨by simp [*], HW.out⟩
    · have hl3 : ¬ ((i : Int) < k) := by omega
      have ge : hi - lo ≤ W := by have := wd0.out.2; omega
      have wz : IntKind.i64.wrap (hi - lo) = hi - lo := IntWalk.i64_in _ (by omega)
      clear hR hS hw w2 eW
      go_wp2
      go_ret
      exact ⟨by simp [*], HW.out⟩
theorem all_ways (p lo hi : Int) (ga : Option Addr) (k cap : Nat) (z : Nat → Int) (w : World) (he : EnvE w) (C : Cp w) (wp : In64 p) (wl : In64 lo) (wh : In64 hi) (hG : NHanded w ga k z) :
    Calls Tryd.prog 6 #[.int .i64 p, .int .i64 lo, .int .i64 hi, .slice ga k cap] w fun o w' => o = .returned (.bool true) ∧ Below w.heap.size w w' := by
  by_cases hp : 0 ≤ p ∧ p ≤ 1000
  · obtain ⟨h0, h1⟩ := hp
    by_cases hs : -1000 ≤ lo ∧ lo ≤ hi ∧ hi ≤ 1000
    · obtain ⟨l0, l1, l2⟩ := hs
      exact good p lo hi ga k cap z w C h0 h1 l0 l1 l2 hG wl wh
    · exact no_span p lo hi ga k cap w he C h0 h1 (by omega)
  · exact no_ppm p lo hi ga k cap w C wp (by omega)
end Go.Proofs.YthdjjjajhjmajafDoor.clockWidens
