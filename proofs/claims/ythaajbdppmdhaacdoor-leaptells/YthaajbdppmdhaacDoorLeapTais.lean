/- What leap.Tai answers. What leap.Tai answers. What leap.Tai answers. What leap.Tai answers. What leap.Tai answers. -/
import Derived.Test.YthaajbdppmdhaacDoorLeapDay
import Derived.Test.YthaajbdppmdhaacDoorLeapHands2
import Derived.Test.YthaajbdppmdhaacDoorCivilPkg
namespace Go.Proofs.YthaajbdppmdhaacDoor
open Go.ChangeShapes Go.WideShapes Go.ChangeAt Go.RowKit
set_option linter.unusedVariables false
set_option linter.unusedSimpArgs false

theorem tret {a b : Int} {v : Value} (h : a = b) : Ending.returned (.tuple #[.int .i64 a, v]) = .returned (.tuple #[.int .i64 b, v]) := by rw [h]
set_option maxHeartbeats 2000000 in
theorem tai_leaps (a : Option Addr) (n cap : Nat) (q : Nat → Int × Bool) (y m d h i s : Int) (w : World) (hH : LHanded w a n q) (hE : lE q n ≠ 0) :
    Calls Tryd.prog 30 #[.slice a n cap, lbl y m d h i s] w fun r w' => r = .returned (.tuple #[.int .i64 0, errc (lE q n)]) ∧ Below w.heap.size w w' := by
  have bel : Below w.heap.size w (w.alloc (.cells #[.int .i64 y, .int .i64 m, .int .i64 d, .int .i64 h, .int .i64 i, .int .i64 s] 62)) := rbel_al (Below.refl _ _)
  have cC := fun u (hu : Below w.heap.size w u) => check_all a n cap q u (hH.on hu)
  rw [errc_not hE] at cC
  rw [errc_not hE]
  generalize lE q n = e at *
  clear hH
  go_enter Tryd.func30, Tryd.ntmps30
  go_wp2_with (go_at_call 28; refine (cC _ bel).mono ?_; rintro r u ⟨rfl, hb⟩; have hw : Below w.heap.size w u := rbel_on hb bel; have P0 : Row u w.heap.size [.int .i64 y, .int .i64 m, .int .i64 d, .int .i64 h, .int .i64 i, .int .i64 s] := Row.on hb (Row.made rfl); have c0 := P0.c 0 _ rfl; have c1 := P0.c 1 _ rfl; have c2 := P0.c 2 _ rfl; have c3 := P0.c 3 _ rfl; have c4 := P0.c 4 _ rfl; have c5 := P0.c 5 _ rfl; clear hb)
  go_ret2
  exact ⟨rfl, hw⟩
set_option maxHeartbeats 2000000 in
theorem tai_date (a : Option Addr) (n cap : Nat) (q : Nat → Int × Bool) (y m d h i s : Int) (w : World) (hH : LHanded w a n q) (he : EnvA w) (wy : In64 y) (wm : In64 m) (wd : In64 d) (hE : lE q n = 0) (o : okD y m d = false) :
    Calls Tryd.prog 30 #[.slice a n cap, lbl y m d h i s] w fun r w' => r = .returned (.tuple #[.int .i64 0, .iface 81 (.int .i64 1)]) ∧ Below w.heap.size w w' := by
  have bel : Below w.heap.size w (w.alloc (.cells #[.int .i64 y, .int .i64 m, .int .i64 d, .int .i64 h, .int .i64 i, .int .i64 s] 62)) := rbel_al (Below.refl _ _)
  have cC := fun u (hu : Below w.heap.size w u) => check_all a n cap q u (hH.on hu)
  rw [hE, errc_zero] at cC
  have cN := fun u (hu : Below w.heap.size w u) => (civ0 he).numNo o wy wm wd u hu
  clear hH he
  go_enter Tryd.func30, Tryd.ntmps30
  go_wp2_with (first | (go_at_call 28; refine (cC _ bel).mono ?_; rintro r u ⟨rfl, hb⟩; have hw : Below w.heap.size w u := rbel_on hb bel; have P0 : Row u w.heap.size [.int .i64 y, .int .i64 m, .int .i64 d, .int .i64 h, .int .i64 i, .int .i64 s] := Row.on hb (Row.made rfl); have c0 := P0.c 0 _ rfl; have c1 := P0.c 1 _ rfl; have c2 := P0.c 2 _ rfl; have c3 := P0.c 3 _ rfl; have c4 := P0.c 4 _ rfl; have c5 := P0.c 5 _ rfl; clear hb) | (go_at_call 18; refine (cN _ hw).mono ?_; rintro r u1 ⟨rfl, hb⟩; have hw1 : Below w.heap.size w u1 := rbel_on hb hw; have P1 : Row u1 w.heap.size [.int .i64 y, .int .i64 m, .int .i64 d, .int .i64 h, .int .i64 i, .int .i64 s] := Row.on hb P0; have k0 := P1.c 0 _ rfl; have k1 := P1.c 1 _ rfl; have k2 := P1.c 2 _ rfl; have k3 := P1.c 3 _ rfl; have k4 := P1.c 4 _ rfl; have k5 := P1.c 5 _ rfl; clear hb))
  go_ret2
  exact ⟨rfl, hw1⟩
set_option maxHeartbeats 2000000 in
theorem tai_hands (a : Option Addr) (n cap : Nat) (q : Nat → Int × Bool) (y m d h i s : Int) (w : World) (hH : LHanded w a n q) (he : EnvA w) (hN : EnvN w) (hE : lE q n = 0) (o : okD y m d = true) (o2 : okH h i s = false) :
    Calls Tryd.prog 30 #[.slice a n cap, lbl y m d h i s] w fun r w' => r = .returned (.tuple #[.int .i64 0, .iface 81 (.int .i64 1)]) ∧ Below w.heap.size w w' := by
  have bel : Below w.heap.size w (w.alloc (.cells #[.int .i64 y, .int .i64 m, .int .i64 d, .int .i64 h, .int .i64 i, .int .i64 s] 62)) := rbel_al (Below.refl _ _)
  have cC := fun u (hu : Below w.heap.size w u) => check_all a n cap q u (hH.on hu)
  rw [hE, errc_zero] at cC
  have cN := fun u (hu : Below w.heap.size w u) => (civ0 he).numOk o u hu
  have cK := fun u (hu : Below w.heap.size w u) => hands_any y m d h i s u (hN.below hu)
  rw [eH_no o2, errc_not (by decide)] at cK
  clear hH he
  go_enter Tryd.func30, Tryd.ntmps30
  go_wp2_with (first | (go_at_call 28; refine (cC _ bel).mono ?_; rintro r u ⟨rfl, hb⟩; have hw : Below w.heap.size w u := rbel_on hb bel; have P0 : Row u w.heap.size [.int .i64 y, .int .i64 m, .int .i64 d, .int .i64 h, .int .i64 i, .int .i64 s] := Row.on hb (Row.made rfl); have c0 := P0.c 0 _ rfl; have c1 := P0.c 1 _ rfl; have c2 := P0.c 2 _ rfl; have c3 := P0.c 3 _ rfl; have c4 := P0.c 4 _ rfl; have c5 := P0.c 5 _ rfl; clear hb) | (go_at_call 18; refine (cN _ hw).mono ?_; rintro r u1 ⟨rfl, hb⟩; have hw1 : Below w.heap.size w u1 := rbel_on hb hw; have P1 : Row u1 w.heap.size [.int .i64 y, .int .i64 m, .int .i64 d, .int .i64 h, .int .i64 i, .int .i64 s] := Row.on hb P0; have k0 := P1.c 0 _ rfl; have k1 := P1.c 1 _ rfl; have k2 := P1.c 2 _ rfl; have k3 := P1.c 3 _ rfl; have k4 := P1.c 4 _ rfl; have k5 := P1.c 5 _ rfl; clear hb) | (go_at_call 67; refine (cK _ hw1).mono ?_; rintro r u2 ⟨rfl, hb⟩; have hw2 : Below w.heap.size w u2 := rbel_on hb hw1; have P2 : Row u2 w.heap.size [.int .i64 y, .int .i64 m, .int .i64 d, .int .i64 h, .int .i64 i, .int .i64 s] := Row.on hb P1; clear hb))
  go_ret2
  exact ⟨rfl, hw2⟩
end Go.Proofs.YthaajbdppmdhaacDoor
namespace Go.Proofs.YthaajbdppmdhaacDoor
open Go.ChangeShapes Go.WideShapes Go.ChangeAt Go.RowKit
set_option linter.unusedVariables false
set_option linter.unusedSimpArgs false

set_option maxRecDepth 100000 in
set_option maxHeartbeats 8000000 in
theorem tai_late (a : Option Addr) (n cap : Nat) (q : Nat → Int × Bool) (y m d h i s : Int) (w : World) (hH : LHanded w a n q) (D : Int) (he : EnvA w) (hN : EnvN w) (hW : EnvW w) (hE : lE q n = 0) (o : okD y m d = true) (o2 : okH h i s = true) (eD : dnum y m d = D) (hD0 : 0 ≤ D) (hD1 : D ≤ 84005) (lt : lng q n D ≤ sec h i s) :
    Calls Tryd.prog 30 #[.slice a n cap, lbl y m d h i s] w fun r w' => r = .returned (.tuple #[.int .i64 0, .iface 81 (.int .i64 5)]) ∧ Below w.heap.size w w' := by
  obtain ⟨h20, hL⟩ := lE_zero hE
  have bel : Below w.heap.size w (w.alloc (.cells #[.int .i64 y, .int .i64 m, .int .i64 d, .int .i64 h, .int .i64 i, .int .i64 s] 62)) := rbel_al (Below.refl _ _)
  have cC := fun u (hu : Below w.heap.size w u) => check_all a n cap q u (hH.on hu)
  rw [hE, errc_zero] at cC
  have cN := fun u (hu : Below w.heap.size w u) => (civ0 he).numOk o u hu
  rw [eD] at cN
  have cK := fun u (hu : Below w.heap.size w u) => hands_any y m d h i s u (hN.below hu)
  rw [eH_ok o2, errc_zero] at cK
  have cB := fun u (hu : Below w.heap.size w u) => begin_any a n cap q D u h20 (hH.on hu) hD0 (by omega)
  have cB2 := fun u (hu : Below w.heap.size w u) => begin_any a n cap q (D + 1) u h20 (hH.on hu) (by omega) (by omega)
  have cJ := fun u (hu : Below w.heap.size w u) => join_any h i s u o2 (hW.below hu)
  have cM := fun u => numbers_any y m d h i s u
  have nx := bg_next (q := q) (n := n) D
  have ll := lng_le hL D
  obtain ⟨a1, a2, a3, a4, a5, a6⟩ := okH_t o2
  have sc0 : 0 ≤ sec h i s := by unfold sec; omega
  have sc1 : sec h i s ≤ 86400 := by unfold sec; omega
  have ml := mor_le (q := q) n D
  have b0 : -20 ≤ bg q n D := by unfold bg; omega
  have b1 : bg q n D ≤ 9000000000 := by unfold bg; omega
  obtain ⟨D1, e1⟩ : ∃ D1, D + 1 = D1 := ⟨_, rfl⟩
  rw [e1] at cB2 nx
  generalize sec h i s = S at *
  generalize bg q n D = B at *
  generalize bg q n D1 = B2 at *
  generalize lng q n D = L at *
  have w1 : IntKind.i64.wrap (B + S) = B + S := IntWalk.i64_in _ (by omega)
  have w2 : IntKind.i64.wrap (D + 1) = D1 := by rw [e1]; exact IntWalk.i64_in _ (by omega)
  clear e1
  have w3 : IntKind.i64.wrap (B + S - B) = S := by rw [show B + S - B = S by omega]; exact IntWalk.i64_in _ (by omega)
  have d1 : decide (B2 ≤ B + S) = true := decide_eq_true (by omega)
  have mixed : Tryd.prog.follows .mixedOrders = true := by kernel_rfl
  clear hH he hN hW hE hL o o2 eD nx ll lt ml sc0 sc1 b0 b1
  go_enter Tryd.func30, Tryd.ntmps30
  go_wp2_with (first | (go_at_call 28; refine (cC _ bel).mono ?_; rintro r u ⟨rfl, hb⟩; have hw : Below w.heap.size w u := rbel_on hb bel; have P0 : Row u w.heap.size [.int .i64 y, .int .i64 m, .int .i64 d, .int .i64 h, .int .i64 i, .int .i64 s] := Row.on hb (Row.made rfl); have c0 := P0.c 0 _ rfl; have c1 := P0.c 1 _ rfl; have c2 := P0.c 2 _ rfl; have c3 := P0.c 3 _ rfl; have c4 := P0.c 4 _ rfl; have c5 := P0.c 5 _ rfl; clear hb) | (go_at_call 18; refine (cN _ hw).mono ?_; rintro r u1 ⟨rfl, hb⟩; have hw1 : Below w.heap.size w u1 := rbel_on hb hw; have P1 : Row u1 w.heap.size [.int .i64 y, .int .i64 m, .int .i64 d, .int .i64 h, .int .i64 i, .int .i64 s] := Row.on hb P0; have k0 := P1.c 0 _ rfl; have k1 := P1.c 1 _ rfl; have k2 := P1.c 2 _ rfl; have k3 := P1.c 3 _ rfl; have k4 := P1.c 4 _ rfl; have k5 := P1.c 5 _ rfl; clear hb) | (go_at_call 67; refine (cK _ hw1).mono ?_; rintro r u2 ⟨rfl, hb⟩; have hw2 : Below w.heap.size w u2 := rbel_on hb hw1; have P2 : Row u2 w.heap.size [.int .i64 y, .int .i64 m, .int .i64 d, .int .i64 h, .int .i64 i, .int .i64 s] := Row.on hb P1; clear hb))
  have gB : ∀ m' os, Calls Tryd.prog 68 #[.slice a n cap, .int .i64 D] (Go.Sort.grow (u2.drewN m') os) fun e w' => e = .returned (.int .i64 B) ∧ Gr (Go.Sort.grow (u2.drewN m') os) w' := fun m' os => cB _ (rbel_on (Gr.below ⟨m', os, rfl⟩) hw2)
  have gB2 : ∀ m' os, Calls Tryd.prog 68 #[.slice a n cap, .int .i64 D1] (Go.Sort.grow (u2.drewN m') os) fun e w' => e = .returned (.int .i64 B2) ∧ Gr (Go.Sort.grow (u2.drewN m') os) w' := fun m' os => cB2 _ (rbel_on (Gr.below ⟨m', os, rfl⟩) hw2)
  have gJ : ∀ m' os, Calls Tryd.prog 69 #[hms h i s] (Go.Sort.grow (u2.drewN m') os) fun e w' => e = .returned (.int .i64 S) ∧ Gr (Go.Sort.grow (u2.drewN m') os) w' := fun m' os => cJ _ (rbel_on (Gr.below ⟨m', os, rfl⟩) hw2)
  have g0 := cell_grown P2.lt (P2.c 0 _ rfl)
  have g1 := cell_grown P2.lt (P2.c 1 _ rfl)
  have g2 := cell_grown P2.lt (P2.c 2 _ rfl)
  have g3 := cell_grown P2.lt (P2.c 3 _ rfl)
  have g4 := cell_grown P2.lt (P2.c 4 _ rfl)
  have g5 := cell_grown P2.lt (P2.c 5 _ rfl)
  clear cC cN cK P0 P1 c0 c1 c2 c3 c4 c5 k0 k1 k2 k3 k4 k5
  refine wp_region_quiet_grown (by assumption) (by kernel_rfl) ?_
  repeat (go_big_quiet_step (first | (go_at_call 68; refine Calls.grown_of (gB _ _)) | (go_at_call 70; refine Calls.grown_of (cM _)) | (go_at_call 69; refine Calls.grown_of (gJ _ _))))
  refine wpQuiet_nil ?_
  intro _ hw'
  obtain ⟨⟨nq, osq⟩, hw''⟩ := hw'
  subst hw''
  have hw3 : Below w.heap.size w (Go.Sort.grow (u2.drewN nq) osq) := rbel_on (Gr.below ⟨nq, osq, rfl⟩) hw2
  have P3 : Row (Go.Sort.grow (u2.drewN nq) osq) w.heap.size [.int .i64 y, .int .i64 m, .int .i64 d, .int .i64 h, .int .i64 i, .int .i64 s] := Row.on (Gr.below ⟨nq, osq, rfl⟩) P2
  clear gB gB2 gJ P2 g0 g1 g2 g3 g4 g5
  generalize Go.Sort.grow (u2.drewN nq) osq = W at *
  have gB : ∀ m' os, Calls Tryd.prog 68 #[.slice a n cap, .int .i64 D] (Go.Sort.grow (W.drewN m') os) fun e w' => e = .returned (.int .i64 B) ∧ Gr (Go.Sort.grow (W.drewN m') os) w' := fun m' os => cB _ (rbel_on (Gr.below ⟨m', os, rfl⟩) hw3)
  have gB2 : ∀ m' os, Calls Tryd.prog 68 #[.slice a n cap, .int .i64 D1] (Go.Sort.grow (W.drewN m') os) fun e w' => e = .returned (.int .i64 B2) ∧ Gr (Go.Sort.grow (W.drewN m') os) w' := fun m' os => cB2 _ (rbel_on (Gr.below ⟨m', os, rfl⟩) hw3)
  have gJ : ∀ m' os, Calls Tryd.prog 69 #[hms h i s] (Go.Sort.grow (W.drewN m') os) fun e w' => e = .returned (.int .i64 S) ∧ Gr (Go.Sort.grow (W.drewN m') os) w' := fun m' os => cJ _ (rbel_on (Gr.below ⟨m', os, rfl⟩) hw3)
  have g0 := cell_grown P3.lt (P3.c 0 _ rfl)
  have g1 := cell_grown P3.lt (P3.c 1 _ rfl)
  have g2 := cell_grown P3.lt (P3.c 2 _ rfl)
  have g3 := cell_grown P3.lt (P3.c 3 _ rfl)
  have g4 := cell_grown P3.lt (P3.c 4 _ rfl)
  have g5 := cell_grown P3.lt (P3.c 5 _ rfl)
  go_wp2
  refine wp_region_quiet_grown (by assumption) (by kernel_rfl) ?_
  repeat (go_big_quiet_step (first | (go_at_call 68; refine Calls.grown_of (gB2 _ _)) | (go_at_call 68; refine Calls.grown_of (gB _ _)) | (go_at_call 70; refine Calls.grown_of (cM _))))
  refine wpQuiet_nil ?_
  intro _ hw'
  obtain ⟨⟨nq, osq⟩, hw''⟩ := hw'
  subst hw''
  go_wp2
  go_ret2
  exact ⟨rfl, rbel_on (Gr.below ⟨nq, osq, rfl⟩) hw3⟩
end Go.Proofs.YthaajbdppmdhaacDoor
namespace Go.Proofs.YthaajbdppmdhaacDoor
open Go.ChangeShapes Go.WideShapes Go.ChangeAt Go.RowKit
set_option linter.unusedVariables false
set_option linter.unusedSimpArgs false

set_option maxRecDepth 100000 in
set_option maxHeartbeats 8000000 in
theorem tai_none (a : Option Addr) (n cap : Nat) (q : Nat → Int × Bool) (y m d h i s : Int) (w : World) (hH : LHanded w a n q) (D : Int) (he : EnvA w) (hN : EnvN w) (hW : EnvW w) (hE : lE q n = 0) (o : okD y m d = true) (o2 : okH h i s = true) (eD : dnum y m d = D) (hD0 : 0 ≤ D) (hD1 : D ≤ 84005) (lt : sec h i s < lng q n D) (ne : lab (sec h i s) ≠ (h, i, s)) :
    Calls Tryd.prog 30 #[.slice a n cap, lbl y m d h i s] w fun r w' => r = .returned (.tuple #[.int .i64 0, .iface 81 (.int .i64 5)]) ∧ Below w.heap.size w w' := by
  obtain ⟨h20, hL⟩ := lE_zero hE
  have bel : Below w.heap.size w (w.alloc (.cells #[.int .i64 y, .int .i64 m, .int .i64 d, .int .i64 h, .int .i64 i, .int .i64 s] 62)) := rbel_al (Below.refl _ _)
  have cC := fun u (hu : Below w.heap.size w u) => check_all a n cap q u (hH.on hu)
  rw [hE, errc_zero] at cC
  have cN := fun u (hu : Below w.heap.size w u) => (civ0 he).numOk o u hu
  rw [eD] at cN
  have cK := fun u (hu : Below w.heap.size w u) => hands_any y m d h i s u (hN.below hu)
  rw [eH_ok o2, errc_zero] at cK
  have cB := fun u (hu : Below w.heap.size w u) => begin_any a n cap q D u h20 (hH.on hu) hD0 (by omega)
  have cB2 := fun u (hu : Below w.heap.size w u) => begin_any a n cap q (D + 1) u h20 (hH.on hu) (by omega) (by omega)
  have cJ := fun u (hu : Below w.heap.size w u) => join_any h i s u o2 (hW.below hu)
  have cM := fun u => numbers_any y m d h i s u
  have nx := bg_next (q := q) (n := n) D
  have ll := lng_le hL D
  obtain ⟨a1, a2, a3, a4, a5, a6⟩ := okH_t o2
  have sc0 : 0 ≤ sec h i s := by unfold sec; omega
  have sc1 : sec h i s ≤ 86400 := by unfold sec; omega
  have ml := mor_le (q := q) n D
  have b0 : -20 ≤ bg q n D := by unfold bg; omega
  have b1 : bg q n D ≤ 9000000000 := by unfold bg; omega
  have cS := fun u => split_any (sec h i s) u (by omega) (by omega)
  obtain ⟨p1, hp1⟩ : ∃ p, (lab (sec h i s)).1 = p := ⟨_, rfl⟩
  obtain ⟨p2, hp2⟩ : ∃ p, (lab (sec h i s)).2.1 = p := ⟨_, rfl⟩
  obtain ⟨p3, hp3⟩ : ∃ p, (lab (sec h i s)).2.2 = p := ⟨_, rfl⟩
  rw [hp1, hp2, hp3] at cS
  have EQ : ∀ w, (Op.equalIn 10000 100 (.agg #[.int .i64 p1, .int .i64 p2, .int .i64 p3]) (.agg #[.int .i64 h, .int .i64 i, .int .i64 s])).run Tryd.prog w = .ok false w := fun w => by
    rw [eq_hms]
    have : (p1 == h && (p2 == i && p3 == s)) = false := by
      cases hz : (p1 == h && (p2 == i && p3 == s)) with
      | false => rfl
      | true =>
        simp only [Bool.and_eq_true, beq_iff_eq] at hz
        exact absurd (Prod.ext (hp1.trans hz.1) (Prod.ext (hp2.trans hz.2.1) (hp3.trans hz.2.2))) ne
    rw [this]
  clear ne hp1 hp2 hp3
  obtain ⟨D1, e1⟩ : ∃ D1, D + 1 = D1 := ⟨_, rfl⟩
  rw [e1] at cB2 nx
  generalize sec h i s = S at *
  generalize bg q n D = B at *
  generalize bg q n D1 = B2 at *
  generalize lng q n D = L at *
  have w1 : IntKind.i64.wrap (B + S) = B + S := IntWalk.i64_in _ (by omega)
  have w2 : IntKind.i64.wrap (D + 1) = D1 := by rw [e1]; exact IntWalk.i64_in _ (by omega)
  clear e1
  have w3 : IntKind.i64.wrap (B + S - B) = S := by rw [show B + S - B = S by omega]; exact IntWalk.i64_in _ (by omega)
  have d1 : decide (B2 ≤ B + S) = false := decide_eq_false (by omega)
  have mixed : Tryd.prog.follows .mixedOrders = true := by kernel_rfl
  clear hH he hN hW hE hL o o2 eD nx ll lt ml sc0 sc1 b0 b1
  go_enter Tryd.func30, Tryd.ntmps30
  go_wp2_with (first | (go_at_call 28; refine (cC _ bel).mono ?_; rintro r u ⟨rfl, hb⟩; have hw : Below w.heap.size w u := rbel_on hb bel; have P0 : Row u w.heap.size [.int .i64 y, .int .i64 m, .int .i64 d, .int .i64 h, .int .i64 i, .int .i64 s] := Row.on hb (Row.made rfl); have c0 := P0.c 0 _ rfl; have c1 := P0.c 1 _ rfl; have c2 := P0.c 2 _ rfl; have c3 := P0.c 3 _ rfl; have c4 := P0.c 4 _ rfl; have c5 := P0.c 5 _ rfl; clear hb) | (go_at_call 18; refine (cN _ hw).mono ?_; rintro r u1 ⟨rfl, hb⟩; have hw1 : Below w.heap.size w u1 := rbel_on hb hw; have P1 : Row u1 w.heap.size [.int .i64 y, .int .i64 m, .int .i64 d, .int .i64 h, .int .i64 i, .int .i64 s] := Row.on hb P0; have k0 := P1.c 0 _ rfl; have k1 := P1.c 1 _ rfl; have k2 := P1.c 2 _ rfl; have k3 := P1.c 3 _ rfl; have k4 := P1.c 4 _ rfl; have k5 := P1.c 5 _ rfl; clear hb) | (go_at_call 67; refine (cK _ hw1).mono ?_; rintro r u2 ⟨rfl, hb⟩; have hw2 : Below w.heap.size w u2 := rbel_on hb hw1; have P2 : Row u2 w.heap.size [.int .i64 y, .int .i64 m, .int .i64 d, .int .i64 h, .int .i64 i, .int .i64 s] := Row.on hb P1; clear hb))
  have gB : ∀ m' os, Calls Tryd.prog 68 #[.slice a n cap, .int .i64 D] (Go.Sort.grow (u2.drewN m') os) fun e w' => e = .returned (.int .i64 B) ∧ Gr (Go.Sort.grow (u2.drewN m') os) w' := fun m' os => cB _ (rbel_on (Gr.below ⟨m', os, rfl⟩) hw2)
  have gB2 : ∀ m' os, Calls Tryd.prog 68 #[.slice a n cap, .int .i64 D1] (Go.Sort.grow (u2.drewN m') os) fun e w' => e = .returned (.int .i64 B2) ∧ Gr (Go.Sort.grow (u2.drewN m') os) w' := fun m' os => cB2 _ (rbel_on (Gr.below ⟨m', os, rfl⟩) hw2)
  have gJ : ∀ m' os, Calls Tryd.prog 69 #[hms h i s] (Go.Sort.grow (u2.drewN m') os) fun e w' => e = .returned (.int .i64 S) ∧ Gr (Go.Sort.grow (u2.drewN m') os) w' := fun m' os => cJ _ (rbel_on (Gr.below ⟨m', os, rfl⟩) hw2)
  have g0 := cell_grown P2.lt (P2.c 0 _ rfl)
  have g1 := cell_grown P2.lt (P2.c 1 _ rfl)
  have g2 := cell_grown P2.lt (P2.c 2 _ rfl)
  have g3 := cell_grown P2.lt (P2.c 3 _ rfl)
  have g4 := cell_grown P2.lt (P2.c 4 _ rfl)
  have g5 := cell_grown P2.lt (P2.c 5 _ rfl)
  clear cC cN cK P0 P1 c0 c1 c2 c3 c4 c5 k0 k1 k2 k3 k4 k5
  refine wp_region_quiet_grown (by assumption) (by kernel_rfl) ?_
  repeat (go_big_quiet_step (first | (go_at_call 68; refine Calls.grown_of (gB _ _)) | (go_at_call 70; refine Calls.grown_of (cM _)) | (go_at_call 69; refine Calls.grown_of (gJ _ _))))
  refine wpQuiet_nil ?_
  intro _ hw'
  obtain ⟨⟨nq, osq⟩, hw''⟩ := hw'
  subst hw''
  have hw3 : Below w.heap.size w (Go.Sort.grow (u2.drewN nq) osq) := rbel_on (Gr.below ⟨nq, osq, rfl⟩) hw2
  have P3 : Row (Go.Sort.grow (u2.drewN nq) osq) w.heap.size [.int .i64 y, .int .i64 m, .int .i64 d, .int .i64 h, .int .i64 i, .int .i64 s] := Row.on (Gr.below ⟨nq, osq, rfl⟩) P2
  clear gB gB2 gJ P2 g0 g1 g2 g3 g4 g5
  generalize Go.Sort.grow (u2.drewN nq) osq = W at *
  have gB : ∀ m' os, Calls Tryd.prog 68 #[.slice a n cap, .int .i64 D] (Go.Sort.grow (W.drewN m') os) fun e w' => e = .returned (.int .i64 B) ∧ Gr (Go.Sort.grow (W.drewN m') os) w' := fun m' os => cB _ (rbel_on (Gr.below ⟨m', os, rfl⟩) hw3)
  have gB2 : ∀ m' os, Calls Tryd.prog 68 #[.slice a n cap, .int .i64 D1] (Go.Sort.grow (W.drewN m') os) fun e w' => e = .returned (.int .i64 B2) ∧ Gr (Go.Sort.grow (W.drewN m') os) w' := fun m' os => cB2 _ (rbel_on (Gr.below ⟨m', os, rfl⟩) hw3)
  have gJ : ∀ m' os, Calls Tryd.prog 69 #[hms h i s] (Go.Sort.grow (W.drewN m') os) fun e w' => e = .returned (.int .i64 S) ∧ Gr (Go.Sort.grow (W.drewN m') os) w' := fun m' os => cJ _ (rbel_on (Gr.below ⟨m', os, rfl⟩) hw3)
  have g0 := cell_grown P3.lt (P3.c 0 _ rfl)
  have g1 := cell_grown P3.lt (P3.c 1 _ rfl)
  have g2 := cell_grown P3.lt (P3.c 2 _ rfl)
  have g3 := cell_grown P3.lt (P3.c 3 _ rfl)
  have g4 := cell_grown P3.lt (P3.c 4 _ rfl)
  have g5 := cell_grown P3.lt (P3.c 5 _ rfl)
  go_wp2
  refine wp_region_quiet_grown (by assumption) (by kernel_rfl) ?_
  repeat (go_big_quiet_step (first | (go_at_call 68; refine Calls.grown_of (gB2 _ _)) | (go_at_call 68; refine Calls.grown_of (gB _ _)) | (go_at_call 71; refine Calls.grown_of (cS _)) | (go_at_call 70; refine Calls.grown_of (cM _))))
  refine wpQuiet_nil ?_
  intro _ hw'
  obtain ⟨⟨nq, osq⟩, hw''⟩ := hw'
  subst hw''
  go_wp2
  go_ret2
  exact ⟨rfl, rbel_on (Gr.below ⟨nq, osq, rfl⟩) hw3⟩
end Go.Proofs.YthaajbdppmdhaacDoor
namespace Go.Proofs.YthaajbdppmdhaacDoor
open Go.ChangeShapes Go.WideShapes Go.ChangeAt Go.RowKit
set_option linter.unusedVariables false
set_option linter.unusedSimpArgs false

set_option maxRecDepth 100000 in
set_option maxHeartbeats 8000000 in
theorem tai_there (a : Option Addr) (n cap : Nat) (q : Nat → Int × Bool) (y m d h i s : Int) (w : World) (hH : LHanded w a n q) (D : Int) (he : EnvA w) (hN : EnvN w) (hW : EnvW w) (hE : lE q n = 0) (o : okD y m d = true) (o2 : okH h i s = true) (eD : dnum y m d = D) (hD0 : 0 ≤ D) (hD1 : D ≤ 84005) (lt : sec h i s < lng q n D) (ne : lab (sec h i s) = (h, i, s)) :
    Calls Tryd.prog 30 #[.slice a n cap, lbl y m d h i s] w fun r w' => r = .returned (.tuple #[.int .i64 (bg q n D + sec h i s), .nilIface]) ∧ Below w.heap.size w w' := by
  obtain ⟨h20, hL⟩ := lE_zero hE
  have bel : Below w.heap.size w (w.alloc (.cells #[.int .i64 y, .int .i64 m, .int .i64 d, .int .i64 h, .int .i64 i, .int .i64 s] 62)) := rbel_al (Below.refl _ _)
  have cC := fun u (hu : Below w.heap.size w u) => check_all a n cap q u (hH.on hu)
  rw [hE, errc_zero] at cC
  have cN := fun u (hu : Below w.heap.size w u) => (civ0 he).numOk o u hu
  rw [eD] at cN
  have cK := fun u (hu : Below w.heap.size w u) => hands_any y m d h i s u (hN.below hu)
  rw [eH_ok o2, errc_zero] at cK
  have cB := fun u (hu : Below w.heap.size w u) => begin_any a n cap q D u h20 (hH.on hu) hD0 (by omega)
  have cB2 := fun u (hu : Below w.heap.size w u) => begin_any a n cap q (D + 1) u h20 (hH.on hu) (by omega) (by omega)
  have cJ := fun u (hu : Below w.heap.size w u) => join_any h i s u o2 (hW.below hu)
  have cM := fun u => numbers_any y m d h i s u
  have nx := bg_next (q := q) (n := n) D
  have ll := lng_le hL D
  obtain ⟨a1, a2, a3, a4, a5, a6⟩ := okH_t o2
  have sc0 : 0 ≤ sec h i s := by unfold sec; omega
  have sc1 : sec h i s ≤ 86400 := by unfold sec; omega
  have ml := mor_le (q := q) n D
  have b0 : -20 ≤ bg q n D := by unfold bg; omega
  have b1 : bg q n D ≤ 9000000000 := by unfold bg; omega
  have cS : ∀ u, Calls Tryd.prog 71 #[.int .i64 (sec h i s)] u fun e w' => e = .returned (hms h i s) ∧ Gr u w' := fun u => by
    have := split_any (sec h i s) u (by omega) (by omega)
    rw [ne] at this
    exact this
  have EQ : ∀ w, (Op.equalIn 10000 100 (.agg #[.int .i64 h, .int .i64 i, .int .i64 s]) (.agg #[.int .i64 h, .int .i64 i, .int .i64 s])).run Tryd.prog w = .ok true w := fun w => by
    rw [eq_hms]; simp
  clear ne
  obtain ⟨D1, e1⟩ : ∃ D1, D + 1 = D1 := ⟨_, rfl⟩
  rw [e1] at cB2 nx
  generalize sec h i s = S at *
  generalize bg q n D = B at *
  generalize bg q n D1 = B2 at *
  generalize lng q n D = L at *
  have w1 : IntKind.i64.wrap (B + S) = B + S := IntWalk.i64_in _ (by omega)
  have w2 : IntKind.i64.wrap (D + 1) = D1 := by rw [e1]; exact IntWalk.i64_in _ (by omega)
  clear e1
  have w3 : IntKind.i64.wrap (B + S - B) = S := by rw [show B + S - B = S by omega]; exact IntWalk.i64_in _ (by omega)
  have d1 : decide (B2 ≤ B + S) = false := decide_eq_false (by omega)
  have mixed : Tryd.prog.follows .mixedOrders = true := by kernel_rfl
  clear hH he hN hW hE hL o o2 eD nx ll lt ml sc0 sc1 b0 b1
  go_enter Tryd.func30, Tryd.ntmps30
  go_wp2_with (first | (go_at_call 28; refine (cC _ bel).mono ?_; rintro r u ⟨rfl, hb⟩; have hw : Below w.heap.size w u := rbel_on hb bel; have P0 : Row u w.heap.size [.int .i64 y, .int .i64 m, .int .i64 d, .int .i64 h, .int .i64 i, .int .i64 s] := Row.on hb (Row.made rfl); have c0 := P0.c 0 _ rfl; have c1 := P0.c 1 _ rfl; have c2 := P0.c 2 _ rfl; have c3 := P0.c 3 _ rfl; have c4 := P0.c 4 _ rfl; have c5 := P0.c 5 _ rfl; clear hb) | (go_at_call 18; refine (cN _ hw).mono ?_; rintro r u1 ⟨rfl, hb⟩; have hw1 : Below w.heap.size w u1 := rbel_on hb hw; have P1 : Row u1 w.heap.size [.int .i64 y, .int .i64 m, .int .i64 d, .int .i64 h, .int .i64 i, .int .i64 s] := Row.on hb P0; have k0 := P1.c 0 _ rfl; have k1 := P1.c 1 _ rfl; have k2 := P1.c 2 _ rfl; have k3 := P1.c 3 _ rfl; have k4 := P1.c 4 _ rfl; have k5 := P1.c 5 _ rfl; clear hb) | (go_at_call 67; refine (cK _ hw1).mono ?_; rintro r u2 ⟨rfl, hb⟩; have hw2 : Below w.heap.size w u2 := rbel_on hb hw1; have P2 : Row u2 w.heap.size [.int .i64 y, .int .i64 m, .int .i64 d, .int .i64 h, .int .i64 i, .int .i64 s] := Row.on hb P1; clear hb))
  have gB : ∀ m' os, Calls Tryd.prog 68 #[.slice a n cap, .int .i64 D] (Go.Sort.grow (u2.drewN m') os) fun e w' => e = .returned (.int .i64 B) ∧ Gr (Go.Sort.grow (u2.drewN m') os) w' := fun m' os => cB _ (rbel_on (Gr.below ⟨m', os, rfl⟩) hw2)
  have gB2 : ∀ m' os, Calls Tryd.prog 68 #[.slice a n cap, .int .i64 D1] (Go.Sort.grow (u2.drewN m') os) fun e w' => e = .returned (.int .i64 B2) ∧ Gr (Go.Sort.grow (u2.drewN m') os) w' := fun m' os => cB2 _ (rbel_on (Gr.below ⟨m', os, rfl⟩) hw2)
  have gJ : ∀ m' os, Calls Tryd.prog 69 #[hms h i s] (Go.Sort.grow (u2.drewN m') os) fun e w' => e = .returned (.int .i64 S) ∧ Gr (Go.Sort.grow (u2.drewN m') os) w' := fun m' os => cJ _ (rbel_on (Gr.below ⟨m', os, rfl⟩) hw2)
  have g0 := cell_grown P2.lt (P2.c 0 _ rfl)
  have g1 := cell_grown P2.lt (P2.c 1 _ rfl)
  have g2 := cell_grown P2.lt (P2.c 2 _ rfl)
  have g3 := cell_grown P2.lt (P2.c 3 _ rfl)
  have g4 := cell_grown P2.lt (P2.c 4 _ rfl)
  have g5 := cell_grown P2.lt (P2.c 5 _ rfl)
  clear cC cN cK P0 P1 c0 c1 c2 c3 c4 c5 k0 k1 k2 k3 k4 k5
  refine wp_region_quiet_grown (by assumption) (by kernel_rfl) ?_
  repeat (go_big_quiet_step (first | (go_at_call 68; refine Calls.grown_of (gB _ _)) | (go_at_call 70; refine Calls.grown_of (cM _)) | (go_at_call 69; refine Calls.grown_of (gJ _ _))))
  refine wpQuiet_nil ?_
  intro _ hw'
  obtain ⟨⟨nq, osq⟩, hw''⟩ := hw'
  subst hw''
  have hw3 : Below w.heap.size w (Go.Sort.grow (u2.drewN nq) osq) := rbel_on (Gr.below ⟨nq, osq, rfl⟩) hw2
  have P3 : Row (Go.Sort.grow (u2.drewN nq) osq) w.heap.size [.int .i64 y, .int .i64 m, .int .i64 d, .int .i64 h, .int .i64 i, .int .i64 s] := Row.on (Gr.below ⟨nq, osq, rfl⟩) P2
  clear gB gB2 gJ P2 g0 g1 g2 g3 g4 g5
  generalize Go.Sort.grow (u2.drewN nq) osq = W at *
  have gB : ∀ m' os, Calls Tryd.prog 68 #[.slice a n cap, .int .i64 D] (Go.Sort.grow (W.drewN m') os) fun e w' => e = .returned (.int .i64 B) ∧ Gr (Go.Sort.grow (W.drewN m') os) w' := fun m' os => cB _ (rbel_on (Gr.below ⟨m', os, rfl⟩) hw3)
  have gB2 : ∀ m' os, Calls Tryd.prog 68 #[.slice a n cap, .int .i64 D1] (Go.Sort.grow (W.drewN m') os) fun e w' => e = .returned (.int .i64 B2) ∧ Gr (Go.Sort.grow (W.drewN m') os) w' := fun m' os => cB2 _ (rbel_on (Gr.below ⟨m', os, rfl⟩) hw3)
  have gJ : ∀ m' os, Calls Tryd.prog 69 #[hms h i s] (Go.Sort.grow (W.drewN m') os) fun e w' => e = .returned (.int .i64 S) ∧ Gr (Go.Sort.grow (W.drewN m') os) w' := fun m' os => cJ _ (rbel_on (Gr.below ⟨m', os, rfl⟩) hw3)
  have g0 := cell_grown P3.lt (P3.c 0 _ rfl)
  have g1 := cell_grown P3.lt (P3.c 1 _ rfl)
  have g2 := cell_grown P3.lt (P3.c 2 _ rfl)
  have g3 := cell_grown P3.lt (P3.c 3 _ rfl)
  have g4 := cell_grown P3.lt (P3.c 4 _ rfl)
  have g5 := cell_grown P3.lt (P3.c 5 _ rfl)
  go_wp2
  refine wp_region_quiet_grown (by assumption) (by kernel_rfl) ?_
  repeat (go_big_quiet_step (first | (go_at_call 68; refine Calls.grown_of (gB2 _ _)) | (go_at_call 68; refine Calls.grown_of (gB _ _)) | (go_at_call 71; refine Calls.grown_of (cS _)) | (go_at_call 70; refine Calls.grown_of (cM _))))
  refine wpQuiet_nil ?_
  intro _ hw'
  obtain ⟨⟨nq, osq⟩, hw''⟩ := hw'
  subst hw''
  go_wp2
  go_ret2
  exact ⟨rfl, rbel_on (Gr.below ⟨nq, osq, rfl⟩) hw3⟩
end Go.Proofs.YthaajbdppmdhaacDoor
namespace Go.Proofs.YthaajbdppmdhaacDoor
open Go.ChangeShapes Go.WideShapes Go.ChangeAt Go.RowKit
set_option linter.unusedVariables false
set_option linter.unusedSimpArgs false

theorem okL_iff {L h i s : Int} (o : okH h i s = true) (lt : sec h i s < L) (hL : L ≤ 86401) : okL L h i s ↔ lab (sec h i s) = (h, i, s) := by
  constructor
  · intro k; exact okL_lab k hL
  · intro k
    have z := lab_ok L (sec h i s) (by have := okH_t o; unfold sec; omega) lt hL
    rw [k] at z
    exact z
theorem tai_any (a : Option Addr) (n cap : Nat) (q : Nat → Int × Bool) (y m d h i s v e : Int) (w : World) (hH : LHanded w a n q) (he : EnvA w) (hN : EnvN w) (hW : EnvW w) (wy : In64 y) (wm : In64 m) (wd : In64 d) (hT : TaiA q n y m d h i s v e) :
    Calls Tryd.prog 30 #[.slice a n cap, lbl y m d h i s] w fun r w' => r = .returned (.tuple #[.int .i64 v, errc e]) ∧ Below w.heap.size w w' := by
  rcases hT with ⟨hE, rfl, rfl⟩ | ⟨hE, hT⟩
  · exact tai_leaps a n cap q y m d h i s w hH hE
  · obtain ⟨h20, hL⟩ := lE_zero hE
    have R : ∀ D, 86399 ≤ lng q n D ∧ lng q n D ≤ 86401 := fun D => lng_le hL D
    rcases hT with ⟨o, rfl, rfl⟩ | ⟨o, no, rfl, rfl⟩ | ⟨o, ok, rfl, rfl⟩
    · rw [errc_not (by decide)]
      cases o1 : okD y m d with
      | false => exact tai_date a n cap q y m d h i s w hH he wy wm wd hE o1
      | true => exact tai_hands a n cap q y m d h i s w hH he hN hE o1 (by rw [o1] at o; exact o)
    · rw [errc_not (by decide)]
      obtain ⟨o1, o2⟩ : okD y m d = true ∧ okH h i s = true := by simpa using o
      have hd := dnum_range o1
      by_cases lt : sec h i s < lng q n (dnum y m d)
      · exact tai_none a n cap q y m d h i s w hH _ he hN hW hE o1 o2 rfl hd.1 (by omega) lt (fun k => no ((okL_iff o2 lt (R _).2).2 k))
      · exact tai_late a n cap q y m d h i s w hH _ he hN hW hE o1 o2 rfl hd.1 (by omega) (by omega)
    · rw [errc_zero]
      obtain ⟨o1, o2⟩ : okD y m d = true ∧ okH h i s = true := by simpa using o
      have hd := dnum_range o1
      have lt : sec h i s < lng q n (dnum y m d) := ok.2.2.2.2.2.2.2
      exact tai_there a n cap q y m d h i s w hH _ he hN hW hE o1 o2 rfl hd.1 (by omega) lt ((okL_iff o2 lt (R _).2).1 ok)
end Go.Proofs.YthaajbdppmdhaacDoor
