/- What leap.Tai answers. -/
import Derived.Test.YthaajbdppmdhaadDoorLeapTaiB
import Derived.Test.YthaajbdppmdhaadDoorLeapHands2
import Derived.Test.YthaajbdppmdhaadDoorCivilPkg
namespace Go.Proofs.YthaajbdppmdhaadDoor
open Go.ChangeShapes Go.WideShapes Go.ChangeAt Go.RowKit
set_option linter.unusedVariables false
set_option linter.unusedSimpArgs false

set_option maxRecDepth 100000 in
set_option maxHeartbeats 8000000 in
theorem tai_there (a : Option Addr) (n cap : Nat) (q : Nat → Int × Bool) (y m d h i s : Int) (w : World) (hH : LHanded w a n q) (D : Int) (he : EnvA w) (hN : EnvN w) (hW : EnvW w) (hE : lE q n = 0) (o : okD y m d = true) (o2 : okH h i s = true) (eD : dnum y m d = D) (hD0 : 0 ≤ D) (hD1 : D ≤ 84005) (lt : sec h i s < lng q n D) (ne : lab (sec h i s) = (h, i, s)) :
    Calls Tryd.prog 8 #[.slice a n cap, lbl y m d h i s] w fun r w' => r = .returned (.tuple #[.int .i64 (bg q n D + sec h i s), .nilIface]) ∧ Below w.heap.size w w' := by
  obtain ⟨h20, hL⟩ := lE_zero hE
  have bel : Below w.heap.size w (w.alloc (.cells #[.int .i64 y, .int .i64 m, .int .i64 d, .int .i64 h, .int .i64 i, .int .i64 s] 26)) := rbel_al (Below.refl _ _)
  have cC := fun u (hu : Below w.heap.size w u) => check_all a n cap q u (hH.on hu)
  rw [hE, errc_zero] at cC
  have cN := fun u (hu : Below w.heap.size w u) => (civ0 he).numOk o u hu
  rw [eD] at cN
  have cK := fun u (hu : Below w.heap.size w u) => hands_any y m d h i s u (hN.below hu)
  rw [eH_ok o2, errc_zero] at cK
  have cB := fun u (hu : Below w.heap.size w u) => begin_any a n cap q D u h20 (hH.on hu) hD0 (by omega)
  have cB2 := fun u (hu : Below w.heap.size w u) => begin_any a n cap q (D + 1) u h20 (hH.on hu) (by omega) (by omega)
  have cJ := fun u (hu : Below w.heap.size w u) => join_any h i s u o2 (hW.below hu)
  have cM := fun u => numbers_any y m d h i s u
  have nx := bg_next (q := q) (n := n) D
  have ll := lng_le hL D
  obtain ⟨a1, a2, a3, a4, a5, a6⟩ := okH_t o2
  have sc0 : 0 ≤ sec h i s := by unfold sec; omega
  have sc1 : sec h i s ≤ 86400 := by unfold sec; omega
  have ml := mor_le (q := q) n D
  have b0 : -20 ≤ bg q n D := by unfold bg; omega
  have b1 : bg q n D ≤ 9000000000 := by unfold bg; omega
  have cS : ∀ u, Calls Tryd.prog 15 #[.int .i64 (sec h i s)] u fun e w' => e = .returned (hms h i s) ∧ Gr u w' := fun u => by
    have := split_any (sec h i s) u (by omega) (by omega)
    rw [ne] at this
    exact this
  have EQ : ∀ w, (Op.equalIn 10000 45 (.agg #[.int .i64 h, .int .i64 i, .int .i64 s]) (.agg #[.int .i64 h, .int .i64 i, .int .i64 s])).run Tryd.prog w = .ok true w := fun w => by
    rw [eq_hms]; simp
  clear ne
  obtain ⟨D1, e1⟩ : ∃ D1, D + 1 = D1 := ⟨_, rfl⟩
  rw [e1] at cB2 nx
  generalize sec h i s = S at *
  generalize bg q n D = B at *
  generalize bg q n D1 = B2 at *
  generalize lng q n D = L at *
  have w1 : IntKind.i64.wrap (B + S) = B + S := IntWalk.i64_in _ (by omega)
  have w2 : IntKind.i64.wrap (D + 1) = D1 := by rw [e1]; exact IntWalk.i64_in _ (by omega)
  clear e1
  have w3 : IntKind.i64.wrap (B + S - B) = S := by rw [show B + S - B = S by omega]; exact IntWalk.i64_in _ (by omega)
  have d1 : decide (B2 ≤ B + S) = false := decide_eq_false (by omega)
  have mixed : Tryd.prog.follows .mixedOrders = true := by kernel_rfl
  clear hH he hN hW hE hL o o2 eD nx ll lt ml sc0 sc1 b0 b1
  go_enter Tryd.func8, Tryd.ntmps8
  go_wp2_with (first | (go_at_call 23; refine (cC _ bel).mono ?_; rintro r u ⟨rfl, hb⟩; have hw : Below w.heap.size w u := rbel_on hb bel; have P0 : Row u w.heap.size [.int .i64 y, .int .i64 m, .int .i64 d, .int .i64 h, .int .i64 i, .int .i64 s] := Row.on hb (Row.made rfl); have c0 := P0.c 0 _ rfl; have c1 := P0.c 1 _ rfl; have c2 := P0.c 2 _ rfl; have c3 := P0.c 3 _ rfl; have c4 := P0.c 4 _ rfl; have c5 := P0.c 5 _ rfl; clear hb) | (go_at_call 10; refine (cN _ hw).mono ?_; rintro r u1 ⟨rfl, hb⟩; have hw1 : Below w.heap.size w u1 := rbel_on hb hw; have P1 : Row u1 w.heap.size [.int .i64 y, .int .i64 m, .int .i64 d, .int .i64 h, .int .i64 i, .int .i64 s] := Row.on hb P0; have k0 := P1.c 0 _ rfl; have k1 := P1.c 1 _ rfl; have k2 := P1.c 2 _ rfl; have k3 := P1.c 3 _ rfl; have k4 := P1.c 4 _ rfl; have k5 := P1.c 5 _ rfl; clear hb) | (go_at_call 20; refine (cK _ hw1).mono ?_; rintro r u2 ⟨rfl, hb⟩; have hw2 : Below w.heap.size w u2 := rbel_on hb hw1; have P2 : Row u2 w.heap.size [.int .i64 y, .int .i64 m, .int .i64 d, .int .i64 h, .int .i64 i, .int .i64 s] := Row.on hb P1; clear hb))
  have gB : ∀ m' os, Calls Tryd.prog 16 #[.slice a n cap, .int .i64 D] (Go.Sort.grow (u2.drewN m') os) fun e w' => e = .returned (.int .i64 B) ∧ Gr (Go.Sort.grow (u2.drewN m') os) w' := fun m' os => cB _ (rbel_on (Gr.below ⟨m', os, rfl⟩) hw2)
  have gB2 : ∀ m' os, Calls Tryd.prog 16 #[.slice a n cap, .int .i64 D1] (Go.Sort.grow (u2.drewN m') os) fun e w' => e = .returned (.int .i64 B2) ∧ Gr (Go.Sort.grow (u2.drewN m') os) w' := fun m' os => cB2 _ (rbel_on (Gr.below ⟨m', os, rfl⟩) hw2)
  have gJ : ∀ m' os, Calls Tryd.prog 24 #[hms h i s] (Go.Sort.grow (u2.drewN m') os) fun e w' => e = .returned (.int .i64 S) ∧ Gr (Go.Sort.grow (u2.drewN m') os) w' := fun m' os => cJ _ (rbel_on (Gr.below ⟨m', os, rfl⟩) hw2)
  have g0 := cell_grown P2.lt (P2.c 0 _ rfl)
  have g1 := cell_grown P2.lt (P2.c 1 _ rfl)
  have g2 := cell_grown P2.lt (P2.c 2 _ rfl)
  have g3 := cell_grown P2.lt (P2.c 3 _ rfl)
  have g4 := cell_grown P2.lt (P2.c 4 _ rfl)
  have g5 := cell_grown P2.lt (P2.c 5 _ rfl)
  clear cC cN cK P0 P1 c0 c1 c2 c3 c4 c5 k0 k1 k2 k3 k4 k5
  refine wp_region_quiet_grown (by assumption) (by kernel_rfl) ?_
  repeat (go_big_quiet_step (first | (go_at_call 16; refine Calls.grown_of (gB _ _)) | (go_at_call 25; refine Calls.grown_of (cM _)) | (go_at_call 24; refine Calls.grown_of (gJ _ _))))
  refine wpQuiet_nil ?_
  intro _ hw'
  obtain ⟨⟨nq, osq⟩, hw''⟩ := hw'
  subst hw''
  have hw3 : Below w.heap.size w (Go.Sort.grow (u2.drewN nq) osq) := rbel_on (Gr.below ⟨nq, osq, rfl⟩) hw2
  have P3 : Row (Go.Sort.grow (u2.drewN nq) osq) w.heap.size [.int .i64 y, .int .i64 m, .int .i64 d, .int .i64 h, .int .i64 i, .int .i64 s] := Row.on (Gr.below ⟨nq, osq, rfl⟩) P2
  clear gB gB2 gJ P2 g0 g1 g2 g3 g4 g5
  generalize Go.Sort.grow (u2.drewN nq) osq = W at *
  have gB : ∀ m' os, Calls Tryd.prog 16 #[.slice a n cap, .int .i64 D] (Go.Sort.grow (W.drewN m') os) fun e w' => e = .returned (.int .i64 B) ∧ Gr (Go.Sort.grow (W.drewN m') os) w' := fun m' os => cB _ (rbel_on (Gr.below ⟨m', os, rfl⟩) hw3)
  have gB2 : ∀ m' os, Calls Tryd.prog 16 #[.slice a n cap, .int .i64 D1] (Go.Sort.grow (W.drewN m') os) fun e w' => e = .returned (.int .i64 B2) ∧ Gr (Go.Sort.grow (W.drewN m') os) w' := fun m' os => cB2 _ (rbel_on (Gr.below ⟨m', os, rfl⟩) hw3)
  have gJ : ∀ m' os, Calls Tryd.prog 24 #[hms h i s] (Go.Sort.grow (W.drewN m') os) fun e w' => e = .returned (.int .i64 S) ∧ Gr (Go.Sort.grow (W.drewN m') os) w' := fun m' os => cJ _ (rbel_on (Gr.below ⟨m', os, rfl⟩) hw3)
  have g0 := cell_grown P3.lt (P3.c 0 _ rfl)
  have g1 := cell_grown P3.lt (P3.c 1 _ rfl)
  have g2 := cell_grown P3.lt (P3.c 2 _ rfl)
  have g3 := cell_grown P3.lt (P3.c 3 _ rfl)
  have g4 := cell_grown P3.lt (P3.c 4 _ rfl)
  have g5 := cell_grown P3.lt (P3.c 5 _ rfl)
  go_wp2
  refine wp_region_quiet_grown (by assumption) (by kernel_rfl) ?_
  repeat (go_big_quiet_step (first | (go_at_call 16; refine Calls.grown_of (gB2 _ _)) | (go_at_call 16; refine Calls.grown_of (gB _ _)) | (go_at_call 15; refine Calls.grown_of (cS _)) | (go_at_call 25; refine Calls.grown_of (cM _))))
  refine wpQuiet_nil ?_
  intro _ hw'
  obtain ⟨⟨nq, osq⟩, hw''⟩ := hw'
  subst hw''
  go_wp2
  go_ret2
  exact ⟨rfl, rbel_on (Gr.below ⟨nq, osq, rfl⟩) hw3⟩
end Go.Proofs.YthaajbdppmdhaadDoor
