/- What leap.Tai answers. -/
import Derived.Test.YthaajbdppmdhaadDoorLeapDay
import Derived.Test.YthaajbdppmdhaadDoorLeapHands2
import Derived.Test.YthaajbdppmdhaadDoorCivilPkg
namespace Go.Proofs.YthaajbdppmdhaadDoor
open Go.ChangeShapes Go.WideShapes Go.ChangeAt Go.RowKit
set_option linter.unusedVariables false
set_option linter.unusedSimpArgs false

theorem tret {a b : Int} {v : Value} (h : a = b) : Ending.returned (.tuple #[.int .i64 a, v]) = .returned (.tuple #[.int .i64 b, v]) := by rw [h]
set_option maxHeartbeats 2000000 in
theorem tai_leaps (a : Option Addr) (n cap : Nat) (q : Nat → Int × Bool) (y m d h i s : Int) (w : World) (hH : LHanded w a n q) (hE : lE q n ≠ 0) :
    Calls Tryd.prog 8 #[.slice a n cap, lbl y m d h i s] w fun r w' => r = .returned (.tuple #[.int .i64 0, errc (lE q n)]) ∧ Below w.heap.size w w' := by
  have bel : Below w.heap.size w (w.alloc (.cells #[.int .i64 y, .int .i64 m, .int .i64 d, .int .i64 h, .int .i64 i, .int .i64 s] 26)) := rbel_al (Below.refl _ _)
  have cC := fun u (hu : Below w.heap.size w u) => check_all a n cap q u (hH.on hu)
  rw [errc_not hE] at cC
  rw [errc_not hE]
  generalize lE q n = e at *
  clear hH
  go_enter Tryd.func8, Tryd.ntmps8
  go_wp2_with (go_at_call 23; refine (cC _ bel).mono ?_; rintro r u ⟨rfl, hb⟩; have hw : Below w.heap.size w u := rbel_on hb bel; have P0 : Row u w.heap.size [.int .i64 y, .int .i64 m, .int .i64 d, .int .i64 h, .int .i64 i, .int .i64 s] := Row.on hb (Row.made rfl); have c0 := P0.c 0 _ rfl; have c1 := P0.c 1 _ rfl; have c2 := P0.c 2 _ rfl; have c3 := P0.c 3 _ rfl; have c4 := P0.c 4 _ rfl; have c5 := P0.c 5 _ rfl; clear hb)
  go_ret2
  exact ⟨rfl, hw⟩
set_option maxHeartbeats 2000000 in
theorem tai_date (a : Option Addr) (n cap : Nat) (q : Nat → Int × Bool) (y m d h i s : Int) (w : World) (hH : LHanded w a n q) (he : EnvA w) (wy : In64 y) (wm : In64 m) (wd : In64 d) (hE : lE q n = 0) (o : okD y m d = false) :
    Calls Tryd.prog 8 #[.slice a n cap, lbl y m d h i s] w fun r w' => r = .returned (.tuple #[.int .i64 0, .iface 49 (.int .i64 1)]) ∧ Below w.heap.size w w' := by
  have bel : Below w.heap.size w (w.alloc (.cells #[.int .i64 y, .int .i64 m, .int .i64 d, .int .i64 h, .int .i64 i, .int .i64 s] 26)) := rbel_al (Below.refl _ _)
  have cC := fun u (hu : Below w.heap.size w u) => check_all a n cap q u (hH.on hu)
  rw [hE, errc_zero] at cC
  have cN := fun u (hu : Below w.heap.size w u) => (civ0 he).numNo o wy wm wd u hu
  clear hH he
  go_enter Tryd.func8, Tryd.ntmps8
  go_wp2_with (first | (go_at_call 23; refine (cC _ bel).mono ?_; rintro r u ⟨rfl, hb⟩; have hw : Below w.heap.size w u := rbel_on hb bel; have P0 : Row u w.heap.size [.int .i64 y, .int .i64 m, .int .i64 d, .int .i64 h, .int .i64 i, .int .i64 s] := Row.on hb (Row.made rfl); have c0 := P0.c 0 _ rfl; have c1 := P0.c 1 _ rfl; have c2 := P0.c 2 _ rfl; have c3 := P0.c 3 _ rfl; have c4 := P0.c 4 _ rfl; have c5 := P0.c 5 _ rfl; clear hb) | (go_at_call 10; refine (cN _ hw).mono ?_; rintro r u1 ⟨rfl, hb⟩; have hw1 : Below w.heap.size w u1 := rbel_on hb hw; have P1 : Row u1 w.heap.size [.int .i64 y, .int .i64 m, .int .i64 d, .int .i64 h, .int .i64 i, .int .i64 s] := Row.on hb P0; have k0 := P1.c 0 _ rfl; have k1 := P1.c 1 _ rfl; have k2 := P1.c 2 _ rfl; have k3 := P1.c 3 _ rfl; have k4 := P1.c 4 _ rfl; have k5 := P1.c 5 _ rfl; clear hb))
  go_ret2
  exact ⟨rfl, hw1⟩
set_option maxHeartbeats 2000000 in
theorem tai_hands (a : Option Addr) (n cap : Nat) (q : Nat → Int × Bool) (y m d h i s : Int) (w : World) (hH : LHanded w a n q) (he : EnvA w) (hN : EnvN w) (hE : lE q n = 0) (o : okD y m d = true) (o2 : okH h i s = false) :
    Calls Tryd.prog 8 #[.slice a n cap, lbl y m d h i s] w fun r w' => r = .returned (.tuple #[.int .i64 0, .iface 49 (.int .i64 1)]) ∧ Below w.heap.size w w' := by
  have bel : Below w.heap.size w (w.alloc (.cells #[.int .i64 y, .int .i64 m, .int .i64 d, .int .i64 h, .int .i64 i, .int .i64 s] 26)) := rbel_al (Below.refl _ _)
  have cC := fun u (hu : Below w.heap.size w u) => check_all a n cap q u (hH.on hu)
  rw [hE, errc_zero] at cC
  have cN := fun u (hu : Below w.heap.size w u) => (civ0 he).numOk o u hu
  have cK := fun u (hu : Below w.heap.size w u) => hands_any y m d h i s u (hN.below hu)
  rw [eH_no o2, errc_not (by decide)] at cK
  clear hH he
  go_enter Tryd.func8, Tryd.ntmps8
  go_wp2_with (first | (go_at_call 23; refine (cC _ bel).mono ?_; rintro r u ⟨rfl, hb⟩; have hw : Below w.heap.size w u := rbel_on hb bel; have P0 : Row u w.heap.size [.int .i64 y, .int .i64 m, .int .i64 d, .int .i64 h, .int .i64 i, .int .i64 s] := Row.on hb (Row.made rfl); have c0 := P0.c 0 _ rfl; have c1 := P0.c 1 _ rfl; have c2 := P0.c 2 _ rfl; have c3 := P0.c 3 _ rfl; have c4 := P0.c 4 _ rfl; have c5 := P0.c 5 _ rfl; clear hb) | (go_at_call 10; refine (cN _ hw).mono ?_; rintro r u1 ⟨rfl, hb⟩; have hw1 : Below w.heap.size w u1 := rbel_on hb hw; have P1 : Row u1 w.heap.size [.int .i64 y, .int .i64 m, .int .i64 d, .int .i64 h, .int .i64 i, .int .i64 s] := Row.on hb P0; have k0 := P1.c 0 _ rfl; have k1 := P1.c 1 _ rfl; have k2 := P1.c 2 _ rfl; have k3 := P1.c 3 _ rfl; have k4 := P1.c 4 _ rfl; have k5 := P1.c 5 _ rfl; clear hb) | (go_at_call 20; refine (cK _ hw1).mono ?_; rintro r u2 ⟨rfl, hb⟩; have hw2 : Below w.heap.size w u2 := rbel_on hb hw1; have P2 : Row u2 w.heap.size [.int .i64 y, .int .i64 m, .int .i64 d, .int .i64 h, .int .i64 i, .int .i64 s] := Row.on hb P1; clear hb))
  go_ret2
  exact ⟨rfl, hw2⟩
end Go.Proofs.YthaajbdppmdhaadDoor
