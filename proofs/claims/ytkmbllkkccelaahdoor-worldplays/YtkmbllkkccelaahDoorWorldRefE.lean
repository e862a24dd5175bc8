/- What the document's own world (package noonref2) answers of an act: Ask, refused. -/
import Derived.Test.YtkmbllkkccelaahDoorWorldRefW
namespace Go.Proofs.YtkmbllkkccelaahDoor
open Go.ChangeShapes Go.WideShapes Go.ChangeAt Go.RowKit Go.Joins
set_option linter.unusedVariables false
set_option linter.unusedSimpArgs false

set_option maxRecDepth 100000 in
set_option maxHeartbeats 4000000 in
theorem rdo_ask_a {Ex : List Value} (w u : World) (mb sc rc : Nat) (sa ra : Option Addr) (S : Ws) (v : Value) (x y : Int) (hR : RW Ex w u mb sa sc ra rc S v) (hI : S.I) (hx : ¬ (0 ≤ x ∧ x < S.n)) (hy : ¬ (0 ≤ y ∧ y < S.n)) :
    Calls Tryd.prog 10 #[.pointer (some ⟨mb, 0, none⟩), .agg #[.int .i64 2, .int .i64 x, .int .i64 y]] u fun o w' => o = .returned (.tuple #[.agg #[.int .i64 0, .int .i64 0, .bool false, .int .i64 0, .int .i64 0, .int .i64 0], .bool false, .int .i64 1]) ∧ Below u.heap.size u w' := by
  have HR : Hid (RW Ex w u mb sa sc ra rc S v) := hR
  obtain ⟨va, vcap, ev, hform⟩ := hR.len
  have HF : Hid _ := hform
  have EV : Hid _ := ev
  have lh := hI.un
  have t0 := hI.t0
  have t1 := hI.t1
  have HI : Hid S.I := hI
  have zb : mb < u.heap.size := hR.r.lt
  have c2 := hR.r.c 2 _ rfl
  have c3 := hR.r.c 3 _ rfl
  rw [ev] at c3
  have cH := fun (i : Int) (b : Bool) (W : World) (hW : Below u.heap.size u W) (hb : decide (0 ≤ i ∧ i < S.n) = b) => hb ▸ (RW.on hW hR).has i
  have cnt : Mark 0 := .mk _
  clear hR hI hform ev
  go_enter Tryd.func10, Tryd.ntmps10
  go_wp2_with (first
    | (go_at_call 23; have cq : Mark 0 := cnt; clear cnt cq; have cnt : Mark 1 := .mk _; refine (cH x false _ (rbel_al (rbel_al (Below.refl _ _))) (decide_eq_false (by first | assumption | omega))).mono ?_; rintro o u1 ⟨rfl, hb⟩; have ra1 : Hid (Row u1 u.heap.size [.int .i64 2, .int .i64 x, .int .i64 y]) := Row.on hb (Row.al (Row.made rfl)); have rz1 : Hid (Row u1 (u.heap.size + 1) [.int .i64 0, .int .i64 0, .bool false, .int .i64 0, .int .i64 0, .int .i64 0]) := Row.on hb (Row.made (by simp)); have B1 : Hid (Below u.heap.size u u1) := rbel_on hb (rbel_al (rbel_al (Below.refl _ _))); have sy1 : u.heap.size < u1.heap.size := ra1.out.lt; have x1_2 := ra1.out.c 2 _ rfl; clear hb)
    | (go_at_call 23; have cq : Mark 1 := cnt; clear cnt cq; have cnt : Mark 2 := .mk _; refine (cH y false _ B1.out (decide_eq_false (by first | assumption | omega))).mono ?_; rintro o u2 ⟨rfl, hb⟩; have ra2 : Hid (Row u2 u.heap.size [.int .i64 2, .int .i64 x, .int .i64 y]) := Row.on hb ra1.out; have rz2 : Hid (Row u2 (u.heap.size + 1) [.int .i64 0, .int .i64 0, .bool false, .int .i64 0, .int .i64 0, .int .i64 0]) := Row.on hb rz1.out; have B2 : Hid (Below u.heap.size u u2) := rbel_on hb B1.out; have sz2 : u.heap.size + 1 < u2.heap.size := rz2.out.lt; have z2_0 := rz2.out.c 0 _ rfl; have y2_0 := rz2.out.f 0 _ rfl; have z2_1 := rz2.out.c 1 _ rfl; have y2_1 := rz2.out.f 1 _ rfl; have z2_2 := rz2.out.c 2 _ rfl; have y2_2 := rz2.out.f 2 _ rfl; have z2_3 := rz2.out.c 3 _ rfl; have y2_3 := rz2.out.f 3 _ rfl; have z2_4 := rz2.out.c 4 _ rfl; have y2_4 := rz2.out.f 4 _ rfl; have z2_5 := rz2.out.c 5 _ rfl; have y2_5 := rz2.out.f 5 _ rfl; clear hb))
  exact bodyPost_ret (v := .tuple #[.agg #[.int .i64 0, .int .i64 0, .bool false, .int .i64 0, .int .i64 0, .int .i64 0], .bool false, .int .i64 1]) (by simp [results, Tryd.results10, go_sem, *]) rfl ⟨rfl, (by repeat (first | with_reducible exact Below.refl _ _ | with_reducible exact B2.out | with_reducible exact B1.out | (with_reducible refine rbel_put ?_ ?_; · first | exact Nat.le_refl _ | exact Nat.le_succ _ | omega) | with_reducible refine rbel_al ?_ | with_reducible refine rbel_drn ?_ | with_reducible refine rbel_dr ?_))⟩
set_option maxRecDepth 100000 in
set_option maxHeartbeats 4000000 in
theorem rdo_ask_b {Ex : List Value} (w u : World) (mb sc rc : Nat) (sa ra : Option Addr) (S : Ws) (v : Value) (x y : Int) (hR : RW Ex w u mb sa sc ra rc S v) (hI : S.I) (hx : ¬ (0 ≤ x ∧ x < S.n)) (hy : 0 ≤ y ∧ y < S.n) :
    Calls Tryd.prog 10 #[.pointer (some ⟨mb, 0, none⟩), .agg #[.int .i64 2, .int .i64 x, .int .i64 y]] u fun o w' => o = .returned (.tuple #[.agg #[.int .i64 0, .int .i64 0, .bool false, .int .i64 0, .int .i64 0, .int .i64 0], .bool false, .int .i64 1]) ∧ Below u.heap.size u w' := by
  have HR : Hid (RW Ex w u mb sa sc ra rc S v) := hR
  obtain ⟨va, vcap, ev, hform⟩ := hR.len
  have HF : Hid _ := hform
  have EV : Hid _ := ev
  have lh := hI.un
  have t0 := hI.t0
  have t1 := hI.t1
  have HI : Hid S.I := hI
  have zb : mb < u.heap.size := hR.r.lt
  have c2 := hR.r.c 2 _ rfl
  have c3 := hR.r.c 3 _ rfl
  rw [ev] at c3
  have cH := fun (i : Int) (b : Bool) (W : World) (hW : Below u.heap.size u W) (hb : decide (0 ≤ i ∧ i < S.n) = b) => hb ▸ (RW.on hW hR).has i
  have cnt : Mark 0 := .mk _
  clear hR hI hform ev
  go_enter Tryd.func10, Tryd.ntmps10
  go_wp2_with (first
    | (go_at_call 23; have cq : Mark 0 := cnt; clear cnt cq; have cnt : Mark 1 := .mk _; refine (cH x false _ (rbel_al (rbel_al (Below.refl _ _))) (decide_eq_false (by first | assumption | omega))).mono ?_; rintro o u1 ⟨rfl, hb⟩; have ra1 : Hid (Row u1 u.heap.size [.int .i64 2, .int .i64 x, .int .i64 y]) := Row.on hb (Row.al (Row.made rfl)); have rz1 : Hid (Row u1 (u.heap.size + 1) [.int .i64 0, .int .i64 0, .bool false, .int .i64 0, .int .i64 0, .int .i64 0]) := Row.on hb (Row.made (by simp)); have B1 : Hid (Below u.heap.size u u1) := rbel_on hb (rbel_al (rbel_al (Below.refl _ _))); have sy1 : u.heap.size < u1.heap.size := ra1.out.lt; have x1_2 := ra1.out.c 2 _ rfl; clear hb)
    | (go_at_call 23; have cq : Mark 1 := cnt; clear cnt cq; have cnt : Mark 2 := .mk _; refine (cH y true _ B1.out (decide_eq_true (by first | assumption | omega))).mono ?_; rintro o u2 ⟨rfl, hb⟩; have ra2 : Hid (Row u2 u.heap.size [.int .i64 2, .int .i64 x, .int .i64 y]) := Row.on hb ra1.out; have rz2 : Hid (Row u2 (u.heap.size + 1) [.int .i64 0, .int .i64 0, .bool false, .int .i64 0, .int .i64 0, .int .i64 0]) := Row.on hb rz1.out; have B2 : Hid (Below u.heap.size u u2) := rbel_on hb B1.out; have sz2 : u.heap.size + 1 < u2.heap.size := rz2.out.lt; have z2_0 := rz2.out.c 0 _ rfl; have y2_0 := rz2.out.f 0 _ rfl; have z2_1 := rz2.out.c 1 _ rfl; have y2_1 := rz2.out.f 1 _ rfl; have z2_2 := rz2.out.c 2 _ rfl; have y2_2 := rz2.out.f 2 _ rfl; have z2_3 := rz2.out.c 3 _ rfl; have y2_3 := rz2.out.f 3 _ rfl; have z2_4 := rz2.out.c 4 _ rfl; have y2_4 := rz2.out.f 4 _ rfl; have z2_5 := rz2.out.c 5 _ rfl; have y2_5 := rz2.out.f 5 _ rfl; clear hb))
  exact bodyPost_ret (v := .tuple #[.agg #[.int .i64 0, .int .i64 0, .bool false, .int .i64 0, .int .i64 0, .int .i64 0], .bool false, .int .i64 1]) (by simp [results, Tryd.results10, go_sem, *]) rfl ⟨rfl, (by repeat (first | with_reducible exact Below.refl _ _ | with_reducible exact B2.out | with_reducible exact B1.out | (with_reducible refine rbel_put ?_ ?_; · first | exact Nat.le_refl _ | exact Nat.le_succ _ | omega) | with_reducible refine rbel_al ?_ | with_reducible refine rbel_drn ?_ | with_reducible refine rbel_dr ?_))⟩
set_option maxRecDepth 100000 in
set_option maxHeartbeats 4000000 in
theorem rdo_ask_c {Ex : List Value} (w u : World) (mb sc rc : Nat) (sa ra : Option Addr) (S : Ws) (v : Value) (x y : Int) (hR : RW Ex w u mb sa sc ra rc S v) (hI : S.I) (hx : 0 ≤ x ∧ x < S.n) (hy : ¬ (0 ≤ y ∧ y < S.n)) :
    Calls Tryd.prog 10 #[.pointer (some ⟨mb, 0, none⟩), .agg #[.int .i64 2, .int .i64 x, .int .i64 y]] u fun o w' => o = .returned (.tuple #[.agg #[.int .i64 0, .int .i64 0, .bool false, .int .i64 0, .int .i64 0, .int .i64 0], .bool false, .int .i64 1]) ∧ Below u.heap.size u w' := by
  have HR : Hid (RW Ex w u mb sa sc ra rc S v) := hR
  obtain ⟨va, vcap, ev, hform⟩ := hR.len
  have HF : Hid _ := hform
  have EV : Hid _ := ev
  have lh := hI.un
  have t0 := hI.t0
  have t1 := hI.t1
  have HI : Hid S.I := hI
  have zb : mb < u.heap.size := hR.r.lt
  have c2 := hR.r.c 2 _ rfl
  have c3 := hR.r.c 3 _ rfl
  rw [ev] at c3
  have cH := fun (i : Int) (b : Bool) (W : World) (hW : Below u.heap.size u W) (hb : decide (0 ≤ i ∧ i < S.n) = b) => hb ▸ (RW.on hW hR).has i
  have cnt : Mark 0 := .mk _
  clear hR hI hform ev
  go_enter Tryd.func10, Tryd.ntmps10
  go_wp2_with (first
    | (go_at_call 23; have cq : Mark 0 := cnt; clear cnt cq; have cnt : Mark 1 := .mk _; refine (cH x true _ (rbel_al (rbel_al (Below.refl _ _))) (decide_eq_true (by first | assumption | omega))).mono ?_; rintro o u1 ⟨rfl, hb⟩; have ra1 : Hid (Row u1 u.heap.size [.int .i64 2, .int .i64 x, .int .i64 y]) := Row.on hb (Row.al (Row.made rfl)); have rz1 : Hid (Row u1 (u.heap.size + 1) [.int .i64 0, .int .i64 0, .bool false, .int .i64 0, .int .i64 0, .int .i64 0]) := Row.on hb (Row.made (by simp)); have B1 : Hid (Below u.heap.size u u1) := rbel_on hb (rbel_al (rbel_al (Below.refl _ _))); have sy1 : u.heap.size < u1.heap.size := ra1.out.lt; have x1_2 := ra1.out.c 2 _ rfl; clear hb)
    | (go_at_call 23; have cq : Mark 1 := cnt; clear cnt cq; have cnt : Mark 2 := .mk _; refine (cH y false _ B1.out (decide_eq_false (by first | assumption | omega))).mono ?_; rintro o u2 ⟨rfl, hb⟩; have ra2 : Hid (Row u2 u.heap.size [.int .i64 2, .int .i64 x, .int .i64 y]) := Row.on hb ra1.out; have rz2 : Hid (Row u2 (u.heap.size + 1) [.int .i64 0, .int .i64 0, .bool false, .int .i64 0, .int .i64 0, .int .i64 0]) := Row.on hb rz1.out; have B2 : Hid (Below u.heap.size u u2) := rbel_on hb B1.out; have sz2 : u.heap.size + 1 < u2.heap.size := rz2.out.lt; have z2_0 := rz2.out.c 0 _ rfl; have y2_0 := rz2.out.f 0 _ rfl; have z2_1 := rz2.out.c 1 _ rfl; have y2_1 := rz2.out.f 1 _ rfl; have z2_2 := rz2.out.c 2 _ rfl; have y2_2 := rz2.out.f 2 _ rfl; have z2_3 := rz2.out.c 3 _ rfl; have y2_3 := rz2.out.f 3 _ rfl; have z2_4 := rz2.out.c 4 _ rfl; have y2_4 := rz2.out.f 4 _ rfl; have z2_5 := rz2.out.c 5 _ rfl; have y2_5 := rz2.out.f 5 _ rfl; clear hb))
  exact bodyPost_ret (v := .tuple #[.agg #[.int .i64 0, .int .i64 0, .bool false, .int .i64 0, .int .i64 0, .int .i64 0], .bool false, .int .i64 1]) (by simp [results, Tryd.results10, go_sem, *]) rfl ⟨rfl, (by repeat (first | with_reducible exact Below.refl _ _ | with_reducible exact B2.out | with_reducible exact B1.out | (with_reducible refine rbel_put ?_ ?_; · first | exact Nat.le_refl _ | exact Nat.le_succ _ | omega) | with_reducible refine rbel_al ?_ | with_reducible refine rbel_drn ?_ | with_reducible refine rbel_dr ?_))⟩
set_option maxRecDepth 100000 in
set_option maxHeartbeats 4000000 in
theorem rdo_ask_d {Ex : List Value} (w u : World) (mb sc rc : Nat) (sa ra : Option Addr) (S : Ws) (v : Value) (x : Int) (hR : RW Ex w u mb sa sc ra rc S v) (hI : S.I) (hx : 0 ≤ x ∧ x < S.n) :
    Calls Tryd.prog 10 #[.pointer (some ⟨mb, 0, none⟩), .agg #[.int .i64 2, .int .i64 x, .int .i64 x]] u fun o w' => o = .returned (.tuple #[.agg #[.int .i64 0, .int .i64 0, .bool false, .int .i64 0, .int .i64 0, .int .i64 0], .bool false, .int .i64 3]) ∧ Below u.heap.size u w' := by
  have HR : Hid (RW Ex w u mb sa sc ra rc S v) := hR
  obtain ⟨va, vcap, ev, hform⟩ := hR.len
  have HF : Hid _ := hform
  have EV : Hid _ := ev
  have lh := hI.un
  have t0 := hI.t0
  have t1 := hI.t1
  have HI : Hid S.I := hI
  have zb : mb < u.heap.size := hR.r.lt
  have c2 := hR.r.c 2 _ rfl
  have c3 := hR.r.c 3 _ rfl
  rw [ev] at c3
  have cH := fun (i : Int) (b : Bool) (W : World) (hW : Below u.heap.size u W) (hb : decide (0 ≤ i ∧ i < S.n) = b) => hb ▸ (RW.on hW hR).has i
  have cnt : Mark 0 := .mk _
  clear hR hI hform ev
  go_enter Tryd.func10, Tryd.ntmps10
  go_wp2_with (first
    | (go_at_call 23; have cq : Mark 0 := cnt; clear cnt cq; have cnt : Mark 1 := .mk _; refine (cH x true _ (rbel_al (rbel_al (Below.refl _ _))) (decide_eq_true (by first | assumption | omega))).mono ?_; rintro o u1 ⟨rfl, hb⟩; have ra1 : Hid (Row u1 u.heap.size [.int .i64 2, .int .i64 x, .int .i64 x]) := Row.on hb (Row.al (Row.made rfl)); have rz1 : Hid (Row u1 (u.heap.size + 1) [.int .i64 0, .int .i64 0, .bool false, .int .i64 0, .int .i64 0, .int .i64 0]) := Row.on hb (Row.made (by simp)); have B1 : Hid (Below u.heap.size u u1) := rbel_on hb (rbel_al (rbel_al (Below.refl _ _))); have sy1 : u.heap.size < u1.heap.size := ra1.out.lt; have x1_2 := ra1.out.c 2 _ rfl; clear hb)
    | (go_at_call 23; have cq : Mark 1 := cnt; clear cnt cq; have cnt : Mark 2 := .mk _; refine (cH x true _ B1.out (decide_eq_true (by first | assumption | omega))).mono ?_; rintro o u2 ⟨rfl, hb⟩; have ra2 : Hid (Row u2 u.heap.size [.int .i64 2, .int .i64 x, .int .i64 x]) := Row.on hb ra1.out; have rz2 : Hid (Row u2 (u.heap.size + 1) [.int .i64 0, .int .i64 0, .bool false, .int .i64 0, .int .i64 0, .int .i64 0]) := Row.on hb rz1.out; have B2 : Hid (Below u.heap.size u u2) := rbel_on hb B1.out; have sz2 : u.heap.size + 1 < u2.heap.size := rz2.out.lt; have sy2 : u.heap.size < u2.heap.size := ra2.out.lt; have x2_1 := ra2.out.c 1 _ rfl; have x2_2 := ra2.out.c 2 _ rfl; have z2_0 := rz2.out.c 0 _ rfl; have y2_0 := rz2.out.f 0 _ rfl; have z2_1 := rz2.out.c 1 _ rfl; have y2_1 := rz2.out.f 1 _ rfl; have z2_2 := rz2.out.c 2 _ rfl; have y2_2 := rz2.out.f 2 _ rfl; have z2_3 := rz2.out.c 3 _ rfl; have y2_3 := rz2.out.f 3 _ rfl; have z2_4 := rz2.out.c 4 _ rfl; have y2_4 := rz2.out.f 4 _ rfl; have z2_5 := rz2.out.c 5 _ rfl; have y2_5 := rz2.out.f 5 _ rfl; clear hb))
  exact bodyPost_ret (v := .tuple #[.agg #[.int .i64 0, .int .i64 0, .bool false, .int .i64 0, .int .i64 0, .int .i64 0], .bool false, .int .i64 3]) (by simp [results, Tryd.results10, go_sem, *]) rfl ⟨rfl, (by repeat (first | with_reducible exact Below.refl _ _ | with_reducible exact B2.out | with_reducible exact B1.out | (with_reducible refine rbel_put ?_ ?_; · first | exact Nat.le_refl _ | exact Nat.le_succ _ | omega) | with_reducible refine rbel_al ?_ | with_reducible refine rbel_drn ?_ | with_reducible refine rbel_dr ?_))⟩
set_option maxRecDepth 100000 in
set_option maxHeartbeats 4000000 in
theorem rdo_ask_e {Ex : List Value} (w u : World) (mb sc rc : Nat) (sa ra : Option Addr) (S : Ws) (v : Value) (x y : Int) (hR : RW Ex w u mb sa sc ra rc S v) (hI : S.I) (hx : 0 ≤ x ∧ x < S.n) (hy : 0 ≤ y ∧ y < S.n) (he : ¬ x = y) (hf : 40 ≤ S.under.length) :
    Calls Tryd.prog 10 #[.pointer (some ⟨mb, 0, none⟩), .agg #[.int .i64 2, .int .i64 x, .int .i64 y]] u fun o w' => o = .returned (.tuple #[.agg #[.int .i64 0, .int .i64 0, .bool false, .int .i64 0, .int .i64 0, .int .i64 0], .bool false, .int .i64 4]) ∧ Below u.heap.size u w' := by
  have HR : Hid (RW Ex w u mb sa sc ra rc S v) := hR
  obtain ⟨va, vcap, ev, hform⟩ := hR.len
  have HF : Hid _ := hform
  have EV : Hid _ := ev
  have lh := hI.un
  have t0 := hI.t0
  have t1 := hI.t1
  have HI : Hid S.I := hI
  have zb : mb < u.heap.size := hR.r.lt
  have c2 := hR.r.c 2 _ rfl
  have c3 := hR.r.c 3 _ rfl
  rw [ev] at c3
  have cH := fun (i : Int) (b : Bool) (W : World) (hW : Below u.heap.size u W) (hb : decide (0 ≤ i ∧ i < S.n) = b) => hb ▸ (RW.on hW hR).has i
  have cnt : Mark 0 := .mk _
  clear hR hI hform ev
  have e1 : (x == y) = false := by simp; exact he
  have d1 : (40 : Int) ≤ (S.under.length : Int) := by omega
  have d2 : decide ((40 : Int) ≤ (S.under.length : Int)) = true := decide_eq_true d1
  go_enter Tryd.func10, Tryd.ntmps10
  go_wp2_with (first
    | (go_at_call 23; have cq : Mark 0 := cnt; clear cnt cq; have cnt : Mark 1 := .mk _; refine (cH x true _ (rbel_al (rbel_al (Below.refl _ _))) (decide_eq_true (by first | assumption | omega))).mono ?_; rintro o u1 ⟨rfl, hb⟩; have ra1 : Hid (Row u1 u.heap.size [.int .i64 2, .int .i64 x, .int .i64 y]) := Row.on hb (Row.al (Row.made rfl)); have rz1 : Hid (Row u1 (u.heap.size + 1) [.int .i64 0, .int .i64 0, .bool false, .int .i64 0, .int .i64 0, .int .i64 0]) := Row.on hb (Row.made (by simp)); have B1 : Hid (Below u.heap.size u u1) := rbel_on hb (rbel_al (rbel_al (Below.refl _ _))); have sy1 : u.heap.size < u1.heap.size := ra1.out.lt; have x1_2 := ra1.out.c 2 _ rfl; clear hb)
    | (go_at_call 23; have cq : Mark 1 := cnt; clear cnt cq; have cnt : Mark 2 := .mk _; refine (cH y true _ B1.out (decide_eq_true (by first | assumption | omega))).mono ?_; rintro o u2 ⟨rfl, hb⟩; have ra2 : Hid (Row u2 u.heap.size [.int .i64 2, .int .i64 x, .int .i64 y]) := Row.on hb ra1.out; have rz2 : Hid (Row u2 (u.heap.size + 1) [.int .i64 0, .int .i64 0, .bool false, .int .i64 0, .int .i64 0, .int .i64 0]) := Row.on hb rz1.out; have B2 : Hid (Below u.heap.size u u2) := rbel_on hb B1.out; have sz2 : u.heap.size + 1 < u2.heap.size := rz2.out.lt; have sy2 : u.heap.size < u2.heap.size := ra2.out.lt; have x2_1 := ra2.out.c 1 _ rfl; have x2_2 := ra2.out.c 2 _ rfl; have mrow2 := (RW.on B2.out HR.out).r; have mc2 := mrow2.c 3 _ rfl; have zb2 := mrow2.lt; rw [EV.out] at mc2; clear mrow2; have z2_0 := rz2.out.c 0 _ rfl; have y2_0 := rz2.out.f 0 _ rfl; have z2_1 := rz2.out.c 1 _ rfl; have y2_1 := rz2.out.f 1 _ rfl; have z2_2 := rz2.out.c 2 _ rfl; have y2_2 := rz2.out.f 2 _ rfl; have z2_3 := rz2.out.c 3 _ rfl; have y2_3 := rz2.out.f 3 _ rfl; have z2_4 := rz2.out.c 4 _ rfl; have y2_4 := rz2.out.f 4 _ rfl; have z2_5 := rz2.out.c 5 _ rfl; have y2_5 := rz2.out.f 5 _ rfl; clear hb))
  exact bodyPost_ret (v := .tuple #[.agg #[.int .i64 0, .int .i64 0, .bool false, .int .i64 0, .int .i64 0, .int .i64 0], .bool false, .int .i64 4]) (by simp [results, Tryd.results10, go_sem, *]) rfl ⟨rfl, (by repeat (first | with_reducible exact Below.refl _ _ | with_reducible exact B2.out | with_reducible exact B1.out | (with_reducible refine rbel_put ?_ ?_; · first | exact Nat.le_refl _ | exact Nat.le_succ _ | omega) | with_reducible refine rbel_al ?_ | with_reducible refine rbel_drn ?_ | with_reducible refine rbel_dr ?_))⟩
end Go.Proofs.YtkmbllkkccelaahDoor
