/- What the document's own world (package noonref2) answers of an act: Ask, refused. What the document's own world (package noonref2) answers of an act: Repeat. -/
import Derived.Test.YtnagdjipmpjaaaiGreatDoorNm23
namespace Go.Proofs.YtnagdjipmpjaaaiGreatDoor
open Go.ChangeShapes Go.WideShapes Go.ChangeAt Go.RowKit Go.Joins
set_option linter.unusedVariables false
set_option linter.unusedSimpArgs false

set_option maxRecDepth 100000 in
set_option maxHeartbeats 4000000 in
theorem rdo_ask_a {Ex : List Value} (w u : World) (mb sc rc : Nat) (sa ra : Option Addr) (S : Ws) (v : Value) (x y : Int) (hR : RW Ex w u mb sa sc ra rc S v) (hI : S.I) (hx : ¬ (0 ≤ x ∧ x < S.n)) (hy : ¬ (0 ≤ y ∧ y < S.n)) :
    Calls Tryz.prog 31 #[.pointer (some ⟨mb, 0, none⟩), .agg #[.int .i64 2, .int .i64 x, .int .i64 y]] u fun o w' => o = .returned (.tuple #[.agg #[.int .i64 0, .int .i64 0, .bool false, .int .i64 0, .int .i64 0, .int .i64 0], .bool false, .int .i64 1]) ∧ Below u.heap.size u w' := by
  have HR : Hid (RW Ex w u mb sa sc ra rc S v) := hR
  obtain ⟨va, vcap, ev, hform⟩ := hR.len
  have HF : Hid _ := hform
  have EV : Hid _ := ev
  have lh := hI.un
  have t0 := hI.t0
  have t1 := hI.t1
  have HI : Hid S.I := hI
  have zb : mb < u.heap.size := hR.r.lt
  have c2 := hR.r.c 2 _ rfl
  have c3 := hR.r.c 3 _ rfl
  rw [ev] at c3
  have cH := fun (i : Int) (b : Bool) (W : World) (hW : Below u.heap.size u W) (hb : decide (0 ≤ i ∧ i < S.n) = b) => hb ▸ (RW.on hW hR).has i
  have cnt : Mark 0 := .mk _
  clear hR hI hform ev
  go_enter Tryz.func31, Tryz.ntmps31
  go_wp2_with (first
    | (go_at_call 55; have cq : Mark 0 := cnt; clear cnt cq; have cnt : Mark 1 := .mk _; refine (cH x false _ (rbel_al (rbel_al (Below.refl _ _))) (decide_eq_false (by first | assumption | omega))).mono ?_; rintro o u1 ⟨rfl, hb⟩; have ra1 : Hid (Row u1 u.heap.size [.int .i64 2, .int .i64 x, .int .i64 y]) := Row.on hb (Row.al (Row.made rfl)); have rz1 : Hid (Row u1 (u.heap.size + 1) [.int .i64 0, .int .i64 0, .bool false, .int .i64 0, .int .i64 0, .int .i64 0]) := Row.on hb (Row.made (by simp)); have B1 : Hid (Below u.heap.size u u1) := rbel_on hb (rbel_al (rbel_al (Below.refl _ _))); have sy1 : u.heap.size < u1.heap.size := ra1.out.lt; have x1_2 := ra1.out.c 2 _ rfl; clear hb)
    | (go_at_call 55; have cq : Mark 1 := cnt; clear cnt cq; have cnt : Mark 2 := .mk _; refine (cH y false _ B1.out (decide_eq_false (by first | assumption | omega))).mono ?_; rintro o u2 ⟨rfl, hb⟩; have ra2 : Hid (Row u2 u.heap.size [.int .i64 2, .int .i64 x, .int .i64 y]) := Row.on hb ra1.out; have rz2 : Hid (Row u2 (u.heap.size + 1) [.int .i64 0, .int .i64 0, .bool false, .int .i64 0, .int .i64 0, .int .i64 0]) := Row.on hb rz1.out; have B2 : Hid (Below u.heap.size u u2) := rbel_on hb B1.out; have sz2 : u.heap.size + 1 < u2.heap.size := rz2.out.lt; have z2_0 := rz2.out.c 0 _ rfl; have y2_0 := rz2.out.f 0 _ rfl; have z2_1 := rz2.out.c 1 _ rfl; have y2_1 := rz2.out.f 1 _ rfl; have z2_2 := rz2.out.c 2 _ rfl; have y2_2 := rz2.out.f 2 _ rfl; have z2_3 := rz2.out.c 3 _ rfl; have y2_3 := rz2.out.f 3 _ rfl; have z2_4 := rz2.out.c 4 _ rfl; have y2_4 := rz2.out.f 4 _ rfl; have z2_5 := rz2.out.c 5 _ rfl; have y2_5 := rz2.out.f 5 _ rfl; clear hb))
  exact bodyPost_ret (v := .tuple #[.agg #[.int .i64 0, .int .i64 0, .bool false, .int .i64 0, .int .i64 0, .int .i64 0], .bool false, .int .i64 1]) (by simp [results, Tryz.results31, go_sem, *]) rfl ⟨rfl, (by repeat (first | with_reducible exact Below.refl _ _ | with_reducible exact B2.out | with_reducible exact B1.out | (with_reducible refine rbel_put ?_ ?_; · first | exact Nat.le_refl _ | exact Nat.le_succ _ | omega) | with_reducible refine rbel_al ?_ | with_reducible refine rbel_drn ?_ | with_reducible refine rbel_dr ?_))⟩
set_option maxRecDepth 100000 in
set_option maxHeartbeats 4000000 in
theorem rdo_ask_b {Ex : List Value} (w u : World) (mb sc rc : Nat) (sa ra : Option Addr) (S : Ws) (v : Value) (x y : Int) (hR : RW Ex w u mb sa sc ra rc S v) (hI : S.I) (hx : ¬ (0 ≤ x ∧ x < S.n)) (hy : 0 ≤ y ∧ y < S.n) :
    Calls Tryz.prog 31 #[.pointer (some ⟨mb, 0, none⟩), .agg #[.int .i64 2, .int .i64 x, .int .i64 y]] u fun o w' => o = .returned (.tuple #[.agg #[.int .i64 0, .int .i64 0, .bool false, .int .i64 0, .int .i64 0, .int .i64 0], .bool false, .int .i64 1]) ∧ Below u.heap.size u w' := by
  have HR : Hid (RW Ex w u mb sa sc ra rc S v) := hR
  obtain ⟨va, vcap, ev, hform⟩ := hR.len
  have HF : Hid _ := hform
  have EV : Hid _ := ev
  have lh := hI.un
  have t0 := hI.t0
  have t1 := hI.t1
  have HI : Hid S.I := hI
  have zb : mb < u.heap.size := hR.r.lt
  have c2 := hR.r.c 2 _ rfl
  have c3 := hR.r.c 3 _ rfl
  rw [ev] at c3
  have cH := fun (i : Int) (b : Bool) (W : World) (hW : Below u.heap.size u W) (hb : decide (0 ≤ i ∧ i < S.n) = b) => hb ▸ (RW.on hW hR).has i
  have cnt : Mark 0 := .mk _
  clear hR hI hform ev
  go_enter Tryz.func31, Tryz.ntmps31
  go_wp2_with (first
    | (go_at_call 55; have cq : Mark 0 := cnt; clear cnt cq; have cnt : Mark 1 := .mk _; refine (cH x false _ (rbel_al (rbel_al (Below.refl _ _))) (decide_eq_false (by first | assumption | omega))).mono ?_; rintro o u1 ⟨rfl, hb⟩; have ra1 : Hid (Row u1 u.heap.size [.int .i64 2, .int .i64 x, .int .i64 y]) := Row.on hb (Row.al (Row.made rfl)); have rz1 : Hid (Row u1 (u.heap.size + 1) [.int .i64 0, .int .i64 0, .bool false, .int .i64 0, .int .i64 0, .int .i64 0]) := Row.on hb (Row.made (by simp)); have B1 : Hid (Below u.heap.size u u1) := rbel_on hb (rbel_al (rbel_al (Below.refl _ _))); have sy1 : u.heap.size < u1.heap.size := ra1.out.lt; have x1_2 := ra1.out.c 2 _ rfl; clear hb)
    | (go_at_call 55; have cq : Mark 1 := cnt; clear cnt cq; have cnt : Mark 2 := .mk _; refine (cH y true _ B1.out (decide_eq_true (by first | assumption | omega))).mono ?_; rintro o u2 ⟨rfl, hb⟩; have ra2 : Hid (Row u2 u.heap.size [.int .i64 2, .int .i64 x, .int .i64 y]) := Row.on hb ra1.out; have rz2 : Hid (Row u2 (u.heap.size + 1) [.int .i64 0, .int .i64 0, .bool false, .int .i64 0, .int .i64 0, .int .i64 0]) := Row.on hb rz1.out; have B2 : Hid (Below u.heap.size u u2) := rbel_on hb B1.out; have sz2 : u.heap.size + 1 < u2.heap.size := rz2.out.lt; have z2_0 := rz2.out.c 0 _ rfl; have y2_0 := rz2.out.f 0 _ rfl; have z2_1 := rz2.out.c 1 _ rfl; have y2_1 := rz2.out.f 1 _ rfl; have z2_2 := rz2.out.c 2 _ rfl; have y2_2 := rz2.out.f 2 _ rfl; have z2_3 := rz2.out.c 3 _ rfl; have y2_3 := rz2.out.f 3 _ rfl; have z2_4 := rz2.out.c 4 _ rfl; have y2_4 := rz2.out.f 4 _ rfl; have z2_5 := rz2.out.c 5 _ rfl; have y2_5 := rz2.out.f 5 _ rfl; clear hb))
  exact bodyPost_ret (v := .tuple #[.agg #[.int .i64 0, .int .i64 0, .bool false, .int .i64 0, .int .i64 0, .int .i64 0], .bool false, .int .i64 1]) (by simp [results, Tryz.results31, go_sem, *]) rfl ⟨rfl, (by repeat (first | with_reducible exact Below.refl _ _ | with_reducible exact B2.out | with_reducible exact B1.out | (with_reducible refine rbel_put ?_ ?_; · first | exact Nat.le_refl _ | exact Nat.le_succ _ | omega) | with_reducible refine rbel_al ?_ | with_reducible refine rbel_drn ?_ | with_reducible refine rbel_dr ?_))⟩
set_option maxRecDepth 100000 in
set_option maxHeartbeats 4000000 in
theorem rdo_ask_c {Ex : List Value} (w u : World) (mb sc rc : Nat) (sa ra : Option Addr) (S : Ws) (v : Value) (x y : Int) (hR : RW Ex w u mb sa sc ra rc S v) (hI : S.I) (hx : 0 ≤ x ∧ x < S.n) (hy : ¬ (0 ≤ y ∧ y < S.n)) :
    Calls Tryz.prog 31 #[.pointer (some ⟨mb, 0, none⟩), .agg #[.int .i64 2, .int .i64 x, .int .i64 y]] u fun o w' => o = .returned (.tuple #[.agg #[.int .i64 0, .int .i64 0, .bool false, .int .i64 0, .int .i64 0, .int .i64 0], .bool false, .int .i64 1]) ∧ Below u.heap.size u w' := by
  have HR : Hid (RW Ex w u mb sa sc ra rc S v) := hR
  obtain ⟨va, vcap, ev, hform⟩ := hR.len
  have HF : Hid _ := hform
  have EV : Hid _ := ev
  have lh := hI.un
  have t0 := hI.t0
  have t1 := hI.t1
  have HI : Hid S.I := hI
  have zb : mb < u.heap.size := hR.r.lt
  have c2 := hR.r.c 2 _ rfl
  have c3 := hR.r.c 3 _ rfl
  rw [ev] at c3
  have cH := fun (i : Int) (b : Bool) (W : World) (hW : Below u.heap.size u W) (hb : decide (0 ≤ i ∧ i < S.n) = b) => hb ▸ (RW.on hW hR).has i
  have cnt : Mark 0 := .mk _
  clear hR hI hform ev
  go_enter Tryz.func31, Tryz.ntmps31
  go_wp2_with (first
    | (go_at_call 55; have cq : Mark 0 := cnt; clear cnt cq; have cnt : Mark 1 := .mk _; refine (cH x true _ (rbel_al (rbel_al (Below.refl _ _))) (decide_eq_true (by first | assumption | omega))).mono ?_; rintro o u1 ⟨rfl, hb⟩; have ra1 : Hid (Row u1 u.heap.size [.int .i64 2, .int .i64 x, .int .i64 y]) := Row.on hb (Row.al (Row.made rfl)); have rz1 : Hid (Row u1 (u.heap.size + 1) [.int .i64 0, .int .i64 0, .bool false, .int .i64 0, .int .i64 0, .int .i64 0]) := Row.on hb (Row.made (by simp)); have B1 : Hid (Below u.heap.size u u1) := rbel_on hb (rbel_al (rbel_al (Below.refl _ _))); have sy1 : u.heap.size < u1.heap.size := ra1.out.lt; have x1_2 := ra1.out.c 2 _ rfl; clear hb)
    | (go_at_call 55; have cq : Mark 1 := cnt; clear cnt cq; have cnt : Mark 2 := .mk _; refine (cH y false _ B1.out (decide_eq_false (by first | assumption | omega))).mono ?_; rintro o u2 ⟨rfl, hb⟩; have ra2 : Hid (Row u2 u.heap.size [.int .i64 2, .int .i64 x, .int .i64 y]) := Row.on hb ra1.out; have rz2 : Hid (Row u2 (u.heap.size + 1) [.int .i64 0, .int .i64 0, .bool false, .int .i64 0, .int .i64 0, .int .i64 0]) := Row.on hb rz1.out; have B2 : Hid (Below u.heap.size u u2) := rbel_on hb B1.out; have sz2 : u.heap.size + 1 < u2.heap.size := rz2.out.lt; have z2_0 := rz2.out.c 0 _ rfl; have y2_0 := rz2.out.f 0 _ rfl; have z2_1 := rz2.out.c 1 _ rfl; have y2_1 := rz2.out.f 1 _ rfl; have z2_2 := rz2.out.c 2 _ rfl; have y2_2 := rz2.out.f 2 _ rfl; have z2_3 := rz2.out.c 3 _ rfl; have y2_3 := rz2.out.f 3 _ rfl; have z2_4 := rz2.out.c 4 _ rfl; have y2_4 := rz2.out.f 4 _ rfl; have z2_5 := rz2.out.c 5 _ rfl; have y2_5 := rz2.out.f 5 _ rfl; clear hb))
  exact bodyPost_ret (v := .tuple #[.agg #[.int .i64 0, .int .i64 0, .bool false, .int .i64 0, .int .i64 0, .int .i64 0], .bool false, .int .i64 1]) (by simp [results, Tryz.results31, go_sem, *]) rfl ⟨rfl, (by repeat (first | with_reducible exact Below.refl _ _ | with_reducible exact B2.out | with_reducible exact B1.out | (with_reducible refine rbel_put ?_ ?_; · first | exact Nat.le_refl _ | exact Nat.le_succ _ | omega) | with_reducible refine rbel_al ?_ | with_reducible refine rbel_drn ?_ | with_reducible refine rbel_dr ?_))⟩
set_option maxRecDepth 100000 in
set_option maxHeartbeats 4000000 in
theorem rdo_ask_d {Ex : List Value} (w u : World) (mb sc rc : Nat) (sa ra : Option Addr) (S : Ws) (v : Value) (x : Int) (hR : RW Ex w u mb sa sc ra rc S v) (hI : S.I) (hx : 0 ≤ x ∧ x < S.n) :
    Calls Tryz.prog 31 #[.pointer (some ⟨mb, 0, none⟩), .agg #[.int .i64 2, .int .i64 x, .int .i64 x]] u fun o w' => o = .returned (.tuple #[.agg #[.int .i64 0, .int .i64 0, .bool false, .int .i64 0, .int .i64 0, .int .i64 0], .bool false, .int .i64 3]) ∧ Below u.heap.size u w' := by
  have HR : Hid (RW Ex w u mb sa sc ra rc S v) := hR
  obtain ⟨va, vcap, ev, hform⟩ := hR.len
  have HF : Hid _ := hform
  have EV : Hid _ := ev
  have lh := hI.un
  have t0 := hI.t0
  have t1 := hI.t1
  have HI : Hid S.I := hI
  have zb : mb < u.heap.size := hR.r.lt
  have c2 := hR.r.c 2 _ rfl
  have c3 := hR.r.c 3 _ rfl
  rw [ev] at c3
  have cH := fun (i : Int) (b : Bool) (W : World) (hW : Below u.heap.size u W) (hb : decide (0 ≤ i ∧ i < S.n) = b) => hb ▸ (RW.on hW hR).has i
  have cnt : Mark 0 := .mk _
  clear hR hI hform ev
  go_enter Tryz.func31, Tryz.ntmps31
  go_wp2_with (first
    | (go_at_call 55; have cq : Mark 0 := cnt; clear cnt cq; have cnt : Mark 1 := .mk _; refine (cH x true _ (rbel_al (rbel_al (Below.refl _ _))) (decide_eq_true (by first | assumption | omega))).mono ?_; rintro o u1 ⟨rfl, hb⟩; have ra1 : Hid (Row u1 u.heap.size [.int .i64 2, .int .i64 x, .int .i64 x]) := Row.on hb (Row.al (Row.made rfl)); have rz1 : Hid (Row u1 (u.heap.size + 1) [.int .i64 0, .int .i64 0, .bool false, .int .i64 0, .int .i64 0, .int .i64 0]) := Row.on hb (Row.made (by simp)); have B1 : Hid (Below u.heap.size u u1) := rbel_on hb (rbel_al (rbel_al (Below.refl _ _))); have sy1 : u.heap.size < u1.heap.size := ra1.out.lt; have x1_2 := ra1.out.c 2 _ rfl; clear hb)
    | (go_at_call 55; have cq : Mark 1 := cnt; clear cnt cq; have cnt : Mark 2 := .mk _; refine (cH x true _ B1.out (decide_eq_true (by first | assumption | omega))).mono ?_; rintro o u2 ⟨rfl, hb⟩; have ra2 : Hid (Row u2 u.heap.size [.int .i64 2, .int .i64 x, .int .i64 x]) := Row.on hb ra1.out; have rz2 : Hid (Row u2 (u.heap.size + 1) [.int .i64 0, .int .i64 0, .bool false, .int .i64 0, .int .i64 0, .int .i64 0]) := Row.on hb rz1.out; have B2 : Hid (Below u.heap.size u u2) := rbel_on hb B1.out; have sz2 : u.heap.size + 1 < u2.heap.size := rz2.out.lt; have sy2 : u.heap.size < u2.heap.size := ra2.out.lt; have x2_1 := ra2.out.c 1 _ rfl; have x2_2 := ra2.out.c 2 _ rfl; have z2_0 := rz2.out.c 0 _ rfl; have y2_0 := rz2.out.f 0 _ rfl; have z2_1 := rz2.out.c 1 _ rfl; have y2_1 := rz2.out.f 1 _ rfl; have z2_2 := rz2.out.c 2 _ rfl; have y2_2 := rz2.out.f 2 _ rfl; have z2_3 := rz2.out.c 3 _ rfl; have y2_3 := rz2.out.f 3 _ rfl; have z2_4 := rz2.out.c 4 _ rfl; have y2_4 := rz2.out.f 4 _ rfl; have z2_5 := rz2.out.c 5 _ rfl; have y2_5 := rz2.out.f 5 _ rfl; clear hb))
  exact bodyPost_ret (v := .tuple #[.agg #[.int .i64 0, .int .i64 0, .bool false, .int .i64 0, .int .i64 0, .int .i64 0], .bool false, .int .i64 3]) (by simp [results, Tryz.results31, go_sem, *]) rfl ⟨rfl, (by repeat (first | with_reducible exact Below.refl _ _ | with_reducible exact B2.out | with_reducible exact B1.out | (with_reducible refine rbel_put ?_ ?_; · first | exact Nat.le_refl _ | exact Nat.le_succ _ | omega) | with_reducible refine rbel_al ?_ | with_reducible refine rbel_drn ?_ | with_reducible refine rbel_dr ?_))⟩
set_option maxRecDepth 100000 in
set_option maxHeartbeats 4000000 in
theorem rdo_ask_e {Ex : List Value} (w u : World) (mb sc rc : Nat) (sa ra : Option Addr) (S : Ws) (v : Value) (x y : Int) (hR : RW Ex w u mb sa sc ra rc S v) (hI : S.I) (hx : 0 ≤ x ∧ x < S.n) (hy : 0 ≤ y ∧ y < S.n) (he : ¬ x = y) (hf : 40 ≤ S.under.length) :
    Calls Tryz.prog 31 #[.pointer (some ⟨mb, 0, none⟩), .agg #[.int .i64 2, .int .i64 x, .int .i64 y]] u fun o w' => o = .returned (.tuple #[.agg #[.int .i64 0, .int .i64 0, .bool false, .int .i64 0, .int .i64 0, .int .i64 0], .bool false, .int .i64 4]) ∧ Below u.heap.size u w' := by
  have HR : Hid (RW Ex w u mb sa sc ra rc S v) := hR
  obtain ⟨va, vcap, ev, hform⟩ := hR.len
  have HF : Hid _ := hform
  have EV : Hid _ := ev
  have lh := hI.un
  have t0 := hI.t0
  have t1 := hI.t1
  have HI : Hid S.I := hI
  have zb : mb < u.heap.size := hR.r.lt
  have c2 := hR.r.c 2 _ rfl
  have c3 := hR.r.c 3 _ rfl
  rw [ev] at c3
  have cH := fun (i : Int) (b : Bool) (W : World) (hW : Below u.heap.size u W) (hb : decide (0 ≤ i ∧ i < S.n) = b) => hb ▸ (RW.on hW hR).has i
  have cnt : Mark 0 := .mk _
  clear hR hI hform ev
  have e1 : (x == y) = false := by simp; exact he
  have d1 : (40 : Int) ≤ (S.under.length : Int) := by omega
  have d2 : decide ((40 : Int) ≤ (S.under.length : Int)) = true := decide_eq_true d1
  go_enter Tryz.func31, Tryz.ntmps31
  go_wp2_with (first
    | (go_at_call 55; have cq : Mark 0 := cnt; clear cnt cq; have cnt : Mark 1 := .mk _; refine (cH x true _ (rbel_al (rbel_al (Below.refl _ _))) (decide_eq_true (by first | assumption | omega))).mono ?_; rintro o u1 ⟨rfl, hb⟩; have ra1 : Hid (Row u1 u.heap.size [.int .i64 2, .int .i64 x, .int .i64 y]) := Row.on hb (Row.al (Row.made rfl)); have rz1 : Hid (Row u1 (u.heap.size + 1) [.int .i64 0, .int .i64 0, .bool false, .int .i64 0, .int .i64 0, .int .i64 0]) := Row.on hb (Row.made (by simp)); have B1 : Hid (Below u.heap.size u u1) := rbel_on hb (rbel_al (rbel_al (Below.refl _ _))); have sy1 : u.heap.size < u1.heap.size := ra1.out.lt; have x1_2 := ra1.out.c 2 _ rfl; clear hb)
    | (go_at_call 55; have cq : Mark 1 := cnt; clear cnt cq; have cnt : Mark 2 := .mk _; refine (cH y true _ B1.out (decide_eq_true (by first | assumption | omega))).mono ?_; rintro o u2 ⟨rfl, hb⟩; have ra2 : Hid (Row u2 u.heap.size [.int .i64 2, .int .i64 x, .int .i64 y]) := Row.on hb ra1.out; have rz2 : Hid (Row u2 (u.heap.size + 1) [.int .i64 0, .int .i64 0, .bool false, .int .i64 0, .int .i64 0, .int .i64 0]) := Row.on hb rz1.out; have B2 : Hid (Below u.heap.size u u2) := rbel_on hb B1.out; have sz2 : u.heap.size + 1 < u2.heap.size := rz2.out.lt; have sy2 : u.heap.size < u2.heap.size := ra2.out.lt; have x2_1 := ra2.out.c 1 _ rfl; have x2_2 := ra2.out.c 2 _ rfl; have mrow2 := (RW.on B2.out HR.out).r; have mc2 := mrow2.c 3 _ rfl; have zb2 := mrow2.lt; rw [EV.out] at mc2; clear mrow2; have z2_0 := rz2.out.c 0 _ rfl; have y2_0 := rz2.out.f 0 _ rfl; have z2_1 := rz2.out.c 1 _ rfl; have y2_1 := rz2.out.f 1 _ rfl; have z2_2 := rz2.out.c 2 _ rfl; have y2_2 := rz2.out.f 2 _ rfl; have z2_3 := rz2.out.c 3 _ rfl; have y2_3 := rz2.out.f 3 _ rfl; have z2_4 := rz2.out.c 4 _ rfl; have y2_4 := rz2.out.f 4 _ rfl; have z2_5 := rz2.out.c 5 _ rfl; have y2_5 := rz2.out.f 5 _ rfl; clear hb))
  exact bodyPost_ret (v := .tuple #[.agg #[.int .i64 0, .int .i64 0, .bool false, .int .i64 0, .int .i64 0, .int .i64 0], .bool false, .int .i64 4]) (by simp [results, Tryz.results31, go_sem, *]) rfl ⟨rfl, (by repeat (first | with_reducible exact Below.refl _ _ | with_reducible exact B2.out | with_reducible exact B1.out | (with_reducible refine rbel_put ?_ ?_; · first | exact Nat.le_refl _ | exact Nat.le_succ _ | omega) | with_reducible refine rbel_al ?_ | with_reducible refine rbel_drn ?_ | with_reducible refine rbel_dr ?_))⟩
end Go.Proofs.YtnagdjipmpjaaaiGreatDoor
namespace Go.Proofs.YtnagdjipmpjaaaiGreatDoor
open Go.ChangeShapes Go.WideShapes Go.ChangeAt Go.RowKit Go.Joins
set_option linter.unusedVariables false
set_option linter.unusedSimpArgs false

theorem six_bel {u W : World} {b : Nat} {a0 a1 a2 a3 a4 a5 : Value} (hb : u.heap.size ≤ b) (h : Below u.heap.size u W) : Below u.heap.size u (six W b a0 a1 a2 a3 a4 a5) :=
  rbel_put hb (rbel_put hb (rbel_put hb (rbel_put hb (rbel_put hb (rbel_put hb h)))))
set_option maxRecDepth 100000 in
set_option maxHeartbeats 4000000 in
theorem rdo_repeat {Ex : List Value} (w u : World) (mb sc rc : Nat) (sa ra : Option Addr) (S : Ws) (v : Value) (x y : Int) (hR : RW Ex w u mb sa sc ra rc S v) (hI : S.I) (l : Lt) (k : Nat) (hk : S.under[k]? = some l) (ex : x = k) :
    Calls Tryz.prog 31 #[.pointer (some ⟨mb, 0, none⟩), .agg #[.int .i64 5, .int .i64 x, .int .i64 y]] u fun o w' => ∃ v', o = .returned (.tuple #[.agg #[.int .i64 l.frm, .int .i64 l.to, .bool l.ans, .int .i64 l.t1, .int .i64 l.t2, .int .i64 l.t], .bool true, .int .i64 0]) ∧ RW Ex w w' mb sa sc ra rc S v' ∧ Kp u w' mb v v' := by
  obtain ⟨va, vcap, rfl, hform⟩ := hR.len
  have kl : k < S.under.length := by
    rcases Nat.lt_or_ge k S.under.length with h | h
    · exact h
    · rw [List.getElem?_eq_none h] at hk; cases hk
  obtain ⟨g, rfl, gc, gl, gu, gm, gL⟩ := hform.resolve_left (fun h => by rw [h.2.1] at kl; exact absurd kl (by simp))
  have HR : Hid (RW Ex w u mb sa sc ra rc S (.slice (some ⟨g, 0, none⟩) S.under.length vcap)) := hR
  have HL : Hid (Lts u g 0 S.under) := gL
  have c3 := hR.r.c 3 _ rfl
  have f3 := hR.r.f 3 _ rfl
  have zb : mb < u.heap.size := hR.r.lt
  have lh := hI.un
  have LL := gL k l hk
  obtain ⟨l1, l2, l3, l4, l5, l6⟩ := l
  have a0 : u.cell? ⟨g, k * 6, none⟩ = some (.int .i64 l1) := by have := LL 0 _ rfl; simpa using this
  have a1 : u.cell? ⟨g, k * 6 + 1, none⟩ = some (.int .i64 l2) := by have := LL 1 _ rfl; simpa using this
  have a2 : u.cell? ⟨g, k * 6 + 2, none⟩ = some (.bool l3) := by have := LL 2 _ rfl; simpa using this
  have a3 : u.cell? ⟨g, k * 6 + 3, none⟩ = some (.int .i64 l4) := by have := LL 3 _ rfl; simpa using this
  have a4 : u.cell? ⟨g, k * 6 + 4, none⟩ = some (.int .i64 l5) := by have := LL 4 _ rfl; simpa using this
  have a5 : u.cell? ⟨g, k * 6 + 5, none⟩ = some (.int .i64 l6) := by have := LL 5 _ rfl; simpa using this
  subst ex
  have d1 : decide ((k : Int) < 0) = false := decide_eq_false (by omega)
  have d2 : decide ((S.under.length : Int) ≤ (k : Int)) = false := decide_eq_false (by omega)
  have d3 : (k : Int) < (S.under.length : Int) := by omega
  have hwsz := hR.hw.size
  clear hR hI gL LL
  clear hk
  go_enter Tryz.func31, Tryz.ntmps31
  go_wp2
  go_quiet (fail)
  go_wp2
  have BW : Hid (Below u.heap.size u (((u.alloc (Obj.cells #[.int .i64 5, .int .i64 (k : Int), .int .i64 y] 35)).alloc (Obj.cells #[.int .i64 0, .int .i64 0, .bool false, .int .i64 0, .int .i64 0, .int .i64 0] 98)).drewN nq)) := rbel_drn (rbel_al (rbel_al (Below.refl _ _)))
  have RA : Hid (Row (((u.alloc (Obj.cells #[.int .i64 5, .int .i64 (k : Int), .int .i64 y] 35)).alloc (Obj.cells #[.int .i64 0, .int .i64 0, .bool false, .int .i64 0, .int .i64 0, .int .i64 0] 98)).drewN nq) u.heap.size [.int .i64 5, .int .i64 (k : Int), .int .i64 y]) := Row.drn (Row.al (Row.made rfl))
  have RZ : Hid (Row (((u.alloc (Obj.cells #[.int .i64 5, .int .i64 (k : Int), .int .i64 y] 35)).alloc (Obj.cells #[.int .i64 0, .int .i64 0, .bool false, .int .i64 0, .int .i64 0, .int .i64 0] 98)).drewN nq) (u.heap.size + 1) [.int .i64 0, .int .i64 0, .bool false, .int .i64 0, .int .i64 0, .int .i64 0]) := Row.drn (Row.made (by simp))
  generalize ((u.alloc (Obj.cells #[.int .i64 5, .int .i64 (k : Int), .int .i64 y] 35)).alloc (Obj.cells #[.int .i64 0, .int .i64 0, .bool false, .int .i64 0, .int .i64 0, .int .i64 0] 98)).drewN nq = W at *
  have HW : Hid (RW Ex w W mb sa sc ra rc S (.slice (some ⟨g, 0, none⟩) S.under.length vcap)) := RW.on BW.out HR.out
  have sw : u.heap.size + 1 < W.heap.size := RZ.out.lt
  have sw2 : u.heap.size < W.heap.size := by omega
  have gw : g < W.heap.size := by omega
  have mw : mb < W.heap.size := by omega
  have e3 := HW.out.r.c 3 _ rfl
  have h3 := HW.out.r.f 3 _ rfl
  have r0 := RA.out.c 0 _ rfl
  have r1 := RA.out.c 1 _ rfl
  have b0 := (BW.out.cell (p := ⟨g, k * 6, none⟩) gu).trans a0
  have b1 := (BW.out.cell (p := ⟨g, k * 6 + 1, none⟩) gu).trans a1
  have b2 := (BW.out.cell (p := ⟨g, k * 6 + 2, none⟩) gu).trans a2
  have b3 := (BW.out.cell (p := ⟨g, k * 6 + 3, none⟩) gu).trans a3
  have b4 := (BW.out.cell (p := ⟨g, k * 6 + 4, none⟩) gu).trans a4
  have b5 := (BW.out.cell (p := ⟨g, k * 6 + 5, none⟩) gu).trans a5
  have z0 := RZ.out.c 0 _ rfl
  have y0 := RZ.out.f 0 _ rfl
  have z1 := RZ.out.c 1 _ rfl
  have y1 := RZ.out.f 1 _ rfl
  have z2 := RZ.out.c 2 _ rfl
  have y2 := RZ.out.f 2 _ rfl
  have z3 := RZ.out.c 3 _ rfl
  have y3 := RZ.out.f 3 _ rfl
  have z4 := RZ.out.c 4 _ rfl
  have y4 := RZ.out.f 4 _ rfl
  have z5 := RZ.out.c 5 _ rfl
  have y5 := RZ.out.f 5 _ rfl
  clear a0 a1 a2 a3 a4 a5 c3 f3
  go_region
  all_goals
    go_wp2
    exact bodyPost_ret (v := .tuple #[.agg #[.int .i64 l1, .int .i64 l2, .bool l3, .int .i64 l4, .int .i64 l5, .int .i64 l6], .bool true, .int .i64 0]) (by simp [results, Tryz.results31, go_sem, *]) rfl ⟨_, rfl, RW.on (rbel_dr (rbel_al (six_bel (by omega) BW.out))) HR.out, RW.kp (rbel_dr (rbel_al (six_bel (by omega) BW.out)))⟩
end Go.Proofs.YtnagdjipmpjaaaiGreatDoor
