/- What the document's own world (package noonref2) answers of an act: where nothing turns. -/
import Derived.Test.YtnagdjipmpjaaaiGreatDoorNm23
namespace Go.Proofs.YtnagdjipmpjaaaiGreatDoor
open Go.ChangeShapes Go.WideShapes Go.ChangeAt Go.RowKit Go.Joins
set_option linter.unusedVariables false
set_option linter.unusedSimpArgs false

set_option maxRecDepth 100000 in
set_option maxHeartbeats 4000000 in
theorem rdo_none {Ex : List Value} (w u : World) (mb sc rc : Nat) (sa ra : Option Addr) (S : Ws) (v : Value) (x y : Int) (hR : RW Ex w u mb sa sc ra rc S v) (hI : S.I) (wh : Int) (hwh : wh < 1 ∨ 5 < wh) :
    Calls Tryz.prog 31 #[.pointer (some ⟨mb, 0, none⟩), .agg #[.int .i64 wh, .int .i64 x, .int .i64 y]] u fun o w' => o = .returned (.tuple #[.agg #[.int .i64 0, .int .i64 0, .bool false, .int .i64 0, .int .i64 0, .int .i64 0], .bool false, .int .i64 1]) ∧ Below u.heap.size u w' := by
  have HR : Hid (RW Ex w u mb sa sc ra rc S v) := hR
  obtain ⟨va, vcap, ev, hform⟩ := hR.len
  have HF : Hid _ := hform
  have EV : Hid _ := ev
  have lh := hI.un
  have t0 := hI.t0
  have t1 := hI.t1
  have HI : Hid S.I := hI
  have zb : mb < u.heap.size := hR.r.lt
  have c2 := hR.r.c 2 _ rfl
  have c3 := hR.r.c 3 _ rfl
  rw [ev] at c3
  clear hR hI hform ev
  generalize S.time = T at *
  generalize S.under.length = L at *
  have n1 : ¬ (wh = 1) := by omega
  have n2 : ¬ (wh = 2) := by omega
  have n3 : ¬ (wh = 3) := by omega
  have n4 : ¬ (wh = 4) := by omega
  have n5 : ¬ (wh = 5) := by omega
  have e1 : (wh == 1) = false := by simp; omega
  have e2 : (wh == 2) = false := by simp; omega
  have e3 : (wh == 3) = false := by simp; omega
  have e4 : (wh == 4) = false := by simp; omega
  have e5 : (wh == 5) = false := by simp; omega
  clear hwh
  go_enter Tryz.func31, Tryz.ntmps31
  go_wp2
  exact bodyPost_ret (v := .tuple #[.agg #[.int .i64 0, .int .i64 0, .bool false, .int .i64 0, .int .i64 0, .int .i64 0], .bool false, .int .i64 1]) (by simp [results, Tryz.results31, go_sem, *]) rfl ⟨rfl, (by repeat (first | with_reducible exact Below.refl _ _ | with_reducible exact B2.out | with_reducible exact B1.out | (with_reducible refine rbel_put ?_ ?_; · first | exact Nat.le_refl _ | exact Nat.le_succ _ | omega) | with_reducible refine rbel_al ?_ | with_reducible refine rbel_drn ?_ | with_reducible refine rbel_dr ?_))⟩
set_option maxRecDepth 100000 in
set_option maxHeartbeats 4000000 in
theorem rdo_go_a {Ex : List Value} (w u : World) (mb sc rc : Nat) (sa ra : Option Addr) (S : Ws) (v : Value) (x y : Int) (hR : RW Ex w u mb sa sc ra rc S v) (hI : S.I) (h : x < 0) :
    Calls Tryz.prog 31 #[.pointer (some ⟨mb, 0, none⟩), .agg #[.int .i64 1, .int .i64 x, .int .i64 y]] u fun o w' => o = .returned (.tuple #[.agg #[.int .i64 0, .int .i64 0, .bool false, .int .i64 0, .int .i64 0, .int .i64 0], .bool false, .int .i64 1]) ∧ Below u.heap.size u w' := by
  have HR : Hid (RW Ex w u mb sa sc ra rc S v) := hR
  obtain ⟨va, vcap, ev, hform⟩ := hR.len
  have HF : Hid _ := hform
  have EV : Hid _ := ev
  have lh := hI.un
  have t0 := hI.t0
  have t1 := hI.t1
  have HI : Hid S.I := hI
  have zb : mb < u.heap.size := hR.r.lt
  have c2 := hR.r.c 2 _ rfl
  have c3 := hR.r.c 3 _ rfl
  rw [ev] at c3
  clear hR hI hform ev
  generalize S.time = T at *
  generalize S.under.length = L at *
  have wT : IntKind.i64.wrap (1000000000 - T) = 1000000000 - T := IntWalk.i64_in _ (by omega)
  have d1 : decide (x < 0) = true := decide_eq_true h
  go_enter Tryz.func31, Tryz.ntmps31
  go_wp2
  go_quiet (fail)
  go_wp2
  exact bodyPost_ret (v := .tuple #[.agg #[.int .i64 0, .int .i64 0, .bool false, .int .i64 0, .int .i64 0, .int .i64 0], .bool false, .int .i64 1]) (by simp [results, Tryz.results31, go_sem, *]) rfl ⟨rfl, (by repeat (first | with_reducible exact Below.refl _ _ | with_reducible exact B2.out | with_reducible exact B1.out | (with_reducible refine rbel_put ?_ ?_; · first | exact Nat.le_refl _ | exact Nat.le_succ _ | omega) | with_reducible refine rbel_al ?_ | with_reducible refine rbel_drn ?_ | with_reducible refine rbel_dr ?_))⟩
set_option maxRecDepth 100000 in
set_option maxHeartbeats 4000000 in
theorem rdo_go_b {Ex : List Value} (w u : World) (mb sc rc : Nat) (sa ra : Option Addr) (S : Ws) (v : Value) (x y : Int) (hR : RW Ex w u mb sa sc ra rc S v) (hI : S.I) (h0 : ¬ x < 0) (h : 1000000 < x) :
    Calls Tryz.prog 31 #[.pointer (some ⟨mb, 0, none⟩), .agg #[.int .i64 1, .int .i64 x, .int .i64 y]] u fun o w' => o = .returned (.tuple #[.agg #[.int .i64 0, .int .i64 0, .bool false, .int .i64 0, .int .i64 0, .int .i64 0], .bool false, .int .i64 1]) ∧ Below u.heap.size u w' := by
  have HR : Hid (RW Ex w u mb sa sc ra rc S v) := hR
  obtain ⟨va, vcap, ev, hform⟩ := hR.len
  have HF : Hid _ := hform
  have EV : Hid _ := ev
  have lh := hI.un
  have t0 := hI.t0
  have t1 := hI.t1
  have HI : Hid S.I := hI
  have zb : mb < u.heap.size := hR.r.lt
  have c2 := hR.r.c 2 _ rfl
  have c3 := hR.r.c 3 _ rfl
  rw [ev] at c3
  clear hR hI hform ev
  generalize S.time = T at *
  generalize S.under.length = L at *
  have wT : IntKind.i64.wrap (1000000000 - T) = 1000000000 - T := IntWalk.i64_in _ (by omega)
  have d1 : decide (x < 0) = false := decide_eq_false h0
  have d2 : decide (1000000 < x) = true := decide_eq_true h
  go_enter Tryz.func31, Tryz.ntmps31
  go_wp2
  go_quiet (fail)
  go_wp2
  exact bodyPost_ret (v := .tuple #[.agg #[.int .i64 0, .int .i64 0, .bool false, .int .i64 0, .int .i64 0, .int .i64 0], .bool false, .int .i64 1]) (by simp [results, Tryz.results31, go_sem, *]) rfl ⟨rfl, (by repeat (first | with_reducible exact Below.refl _ _ | with_reducible exact B2.out | with_reducible exact B1.out | (with_reducible refine rbel_put ?_ ?_; · first | exact Nat.le_refl _ | exact Nat.le_succ _ | omega) | with_reducible refine rbel_al ?_ | with_reducible refine rbel_drn ?_ | with_reducible refine rbel_dr ?_))⟩
set_option maxRecDepth 100000 in
set_option maxHeartbeats 4000000 in
theorem rdo_go_c {Ex : List Value} (w u : World) (mb sc rc : Nat) (sa ra : Option Addr) (S : Ws) (v : Value) (x y : Int) (hR : RW Ex w u mb sa sc ra rc S v) (hI : S.I) (h0 : ¬ x < 0) (h1 : ¬ 1000000 < x) (h : 1000000000 - S.time < x) :
    Calls Tryz.prog 31 #[.pointer (some ⟨mb, 0, none⟩), .agg #[.int .i64 1, .int .i64 x, .int .i64 y]] u fun o w' => o = .returned (.tuple #[.agg #[.int .i64 0, .int .i64 0, .bool false, .int .i64 0, .int .i64 0, .int .i64 0], .bool false, .int .i64 1]) ∧ Below u.heap.size u w' := by
  have HR : Hid (RW Ex w u mb sa sc ra rc S v) := hR
  obtain ⟨va, vcap, ev, hform⟩ := hR.len
  have HF : Hid _ := hform
  have EV : Hid _ := ev
  have lh := hI.un
  have t0 := hI.t0
  have t1 := hI.t1
  have HI : Hid S.I := hI
  have zb : mb < u.heap.size := hR.r.lt
  have c2 := hR.r.c 2 _ rfl
  have c3 := hR.r.c 3 _ rfl
  rw [ev] at c3
  clear hR hI hform ev
  generalize S.time = T at *
  generalize S.under.length = L at *
  have wT : IntKind.i64.wrap (1000000000 - T) = 1000000000 - T := IntWalk.i64_in _ (by omega)
  have d1 : decide (x < 0) = false := decide_eq_false h0
  have d2 : decide (1000000 < x) = false := decide_eq_false h1
  have d3 : decide (1000000000 - T < x) = true := decide_eq_true h
  go_enter Tryz.func31, Tryz.ntmps31
  go_wp2
  go_quiet (fail)
  go_wp2
  exact bodyPost_ret (v := .tuple #[.agg #[.int .i64 0, .int .i64 0, .bool false, .int .i64 0, .int .i64 0, .int .i64 0], .bool false, .int .i64 1]) (by simp [results, Tryz.results31, go_sem, *]) rfl ⟨rfl, (by repeat (first | with_reducible exact Below.refl _ _ | with_reducible exact B2.out | with_reducible exact B1.out | (with_reducible refine rbel_put ?_ ?_; · first | exact Nat.le_refl _ | exact Nat.le_succ _ | omega) | with_reducible refine rbel_al ?_ | with_reducible refine rbel_drn ?_ | with_reducible refine rbel_dr ?_))⟩
set_option maxRecDepth 100000 in
set_option maxHeartbeats 4000000 in
theorem rdo_none_a3 {Ex : List Value} (w u : World) (mb sc rc : Nat) (sa ra : Option Addr) (S : Ws) (v : Value) (x y : Int) (hR : RW Ex w u mb sa sc ra rc S v) (hI : S.I) (h : x < 0) :
    Calls Tryz.prog 31 #[.pointer (some ⟨mb, 0, none⟩), .agg #[.int .i64 3, .int .i64 x, .int .i64 y]] u fun o w' => o = .returned (.tuple #[.agg #[.int .i64 0, .int .i64 0, .bool false, .int .i64 0, .int .i64 0, .int .i64 0], .bool false, .int .i64 5]) ∧ Below u.heap.size u w' := by
  have HR : Hid (RW Ex w u mb sa sc ra rc S v) := hR
  obtain ⟨va, vcap, ev, hform⟩ := hR.len
  have HF : Hid _ := hform
  have EV : Hid _ := ev
  have lh := hI.un
  have t0 := hI.t0
  have t1 := hI.t1
  have HI : Hid S.I := hI
  have zb : mb < u.heap.size := hR.r.lt
  have c2 := hR.r.c 2 _ rfl
  have c3 := hR.r.c 3 _ rfl
  rw [ev] at c3
  clear hR hI hform ev
  generalize S.time = T at *
  generalize S.under.length = L at *
  have d1 : decide (x < 0) = true := decide_eq_true h
  go_enter Tryz.func31, Tryz.ntmps31
  go_wp2
  go_quiet (fail)
  go_wp2
  exact bodyPost_ret (v := .tuple #[.agg #[.int .i64 0, .int .i64 0, .bool false, .int .i64 0, .int .i64 0, .int .i64 0], .bool false, .int .i64 5]) (by simp [results, Tryz.results31, go_sem, *]) rfl ⟨rfl, (by repeat (first | with_reducible exact Below.refl _ _ | with_reducible exact B2.out | with_reducible exact B1.out | (with_reducible refine rbel_put ?_ ?_; · first | exact Nat.le_refl _ | exact Nat.le_succ _ | omega) | with_reducible refine rbel_al ?_ | with_reducible refine rbel_drn ?_ | with_reducible refine rbel_dr ?_))⟩
set_option maxRecDepth 100000 in
set_option maxHeartbeats 4000000 in
theorem rdo_none_b3 {Ex : List Value} (w u : World) (mb sc rc : Nat) (sa ra : Option Addr) (S : Ws) (v : Value) (x y : Int) (hR : RW Ex w u mb sa sc ra rc S v) (hI : S.I) (h0 : ¬ x < 0) (h : (S.under.length : Int) ≤ x) :
    Calls Tryz.prog 31 #[.pointer (some ⟨mb, 0, none⟩), .agg #[.int .i64 3, .int .i64 x, .int .i64 y]] u fun o w' => o = .returned (.tuple #[.agg #[.int .i64 0, .int .i64 0, .bool false, .int .i64 0, .int .i64 0, .int .i64 0], .bool false, .int .i64 5]) ∧ Below u.heap.size u w' := by
  have HR : Hid (RW Ex w u mb sa sc ra rc S v) := hR
  obtain ⟨va, vcap, ev, hform⟩ := hR.len
  have HF : Hid _ := hform
  have EV : Hid _ := ev
  have lh := hI.un
  have t0 := hI.t0
  have t1 := hI.t1
  have HI : Hid S.I := hI
  have zb : mb < u.heap.size := hR.r.lt
  have c2 := hR.r.c 2 _ rfl
  have c3 := hR.r.c 3 _ rfl
  rw [ev] at c3
  clear hR hI hform ev
  generalize S.time = T at *
  generalize S.under.length = L at *
  have d1 : decide (x < 0) = false := decide_eq_false h0
  have d2 : decide ((L : Int) ≤ x) = true := decide_eq_true h
  go_enter Tryz.func31, Tryz.ntmps31
  go_wp2
  go_quiet (fail)
  go_wp2
  exact bodyPost_ret (v := .tuple #[.agg #[.int .i64 0, .int .i64 0, .bool false, .int .i64 0, .int .i64 0, .int .i64 0], .bool false, .int .i64 5]) (by simp [results, Tryz.results31, go_sem, *]) rfl ⟨rfl, (by repeat (first | with_reducible exact Below.refl _ _ | with_reducible exact B2.out | with_reducible exact B1.out | (with_reducible refine rbel_put ?_ ?_; · first | exact Nat.le_refl _ | exact Nat.le_succ _ | omega) | with_reducible refine rbel_al ?_ | with_reducible refine rbel_drn ?_ | with_reducible refine rbel_dr ?_))⟩
set_option maxRecDepth 100000 in
set_option maxHeartbeats 4000000 in
theorem rdo_none_a4 {Ex : List Value} (w u : World) (mb sc rc : Nat) (sa ra : Option Addr) (S : Ws) (v : Value) (x y : Int) (hR : RW Ex w u mb sa sc ra rc S v) (hI : S.I) (h : x < 0) :
    Calls Tryz.prog 31 #[.pointer (some ⟨mb, 0, none⟩), .agg #[.int .i64 4, .int .i64 x, .int .i64 y]] u fun o w' => o = .returned (.tuple #[.agg #[.int .i64 0, .int .i64 0, .bool false, .int .i64 0, .int .i64 0, .int .i64 0], .bool false, .int .i64 5]) ∧ Below u.heap.size u w' := by
  have HR : Hid (RW Ex w u mb sa sc ra rc S v) := hR
  obtain ⟨va, vcap, ev, hform⟩ := hR.len
  have HF : Hid _ := hform
  have EV : Hid _ := ev
  have lh := hI.un
  have t0 := hI.t0
  have t1 := hI.t1
  have HI : Hid S.I := hI
  have zb : mb < u.heap.size := hR.r.lt
  have c2 := hR.r.c 2 _ rfl
  have c3 := hR.r.c 3 _ rfl
  rw [ev] at c3
  clear hR hI hform ev
  generalize S.time = T at *
  generalize S.under.length = L at *
  have d1 : decide (x < 0) = true := decide_eq_true h
  go_enter Tryz.func31, Tryz.ntmps31
  go_wp2
  go_quiet (fail)
  go_wp2
  exact bodyPost_ret (v := .tuple #[.agg #[.int .i64 0, .int .i64 0, .bool false, .int .i64 0, .int .i64 0, .int .i64 0], .bool false, .int .i64 5]) (by simp [results, Tryz.results31, go_sem, *]) rfl ⟨rfl, (by repeat (first | with_reducible exact Below.refl _ _ | with_reducible exact B2.out | with_reducible exact B1.out | (with_reducible refine rbel_put ?_ ?_; · first | exact Nat.le_refl _ | exact Nat.le_succ _ | omega) | with_reducible refine rbel_al ?_ | with_reducible refine rbel_drn ?_ | with_reducible refine rbel_dr ?_))⟩
set_option maxRecDepth 100000 in
set_option maxHeartbeats 4000000 in
theorem rdo_none_b4 {Ex : List Value} (w u : World) (mb sc rc : Nat) (sa ra : Option Addr) (S : Ws) (v : Value) (x y : Int) (hR : RW Ex w u mb sa sc ra rc S v) (hI : S.I) (h0 : ¬ x < 0) (h : (S.under.length : Int) ≤ x) :
    Calls Tryz.prog 31 #[.pointer (some ⟨mb, 0, none⟩), .agg #[.int .i64 4, .int .i64 x, .int .i64 y]] u fun o w' => o = .returned (.tuple #[.agg #[.int .i64 0, .int .i64 0, .bool false, .int .i64 0, .int .i64 0, .int .i64 0], .bool false, .int .i64 5]) ∧ Below u.heap.size u w' := by
  have HR : Hid (RW Ex w u mb sa sc ra rc S v) := hR
  obtain ⟨va, vcap, ev, hform⟩ := hR.len
  have HF : Hid _ := hform
  have EV : Hid _ := ev
  have lh := hI.un
  have t0 := hI.t0
  have t1 := hI.t1
  have HI : Hid S.I := hI
  have zb : mb < u.heap.size := hR.r.lt
  have c2 := hR.r.c 2 _ rfl
  have c3 := hR.r.c 3 _ rfl
  rw [ev] at c3
  clear hR hI hform ev
  generalize S.time = T at *
  generalize S.under.length = L at *
  have d1 : decide (x < 0) = false := decide_eq_false h0
  have d2 : decide ((L : Int) ≤ x) = true := decide_eq_true h
  go_enter Tryz.func31, Tryz.ntmps31
  go_wp2
  go_quiet (fail)
  go_wp2
  exact bodyPost_ret (v := .tuple #[.agg #[.int .i64 0, .int .i64 0, .bool false, .int .i64 0, .int .i64 0, .int .i64 0], .bool false, .int .i64 5]) (by simp [results, Tryz.results31, go_sem, *]) rfl ⟨rfl, (by repeat (first | with_reducible exact Below.refl _ _ | with_reducible exact B2.out | with_reducible exact B1.out | (with_reducible refine rbel_put ?_ ?_; · first | exact Nat.le_refl _ | exact Nat.le_succ _ | omega) | with_reducible refine rbel_al ?_ | with_reducible refine rbel_drn ?_ | with_reducible refine rbel_dr ?_))⟩
set_option maxRecDepth 100000 in
set_option maxHeartbeats 4000000 in
theorem rdo_none_a5 {Ex : List Value} (w u : World) (mb sc rc : Nat) (sa ra : Option Addr) (S : Ws) (v : Value) (x y : Int) (hR : RW Ex w u mb sa sc ra rc S v) (hI : S.I) (h : x < 0) :
    Calls Tryz.prog 31 #[.pointer (some ⟨mb, 0, none⟩), .agg #[.int .i64 5, .int .i64 x, .int .i64 y]] u fun o w' => o = .returned (.tuple #[.agg #[.int .i64 0, .int .i64 0, .bool false, .int .i64 0, .int .i64 0, .int .i64 0], .bool false, .int .i64 5]) ∧ Below u.heap.size u w' := by
  have HR : Hid (RW Ex w u mb sa sc ra rc S v) := hR
  obtain ⟨va, vcap, ev, hform⟩ := hR.len
  have HF : Hid _ := hform
  have EV : Hid _ := ev
  have lh := hI.un
  have t0 := hI.t0
  have t1 := hI.t1
  have HI : Hid S.I := hI
  have zb : mb < u.heap.size := hR.r.lt
  have c2 := hR.r.c 2 _ rfl
  have c3 := hR.r.c 3 _ rfl
  rw [ev] at c3
  clear hR hI hform ev
  generalize S.time = T at *
  generalize S.under.length = L at *
  have d1 : decide (x < 0) = true := decide_eq_true h
  go_enter Tryz.func31, Tryz.ntmps31
  go_wp2
  go_quiet (fail)
  go_wp2
  exact bodyPost_ret (v := .tuple #[.agg #[.int .i64 0, .int .i64 0, .bool false, .int .i64 0, .int .i64 0, .int .i64 0], .bool false, .int .i64 5]) (by simp [results, Tryz.results31, go_sem, *]) rfl ⟨rfl, (by repeat (first | with_reducible exact Below.refl _ _ | with_reducible exact B2.out | with_reducible exact B1.out | (with_reducible refine rbel_put ?_ ?_; · first | exact Nat.le_refl _ | exact Nat.le_succ _ | omega) | with_reducible refine rbel_al ?_ | with_reducible refine rbel_drn ?_ | with_reducible refine rbel_dr ?_))⟩
set_option maxRecDepth 100000 in
set_option maxHeartbeats 4000000 in
theorem rdo_none_b5 {Ex : List Value} (w u : World) (mb sc rc : Nat) (sa ra : Option Addr) (S : Ws) (v : Value) (x y : Int) (hR : RW Ex w u mb sa sc ra rc S v) (hI : S.I) (h0 : ¬ x < 0) (h : (S.under.length : Int) ≤ x) :
    Calls Tryz.prog 31 #[.pointer (some ⟨mb, 0, none⟩), .agg #[.int .i64 5, .int .i64 x, .int .i64 y]] u fun o w' => o = .returned (.tuple #[.agg #[.int .i64 0, .int .i64 0, .bool false, .int .i64 0, .int .i64 0, .int .i64 0], .bool false, .int .i64 5]) ∧ Below u.heap.size u w' := by
  have HR : Hid (RW Ex w u mb sa sc ra rc S v) := hR
  obtain ⟨va, vcap, ev, hform⟩ := hR.len
  have HF : Hid _ := hform
  have EV : Hid _ := ev
  have lh := hI.un
  have t0 := hI.t0
  have t1 := hI.t1
  have HI : Hid S.I := hI
  have zb : mb < u.heap.size := hR.r.lt
  have c2 := hR.r.c 2 _ rfl
  have c3 := hR.r.c 3 _ rfl
  rw [ev] at c3
  clear hR hI hform ev
  generalize S.time = T at *
  generalize S.under.length = L at *
  have d1 : decide (x < 0) = false := decide_eq_false h0
  have d2 : decide ((L : Int) ≤ x) = true := decide_eq_true h
  go_enter Tryz.func31, Tryz.ntmps31
  go_wp2
  go_quiet (fail)
  go_wp2
  exact bodyPost_ret (v := .tuple #[.agg #[.int .i64 0, .int .i64 0, .bool false, .int .i64 0, .int .i64 0, .int .i64 0], .bool false, .int .i64 5]) (by simp [results, Tryz.results31, go_sem, *]) rfl ⟨rfl, (by repeat (first | with_reducible exact Below.refl _ _ | with_reducible exact B2.out | with_reducible exact B1.out | (with_reducible refine rbel_put ?_ ?_; · first | exact Nat.le_refl _ | exact Nat.le_succ _ | omega) | with_reducible refine rbel_al ?_ | with_reducible refine rbel_drn ?_ | with_reducible refine rbel_dr ?_))⟩
end Go.Proofs.YtnagdjipmpjaaaiGreatDoor
