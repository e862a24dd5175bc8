/- What the document's own world (package noonref2) answers of an act: Go, taken. -/
import Derived.Test.YtkmbllkkccelaahDoorWorldRefW
namespace Go.Proofs.YtkmbllkkccelaahDoor
open Go.ChangeShapes Go.WideShapes Go.ChangeAt Go.RowKit Go.Joins
set_option linter.unusedVariables false
set_option linter.unusedSimpArgs false

set_option maxRecDepth 100000 in
set_option maxHeartbeats 4000000 in
theorem rdo_go {Ex : List Value} (w u : World) (mb sc rc : Nat) (sa ra : Option Addr) (S : Ws) (v : Value) (x y : Int) (hR : RW Ex w u mb sa sc ra rc S v) (hI : S.I) (h0 : ¬ x < 0) (h1 : ¬ 1000000 < x) (h : ¬ 1000000000 - S.time < x) :
    Calls Tryd.prog 10 #[.pointer (some ⟨mb, 0, none⟩), .agg #[.int .i64 1, .int .i64 x, .int .i64 y]] u fun o w' => ∃ v', o = .returned (.tuple #[.agg #[.int .i64 0, .int .i64 0, .bool false, .int .i64 0, .int .i64 0, .int .i64 0], .bool false, .int .i64 0]) ∧ RW Ex w w' mb sa sc ra rc { S with time := S.time + x } v' ∧ Kp u w' mb v v' := by
  have HR : Hid (RW Ex w u mb sa sc ra rc S v) := hR
  obtain ⟨va, vcap, ev, hform⟩ := hR.len
  have HF : Hid _ := hform
  have EV : Hid _ := ev
  have lh := hI.un
  have t0 := hI.t0
  have t1 := hI.t1
  have HI : Hid S.I := hI
  have zb : mb < u.heap.size := hR.r.lt
  have c2 := hR.r.c 2 _ rfl
  have c3 := hR.r.c 3 _ rfl
  rw [ev] at c3
  have f2 := hR.r.f 2 _ rfl
  clear hR hI hform ev
  generalize eT : S.time = T at *
  generalize S.under.length = L at *
  have wT : IntKind.i64.wrap (1000000000 - T) = 1000000000 - T := IntWalk.i64_in _ (by omega)
  have wx : IntKind.i64.wrap (T + x) = T + x := IntWalk.i64_in _ (by omega)
  have d1 : decide (x < 0) = false := decide_eq_false h0
  have d2 : decide (1000000 < x) = false := decide_eq_false h1
  have d3 : decide (1000000000 - T < x) = false := decide_eq_false h
  go_enter Tryd.func10, Tryd.ntmps10
  go_wp2
  go_quiet (fail)
  go_wp2
  go_region
  all_goals
    go_wp2
    obtain ⟨g1, g2⟩ := RW.late (t := T + x) HR.out (W := ((u.alloc (Obj.cells #[.int .i64 1, .int .i64 x, .int .i64 y] 32)).alloc (Obj.cells #[.int .i64 0, .int .i64 0, .bool false, .int .i64 0, .int .i64 0, .int .i64 0] 37)).drewN (nq + 1)) (rbel_drn (rbel_al (rbel_al (Below.refl _ _))))
    have lo := HR.out.hw.size
    exact bodyPost_ret (v := .tuple #[.agg #[.int .i64 0, .int .i64 0, .bool false, .int .i64 0, .int .i64 0, .int .i64 0], .bool false, .int .i64 0]) (by simp [results, Tryd.results10, go_sem, *]) rfl ⟨v, rfl, RW.six g1 (by omega) (fun e => by have := (HR.out.o.lt _ e).2; omega) (by omega), Kp.six g2 (by omega)⟩
end Go.Proofs.YtkmbllkkccelaahDoor
