/- The ways through the law LeapNone, over what package leap must answer. -/
import Derived.Test.YthaajbdppmdhaadDoorLeapLp
import Derived.WalkKit
import Derived.ProofKit
import Derived.OpenShut
import Derived.Outline
import Derived.Below
import Derived.IntWalk
import Derived.WalkLawsBesides
import Derived.Laws.Cover1
namespace Go.Proofs.YthaajbdppmdhaadDoor.leapNone
open Go.ChangeShapes Go.WideShapes Go.ChangeAt Go.RowKit
set_option linter.unusedVariables false
set_option linter.unusedSimpArgs false

set_option maxHeartbeats 1000000 in
theorem low (N e1 : Int) (w : World)
    (hn : N < 0)
    (kU : ∀ u, Below w.heap.size w u → Calls Tryd.prog 5 #[.slice none 0 0, .int .i64 N] u fun e w' => e = .returned (.tuple #[lbl (0) (0) (0) (0) (0) (0), .iface 49 (.int .i64 (e1))]) ∧ Below u.heap.size u w') :
    Calls Tryd.prog 4 #[.int .i64 N] w fun e w' => e = .returned (.bool true) ∧ Below w.heap.size w w' := by
  have cnt : Mark 0 := .mk _
  go_enter Tryd.func4, Tryd.ntmps4
  go_wp2_with (first | (go_at_call 5; have cq : Mark 0 := cnt; refine (kU _ (Below.refl _ _)).mono ?_; clear cq cnt; have cnt : Mark 1 := .mk _; rintro e u0 ⟨rfl, hb⟩; replace hw : Below w.heap.size w u0 := rbel_on hb (Below.refl _ _); have hs0 := hw.size; clear hb))
  go_ret
  exact ⟨rfl, rbel_al (hw)⟩

set_option maxHeartbeats 1000000 in
theorem high (N e1 : Int) (w : World)
    (h0 : 0 ≤ N) (hn : 7000000000 < N)
    (kU : ∀ u, Below w.heap.size w u → Calls Tryd.prog 5 #[.slice none 0 0, .int .i64 N] u fun e w' => e = .returned (.tuple #[lbl (0) (0) (0) (0) (0) (0), .iface 49 (.int .i64 (e1))]) ∧ Below u.heap.size u w') :
    Calls Tryd.prog 4 #[.int .i64 N] w fun e w' => e = .returned (.bool true) ∧ Below w.heap.size w w' := by
  have h9 : decide (7000000000 < N) = true := decide_eq_true hn
  have cnt : Mark 0 := .mk _
  go_enter Tryd.func4, Tryd.ntmps4
  go_wp2_with (first | (go_at_call 5; have cq : Mark 0 := cnt; refine (kU _ (Below.refl _ _)).mono ?_; clear cq cnt; have cnt : Mark 1 := .mk _; rintro e u0 ⟨rfl, hb⟩; replace hw : Below w.heap.size w u0 := rbel_on hb (Below.refl _ _); have hs0 := hw.size; clear hb))
  go_ret
  exact ⟨by first | rfl | simp [h9], rbel_al (hw)⟩

set_option maxRecDepth 100000 in
set_option maxHeartbeats 4000000 in
theorem inside (N ly lm ld lh li ls D : Int) (w : World)
    (h0 : 0 ≤ N) (h1 : N ≤ 8000000000) (d0 : 0 ≤ D) (d1 : D ≤ 84005) (a0 : 0 ≤ lh) (a1 : lh ≤ 23) (b0 : 0 ≤ li) (b1 : li ≤ 59) (c0 : 0 ≤ ls) (c1 : ls ≤ 60) (hE : D * 86400 + lh * 3600 + li * 60 + ls = N)
    (kU : ∀ u, Below w.heap.size w u → Calls Tryd.prog 5 #[.slice none 0 0, .int .i64 N] u fun e w' => e = .returned (.tuple #[lbl (ly) (lm) (ld) (lh) (li) (ls), .nilIface]) ∧ Below u.heap.size u w')
    (kA : ∀ u, Below w.heap.size w u → Calls Tryd.prog 11 #[.slice none 0 0, .int .i64 N] u fun e w' => e = .returned (.tuple #[.int .i64 0, .nilIface]) ∧ Below u.heap.size u w')
    (kS : ∀ u, Below w.heap.size w u → Calls Tryd.prog 9 #[.slice none 0 0, .int .i64 N] u fun e w' => e = .returned (.tuple #[.int .i64 (1000 * N), .nilIface]) ∧ Below u.heap.size u w')
    (kN : ∀ u, Below w.heap.size w u → Calls Tryd.prog 10 #[.agg #[.int .i64 (ly), .int .i64 (lm), .int .i64 (ld)]] u fun e w' => e = .returned (.tuple #[.int .i64 D, .nilIface]) ∧ Below u.heap.size u w') :
    Calls Tryd.prog 4 #[.int .i64 N] w fun e w' => e = .returned (.bool true) ∧ Below w.heap.size w w' := by
  have HE : Hid (D * 86400 + lh * 3600 + li * 60 + ls = N) := hE
  clear hE
  have cnt : Mark 0 := .mk _
  go_enter Tryd.func4, Tryd.ntmps4
  go_wp2_with (first | (go_at_call 5; have cq : Mark 0 := cnt; refine (kU _ (Below.refl _ _)).mono ?_; clear cq cnt; have cnt : Mark 1 := .mk _; rintro e u0 ⟨rfl, hb⟩; replace hw : Below w.heap.size w u0 := rbel_on hb (Below.refl _ _); have hs0 := hw.size; clear hb) | (go_at_call 11; have cq : Mark 1 := cnt; refine (kA _ (rbel_al (hw))).mono ?_; clear cq cnt; have cnt : Mark 2 := .mk _; rintro e u1 ⟨rfl, hb⟩; replace hw : Below w.heap.size w u1 := rbel_on hb (rbel_al (hw)); replace PX : Row u1 (u0.heap.size) [.int .i64 (ly), .int .i64 (lm), .int .i64 (ld), .int .i64 (lh), .int .i64 (li), .int .i64 (ls)] := Row.on hb (Row.made (by simp)); replace cX0 := PX.c 0 _ rfl; replace cX1 := PX.c 1 _ rfl; replace cX2 := PX.c 2 _ rfl; replace cX3 := PX.c 3 _ rfl; replace cX4 := PX.c 4 _ rfl; replace cX5 := PX.c 5 _ rfl; replace zX := PX.lt; have hs1 := hw.size; clear hb) | (go_at_call 9; have cq : Mark 2 := cnt; refine (kS _ (hw)).mono ?_; clear cq cnt; have cnt : Mark 3 := .mk _; rintro e u2 ⟨rfl, hb⟩; replace hw : Below w.heap.size w u2 := rbel_on hb (hw); replace PX : Row u2 (u0.heap.size) [.int .i64 (ly), .int .i64 (lm), .int .i64 (ld), .int .i64 (lh), .int .i64 (li), .int .i64 (ls)] := Row.on hb (PX); replace cX0 := PX.c 0 _ rfl; replace cX1 := PX.c 1 _ rfl; replace cX2 := PX.c 2 _ rfl; replace cX3 := PX.c 3 _ rfl; replace cX4 := PX.c 4 _ rfl; replace cX5 := PX.c 5 _ rfl; replace zX := PX.lt; have hs2 := hw.size; clear hb) | (go_at_call 10; have cq : Mark 3 := cnt; refine (kN _ (hw)).mono ?_; clear cq cnt; have cnt : Mark 4 := .mk _; rintro e u3 ⟨rfl, hb⟩; replace hw : Below w.heap.size w u3 := rbel_on hb (hw); replace PX : Row u3 (u0.heap.size) [.int .i64 (ly), .int .i64 (lm), .int .i64 (ld), .int .i64 (lh), .int .i64 (li), .int .i64 (ls)] := Row.on hb (PX); replace cX0 := PX.c 0 _ rfl; replace cX1 := PX.c 1 _ rfl; replace cX2 := PX.c 2 _ rfl; replace cX3 := PX.c 3 _ rfl; replace cX4 := PX.c 4 _ rfl; replace cX5 := PX.c 5 _ rfl; replace zX := PX.lt; have hs3 := hw.size; clear hb))
  go_ret
  exact ⟨by have h9 := HE.out; first | (rw [h9]; simp; done) | simp [h9], hw⟩

end Go.Proofs.YthaajbdppmdhaadDoor.leapNone
