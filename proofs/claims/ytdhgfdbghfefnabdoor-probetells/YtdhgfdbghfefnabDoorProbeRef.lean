/- What the document's own reckoning (package noonref1) answers of a time and of a probe; what probe.Round answers. -/
import Derived.Test.YtdhgfdbghfefnabDoorProbeOff
import Derived.Test.YtdhgfdbghfefnabDoorTold
import Derived.WalkKit
import Derived.ProofKit
import Derived.OpenShut
import Derived.Outline
import Derived.IntWalk
import Derived.Deep.RegionWith
import Derived.Deep.RegionHeld
import Derived.Below
import Derived.WalkLawsBesides
namespace Go.Proofs.YtdhgfdbghfefnabDoor
open Go.Proofs.YtdhgfdbghfefnabDoor.told Go.ChangeShapes Go.WideShapes Go.ChangeAt Go.RowKit
set_option linter.unusedVariables false
set_option linter.unusedSimpArgs false

set_option maxHeartbeats 1000000 in
theorem rtime_yes (n : Int) (w : World) (h1 : -1000000000000 ≤ n) (h2 : n ≤ 1000000000000) :
    Calls Tryd.prog 18 #[.int .i64 n] w fun e w' => e = .returned (.bool true) ∧ w' = w := by
  go_enter Tryd.func18, Tryd.ntmps18
  go_wp2
  go_ret
  exact ⟨rfl, rfl⟩

set_option maxHeartbeats 1000000 in
theorem rtime_low (n : Int) (w : World) (h : decide (-1000000000000 ≤ n) = false) :
    Calls Tryd.prog 18 #[.int .i64 n] w fun e w' => e = .returned (.bool false) ∧ w' = w := by
  go_enter Tryd.func18, Tryd.ntmps18
  go_wp2
  go_ret
  exact ⟨rfl, rfl⟩

set_option maxHeartbeats 1000000 in
theorem rtime_high (n : Int) (w : World) (h1 : -1000000000000 ≤ n) (h2 : decide (n ≤ 1000000000000) = false) :
    Calls Tryd.prog 18 #[.int .i64 n] w fun e w' => e = .returned (.bool false) ∧ w' = w := by
  go_enter Tryd.func18, Tryd.ntmps18
  go_wp2
  go_ret
  exact ⟨rfl, rfl⟩

theorem rtime_same (n : Int) (w : World) :
    Calls Tryd.prog 18 #[.int .i64 n] w fun e w' => e = .returned (.bool (tmB n)) ∧ w' = w := by
  cases h : tmB n with
  | true => exact rtime_yes n w (tmB_t h).1 (tmB_t h).2
  | false =>
    by_cases h1 : -1000000000000 ≤ n
    · exact rtime_high n w h1 (decide_eq_false (by have := tmB_f h; omega))
    · exact rtime_low n w (decide_eq_false h1)
theorem rtime_is (n : Int) (w : World) :
    Calls Tryd.prog 18 #[.int .i64 n] w fun e w' => e = .returned (.bool (tmB n)) ∧ Below w.heap.size w w' := by
  refine (rtime_same n w).mono ?_
  rintro e w' ⟨rfl, rfl⟩
  exact ⟨rfl, Below.refl _ _⟩

set_option maxHeartbeats 1000000 in
theorem rprobe_a (a b c d : Int) (w : World) (h0 : tmB a = false) :
    Calls Tryd.prog 8 #[.agg #[.int .i64 a, .int .i64 b, .int .i64 c, .int .i64 d]] w fun e w' => e = .returned (.int .i64 (1)) ∧ Below w.heap.size w w' := by
  have cnt : Mark 0 := .mk _
  go_enter Tryd.func8, Tryd.ntmps8
  go_wp2_with (first | (go_at_call 18; have cq : Mark 0 := cnt; refine (rtime_is _ _).mono ?_; clear cq cnt; have cnt : Mark 1 := .mk _; rintro e u0 ⟨rfl, hb⟩; replace hw : Below w.heap.size w u0 := rbel_on hb (rbel_al (Below.refl _ _)); replace PP : Row u0 (w.heap.size) [.int .i64 (a), .int .i64 (b), .int .i64 (c), .int .i64 (d)] := Row.on hb (Row.made (by simp)); replace cP0 := PP.c 0 _ rfl; replace cP1 := PP.c 1 _ rfl; replace cP2 := PP.c 2 _ rfl; replace cP3 := PP.c 3 _ rfl; replace zP := PP.lt; clear hb) | (go_at_call 18; have cq : Mark 1 := cnt; refine (rtime_is _ _).mono ?_; clear cq cnt; have cnt : Mark 2 := .mk _; rintro e u1 ⟨rfl, hb⟩; replace hw : Below w.heap.size w u1 := rbel_on hb (hw); replace PP : Row u1 (w.heap.size) [.int .i64 (a), .int .i64 (b), .int .i64 (c), .int .i64 (d)] := Row.on hb (PP); replace cP0 := PP.c 0 _ rfl; replace cP1 := PP.c 1 _ rfl; replace cP2 := PP.c 2 _ rfl; replace cP3 := PP.c 3 _ rfl; replace zP := PP.lt; clear hb) | (go_at_call 18; have cq : Mark 2 := cnt; refine (rtime_is _ _).mono ?_; clear cq cnt; have cnt : Mark 3 := .mk _; rintro e u2 ⟨rfl, hb⟩; replace hw : Below w.heap.size w u2 := rbel_on hb (hw); replace PP : Row u2 (w.heap.size) [.int .i64 (a), .int .i64 (b), .int .i64 (c), .int .i64 (d)] := Row.on hb (PP); replace cP0 := PP.c 0 _ rfl; replace cP1 := PP.c 1 _ rfl; replace cP2 := PP.c 2 _ rfl; replace cP3 := PP.c 3 _ rfl; replace zP := PP.lt; clear hb) | (go_at_call 18; have cq : Mark 3 := cnt; refine (rtime_is _ _).mono ?_; clear cq cnt; have cnt : Mark 4 := .mk _; rintro e u3 ⟨rfl, hb⟩; replace hw : Below w.heap.size w u3 := rbel_on hb (hw); replace PP : Row u3 (w.heap.size) [.int .i64 (a), .int .i64 (b), .int .i64 (c), .int .i64 (d)] := Row.on hb (PP); replace cP0 := PP.c 0 _ rfl; replace cP1 := PP.c 1 _ rfl; replace cP2 := PP.c 2 _ rfl; replace cP3 := PP.c 3 _ rfl; replace zP := PP.lt; clear hb))
  go_ret
  exact ⟨rfl, hw⟩

set_option maxHeartbeats 1000000 in
theorem rprobe_b (a b c d : Int) (w : World) (h0 : tmB a = true) (h1 : tmB b = false) :
    Calls Tryd.prog 8 #[.agg #[.int .i64 a, .int .i64 b, .int .i64 c, .int .i64 d]] w fun e w' => e = .returned (.int .i64 (1)) ∧ Below w.heap.size w w' := by
  have cnt : Mark 0 := .mk _
  go_enter Tryd.func8, Tryd.ntmps8
  go_wp2_with (first | (go_at_call 18; have cq : Mark 0 := cnt; refine (rtime_is _ _).mono ?_; clear cq cnt; have cnt : Mark 1 := .mk _; rintro e u0 ⟨rfl, hb⟩; replace hw : Below w.heap.size w u0 := rbel_on hb (rbel_al (Below.refl _ _)); replace PP : Row u0 (w.heap.size) [.int .i64 (a), .int .i64 (b), .int .i64 (c), .int .i64 (d)] := Row.on hb (Row.made (by simp)); replace cP0 := PP.c 0 _ rfl; replace cP1 := PP.c 1 _ rfl; replace cP2 := PP.c 2 _ rfl; replace cP3 := PP.c 3 _ rfl; replace zP := PP.lt; clear hb) | (go_at_call 18; have cq : Mark 1 := cnt; refine (rtime_is _ _).mono ?_; clear cq cnt; have cnt : Mark 2 := .mk _; rintro e u1 ⟨rfl, hb⟩; replace hw : Below w.heap.size w u1 := rbel_on hb (hw); replace PP : Row u1 (w.heap.size) [.int .i64 (a), .int .i64 (b), .int .i64 (c), .int .i64 (d)] := Row.on hb (PP); replace cP0 := PP.c 0 _ rfl; replace cP1 := PP.c 1 _ rfl; replace cP2 := PP.c 2 _ rfl; replace cP3 := PP.c 3 _ rfl; replace zP := PP.lt; clear hb) | (go_at_call 18; have cq : Mark 2 := cnt; refine (rtime_is _ _).mono ?_; clear cq cnt; have cnt : Mark 3 := .mk _; rintro e u2 ⟨rfl, hb⟩; replace hw : Below w.heap.size w u2 := rbel_on hb (hw); replace PP : Row u2 (w.heap.size) [.int .i64 (a), .int .i64 (b), .int .i64 (c), .int .i64 (d)] := Row.on hb (PP); replace cP0 := PP.c 0 _ rfl; replace cP1 := PP.c 1 _ rfl; replace cP2 := PP.c 2 _ rfl; replace cP3 := PP.c 3 _ rfl; replace zP := PP.lt; clear hb) | (go_at_call 18; have cq : Mark 3 := cnt; refine (rtime_is _ _).mono ?_; clear cq cnt; have cnt : Mark 4 := .mk _; rintro e u3 ⟨rfl, hb⟩; replace hw : Below w.heap.size w u3 := rbel_on hb (hw); replace PP : Row u3 (w.heap.size) [.int .i64 (a), .int .i64 (b), .int .i64 (c), .int .i64 (d)] := Row.on hb (PP); replace cP0 := PP.c 0 _ rfl; replace cP1 := PP.c 1 _ rfl; replace cP2 := PP.c 2 _ rfl; replace cP3 := PP.c 3 _ rfl; replace zP := PP.lt; clear hb))
  go_ret
  exact ⟨rfl, hw⟩

set_option maxHeartbeats 1000000 in
theorem rprobe_c (a b c d : Int) (w : World) (h0 : tmB a = true) (h1 : tmB b = true) (h2 : tmB c = false) :
    Calls Tryd.prog 8 #[.agg #[.int .i64 a, .int .i64 b, .int .i64 c, .int .i64 d]] w fun e w' => e = .returned (.int .i64 (1)) ∧ Below w.heap.size w w' := by
  have cnt : Mark 0 := .mk _
  go_enter Tryd.func8, Tryd.ntmps8
  go_wp2_with (first | (go_at_call 18; have cq : Mark 0 := cnt; refine (rtime_is _ _).mono ?_; clear cq cnt; have cnt : Mark 1 := .mk _; rintro e u0 ⟨rfl, hb⟩; replace hw : Below w.heap.size w u0 := rbel_on hb (rbel_al (Below.refl _ _)); replace PP : Row u0 (w.heap.size) [.int .i64 (a), .int .i64 (b), .int .i64 (c), .int .i64 (d)] := Row.on hb (Row.made (by simp)); replace cP0 := PP.c 0 _ rfl; replace cP1 := PP.c 1 _ rfl; replace cP2 := PP.c 2 _ rfl; replace cP3 := PP.c 3 _ rfl; replace zP := PP.lt; clear hb) | (go_at_call 18; have cq : Mark 1 := cnt; refine (rtime_is _ _).mono ?_; clear cq cnt; have cnt : Mark 2 := .mk _; rintro e u1 ⟨rfl, hb⟩; replace hw : Below w.heap.size w u1 := rbel_on hb (hw); replace PP : Row u1 (w.heap.size) [.int .i64 (a), .int .i64 (b), .int .i64 (c), .int .i64 (d)] := Row.on hb (PP); replace cP0 := PP.c 0 _ rfl; replace cP1 := PP.c 1 _ rfl; replace cP2 := PP.c 2 _ rfl; replace cP3 := PP.c 3 _ rfl; replace zP := PP.lt; clear hb) | (go_at_call 18; have cq : Mark 2 := cnt; refine (rtime_is _ _).mono ?_; clear cq cnt; have cnt : Mark 3 := .mk _; rintro e u2 ⟨rfl, hb⟩; replace hw : Below w.heap.size w u2 := rbel_on hb (hw); replace PP : Row u2 (w.heap.size) [.int .i64 (a), .int .i64 (b), .int .i64 (c), .int .i64 (d)] := Row.on hb (PP); replace cP0 := PP.c 0 _ rfl; replace cP1 := PP.c 1 _ rfl; replace cP2 := PP.c 2 _ rfl; replace cP3 := PP.c 3 _ rfl; replace zP := PP.lt; clear hb) | (go_at_call 18; have cq : Mark 3 := cnt; refine (rtime_is _ _).mono ?_; clear cq cnt; have cnt : Mark 4 := .mk _; rintro e u3 ⟨rfl, hb⟩; replace hw : Below w.heap.size w u3 := rbel_on hb (hw); replace PP : Row u3 (w.heap.size) [.int .i64 (a), .int .i64 (b), .int .i64 (c), .int .i64 (d)] := Row.on hb (PP); replace cP0 := PP.c 0 _ rfl; replace cP1 := PP.c 1 _ rfl; replace cP2 := PP.c 2 _ rfl; replace cP3 := PP.c 3 _ rfl; replace zP := PP.lt; clear hb))
  go_ret
  exact ⟨rfl, hw⟩

set_option maxHeartbeats 1000000 in
theorem rprobe_d (a b c d : Int) (w : World) (h0 : tmB a = true) (h1 : tmB b = true) (h2 : tmB c = true) (h3 : tmB d = false) :
    Calls Tryd.prog 8 #[.agg #[.int .i64 a, .int .i64 b, .int .i64 c, .int .i64 d]] w fun e w' => e = .returned (.int .i64 (1)) ∧ Below w.heap.size w w' := by
  have cnt : Mark 0 := .mk _
  go_enter Tryd.func8, Tryd.ntmps8
  go_wp2_with (first | (go_at_call 18; have cq : Mark 0 := cnt; refine (rtime_is _ _).mono ?_; clear cq cnt; have cnt : Mark 1 := .mk _; rintro e u0 ⟨rfl, hb⟩; replace hw : Below w.heap.size w u0 := rbel_on hb (rbel_al (Below.refl _ _)); replace PP : Row u0 (w.heap.size) [.int .i64 (a), .int .i64 (b), .int .i64 (c), .int .i64 (d)] := Row.on hb (Row.made (by simp)); replace cP0 := PP.c 0 _ rfl; replace cP1 := PP.c 1 _ rfl; replace cP2 := PP.c 2 _ rfl; replace cP3 := PP.c 3 _ rfl; replace zP := PP.lt; clear hb) | (go_at_call 18; have cq : Mark 1 := cnt; refine (rtime_is _ _).mono ?_; clear cq cnt; have cnt : Mark 2 := .mk _; rintro e u1 ⟨rfl, hb⟩; replace hw : Below w.heap.size w u1 := rbel_on hb (hw); replace PP : Row u1 (w.heap.size) [.int .i64 (a), .int .i64 (b), .int .i64 (c), .int .i64 (d)] := Row.on hb (PP); replace cP0 := PP.c 0 _ rfl; replace cP1 := PP.c 1 _ rfl; replace cP2 := PP.c 2 _ rfl; replace cP3 := PP.c 3 _ rfl; replace zP := PP.lt; clear hb) | (go_at_call 18; have cq : Mark 2 := cnt; refine (rtime_is _ _).mono ?_; clear cq cnt; have cnt : Mark 3 := .mk _; rintro e u2 ⟨rfl, hb⟩; replace hw : Below w.heap.size w u2 := rbel_on hb (hw); replace PP : Row u2 (w.heap.size) [.int .i64 (a), .int .i64 (b), .int .i64 (c), .int .i64 (d)] := Row.on hb (PP); replace cP0 := PP.c 0 _ rfl; replace cP1 := PP.c 1 _ rfl; replace cP2 := PP.c 2 _ rfl; replace cP3 := PP.c 3 _ rfl; replace zP := PP.lt; clear hb) | (go_at_call 18; have cq : Mark 3 := cnt; refine (rtime_is _ _).mono ?_; clear cq cnt; have cnt : Mark 4 := .mk _; rintro e u3 ⟨rfl, hb⟩; replace hw : Below w.heap.size w u3 := rbel_on hb (hw); replace PP : Row u3 (w.heap.size) [.int .i64 (a), .int .i64 (b), .int .i64 (c), .int .i64 (d)] := Row.on hb (PP); replace cP0 := PP.c 0 _ rfl; replace cP1 := PP.c 1 _ rfl; replace cP2 := PP.c 2 _ rfl; replace cP3 := PP.c 3 _ rfl; replace zP := PP.lt; clear hb))
  go_ret
  exact ⟨rfl, hw⟩

set_option maxHeartbeats 1000000 in
theorem rprobe_x (a b c d : Int) (w : World) (h0 : tmB a = true) (h1 : tmB b = true) (h2 : tmB c = true) (h3 : tmB d = true) (h4 : d < a) :
    Calls Tryd.prog 8 #[.agg #[.int .i64 a, .int .i64 b, .int .i64 c, .int .i64 d]] w fun e w' => e = .returned (.int .i64 (3)) ∧ Below w.heap.size w w' := by
  have cnt : Mark 0 := .mk _
  go_enter Tryd.func8, Tryd.ntmps8
  go_wp2_with (first | (go_at_call 18; have cq : Mark 0 := cnt; refine (rtime_is _ _).mono ?_; clear cq cnt; have cnt : Mark 1 := .mk _; rintro e u0 ⟨rfl, hb⟩; replace hw : Below w.heap.size w u0 := rbel_on hb (rbel_al (Below.refl _ _)); replace PP : Row u0 (w.heap.size) [.int .i64 (a), .int .i64 (b), .int .i64 (c), .int .i64 (d)] := Row.on hb (Row.made (by simp)); replace cP0 := PP.c 0 _ rfl; replace cP1 := PP.c 1 _ rfl; replace cP2 := PP.c 2 _ rfl; replace cP3 := PP.c 3 _ rfl; replace zP := PP.lt; clear hb) | (go_at_call 18; have cq : Mark 1 := cnt; refine (rtime_is _ _).mono ?_; clear cq cnt; have cnt : Mark 2 := .mk _; rintro e u1 ⟨rfl, hb⟩; replace hw : Below w.heap.size w u1 := rbel_on hb (hw); replace PP : Row u1 (w.heap.size) [.int .i64 (a), .int .i64 (b), .int .i64 (c), .int .i64 (d)] := Row.on hb (PP); replace cP0 := PP.c 0 _ rfl; replace cP1 := PP.c 1 _ rfl; replace cP2 := PP.c 2 _ rfl; replace cP3 := PP.c 3 _ rfl; replace zP := PP.lt; clear hb) | (go_at_call 18; have cq : Mark 2 := cnt; refine (rtime_is _ _).mono ?_; clear cq cnt; have cnt : Mark 3 := .mk _; rintro e u2 ⟨rfl, hb⟩; replace hw : Below w.heap.size w u2 := rbel_on hb (hw); replace PP : Row u2 (w.heap.size) [.int .i64 (a), .int .i64 (b), .int .i64 (c), .int .i64 (d)] := Row.on hb (PP); replace cP0 := PP.c 0 _ rfl; replace cP1 := PP.c 1 _ rfl; replace cP2 := PP.c 2 _ rfl; replace cP3 := PP.c 3 _ rfl; replace zP := PP.lt; clear hb) | (go_at_call 18; have cq : Mark 3 := cnt; refine (rtime_is _ _).mono ?_; clear cq cnt; have cnt : Mark 4 := .mk _; rintro e u3 ⟨rfl, hb⟩; replace hw : Below w.heap.size w u3 := rbel_on hb (hw); replace PP : Row u3 (w.heap.size) [.int .i64 (a), .int .i64 (b), .int .i64 (c), .int .i64 (d)] := Row.on hb (PP); replace cP0 := PP.c 0 _ rfl; replace cP1 := PP.c 1 _ rfl; replace cP2 := PP.c 2 _ rfl; replace cP3 := PP.c 3 _ rfl; replace zP := PP.lt; clear hb))
  go_ret
  exact ⟨rfl, hw⟩

set_option maxHeartbeats 1000000 in
theorem rprobe_y (a b c d : Int) (w : World) (h0 : tmB a = true) (h1 : tmB b = true) (h2 : tmB c = true) (h3 : tmB d = true) (h4 : a ≤ d) (h5 : c < b) :
    Calls Tryd.prog 8 #[.agg #[.int .i64 a, .int .i64 b, .int .i64 c, .int .i64 d]] w fun e w' => e = .returned (.int .i64 (3)) ∧ Below w.heap.size w w' := by
  have cnt : Mark 0 := .mk _
  go_enter Tryd.func8, Tryd.ntmps8
  go_wp2_with (first | (go_at_call 18; have cq : Mark 0 := cnt; refine (rtime_is _ _).mono ?_; clear cq cnt; have cnt : Mark 1 := .mk _; rintro e u0 ⟨rfl, hb⟩; replace hw : Below w.heap.size w u0 := rbel_on hb (rbel_al (Below.refl _ _)); replace PP : Row u0 (w.heap.size) [.int .i64 (a), .int .i64 (b), .int .i64 (c), .int .i64 (d)] := Row.on hb (Row.made (by simp)); replace cP0 := PP.c 0 _ rfl; replace cP1 := PP.c 1 _ rfl; replace cP2 := PP.c 2 _ rfl; replace cP3 := PP.c 3 _ rfl; replace zP := PP.lt; clear hb) | (go_at_call 18; have cq : Mark 1 := cnt; refine (rtime_is _ _).mono ?_; clear cq cnt; have cnt : Mark 2 := .mk _; rintro e u1 ⟨rfl, hb⟩; replace hw : Below w.heap.size w u1 := rbel_on hb (hw); replace PP : Row u1 (w.heap.size) [.int .i64 (a), .int .i64 (b), .int .i64 (c), .int .i64 (d)] := Row.on hb (PP); replace cP0 := PP.c 0 _ rfl; replace cP1 := PP.c 1 _ rfl; replace cP2 := PP.c 2 _ rfl; replace cP3 := PP.c 3 _ rfl; replace zP := PP.lt; clear hb) | (go_at_call 18; have cq : Mark 2 := cnt; refine (rtime_is _ _).mono ?_; clear cq cnt; have cnt : Mark 3 := .mk _; rintro e u2 ⟨rfl, hb⟩; replace hw : Below w.heap.size w u2 := rbel_on hb (hw); replace PP : Row u2 (w.heap.size) [.int .i64 (a), .int .i64 (b), .int .i64 (c), .int .i64 (d)] := Row.on hb (PP); replace cP0 := PP.c 0 _ rfl; replace cP1 := PP.c 1 _ rfl; replace cP2 := PP.c 2 _ rfl; replace cP3 := PP.c 3 _ rfl; replace zP := PP.lt; clear hb) | (go_at_call 18; have cq : Mark 3 := cnt; refine (rtime_is _ _).mono ?_; clear cq cnt; have cnt : Mark 4 := .mk _; rintro e u3 ⟨rfl, hb⟩; replace hw : Below w.heap.size w u3 := rbel_on hb (hw); replace PP : Row u3 (w.heap.size) [.int .i64 (a), .int .i64 (b), .int .i64 (c), .int .i64 (d)] := Row.on hb (PP); replace cP0 := PP.c 0 _ rfl; replace cP1 := PP.c 1 _ rfl; replace cP2 := PP.c 2 _ rfl; replace cP3 := PP.c 3 _ rfl; replace zP := PP.lt; clear hb))
  go_ret
  exact ⟨rfl, hw⟩

set_option maxHeartbeats 1000000 in
theorem rprobe_z (a b c d : Int) (w : World) (h0 : tmB a = true) (h1 : tmB b = true) (h2 : tmB c = true) (h3 : tmB d = true) (h4 : a ≤ d) (h5 : b ≤ c) :
    Calls Tryd.prog 8 #[.agg #[.int .i64 a, .int .i64 b, .int .i64 c, .int .i64 d]] w fun e w' => e = .returned (.int .i64 (0)) ∧ Below w.heap.size w w' := by
  have cnt : Mark 0 := .mk _
  go_enter Tryd.func8, Tryd.ntmps8
  go_wp2_with (first | (go_at_call 18; have cq : Mark 0 := cnt; refine (rtime_is _ _).mono ?_; clear cq cnt; have cnt : Mark 1 := .mk _; rintro e u0 ⟨rfl, hb⟩; replace hw : Below w.heap.size w u0 := rbel_on hb (rbel_al (Below.refl _ _)); replace PP : Row u0 (w.heap.size) [.int .i64 (a), .int .i64 (b), .int .i64 (c), .int .i64 (d)] := Row.on hb (Row.made (by simp)); replace cP0 := PP.c 0 _ rfl; replace cP1 := PP.c 1 _ rfl; replace cP2 := PP.c 2 _ rfl; replace cP3 := PP.c 3 _ rfl; replace zP := PP.lt; clear hb) | (go_at_call 18; have cq : Mark 1 := cnt; refine (rtime_is _ _).mono ?_; clear cq cnt; have cnt : Mark 2 := .mk _; rintro e u1 ⟨rfl, hb⟩; replace hw : Below w.heap.size w u1 := rbel_on hb (hw); replace PP : Row u1 (w.heap.size) [.int .i64 (a), .int .i64 (b), .int .i64 (c), .int .i64 (d)] := Row.on hb (PP); replace cP0 := PP.c 0 _ rfl; replace cP1 := PP.c 1 _ rfl; replace cP2 := PP.c 2 _ rfl; replace cP3 := PP.c 3 _ rfl; replace zP := PP.lt; clear hb) | (go_at_call 18; have cq : Mark 2 := cnt; refine (rtime_is _ _).mono ?_; clear cq cnt; have cnt : Mark 3 := .mk _; rintro e u2 ⟨rfl, hb⟩; replace hw : Below w.heap.size w u2 := rbel_on hb (hw); replace PP : Row u2 (w.heap.size) [.int .i64 (a), .int .i64 (b), .int .i64 (c), .int .i64 (d)] := Row.on hb (PP); replace cP0 := PP.c 0 _ rfl; replace cP1 := PP.c 1 _ rfl; replace cP2 := PP.c 2 _ rfl; replace cP3 := PP.c 3 _ rfl; replace zP := PP.lt; clear hb) | (go_at_call 18; have cq : Mark 3 := cnt; refine (rtime_is _ _).mono ?_; clear cq cnt; have cnt : Mark 4 := .mk _; rintro e u3 ⟨rfl, hb⟩; replace hw : Below w.heap.size w u3 := rbel_on hb (hw); replace PP : Row u3 (w.heap.size) [.int .i64 (a), .int .i64 (b), .int .i64 (c), .int .i64 (d)] := Row.on hb (PP); replace cP0 := PP.c 0 _ rfl; replace cP1 := PP.c 1 _ rfl; replace cP2 := PP.c 2 _ rfl; replace cP3 := PP.c 3 _ rfl; replace zP := PP.lt; clear hb))
  go_ret
  exact ⟨rfl, hw⟩

theorem rprobe_is (a b c d : Int) (w : World) :
    Calls Tryd.prog 8 #[.agg #[.int .i64 a, .int .i64 b, .int .i64 c, .int .i64 d]] w fun e w' => e = .returned (.int .i64 (pE a b c d)) ∧ Below w.heap.size w w' := by
  by_cases h : pE a b c d = 0
  · rw [h]
    obtain ⟨h0, h1, h2, h3, h4, h5⟩ := pE_zero h
    exact rprobe_z a b c d w h0 h1 h2 h3 h4 h5
  rcases pE_some h with ⟨e, k⟩ | ⟨e, h0, h1, h2, h3, k⟩
  · rw [e]
    cases h0 : tmB a with
    | false => exact rprobe_a a b c d w h0
    | true =>
    cases h1 : tmB b with
    | false => exact rprobe_b a b c d w h0 h1
    | true =>
    cases h2 : tmB c with
    | false => exact rprobe_c a b c d w h0 h1 h2
    | true =>
    cases h3 : tmB d with
    | false => exact rprobe_d a b c d w h0 h1 h2 h3
    | true => simp [h0, h1, h2, h3] at k
  · rw [e]
    by_cases h4 : d < a
    · exact rprobe_x a b c d w h0 h1 h2 h3 h4
    · exact rprobe_y a b c d w h0 h1 h2 h3 (by omega) (by omega)

theorem up_more {a b : Int} (h1 : 1 ≤ b) (h : a / b * b < a) : a / b + 1 = (a + b - 1) / b := by
  have e := Int.mul_ediv_add_emod a b
  have r1 := Int.emod_lt_of_pos a (show 0 < b by omega)
  have c : b * (a / b) = a / b * b := Int.mul_comm _ _
  have e2 : a + b - 1 = (a % b - 1) + b * (a / b + 1) := by rw [Int.mul_add]; omega
  have z : (a % b - 1) / b = 0 := Int.ediv_eq_zero_of_lt (by omega) (by omega)
  rw [e2, Int.add_mul_ediv_left _ _ (by omega), z]
  omega
theorem up_same {a b : Int} (h1 : 1 ≤ b) (h : ¬ a / b * b < a) : a / b = (a + b - 1) / b := by
  have e := Int.mul_ediv_add_emod a b
  have r0 := Int.emod_nonneg a (show b ≠ 0 by omega)
  have c : b * (a / b) = a / b * b := Int.mul_comm _ _
  have e2 : a + b - 1 = (b - 1) + b * (a / b) := by omega
  have z : (b - 1) / b = 0 := Int.ediv_eq_zero_of_lt (by omega) (by omega)
  rw [e2, Int.add_mul_ediv_left _ _ (by omega), z]
  omega
theorem up_b {a b : Int} (h0 : 0 ≤ a) (h1 : 1 ≤ b) : 0 ≤ a / b * b ∧ a / b * b ≤ a := by
  have e := Int.mul_ediv_add_emod a b
  have r0 := Int.emod_nonneg a (show b ≠ 0 by omega)
  have c : b * (a / b) = a / b * b := Int.mul_comm _ _
  exact ⟨mul_low (quo_b h0 h1).1 (by omega), by omega⟩

set_option maxHeartbeats 1000000 in
theorem rup_same (a b : Int) (w : World) (h1 : 0 ≤ a) (h2 : a ≤ 2000000000000000000) (h3 : 1 ≤ b) (h4 : b ≤ 2000000) :
    Calls Tryd.prog 25 #[.int .i64 a, .int .i64 b] w fun e w' => e = .returned (.int .i64 ((a + b - 1) / b)) ∧ w' = w := by
  have q := quo_b h1 h3
  obtain ⟨q1, q2⟩ := q
  have r := up_b h1 h3
  obtain ⟨r1, r2⟩ := r
  have hnz : ¬ (b = 0) := by omega
  by_cases h : a / b * b < a
  · have H : Hid (a / b + 1 = (a + b - 1) / b) := up_more h3 h
    go_enter Tryd.func25, Tryd.ntmps25
    go_wp2
    go_ret
    exact ⟨(by rw [H.out]; rfl), rfl⟩
  · have H : Hid (a / b = (a + b - 1) / b) := up_same h3 h
    go_enter Tryd.func25, Tryd.ntmps25
    go_wp2
    go_ret
    exact ⟨(by rw [← H.out]; rfl), rfl⟩

set_option maxHeartbeats 1000000 in
theorem rslack (n p g : Int) (w : World) (h : rdy n p = true) (hg : Hid (g = (n * 3 * p + 1000000 - 1) / 1000000)) (g1 : 0 ≤ g) (g2 : g ≤ 3000000001) :
    Calls Tryd.prog 20 #[.int .i64 n, .int .i64 p] w fun e w' => e = .returned (.int .i64 (2 + g)) ∧ w' = w := by
  have q := rdy_t h
  obtain ⟨h1, h2, h3, h4⟩ := q
  have nb := nt_b (t := 3) h1 h2 (by decide) (by decide) h3 h4
  obtain ⟨b1, b2, b3, b4⟩ := nb
  have cU : ∀ u, Calls Tryd.prog 25 #[.int .i64 (n * 3 * p), .int .i64 1000000] u fun e w' => e = .returned (.int .i64 g) ∧ w' = u := by
    intro u
    rw [hg.out]
    exact rup_same (n * 3 * p) 1000000 u b3 (by omega) (by decide) (by decide)
  clear hg
  go_enter Tryd.func20, Tryd.ntmps20
  go_wp2_with (go_at_call 25; refine (cU _).mono ?_; rintro e u ⟨rfl, rfl⟩)
  go_ret
  exact ⟨rfl, rfl⟩

set_option maxHeartbeats 1000000 in
theorem round_ok (a b c d : Int) (w : World) (h : pE a b c d = 0) :
    Calls Tryd.prog 10 #[.agg #[.int .i64 a, .int .i64 b, .int .i64 c, .int .i64 d]] w fun e w' => e = .returned (.tuple #[.int .i64 (d - a - (c - b)), .nilIface]) ∧ Below w.heap.size w w' := by
  have cnt : Mark 0 := .mk _
  have q := pE_zero h
  have qa := tmB_t q.1
  have qb := tmB_t q.2.1
  have qc := tmB_t q.2.2.1
  have qd := tmB_t q.2.2.2.1
  clear q
  obtain ⟨a1, a2⟩ := qa
  obtain ⟨b1, b2⟩ := qb
  obtain ⟨c1, c2⟩ := qc
  obtain ⟨d1, d2⟩ := qd
  go_enter Tryd.func10, Tryd.ntmps10
  go_wp2_with (first | (go_at_call 9; have cq : Mark 0 := cnt; refine (pcheck_ok a b c d _ h).mono ?_; clear cq cnt; have cnt : Mark 1 := .mk _; rintro e u0 ⟨rfl, hb⟩; replace hw : Below w.heap.size w u0 := rbel_on hb (rbel_al (Below.refl _ _)); replace PP : Row u0 (w.heap.size) [.int .i64 (a), .int .i64 (b), .int .i64 (c), .int .i64 (d)] := Row.on hb (Row.made (by simp)); replace cP0 := PP.c 0 _ rfl; replace cP1 := PP.c 1 _ rfl; replace cP2 := PP.c 2 _ rfl; replace cP3 := PP.c 3 _ rfl; replace zP := PP.lt; clear hb))
  go_ret2
  exact ⟨rfl, hw⟩

set_option maxHeartbeats 1000000 in
theorem round_no (a b c d : Int) (w : World) (h : pE a b c d ≠ 0) :
    Calls Tryd.prog 10 #[.agg #[.int .i64 a, .int .i64 b, .int .i64 c, .int .i64 d]] w fun e w' => e = .returned (.tuple #[.int .i64 0, .iface 45 (.int .i64 (pE a b c d))]) ∧ Below w.heap.size w w' := by
  have cnt : Mark 0 := .mk _
  go_enter Tryd.func10, Tryd.ntmps10
  go_wp2_with (first | (go_at_call 9; have cq : Mark 0 := cnt; refine (pcheck_no a b c d _ h).mono ?_; clear cq cnt; have cnt : Mark 1 := .mk _; rintro e u0 ⟨rfl, hb⟩; replace hw : Below w.heap.size w u0 := rbel_on hb (rbel_al (Below.refl _ _)); replace PP : Row u0 (w.heap.size) [.int .i64 (a), .int .i64 (b), .int .i64 (c), .int .i64 (d)] := Row.on hb (Row.made (by simp)); replace cP0 := PP.c 0 _ rfl; replace cP1 := PP.c 1 _ rfl; replace cP2 := PP.c 2 _ rfl; replace cP3 := PP.c 3 _ rfl; replace zP := PP.lt; clear hb))
  go_ret2
  exact ⟨rfl, hw⟩

theorem errv_zero : errv 0 = .nilIface := if_pos rfl
theorem errv_not {f : Int} (h : f ≠ 0) : errv f = .iface 45 (.int .i64 f) := if_neg h
theorem check_e (a b c d : Int) (w : World) :
    Calls Tryd.prog 9 #[.agg #[.int .i64 a, .int .i64 b, .int .i64 c, .int .i64 d]] w fun e w' => e = .returned (errv (pE a b c d)) ∧ Below w.heap.size w w' := by
  by_cases h : pE a b c d = 0
  · rw [h, errv_zero]; exact pcheck_ok a b c d w h
  · rw [errv_not h]; exact pcheck_no a b c d w h
theorem round_e (a b c d : Int) (w : World) :
    Calls Tryd.prog 10 #[.agg #[.int .i64 a, .int .i64 b, .int .i64 c, .int .i64 d]] w fun e w' => e = .returned (.tuple #[.int .i64 (if pE a b c d = 0 then d - a - (c - b) else 0), errv (pE a b c d)]) ∧ Below w.heap.size w w' := by
  by_cases h : pE a b c d = 0
  · rw [h, errv_zero, if_pos rfl]; exact round_ok a b c d w h
  · rw [errv_not h, if_neg h]; exact round_no a b c d w h
theorem off_e (a b c d p : Int) (w : World) :
    Calls Tryd.prog 12 #[.agg #[.int .i64 a, .int .i64 b, .int .i64 c, .int .i64 d], .int .i64 p] w fun e w' => e = .returned (.tuple #[.agg #[.int .i64 (if oE a b c d p = 0 then c - d else 0), .int .i64 (if oE a b c d p = 0 then oH a b d p else 0)], errv (oE a b c d p)]) ∧ Below w.heap.size w w' := by
  by_cases h : oE a b c d p = 0
  · rw [if_pos h, if_pos h, h, errv_zero]; exact off_ok a b c d p w h
  · rw [if_neg h, if_neg h, errv_not h]; exact off_no a b c d p w h

end Go.Proofs.YtdhgfdbghfefnabDoor
