/- The ways through the law ProbeHolds on which a number is out of its range. -/
import Derived.Test.YtdhgfdbghfefnabProbeOff
import Derived.Test.YtdhgfdbghfefnabProbeTrue
import Derived.Test.YtdhgfdbghfefnabProbeShows
import Derived.Test.YtdhgfdbghfefnabSpanHas
import Derived.Deep.RegionHeld
import Derived.WalkKit
import Derived.ProofKit
import Derived.OpenShut
import Derived.Outline
import Derived.ShutString
import Derived.ChangeOld
import Derived.Below
import Derived.IntWalk
import Derived.WalkLawsBesides
import Derived.Lib.SmallJoins
namespace Go.Proofs.Ytdhgfdbghfefnab.probeHolds
open Go.ChangeShapes Go.WideShapes Go.ChangeAt Go.RowKit Go.Joins
open Go.ChangeMaps (open_string shut_string)
set_option linter.unusedVariables false
set_option linter.unusedSimpArgs false

theorem off_fact (w : World) : Calls Try.prog 7 #[.agg #[.int .i64 0, .int .i64 100, .int .i64 100, .int .i64 10], .int .i64 0] w fun e w' => e = .returned (.tuple #[.agg #[.int .i64 (90), .int .i64 (102)], .nilIface]) ∧ Below w.heap.size w w' :=
  off_ok 0 100 100 10 0 w (by decide)

set_option maxRecDepth 100000 in
set_option maxHeartbeats 1000000 in
theorem out0 (start ra rb ppm begin there stay back : Int) (w : World)  (h0 : start < -1000000) :
    Calls Try.prog 4 #[.int .i64 start, .int .i64 ra, .int .i64 rb, .int .i64 ppm, .int .i64 begin, .int .i64 there, .int .i64 stay, .int .i64 back] w fun e w' => e = .returned (.bool true) ∧ Below w.heap.size w w' := by
  have cnt : Mark 0 := .mk _
  go_enter Try.func4, Try.ntmps4
  go_wp2_with (first | (go_at_call 7; have cq : Mark 0 := cnt; refine (off_fact _).mono ?_; clear cq cnt; have cnt : Mark 1 := .mk _; rintro e u0 ⟨rfl, hb⟩; replace hw : Below w.heap.size w u0 := rbel_on hb (Below.refl _ _); clear hb))
  go_ret
  exact ⟨rfl, rbel_al (hw)⟩

set_option maxRecDepth 100000 in
set_option maxHeartbeats 1000000 in
theorem out1 (start ra rb ppm begin there stay back : Int) (w : World) (h0 : -1000000 ≤ start) (h1 : 1000000 < start) :
    Calls Try.prog 4 #[.int .i64 start, .int .i64 ra, .int .i64 rb, .int .i64 ppm, .int .i64 begin, .int .i64 there, .int .i64 stay, .int .i64 back] w fun e w' => e = .returned (.bool true) ∧ Below w.heap.size w w' := by
  have cnt : Mark 0 := .mk _
  go_enter Try.func4, Try.ntmps4
  go_wp2_with (first | (go_at_call 7; have cq : Mark 0 := cnt; refine (off_fact _).mono ?_; clear cq cnt; have cnt : Mark 1 := .mk _; rintro e u0 ⟨rfl, hb⟩; replace hw : Below w.heap.size w u0 := rbel_on hb (Below.refl _ _); clear hb))
  go_ret
  exact ⟨rfl, rbel_al (hw)⟩

set_option maxRecDepth 100000 in
set_option maxHeartbeats 1000000 in
theorem out2 (start ra rb ppm begin there stay back : Int) (w : World) (h0 : -1000000 ≤ start) (h1 : start ≤ 1000000) (h2 : ppm < 0) :
    Calls Try.prog 4 #[.int .i64 start, .int .i64 ra, .int .i64 rb, .int .i64 ppm, .int .i64 begin, .int .i64 there, .int .i64 stay, .int .i64 back] w fun e w' => e = .returned (.bool true) ∧ Below w.heap.size w w' := by
  have cnt : Mark 0 := .mk _
  go_enter Try.func4, Try.ntmps4
  go_wp2_with (first | (go_at_call 7; have cq : Mark 0 := cnt; refine (off_fact _).mono ?_; clear cq cnt; have cnt : Mark 1 := .mk _; rintro e u0 ⟨rfl, hb⟩; replace hw : Below w.heap.size w u0 := rbel_on hb (Below.refl _ _); clear hb))
  go_ret
  exact ⟨rfl, rbel_al (hw)⟩

set_option maxRecDepth 100000 in
set_option maxHeartbeats 1000000 in
theorem out3 (start ra rb ppm begin there stay back : Int) (w : World) (h0 : -1000000 ≤ start) (h1 : start ≤ 1000000) (h2 : 0 ≤ ppm) (h3 : 1000 < ppm) :
    Calls Try.prog 4 #[.int .i64 start, .int .i64 ra, .int .i64 rb, .int .i64 ppm, .int .i64 begin, .int .i64 there, .int .i64 stay, .int .i64 back] w fun e w' => e = .returned (.bool true) ∧ Below w.heap.size w w' := by
  have cnt : Mark 0 := .mk _
  go_enter Try.func4, Try.ntmps4
  go_wp2_with (first | (go_at_call 7; have cq : Mark 0 := cnt; refine (off_fact _).mono ?_; clear cq cnt; have cnt : Mark 1 := .mk _; rintro e u0 ⟨rfl, hb⟩; replace hw : Below w.heap.size w u0 := rbel_on hb (Below.refl _ _); clear hb))
  go_ret
  exact ⟨rfl, rbel_al (hw)⟩

set_option maxRecDepth 100000 in
set_option maxHeartbeats 1000000 in
theorem out4 (start ra rb ppm begin there stay back : Int) (w : World) (h0 : -1000000 ≤ start) (h1 : start ≤ 1000000) (h2 : 0 ≤ ppm) (h3 : ppm ≤ 1000) (h4 : ra < -ppm) :
    Calls Try.prog 4 #[.int .i64 start, .int .i64 ra, .int .i64 rb, .int .i64 ppm, .int .i64 begin, .int .i64 there, .int .i64 stay, .int .i64 back] w fun e w' => e = .returned (.bool true) ∧ Below w.heap.size w w' := by
  have cnt : Mark 0 := .mk _
  go_enter Try.func4, Try.ntmps4
  go_wp2_with (first | (go_at_call 7; have cq : Mark 0 := cnt; refine (off_fact _).mono ?_; clear cq cnt; have cnt : Mark 1 := .mk _; rintro e u0 ⟨rfl, hb⟩; replace hw : Below w.heap.size w u0 := rbel_on hb (Below.refl _ _); clear hb))
  go_ret
  exact ⟨rfl, rbel_al (hw)⟩

set_option maxRecDepth 100000 in
set_option maxHeartbeats 1000000 in
theorem out5 (start ra rb ppm begin there stay back : Int) (w : World) (h0 : -1000000 ≤ start) (h1 : start ≤ 1000000) (h2 : 0 ≤ ppm) (h3 : ppm ≤ 1000) (h4 : -ppm ≤ ra) (h5 : ppm < ra) :
    Calls Try.prog 4 #[.int .i64 start, .int .i64 ra, .int .i64 rb, .int .i64 ppm, .int .i64 begin, .int .i64 there, .int .i64 stay, .int .i64 back] w fun e w' => e = .returned (.bool true) ∧ Below w.heap.size w w' := by
  have cnt : Mark 0 := .mk _
  go_enter Try.func4, Try.ntmps4
  go_wp2_with (first | (go_at_call 7; have cq : Mark 0 := cnt; refine (off_fact _).mono ?_; clear cq cnt; have cnt : Mark 1 := .mk _; rintro e u0 ⟨rfl, hb⟩; replace hw : Below w.heap.size w u0 := rbel_on hb (Below.refl _ _); clear hb))
  go_ret
  exact ⟨rfl, rbel_al (hw)⟩

set_option maxRecDepth 100000 in
set_option maxHeartbeats 1000000 in
theorem out6 (start ra rb ppm begin there stay back : Int) (w : World) (h0 : -1000000 ≤ start) (h1 : start ≤ 1000000) (h2 : 0 ≤ ppm) (h3 : ppm ≤ 1000) (h4 : -ppm ≤ ra) (h5 : ra ≤ ppm) (h6 : rb < -ppm) :
    Calls Try.prog 4 #[.int .i64 start, .int .i64 ra, .int .i64 rb, .int .i64 ppm, .int .i64 begin, .int .i64 there, .int .i64 stay, .int .i64 back] w fun e w' => e = .returned (.bool true) ∧ Below w.heap.size w w' := by
  have cnt : Mark 0 := .mk _
  go_enter Try.func4, Try.ntmps4
  go_wp2_with (first | (go_at_call 7; have cq : Mark 0 := cnt; refine (off_fact _).mono ?_; clear cq cnt; have cnt : Mark 1 := .mk _; rintro e u0 ⟨rfl, hb⟩; replace hw : Below w.heap.size w u0 := rbel_on hb (Below.refl _ _); clear hb))
  go_ret
  exact ⟨rfl, rbel_al (hw)⟩

set_option maxRecDepth 100000 in
set_option maxHeartbeats 1000000 in
theorem out7 (start ra rb ppm begin there stay back : Int) (w : World) (h0 : -1000000 ≤ start) (h1 : start ≤ 1000000) (h2 : 0 ≤ ppm) (h3 : ppm ≤ 1000) (h4 : -ppm ≤ ra) (h5 : ra ≤ ppm) (h6 : -ppm ≤ rb) (h7 : ppm < rb) :
    Calls Try.prog 4 #[.int .i64 start, .int .i64 ra, .int .i64 rb, .int .i64 ppm, .int .i64 begin, .int .i64 there, .int .i64 stay, .int .i64 back] w fun e w' => e = .returned (.bool true) ∧ Below w.heap.size w w' := by
  have cnt : Mark 0 := .mk _
  go_enter Try.func4, Try.ntmps4
  go_wp2_with (first | (go_at_call 7; have cq : Mark 0 := cnt; refine (off_fact _).mono ?_; clear cq cnt; have cnt : Mark 1 := .mk _; rintro e u0 ⟨rfl, hb⟩; replace hw : Below w.heap.size w u0 := rbel_on hb (Below.refl _ _); clear hb))
  go_ret
  exact ⟨rfl, rbel_al (hw)⟩

set_option maxRecDepth 100000 in
set_option maxHeartbeats 1000000 in
theorem out8 (start ra rb ppm begin there stay back : Int) (w : World) (h0 : -1000000 ≤ start) (h1 : start ≤ 1000000) (h2 : 0 ≤ ppm) (h3 : ppm ≤ 1000) (h4 : -ppm ≤ ra) (h5 : ra ≤ ppm) (h6 : -ppm ≤ rb) (h7 : rb ≤ ppm) (h8 : begin < 0) :
    Calls Try.prog 4 #[.int .i64 start, .int .i64 ra, .int .i64 rb, .int .i64 ppm, .int .i64 begin, .int .i64 there, .int .i64 stay, .int .i64 back] w fun e w' => e = .returned (.bool true) ∧ Below w.heap.size w w' := by
  have cnt : Mark 0 := .mk _
  go_enter Try.func4, Try.ntmps4
  go_wp2_with (first | (go_at_call 7; have cq : Mark 0 := cnt; refine (off_fact _).mono ?_; clear cq cnt; have cnt : Mark 1 := .mk _; rintro e u0 ⟨rfl, hb⟩; replace hw : Below w.heap.size w u0 := rbel_on hb (Below.refl _ _); clear hb))
  go_ret
  exact ⟨rfl, rbel_al (hw)⟩

set_option maxRecDepth 100000 in
set_option maxHeartbeats 1000000 in
theorem out9 (start ra rb ppm begin there stay back : Int) (w : World) (h0 : -1000000 ≤ start) (h1 : start ≤ 1000000) (h2 : 0 ≤ ppm) (h3 : ppm ≤ 1000) (h4 : -ppm ≤ ra) (h5 : ra ≤ ppm) (h6 : -ppm ≤ rb) (h7 : rb ≤ ppm) (h8 : 0 ≤ begin) (h9 : 100000000 < begin) :
    Calls Try.prog 4 #[.int .i64 start, .int .i64 ra, .int .i64 rb, .int .i64 ppm, .int .i64 begin, .int .i64 there, .int .i64 stay, .int .i64 back] w fun e w' => e = .returned (.bool true) ∧ Below w.heap.size w w' := by
  have cnt : Mark 0 := .mk _
  go_enter Try.func4, Try.ntmps4
  go_wp2_with (first | (go_at_call 7; have cq : Mark 0 := cnt; refine (off_fact _).mono ?_; clear cq cnt; have cnt : Mark 1 := .mk _; rintro e u0 ⟨rfl, hb⟩; replace hw : Below w.heap.size w u0 := rbel_on hb (Below.refl _ _); clear hb))
  go_ret
  exact ⟨rfl, rbel_al (hw)⟩

set_option maxRecDepth 100000 in
set_option maxHeartbeats 1000000 in
theorem out10 (start ra rb ppm begin there stay back : Int) (w : World) (h0 : -1000000 ≤ start) (h1 : start ≤ 1000000) (h2 : 0 ≤ ppm) (h3 : ppm ≤ 1000) (h4 : -ppm ≤ ra) (h5 : ra ≤ ppm) (h6 : -ppm ≤ rb) (h7 : rb ≤ ppm) (h8 : 0 ≤ begin) (h9 : begin ≤ 100000000) (h10 : there < 0) :
    Calls Try.prog 4 #[.int .i64 start, .int .i64 ra, .int .i64 rb, .int .i64 ppm, .int .i64 begin, .int .i64 there, .int .i64 stay, .int .i64 back] w fun e w' => e = .returned (.bool true) ∧ Below w.heap.size w w' := by
  have cnt : Mark 0 := .mk _
  go_enter Try.func4, Try.ntmps4
  go_wp2_with (first | (go_at_call 7; have cq : Mark 0 := cnt; refine (off_fact _).mono ?_; clear cq cnt; have cnt : Mark 1 := .mk _; rintro e u0 ⟨rfl, hb⟩; replace hw : Below w.heap.size w u0 := rbel_on hb (Below.refl _ _); clear hb))
  go_ret
  exact ⟨rfl, rbel_al (hw)⟩

set_option maxRecDepth 100000 in
set_option maxHeartbeats 1000000 in
theorem out11 (start ra rb ppm begin there stay back : Int) (w : World) (h0 : -1000000 ≤ start) (h1 : start ≤ 1000000) (h2 : 0 ≤ ppm) (h3 : ppm ≤ 1000) (h4 : -ppm ≤ ra) (h5 : ra ≤ ppm) (h6 : -ppm ≤ rb) (h7 : rb ≤ ppm) (h8 : 0 ≤ begin) (h9 : begin ≤ 100000000) (h10 : 0 ≤ there) (h11 : 100000000 < there) :
    Calls Try.prog 4 #[.int .i64 start, .int .i64 ra, .int .i64 rb, .int .i64 ppm, .int .i64 begin, .int .i64 there, .int .i64 stay, .int .i64 back] w fun e w' => e = .returned (.bool true) ∧ Below w.heap.size w w' := by
  have cnt : Mark 0 := .mk _
  go_enter Try.func4, Try.ntmps4
  go_wp2_with (first | (go_at_call 7; have cq : Mark 0 := cnt; refine (off_fact _).mono ?_; clear cq cnt; have cnt : Mark 1 := .mk _; rintro e u0 ⟨rfl, hb⟩; replace hw : Below w.heap.size w u0 := rbel_on hb (Below.refl _ _); clear hb))
  go_ret
  exact ⟨rfl, rbel_al (hw)⟩

set_option maxRecDepth 100000 in
set_option maxHeartbeats 1000000 in
theorem out12 (start ra rb ppm begin there stay back : Int) (w : World) (h0 : -1000000 ≤ start) (h1 : start ≤ 1000000) (h2 : 0 ≤ ppm) (h3 : ppm ≤ 1000) (h4 : -ppm ≤ ra) (h5 : ra ≤ ppm) (h6 : -ppm ≤ rb) (h7 : rb ≤ ppm) (h8 : 0 ≤ begin) (h9 : begin ≤ 100000000) (h10 : 0 ≤ there) (h11 : there ≤ 100000000) (h12 : stay < 0) :
    Calls Try.prog 4 #[.int .i64 start, .int .i64 ra, .int .i64 rb, .int .i64 ppm, .int .i64 begin, .int .i64 there, .int .i64 stay, .int .i64 back] w fun e w' => e = .returned (.bool true) ∧ Below w.heap.size w w' := by
  have cnt : Mark 0 := .mk _
  go_enter Try.func4, Try.ntmps4
  go_wp2_with (first | (go_at_call 7; have cq : Mark 0 := cnt; refine (off_fact _).mono ?_; clear cq cnt; have cnt : Mark 1 := .mk _; rintro e u0 ⟨rfl, hb⟩; replace hw : Below w.heap.size w u0 := rbel_on hb (Below.refl _ _); clear hb))
  go_ret
  exact ⟨rfl, rbel_al (hw)⟩

set_option maxRecDepth 100000 in
set_option maxHeartbeats 1000000 in
theorem out13 (start ra rb ppm begin there stay back : Int) (w : World) (h0 : -1000000 ≤ start) (h1 : start ≤ 1000000) (h2 : 0 ≤ ppm) (h3 : ppm ≤ 1000) (h4 : -ppm ≤ ra) (h5 : ra ≤ ppm) (h6 : -ppm ≤ rb) (h7 : rb ≤ ppm) (h8 : 0 ≤ begin) (h9 : begin ≤ 100000000) (h10 : 0 ≤ there) (h11 : there ≤ 100000000) (h12 : 0 ≤ stay) (h13 : 100000000 < stay) :
    Calls Try.prog 4 #[.int .i64 start, .int .i64 ra, .int .i64 rb, .int .i64 ppm, .int .i64 begin, .int .i64 there, .int .i64 stay, .int .i64 back] w fun e w' => e = .returned (.bool true) ∧ Below w.heap.size w w' := by
  have cnt : Mark 0 := .mk _
  go_enter Try.func4, Try.ntmps4
  go_wp2_with (first | (go_at_call 7; have cq : Mark 0 := cnt; refine (off_fact _).mono ?_; clear cq cnt; have cnt : Mark 1 := .mk _; rintro e u0 ⟨rfl, hb⟩; replace hw : Below w.heap.size w u0 := rbel_on hb (Below.refl _ _); clear hb))
  go_ret
  exact ⟨rfl, rbel_al (hw)⟩

set_option maxRecDepth 100000 in
set_option maxHeartbeats 1000000 in
theorem out14 (start ra rb ppm begin there stay back : Int) (w : World) (h0 : -1000000 ≤ start) (h1 : start ≤ 1000000) (h2 : 0 ≤ ppm) (h3 : ppm ≤ 1000) (h4 : -ppm ≤ ra) (h5 : ra ≤ ppm) (h6 : -ppm ≤ rb) (h7 : rb ≤ ppm) (h8 : 0 ≤ begin) (h9 : begin ≤ 100000000) (h10 : 0 ≤ there) (h11 : there ≤ 100000000) (h12 : 0 ≤ stay) (h13 : stay ≤ 100000000) (h14 : back < 0) :
    Calls Try.prog 4 #[.int .i64 start, .int .i64 ra, .int .i64 rb, .int .i64 ppm, .int .i64 begin, .int .i64 there, .int .i64 stay, .int .i64 back] w fun e w' => e = .returned (.bool true) ∧ Below w.heap.size w w' := by
  have cnt : Mark 0 := .mk _
  go_enter Try.func4, Try.ntmps4
  go_wp2_with (first | (go_at_call 7; have cq : Mark 0 := cnt; refine (off_fact _).mono ?_; clear cq cnt; have cnt : Mark 1 := .mk _; rintro e u0 ⟨rfl, hb⟩; replace hw : Below w.heap.size w u0 := rbel_on hb (Below.refl _ _); clear hb))
  go_ret
  exact ⟨rfl, rbel_al (hw)⟩

set_option maxRecDepth 100000 in
set_option maxHeartbeats 1000000 in
theorem out15 (start ra rb ppm begin there stay back : Int) (w : World) (h0 : -1000000 ≤ start) (h1 : start ≤ 1000000) (h2 : 0 ≤ ppm) (h3 : ppm ≤ 1000) (h4 : -ppm ≤ ra) (h5 : ra ≤ ppm) (h6 : -ppm ≤ rb) (h7 : rb ≤ ppm) (h8 : 0 ≤ begin) (h9 : begin ≤ 100000000) (h10 : 0 ≤ there) (h11 : there ≤ 100000000) (h12 : 0 ≤ stay) (h13 : stay ≤ 100000000) (h14 : 0 ≤ back) (h15 : 100000000 < back) :
    Calls Try.prog 4 #[.int .i64 start, .int .i64 ra, .int .i64 rb, .int .i64 ppm, .int .i64 begin, .int .i64 there, .int .i64 stay, .int .i64 back] w fun e w' => e = .returned (.bool true) ∧ Below w.heap.size w w' := by
  have cnt : Mark 0 := .mk _
  go_enter Try.func4, Try.ntmps4
  go_wp2_with (first | (go_at_call 7; have cq : Mark 0 := cnt; refine (off_fact _).mono ?_; clear cq cnt; have cnt : Mark 1 := .mk _; rintro e u0 ⟨rfl, hb⟩; replace hw : Below w.heap.size w u0 := rbel_on hb (Below.refl _ _); clear hb))
  go_ret
  exact ⟨rfl, rbel_al (hw)⟩

end Go.Proofs.Ytdhgfdbghfefnab.probeHolds
