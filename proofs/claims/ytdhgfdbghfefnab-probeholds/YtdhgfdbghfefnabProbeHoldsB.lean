/- The way through the law ProbeHolds on which all numbers are in their range. -/
import Derived.Test.YtdhgfdbghfefnabProbeOff
import Derived.Test.YtdhgfdbghfefnabProbeTrue
import Derived.Test.YtdhgfdbghfefnabProbeShows
import Derived.Test.YtdhgfdbghfefnabSpanHas
import Derived.Deep.RegionHeld
import Derived.WalkKit
import Derived.ProofKit
import Derived.OpenShut
import Derived.Outline
import Derived.ShutString
import Derived.ChangeOld
import Derived.Below
import Derived.IntWalk
import Derived.WalkLawsBesides
import Derived.Lib.SmallJoins
namespace Go.Proofs.Ytdhgfdbghfefnab.probeHolds
open Go.ChangeShapes Go.WideShapes Go.ChangeAt Go.RowKit Go.Joins
open Go.ChangeMaps (open_string shut_string)
set_option linter.unusedVariables false
set_option linter.unusedSimpArgs false

theorem off_fact2 (w : World) : Calls Try.prog 7 #[.agg #[.int .i64 0, .int .i64 100, .int .i64 100, .int .i64 10], .int .i64 0] w fun e w' => e = .returned (.tuple #[.agg #[.int .i64 (90), .int .i64 (102)], .nilIface]) ∧ Below w.heap.size w w' :=
  off_ok 0 100 100 10 0 w (by decide)

set_option maxRecDepth 100000 in
set_option maxHeartbeats 4000000 in
theorem inside (start ra rb ppm begin there stay back : Int) (w : World) (h0 : -1000000 ≤ start) (h1 : start ≤ 1000000) (h2 : 0 ≤ ppm) (h3 : ppm ≤ 1000) (h4 : -ppm ≤ ra) (h5 : ra ≤ ppm) (h6 : -ppm ≤ rb) (h7 : rb ≤ ppm) (h8 : 0 ≤ begin) (h9 : begin ≤ 100000000) (h10 : 0 ≤ there) (h11 : there ≤ 100000000) (h12 : 0 ≤ stay) (h13 : stay ≤ 100000000) (h14 : 0 ≤ back) (h15 : back ≤ 100000000) (T1 T2 T3 T4 B4 hi : Int)
    (cT1 : ∀ w, Calls Try.prog 8 #[.int .i64 0, .int .i64 ra, .int .i64 (begin)] w fun e w' => e = .returned (.int .i64 T1) ∧ w' = w)
    (cT2 : ∀ w, Calls Try.prog 8 #[.int .i64 start, .int .i64 rb, .int .i64 (begin + there)] w fun e w' => e = .returned (.int .i64 T2) ∧ w' = w)
    (cT3 : ∀ w, Calls Try.prog 8 #[.int .i64 start, .int .i64 rb, .int .i64 (begin + there + stay)] w fun e w' => e = .returned (.int .i64 T3) ∧ w' = w)
    (cT4 : ∀ w, Calls Try.prog 8 #[.int .i64 0, .int .i64 ra, .int .i64 (begin + there + stay + back)] w fun e w' => e = .returned (.int .i64 T4) ∧ w' = w)
    (cB4 : ∀ w, Calls Try.prog 8 #[.int .i64 start, .int .i64 rb, .int .i64 (begin + there + stay + back)] w fun e w' => e = .returned (.int .i64 B4) ∧ w' = w)
    (cO : ∀ w, Calls Try.prog 7 #[.agg #[.int .i64 T1, .int .i64 T2, .int .i64 T3, .int .i64 T4], .int .i64 ppm] w fun e w' => e = .returned (.tuple #[.agg #[.int .i64 (T3 - T4), .int .i64 hi], .nilIface]) ∧ Below w.heap.size w w')
    (cH : ∀ w, Calls Try.prog 9 #[.agg #[.int .i64 (T3 - T4), .int .i64 hi], .int .i64 (B4 - T4)] w fun e w' => e = .returned (.tuple #[.bool true, .nilIface]) ∧ Below w.heap.size w w') (q1 : -1000000000 ≤ B4) (q2 : B4 ≤ 1000000000) (q3 : -1000000000 ≤ T4) (q4 : T4 ≤ 1000000000) :
    Calls Try.prog 4 #[.int .i64 start, .int .i64 ra, .int .i64 rb, .int .i64 ppm, .int .i64 begin, .int .i64 there, .int .i64 stay, .int .i64 back] w fun e w' => e = .returned (.bool true) ∧ Below w.heap.size w w' := by
  have cnt : Mark 0 := .mk _
  go_enter Try.func4, Try.ntmps4
  go_wp2_with (first | (go_at_call 7; have cq : Mark 0 := cnt; refine (off_fact2 _).mono ?_; clear cq cnt; have cnt : Mark 1 := .mk _; rintro e u0 ⟨rfl, hb⟩; replace hw : Below w.heap.size w u0 := rbel_on hb (Below.refl _ _); clear hb) | (go_at_call 8; have cq : Mark 1 := cnt; refine (cT1 _).mono ?_; clear cq cnt; have cnt : Mark 2 := .mk _; rintro e v ⟨rfl, rfl⟩) | (go_at_call 8; have cq : Mark 2 := cnt; refine (cT2 _).mono ?_; clear cq cnt; have cnt : Mark 3 := .mk _; rintro e v ⟨rfl, rfl⟩) | (go_at_call 8; have cq : Mark 3 := cnt; refine (cT3 _).mono ?_; clear cq cnt; have cnt : Mark 4 := .mk _; rintro e v ⟨rfl, rfl⟩) | (go_at_call 8; have cq : Mark 4 := cnt; refine (cT4 _).mono ?_; clear cq cnt; have cnt : Mark 5 := .mk _; rintro e v ⟨rfl, rfl⟩) | (go_at_call 7; have cq : Mark 5 := cnt; refine (cO _).mono ?_; clear cq cnt; have cnt : Mark 6 := .mk _; rintro e u5 ⟨rfl, hb⟩; replace hw : Below w.heap.size w u5 := rbel_on hb (rbel_al (rbel_al (hw))); replace PF : Row u5 (u0.heap.size) [.int .i64 (90), .int .i64 (102)] := Row.on hb (Row.al (Row.made (by simp))); replace cF0 := PF.c 0 _ rfl; replace cF1 := PF.c 1 _ rfl; replace zF := PF.lt; replace PP : Row u5 (u0.heap.size + 1) [.int .i64 (T1), .int .i64 (T2), .int .i64 (T3), .int .i64 (T4)] := Row.on hb (Row.made (by simp)); replace cP0 := PP.c 0 _ rfl; replace cP1 := PP.c 1 _ rfl; replace cP2 := PP.c 2 _ rfl; replace cP3 := PP.c 3 _ rfl; replace zP := PP.lt; clear hb))
  have e1 : IntKind.i64.wrap (B4 - T4) = B4 - T4 := IntWalk.i64_in _ (by omega)
  replace cnt : Mark 6 := .mk _
  go_region_held (fun w' => w'.cell? ⟨u5.heap.size, 0, none⟩ = some (.int .i64 (T3 - T4)) ∧ w'.cell? ⟨u5.heap.size, 1, none⟩ = some (.int .i64 hi)) (go_keep) (first | (go_at_call 8; have cq : Mark 6 := cnt; refine (cB4 _).mono ?_; clear cq cnt; have cnt : Mark 7 := .mk _; rintro e v ⟨rfl, rfl⟩) | (go_at_call 8; have cq : Mark 7 := cnt; refine (cT4 _).mono ?_; clear cq cnt; have cnt : Mark 8 := .mk _; rintro e v ⟨rfl, rfl⟩) | (go_at_call 9; have cq : Mark 8 := cnt; refine (cH _).mono ?_; clear cq cnt; have cnt : Mark 9 := .mk _; rintro e u8 ⟨rfl, hb⟩; replace hw : Below w.heap.size w u8 := rbel_on hb (rbel_dr (rbel_al (hw))); replace PF : Row u8 (u0.heap.size) [.int .i64 (90), .int .i64 (102)] := Row.on hb (Row.dr (Row.al (PF))); replace cF0 := PF.c 0 _ rfl; replace cF1 := PF.c 1 _ rfl; replace zF := PF.lt; replace PP : Row u8 (u0.heap.size + 1) [.int .i64 (T1), .int .i64 (T2), .int .i64 (T3), .int .i64 (T4)] := Row.on hb (Row.dr (Row.al (PP))); replace cP0 := PP.c 0 _ rfl; replace cP1 := PP.c 1 _ rfl; replace cP2 := PP.c 2 _ rfl; replace cP3 := PP.c 3 _ rfl; replace zP := PP.lt; replace PS : Row u8 (u5.heap.size) [.int .i64 (T3 - T4), .int .i64 (hi)] := Row.on hb (Row.dr (Row.made (by simp))); replace cS0 := PS.c 0 _ rfl; replace cS1 := PS.c 1 _ rfl; replace zS := PS.lt; clear hb))
  go_wp2
  go_ret
  exact ⟨rfl, hw⟩

end Go.Proofs.Ytdhgfdbghfefnab.probeHolds
