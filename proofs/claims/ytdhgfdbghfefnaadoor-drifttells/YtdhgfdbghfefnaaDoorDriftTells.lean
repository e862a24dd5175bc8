/- By how much any time grows at any rate, how any span ages, and how local time and true time go: as the document says; the function DriftTells answers true, whatever the input. Condition: errors.errorType holds what the program text lays there (the card ties it). -/
import Derived.Test.YtdhgfdbghfefnaaDoorDriftRef
import Derived.Test.YtdhgfdbghfefnaaDoorRef1
import Derived.Test.YtdhgfdbghfefnaaDoorTold
import Derived.Test.YtdhgfdbghfefnaaDoorTwo
import Derived.Test.YtdhgfdbghfefnaaDoorDriftTellsA
import Derived.Test.YtdhgfdbghfefnaaDoorDriftTellsB
import Derived.Test.YtdhgfdbghfefnaaDoorCards
import Derived.Test.YtdhgfdbghfefnaaDoorTie
import Derived.Deep.DeepHandedRow
import Derived.Deep.DeepWitnessRowRef
import Derived.LaidMore
import Derived.MakeChecks
import Derived.ChangeOld
import Derived.Lib.SmallJoins
import Derived.Deep.RegionWith
import Derived.Deep.RegionHeld
import Derived.WalkKit
import Derived.ProofKit
import Derived.OpenShut
import Derived.Outline
import Derived.Below
import Derived.IntWalk
import Derived.WalkLawsBesides
namespace Go.Proofs.YtdhgfdbghfefnaaDoor.driftTells
open Go.ChangeShapes Go.WideShapes Go.ChangeAt Go.RowKit Go.Joins Go.Proofs.YtdhgfdbghfefnaaDoor.told
set_option linter.unusedVariables false
set_option linter.unusedSimpArgs false

set_option maxRecDepth 100000 in
set_option maxHeartbeats 4000000 in
theorem wNno (n p a b : Int) (w : World) (hr : rdy n p = false) (hg : Hid (EnvE w)) (kS : okB a b = false) :
    Calls Tryd.prog 5 #[.int .i64 n, .int .i64 p, .agg #[.int .i64 a, .int .i64 b]] w fun e w' => e = .returned (.bool true) ∧ Below w.heap.size w w' := by
  have cnt : Mark 0 := .mk _
  go_enter Tryd.func5, Tryd.ntmps5
  go_wp2_with (first | (go_at_call 23; have cq : Mark 0 := cnt; refine (rready_eq n p false _ hr).mono ?_; clear cq cnt; have cnt : Mark 1 := .mk _; rintro e u0 ⟨rfl, hb⟩; replace hw : Below w.heap.size w u0 := bel_on hb (bel_al (Below.refl _ _)); replace PS : Two u0 (w.heap.size) (.int .i64 a) (.int .i64 b) := Two.on hb (Two.made (by simp)); replace cS0 := PS.c0; replace cS1 := PS.c1; replace zS := PS.lt; have y0_S_0 : w.heap.size < u0.heap.size := (by omega); have n0_S_0 : ¬ (u0.heap.size = w.heap.size) := (by omega); have m0_S_0 : ¬ (w.heap.size = u0.heap.size) := (by omega); have y0_S_1 : w.heap.size < u0.heap.size + 1 := (by omega); have n0_S_1 : ¬ (u0.heap.size + 1 = w.heap.size) := (by omega); have m0_S_1 : ¬ (w.heap.size = u0.heap.size + 1) := (by omega); have y0_S_2 : w.heap.size < u0.heap.size + 1 + 1 := (by omega); have n0_S_2 : ¬ (u0.heap.size + 1 + 1 = w.heap.size) := (by omega); have m0_S_2 : ¬ (w.heap.size = u0.heap.size + 1 + 1) := (by omega); clear hb) | (go_at_call 25; have cq : Mark 1 := cnt; refine (grow_no n p _ hr).mono ?_; clear cq cnt; have cnt : Mark 2 := .mk _; rintro e u1 ⟨rfl, hb⟩; replace hw : Below w.heap.size w u1 := bel_on hb (bel_al (bel_al (bel_al (hw)))); replace PS : Two u1 (w.heap.size) (.int .i64 a) (.int .i64 b) := Two.on hb (Two.al (Two.al (Two.al (PS)))); replace cS0 := PS.c0; replace cS1 := PS.c1; replace zS := PS.lt; replace PL : Two u1 (u0.heap.size) (.int .i64 0) (.int .i64 0) := Two.on hb (Two.al (Two.al (Two.made (by simp)))); replace cL0 := PL.c0; replace cL1 := PL.c1; replace zL := PL.lt; replace PR : Two u1 (u0.heap.size + 1) (.int .i64 0) (.int .i64 0) := Two.on hb (Two.al (Two.made (by simp))); replace cR0 := PR.c0; replace cR1 := PR.c1; replace zR := PR.lt; replace PA : Two u1 (u0.heap.size + 1 + 1) (.int .i64 0) (.int .i64 0) := Two.on hb (Two.made (by simp)); replace cA0 := PA.c0; replace cA1 := PA.c1; replace zA := PA.lt; clear hb) | (go_at_call 7; have cq : Mark 2 := cnt; refine (error_errno 1 _ (hg.out.below (hw))).mono ?_; clear cq cnt; have cnt : Mark 3 := .mk _; rintro e u2 ⟨rfl, hb⟩; replace hw : Below w.heap.size w u2 := bel_on hb (hw); replace PS : Two u2 (w.heap.size) (.int .i64 a) (.int .i64 b) := Two.on hb (PS); replace cS0 := PS.c0; replace cS1 := PS.c1; replace zS := PS.lt; replace PL : Two u2 (u0.heap.size) (.int .i64 0) (.int .i64 0) := Two.on hb (PL); replace cL0 := PL.c0; replace cL1 := PL.c1; replace zL := PL.lt; replace PR : Two u2 (u0.heap.size + 1) (.int .i64 0) (.int .i64 0) := Two.on hb (PR); replace cR0 := PR.c0; replace cR1 := PR.c1; replace zR := PR.lt; replace PA : Two u2 (u0.heap.size + 1 + 1) (.int .i64 0) (.int .i64 0) := Two.on hb (PA); replace cA0 := PA.c0; replace cA1 := PA.c1; replace zA := PA.lt; clear hb) | (go_at_call 26; have cq : Mark 3 := cnt; refine (local_no n p _ hr).mono ?_; clear cq cnt; have cnt : Mark 4 := .mk _; rintro e u3 ⟨rfl, hb⟩; replace hw : Below w.heap.size w u3 := bel_on hb (hw); replace PS : Two u3 (w.heap.size) (.int .i64 a) (.int .i64 b) := Two.on hb (PS); replace cS0 := PS.c0; replace cS1 := PS.c1; replace zS := PS.lt; replace PL : Two u3 (u0.heap.size) (.int .i64 0) (.int .i64 0) := Two.on hb (PL); replace cL0 := PL.c0; replace cL1 := PL.c1; replace zL := PL.lt; replace PR : Two u3 (u0.heap.size + 1) (.int .i64 0) (.int .i64 0) := Two.on hb (PR); replace cR0 := PR.c0; replace cR1 := PR.c1; replace zR := PR.lt; replace PA : Two u3 (u0.heap.size + 1 + 1) (.int .i64 0) (.int .i64 0) := Two.on hb (PA); replace cA0 := PA.c0; replace cA1 := PA.c1; replace zA := PA.lt; have y3_S_0 : w.heap.size < u3.heap.size := (by omega); have n3_S_0 : ¬ (u3.heap.size = w.heap.size) := (by omega); have m3_S_0 : ¬ (w.heap.size = u3.heap.size) := (by omega); have y3_L_0 : u0.heap.size < u3.heap.size := (by omega); have n3_L_0 : ¬ (u3.heap.size = u0.heap.size) := (by omega); have m3_L_0 : ¬ (u0.heap.size = u3.heap.size) := (by omega); have y3_R_0 : u0.heap.size + 1 < u3.heap.size := (by omega); have n3_R_0 : ¬ (u3.heap.size = u0.heap.size + 1) := (by omega); have m3_R_0 : ¬ (u0.heap.size + 1 = u3.heap.size) := (by omega); have y3_A_0 : u0.heap.size + 1 + 1 < u3.heap.size := (by omega); have n3_A_0 : ¬ (u3.heap.size = u0.heap.size + 1 + 1) := (by omega); have m3_A_0 : ¬ (u0.heap.size + 1 + 1 = u3.heap.size) := (by omega); clear hb) | (go_at_call 7; have cq : Mark 4 := cnt; refine (error_errno 1 _ (hg.out.below (bel_al (hw)))).mono ?_; clear cq cnt; have cnt : Mark 5 := .mk _; rintro e u4 ⟨rfl, hb⟩; replace hw : Below w.heap.size w u4 := bel_on hb (bel_al (hw)); replace PS : Two u4 (w.heap.size) (.int .i64 a) (.int .i64 b) := Two.on hb (Two.al (PS)); replace cS0 := PS.c0; replace cS1 := PS.c1; replace zS := PS.lt; replace PL : Two u4 (u0.heap.size) (.int .i64 0) (.int .i64 0) := Two.on hb (Two.al (PL)); replace cL0 := PL.c0; replace cL1 := PL.c1; replace zL := PL.lt; replace PR : Two u4 (u0.heap.size + 1) (.int .i64 0) (.int .i64 0) := Two.on hb (Two.al (PR)); replace cR0 := PR.c0; replace cR1 := PR.c1; replace zR := PR.lt; replace PA : Two u4 (u0.heap.size + 1 + 1) (.int .i64 0) (.int .i64 0) := Two.on hb (Two.al (PA)); replace cA0 := PA.c0; replace cA1 := PA.c1; replace zA := PA.lt; replace PX : Two u4 (u3.heap.size) (.int .i64 0) (.int .i64 0) := Two.on hb (Two.made (by simp)); replace cX0 := PX.c0; replace cX1 := PX.c1; replace zX := PX.lt; replace fX0 := PX.f0; replace fX1 := PX.f1; clear hb) | (go_at_call 27; have cq : Mark 5 := cnt; refine (true_no n p _ hr).mono ?_; clear cq cnt; have cnt : Mark 6 := .mk _; rintro e u5 ⟨rfl, hb⟩; replace hw : Below w.heap.size w u5 := bel_on hb (hw); replace PS : Two u5 (w.heap.size) (.int .i64 a) (.int .i64 b) := Two.on hb (PS); replace cS0 := PS.c0; replace cS1 := PS.c1; replace zS := PS.lt; replace PL : Two u5 (u0.heap.size) (.int .i64 0) (.int .i64 0) := Two.on hb (PL); replace cL0 := PL.c0; replace cL1 := PL.c1; replace zL := PL.lt; replace PR : Two u5 (u0.heap.size + 1) (.int .i64 0) (.int .i64 0) := Two.on hb (PR); replace cR0 := PR.c0; replace cR1 := PR.c1; replace zR := PR.lt; replace PA : Two u5 (u0.heap.size + 1 + 1) (.int .i64 0) (.int .i64 0) := Two.on hb (PA); replace cA0 := PA.c0; replace cA1 := PA.c1; replace zA := PA.lt; replace PX : Two u5 (u3.heap.size) (.int .i64 0) (.int .i64 0) := Two.on hb (PX); replace cX0 := PX.c0; replace cX1 := PX.c1; replace zX := PX.lt; replace fX0 := PX.f0; replace fX1 := PX.f1; clear hb) | (go_at_call 7; have cq : Mark 6 := cnt; refine (error_errno 1 _ (hg.out.below (bel_put (by omega) (hw)))).mono ?_; clear cq cnt; have cnt : Mark 7 := .mk _; rintro e u6 ⟨rfl, hb⟩; replace hw : Below w.heap.size w u6 := bel_on hb (bel_put (by omega) (hw)); replace PS : Two u6 (w.heap.size) (.int .i64 a) (.int .i64 b) := Two.on hb (Two.far (by omega) (PS)); replace cS0 := PS.c0; replace cS1 := PS.c1; replace zS := PS.lt; replace PL : Two u6 (u0.heap.size) (.int .i64 0) (.int .i64 0) := Two.on hb (Two.far (by omega) (PL)); replace cL0 := PL.c0; replace cL1 := PL.c1; replace zL := PL.lt; replace PR : Two u6 (u0.heap.size + 1) (.int .i64 0) (.int .i64 0) := Two.on hb (Two.far (by omega) (PR)); replace cR0 := PR.c0; replace cR1 := PR.c1; replace zR := PR.lt; replace PA : Two u6 (u0.heap.size + 1 + 1) (.int .i64 0) (.int .i64 0) := Two.on hb (Two.far (by omega) (PA)); replace cA0 := PA.c0; replace cA1 := PA.c1; replace zA := PA.lt; replace PX : Two u6 (u3.heap.size) (.int .i64 0) (.int .i64 0) := Two.on hb (Two.put (PX)); replace cX0 := PX.c0; replace cX1 := PX.c1; replace zX := PX.lt; replace fX0 := PX.f0; replace fX1 := PX.f1; clear hb) | (go_at_call 6; have cq : Mark 7 := cnt; refine (rspan_eq a b false _ kS).mono ?_; clear cq cnt; have cnt : Mark 8 := .mk _; rintro e u7 ⟨rfl, hb⟩; replace hw : Below w.heap.size w u7 := bel_on hb (hw); replace PS : Two u7 (w.heap.size) (.int .i64 a) (.int .i64 b) := Two.on hb (PS); replace cS0 := PS.c0; replace cS1 := PS.c1; replace zS := PS.lt; replace PL : Two u7 (u0.heap.size) (.int .i64 0) (.int .i64 0) := Two.on hb (PL); replace cL0 := PL.c0; replace cL1 := PL.c1; replace zL := PL.lt; replace PR : Two u7 (u0.heap.size + 1) (.int .i64 0) (.int .i64 0) := Two.on hb (PR); replace cR0 := PR.c0; replace cR1 := PR.c1; replace zR := PR.lt; replace PA : Two u7 (u0.heap.size + 1 + 1) (.int .i64 0) (.int .i64 0) := Two.on hb (PA); replace cA0 := PA.c0; replace cA1 := PA.c1; replace zA := PA.lt; replace PX : Two u7 (u3.heap.size) (.int .i64 0) (.int .i64 0) := Two.on hb (PX); replace cX0 := PX.c0; replace cX1 := PX.c1; replace zX := PX.lt; replace fX0 := PX.f0; replace fX1 := PX.f1; clear hb) | (go_at_call 28; have cq : Mark 8 := cnt; refine (age_none a b n p _ kS).mono ?_; clear cq cnt; have cnt : Mark 9 := .mk _; rintro e u8 ⟨rfl, hb⟩; replace hw : Below w.heap.size w u8 := bel_on hb (hw); replace PS : Two u8 (w.heap.size) (.int .i64 a) (.int .i64 b) := Two.on hb (PS); replace cS0 := PS.c0; replace cS1 := PS.c1; replace zS := PS.lt; replace PL : Two u8 (u0.heap.size) (.int .i64 0) (.int .i64 0) := Two.on hb (PL); replace cL0 := PL.c0; replace cL1 := PL.c1; replace zL := PL.lt; replace PR : Two u8 (u0.heap.size + 1) (.int .i64 0) (.int .i64 0) := Two.on hb (PR); replace cR0 := PR.c0; replace cR1 := PR.c1; replace zR := PR.lt; replace PA : Two u8 (u0.heap.size + 1 + 1) (.int .i64 0) (.int .i64 0) := Two.on hb (PA); replace cA0 := PA.c0; replace cA1 := PA.c1; replace zA := PA.lt; replace PX : Two u8 (u3.heap.size) (.int .i64 0) (.int .i64 0) := Two.on hb (PX); replace cX0 := PX.c0; replace cX1 := PX.c1; replace zX := PX.lt; replace fX0 := PX.f0; replace fX1 := PX.f1; clear hb) | (go_at_call 7; have cq : Mark 9 := cnt; refine (error_errno 1 _ (hg.out.below (bel_put (by omega) (hw)))).mono ?_; clear cq cnt; have cnt : Mark 10 := .mk _; rintro e u9 ⟨rfl, hb⟩; replace hw : Below w.heap.size w u9 := bel_on hb (bel_put (by omega) (hw)); replace PS : Two u9 (w.heap.size) (.int .i64 a) (.int .i64 b) := Two.on hb (Two.far (by omega) (PS)); replace cS0 := PS.c0; replace cS1 := PS.c1; replace zS := PS.lt; replace PL : Two u9 (u0.heap.size) (.int .i64 0) (.int .i64 0) := Two.on hb (Two.far (by omega) (PL)); replace cL0 := PL.c0; replace cL1 := PL.c1; replace zL := PL.lt; replace PR : Two u9 (u0.heap.size + 1) (.int .i64 0) (.int .i64 0) := Two.on hb (Two.far (by omega) (PR)); replace cR0 := PR.c0; replace cR1 := PR.c1; replace zR := PR.lt; replace PA : Two u9 (u0.heap.size + 1 + 1) (.int .i64 0) (.int .i64 0) := Two.on hb (Two.far (by omega) (PA)); replace cA0 := PA.c0; replace cA1 := PA.c1; replace zA := PA.lt; replace PX : Two u9 (u3.heap.size) (.int .i64 0) (.int .i64 0) := Two.on hb (Two.put (PX)); replace cX0 := PX.c0; replace cX1 := PX.c1; replace zX := PX.lt; replace fX0 := PX.f0; replace fX1 := PX.f1; clear hb))
  go_ret
  exact ⟨rfl, hw⟩

set_option maxRecDepth 100000 in
set_option maxHeartbeats 4000000 in
theorem wNok (n p a b : Int) (w : World) (hr : rdy n p = false) (hg : Hid (EnvE w)) (kS : okB a b = true) :
    Calls Tryd.prog 5 #[.int .i64 n, .int .i64 p, .agg #[.int .i64 a, .int .i64 b]] w fun e w' => e = .returned (.bool true) ∧ Below w.heap.size w w' := by
  have cnt : Mark 0 := .mk _
  go_enter Tryd.func5, Tryd.ntmps5
  go_wp2_with (first | (go_at_call 23; have cq : Mark 0 := cnt; refine (rready_eq n p false _ hr).mono ?_; clear cq cnt; have cnt : Mark 1 := .mk _; rintro e u0 ⟨rfl, hb⟩; replace hw : Below w.heap.size w u0 := bel_on hb (bel_al (Below.refl _ _)); replace PS : Two u0 (w.heap.size) (.int .i64 a) (.int .i64 b) := Two.on hb (Two.made (by simp)); replace cS0 := PS.c0; replace cS1 := PS.c1; replace zS := PS.lt; have y0_S_0 : w.heap.size < u0.heap.size := (by omega); have n0_S_0 : ¬ (u0.heap.size = w.heap.size) := (by omega); have m0_S_0 : ¬ (w.heap.size = u0.heap.size) := (by omega); have y0_S_1 : w.heap.size < u0.heap.size + 1 := (by omega); have n0_S_1 : ¬ (u0.heap.size + 1 = w.heap.size) := (by omega); have m0_S_1 : ¬ (w.heap.size = u0.heap.size + 1) := (by omega); have y0_S_2 : w.heap.size < u0.heap.size + 1 + 1 := (by omega); have n0_S_2 : ¬ (u0.heap.size + 1 + 1 = w.heap.size) := (by omega); have m0_S_2 : ¬ (w.heap.size = u0.heap.size + 1 + 1) := (by omega); clear hb) | (go_at_call 25; have cq : Mark 1 := cnt; refine (grow_no n p _ hr).mono ?_; clear cq cnt; have cnt : Mark 2 := .mk _; rintro e u1 ⟨rfl, hb⟩; replace hw : Below w.heap.size w u1 := bel_on hb (bel_al (bel_al (bel_al (hw)))); replace PS : Two u1 (w.heap.size) (.int .i64 a) (.int .i64 b) := Two.on hb (Two.al (Two.al (Two.al (PS)))); replace cS0 := PS.c0; replace cS1 := PS.c1; replace zS := PS.lt; replace PL : Two u1 (u0.heap.size) (.int .i64 0) (.int .i64 0) := Two.on hb (Two.al (Two.al (Two.made (by simp)))); replace cL0 := PL.c0; replace cL1 := PL.c1; replace zL := PL.lt; replace PR : Two u1 (u0.heap.size + 1) (.int .i64 0) (.int .i64 0) := Two.on hb (Two.al (Two.made (by simp))); replace cR0 := PR.c0; replace cR1 := PR.c1; replace zR := PR.lt; replace PA : Two u1 (u0.heap.size + 1 + 1) (.int .i64 0) (.int .i64 0) := Two.on hb (Two.made (by simp)); replace cA0 := PA.c0; replace cA1 := PA.c1; replace zA := PA.lt; clear hb) | (go_at_call 7; have cq : Mark 2 := cnt; refine (error_errno 1 _ (hg.out.below (hw))).mono ?_; clear cq cnt; have cnt : Mark 3 := .mk _; rintro e u2 ⟨rfl, hb⟩; replace hw : Below w.heap.size w u2 := bel_on hb (hw); replace PS : Two u2 (w.heap.size) (.int .i64 a) (.int .i64 b) := Two.on hb (PS); replace cS0 := PS.c0; replace cS1 := PS.c1; replace zS := PS.lt; replace PL : Two u2 (u0.heap.size) (.int .i64 0) (.int .i64 0) := Two.on hb (PL); replace cL0 := PL.c0; replace cL1 := PL.c1; replace zL := PL.lt; replace PR : Two u2 (u0.heap.size + 1) (.int .i64 0) (.int .i64 0) := Two.on hb (PR); replace cR0 := PR.c0; replace cR1 := PR.c1; replace zR := PR.lt; replace PA : Two u2 (u0.heap.size + 1 + 1) (.int .i64 0) (.int .i64 0) := Two.on hb (PA); replace cA0 := PA.c0; replace cA1 := PA.c1; replace zA := PA.lt; clear hb) | (go_at_call 26; have cq : Mark 3 := cnt; refine (local_no n p _ hr).mono ?_; clear cq cnt; have cnt : Mark 4 := .mk _; rintro e u3 ⟨rfl, hb⟩; replace hw : Below w.heap.size w u3 := bel_on hb (hw); replace PS : Two u3 (w.heap.size) (.int .i64 a) (.int .i64 b) := Two.on hb (PS); replace cS0 := PS.c0; replace cS1 := PS.c1; replace zS := PS.lt; replace PL : Two u3 (u0.heap.size) (.int .i64 0) (.int .i64 0) := Two.on hb (PL); replace cL0 := PL.c0; replace cL1 := PL.c1; replace zL := PL.lt; replace PR : Two u3 (u0.heap.size + 1) (.int .i64 0) (.int .i64 0) := Two.on hb (PR); replace cR0 := PR.c0; replace cR1 := PR.c1; replace zR := PR.lt; replace PA : Two u3 (u0.heap.size + 1 + 1) (.int .i64 0) (.int .i64 0) := Two.on hb (PA); replace cA0 := PA.c0; replace cA1 := PA.c1; replace zA := PA.lt; have y3_S_0 : w.heap.size < u3.heap.size := (by omega); have n3_S_0 : ¬ (u3.heap.size = w.heap.size) := (by omega); have m3_S_0 : ¬ (w.heap.size = u3.heap.size) := (by omega); have y3_L_0 : u0.heap.size < u3.heap.size := (by omega); have n3_L_0 : ¬ (u3.heap.size = u0.heap.size) := (by omega); have m3_L_0 : ¬ (u0.heap.size = u3.heap.size) := (by omega); have y3_R_0 : u0.heap.size + 1 < u3.heap.size := (by omega); have n3_R_0 : ¬ (u3.heap.size = u0.heap.size + 1) := (by omega); have m3_R_0 : ¬ (u0.heap.size + 1 = u3.heap.size) := (by omega); have y3_A_0 : u0.heap.size + 1 + 1 < u3.heap.size := (by omega); have n3_A_0 : ¬ (u3.heap.size = u0.heap.size + 1 + 1) := (by omega); have m3_A_0 : ¬ (u0.heap.size + 1 + 1 = u3.heap.size) := (by omega); clear hb) | (go_at_call 7; have cq : Mark 4 := cnt; refine (error_errno 1 _ (hg.out.below (bel_al (hw)))).mono ?_; clear cq cnt; have cnt : Mark 5 := .mk _; rintro e u4 ⟨rfl, hb⟩; replace hw : Below w.heap.size w u4 := bel_on hb (bel_al (hw)); replace PS : Two u4 (w.heap.size) (.int .i64 a) (.int .i64 b) := Two.on hb (Two.al (PS)); replace cS0 := PS.c0; replace cS1 := PS.c1; replace zS := PS.lt; replace PL : Two u4 (u0.heap.size) (.int .i64 0) (.int .i64 0) := Two.on hb (Two.al (PL)); replace cL0 := PL.c0; replace cL1 := PL.c1; replace zL := PL.lt; replace PR : Two u4 (u0.heap.size + 1) (.int .i64 0) (.int .i64 0) := Two.on hb (Two.al (PR)); replace cR0 := PR.c0; replace cR1 := PR.c1; replace zR := PR.lt; replace PA : Two u4 (u0.heap.size + 1 + 1) (.int .i64 0) (.int .i64 0) := Two.on hb (Two.al (PA)); replace cA0 := PA.c0; replace cA1 := PA.c1; replace zA := PA.lt; replace PX : Two u4 (u3.heap.size) (.int .i64 0) (.int .i64 0) := Two.on hb (Two.made (by simp)); replace cX0 := PX.c0; replace cX1 := PX.c1; replace zX := PX.lt; replace fX0 := PX.f0; replace fX1 := PX.f1; clear hb) | (go_at_call 27; have cq : Mark 5 := cnt; refine (true_no n p _ hr).mono ?_; clear cq cnt; have cnt : Mark 6 := .mk _; rintro e u5 ⟨rfl, hb⟩; replace hw : Below w.heap.size w u5 := bel_on hb (hw); replace PS : Two u5 (w.heap.size) (.int .i64 a) (.int .i64 b) := Two.on hb (PS); replace cS0 := PS.c0; replace cS1 := PS.c1; replace zS := PS.lt; replace PL : Two u5 (u0.heap.size) (.int .i64 0) (.int .i64 0) := Two.on hb (PL); replace cL0 := PL.c0; replace cL1 := PL.c1; replace zL := PL.lt; replace PR : Two u5 (u0.heap.size + 1) (.int .i64 0) (.int .i64 0) := Two.on hb (PR); replace cR0 := PR.c0; replace cR1 := PR.c1; replace zR := PR.lt; replace PA : Two u5 (u0.heap.size + 1 + 1) (.int .i64 0) (.int .i64 0) := Two.on hb (PA); replace cA0 := PA.c0; replace cA1 := PA.c1; replace zA := PA.lt; replace PX : Two u5 (u3.heap.size) (.int .i64 0) (.int .i64 0) := Two.on hb (PX); replace cX0 := PX.c0; replace cX1 := PX.c1; replace zX := PX.lt; replace fX0 := PX.f0; replace fX1 := PX.f1; clear hb) | (go_at_call 7; have cq : Mark 6 := cnt; refine (error_errno 1 _ (hg.out.below (bel_put (by omega) (hw)))).mono ?_; clear cq cnt; have cnt : Mark 7 := .mk _; rintro e u6 ⟨rfl, hb⟩; replace hw : Below w.heap.size w u6 := bel_on hb (bel_put (by omega) (hw)); replace PS : Two u6 (w.heap.size) (.int .i64 a) (.int .i64 b) := Two.on hb (Two.far (by omega) (PS)); replace cS0 := PS.c0; replace cS1 := PS.c1; replace zS := PS.lt; replace PL : Two u6 (u0.heap.size) (.int .i64 0) (.int .i64 0) := Two.on hb (Two.far (by omega) (PL)); replace cL0 := PL.c0; replace cL1 := PL.c1; replace zL := PL.lt; replace PR : Two u6 (u0.heap.size + 1) (.int .i64 0) (.int .i64 0) := Two.on hb (Two.far (by omega) (PR)); replace cR0 := PR.c0; replace cR1 := PR.c1; replace zR := PR.lt; replace PA : Two u6 (u0.heap.size + 1 + 1) (.int .i64 0) (.int .i64 0) := Two.on hb (Two.far (by omega) (PA)); replace cA0 := PA.c0; replace cA1 := PA.c1; replace zA := PA.lt; replace PX : Two u6 (u3.heap.size) (.int .i64 0) (.int .i64 0) := Two.on hb (Two.put (PX)); replace cX0 := PX.c0; replace cX1 := PX.c1; replace zX := PX.lt; replace fX0 := PX.f0; replace fX1 := PX.f1; clear hb) | (go_at_call 6; have cq : Mark 7 := cnt; refine (rspan_eq a b true _ kS).mono ?_; clear cq cnt; have cnt : Mark 8 := .mk _; rintro e u7 ⟨rfl, hb⟩; replace hw : Below w.heap.size w u7 := bel_on hb (hw); replace PS : Two u7 (w.heap.size) (.int .i64 a) (.int .i64 b) := Two.on hb (PS); replace cS0 := PS.c0; replace cS1 := PS.c1; replace zS := PS.lt; replace PL : Two u7 (u0.heap.size) (.int .i64 0) (.int .i64 0) := Two.on hb (PL); replace cL0 := PL.c0; replace cL1 := PL.c1; replace zL := PL.lt; replace PR : Two u7 (u0.heap.size + 1) (.int .i64 0) (.int .i64 0) := Two.on hb (PR); replace cR0 := PR.c0; replace cR1 := PR.c1; replace zR := PR.lt; replace PA : Two u7 (u0.heap.size + 1 + 1) (.int .i64 0) (.int .i64 0) := Two.on hb (PA); replace cA0 := PA.c0; replace cA1 := PA.c1; replace zA := PA.lt; replace PX : Two u7 (u3.heap.size) (.int .i64 0) (.int .i64 0) := Two.on hb (PX); replace cX0 := PX.c0; replace cX1 := PX.c1; replace zX := PX.lt; replace fX0 := PX.f0; replace fX1 := PX.f1; clear hb) | (go_at_call 28; have cq : Mark 8 := cnt; refine (age_no a b n p _ kS hr).mono ?_; clear cq cnt; have cnt : Mark 9 := .mk _; rintro e u8 ⟨rfl, hb⟩; replace hw : Below w.heap.size w u8 := bel_on hb (hw); replace PS : Two u8 (w.heap.size) (.int .i64 a) (.int .i64 b) := Two.on hb (PS); replace cS0 := PS.c0; replace cS1 := PS.c1; replace zS := PS.lt; replace PL : Two u8 (u0.heap.size) (.int .i64 0) (.int .i64 0) := Two.on hb (PL); replace cL0 := PL.c0; replace cL1 := PL.c1; replace zL := PL.lt; replace PR : Two u8 (u0.heap.size + 1) (.int .i64 0) (.int .i64 0) := Two.on hb (PR); replace cR0 := PR.c0; replace cR1 := PR.c1; replace zR := PR.lt; replace PA : Two u8 (u0.heap.size + 1 + 1) (.int .i64 0) (.int .i64 0) := Two.on hb (PA); replace cA0 := PA.c0; replace cA1 := PA.c1; replace zA := PA.lt; replace PX : Two u8 (u3.heap.size) (.int .i64 0) (.int .i64 0) := Two.on hb (PX); replace cX0 := PX.c0; replace cX1 := PX.c1; replace zX := PX.lt; replace fX0 := PX.f0; replace fX1 := PX.f1; clear hb) | (go_at_call 7; have cq : Mark 9 := cnt; refine (error_errno 1 _ (hg.out.below (bel_put (by omega) (hw)))).mono ?_; clear cq cnt; have cnt : Mark 10 := .mk _; rintro e u9 ⟨rfl, hb⟩; replace hw : Below w.heap.size w u9 := bel_on hb (bel_put (by omega) (hw)); replace PS : Two u9 (w.heap.size) (.int .i64 a) (.int .i64 b) := Two.on hb (Two.far (by omega) (PS)); replace cS0 := PS.c0; replace cS1 := PS.c1; replace zS := PS.lt; replace PL : Two u9 (u0.heap.size) (.int .i64 0) (.int .i64 0) := Two.on hb (Two.far (by omega) (PL)); replace cL0 := PL.c0; replace cL1 := PL.c1; replace zL := PL.lt; replace PR : Two u9 (u0.heap.size + 1) (.int .i64 0) (.int .i64 0) := Two.on hb (Two.far (by omega) (PR)); replace cR0 := PR.c0; replace cR1 := PR.c1; replace zR := PR.lt; replace PA : Two u9 (u0.heap.size + 1 + 1) (.int .i64 0) (.int .i64 0) := Two.on hb (Two.far (by omega) (PA)); replace cA0 := PA.c0; replace cA1 := PA.c1; replace zA := PA.lt; replace PX : Two u9 (u3.heap.size) (.int .i64 0) (.int .i64 0) := Two.on hb (Two.put (PX)); replace cX0 := PX.c0; replace cX1 := PX.c1; replace zX := PX.lt; replace fX0 := PX.f0; replace fX1 := PX.f1; clear hb))
  go_ret
  exact ⟨rfl, hw⟩

theorem walk (n p a b : Int) (w : World) (wn : (Lit.int .i64 n).wf = true) (wp : (Lit.int .i64 p).wf = true) (wa : (Lit.int .i64 a).wf = true) (wb : (Lit.int .i64 b).wf = true) (he : EnvE w) :
    Calls Tryd.prog 5 #[.int .i64 n, .int .i64 p, .agg #[.int .i64 a, .int .i64 b]] w fun e w' => e = .returned (.bool true) ∧ Below w.heap.size w w' := by
  cases hr : rdy n p with
  | false =>
    cases kS : okB a b with
    | false => exact wNno n p a b w hr he kS
    | true => exact wNok n p a b w hr he kS
  | true =>
  cases kL : okB (n * (1000000 - p) / 1000000) ((n * (1000000 + p) + 1000000 - 1) / 1000000) <;> cases kT : okB (n * 1000000 / (1000000 + p)) ((n * 1000000 + (1000000 - p) - 1) / (1000000 - p)) <;> cases kS : okB a b <;> cases kA : okB (a - ((n * p + 1000000 - 1) / 1000000)) (b + ((n * p + 1000000 - 1) / 1000000))
  · exact wNNno n p a b w hr he kL kT kS
  · exact wNNno n p a b w hr he kL kT kS
  · exact wNNout n p a b w hr he kL kT kS kA
  · exact wNNok n p a b w hr he kL kT kS kA
  · exact wNYno n p a b w hr he kL kT kS
  · exact wNYno n p a b w hr he kL kT kS
  · exact wNYout n p a b w hr he kL kT kS kA
  · exact wNYok n p a b w hr he kL kT kS kA
  · exact wYNno n p a b w hr he kL kT kS
  · exact wYNno n p a b w hr he kL kT kS
  · exact wYNout n p a b w hr he kL kT kS kA
  · exact wYNok n p a b w hr he kL kT kS kA
  · exact wYYno n p a b w hr he kL kT kS
  · exact wYYno n p a b w hr he kL kT kS
  · exact wYYout n p a b w hr he kL kT kS kA
  · exact wYYok n p a b w hr he kL kT kS kA

theorem own : ownKnob Tryd.prog.godebug = none := by kernel_rfl
theorem laidOut : laidOutB Tryd.prog = true := by kernel_rfl
theorem cellsSpan : Tryd.prog.cellsOf 23 = 2 := by kernel_rfl
theorem et : Tryd.prog.globalNamed "errors.errorType" = some 0 := by kernel_rfl
theorem rt : (Tryd.prog.cutTypes.find? (·.1 == "internal/reflectlite.rtype")).map (·.2) = some 87 := by kernel_rfl
theorem oneRow : ((List.range 166).filter fun t => Tryd.prog.rowNamed t [101, 114, 114, 111, 114]) = [27] := by kernel_rfl
theorem nTypes : Tryd.prog.types.size = 166 := by kernel_rfl

/-- What the condition on the listed variables gives: the handle of the type error. -/
theorem handle_of {W : World} (h : handlesMet Tryd.prog [("errors.errorType", Rows.laid_errors_errorType)] W) : EnvE W := by
  obtain ⟨name, u, ty, e1, e2, e3, e4, e5⟩ := h _ (List.mem_singleton.2 rfl)
  have en : name = [101, 114, 114, 111, 114] := (Option.some.inj e1).symm
  subst en
  obtain rfl := Option.some.inj (rt.symm.trans e2)
  have hm : ty ∈ (List.range 166).filter fun t => Tryd.prog.rowNamed t [101, 114, 114, 111, 114] := List.mem_filter.2 ⟨List.mem_range.2 (by rw [← nTypes]; exact e3), e4⟩
  rw [oneRow] at hm
  obtain rfl := List.mem_singleton.1 hm
  have hh : typeHandle Tryd.prog 27 = .pointer (some ⟨7, 27, none⟩) := by kernel_rfl
  rw [hh] at e5
  unfold EnvE
  simpa using World.var?_cell et e5 0

theorem env_of {W : World} (hL : laidMetH Tryd.prog Rows.driftTellsRow.laid W) : EnvE W := by
  have h' : laidMet Tryd.prog [] W ∧ handlesMet Tryd.prog [("errors.errorType", Rows.laid_errors_errorType)] W := hL
  exact handle_of h'.2

set_option maxRecDepth 100000 in
theorem contract (H : Type) (enc : TypeId × Value → H) (W : World) (base : Nat) (args : Array Value) (ds gs : List (DataW H)) (before : List MemPlace)
    (hval : ∀ (j : Nat) t v, Tryd.f5.params[j]? = some t → args[j]? = some v → Value.okWide Tryd.prog W .any base t v)
    (hW : DataW.Whole enc Tryd.prog Tryd.f5.params.toList Rows.driftTellsSpec.vars false W args.toList ds gs before) (hL : laidMetH Tryd.prog Rows.driftTellsRow.laid W) (hsh : W.ShapedOpen Tryd.prog) :
    Calls Tryd.prog 5 args W fun e W' => ∃ v, e = .returned v ∧ Rows.driftTellsSpec.post enc Tryd.prog Tryd.f5 false true false false W args v W' := by
  have he := env_of hL
  have hW' := hW
  obtain ⟨p, q, hA0, hV, rfl, hfz, hnd⟩ := hW
  have hA : DataW.TrodAll enc Tryd.prog W 0 (fun _ => true) true Tryd.f5.params.toList args.toList ds p := hA0
  rw [Tryd.params5] at hA hval
  obtain ⟨v0, vs0, d0, ds0, p0, q0, hargs, rfl, rfl, h0, r0⟩ := trodAll_cons hA
  obtain ⟨v1, vs1, d1, ds1, p1, q1, rfl, rfl, rfl, h1, r1⟩ := trodAll_cons r0
  obtain ⟨v2, vs2, d2, ds2, p2, q2, rfl, rfl, rfl, h2, r2⟩ := trodAll_cons r1
  obtain ⟨rfl, rfl, rfl⟩ := trodAll_nil r2
  obtain rfl : args = #[v0, v1, v2] := by cases args; simp_all
  obtain ⟨rfl, rfl⟩ := trodVars_none hV
  have k0 := h0
  have lt0 : ∀ x ∈ p0, x.block < W.heap.size := by obtain ⟨m, hm⟩ := k0; exact DataW.trod_lt m _ _ _ hm
  have k1 := h1
  have lt1 : ∀ x ∈ p1, x.block < W.heap.size := by obtain ⟨m, hm⟩ := k1; exact DataW.trod_lt m _ _ _ hm
  have k2 := h2
  have lt2 : ∀ x ∈ p2, x.block < W.heap.size := by obtain ⟨m, hm⟩ := k2; exact DataW.trod_lt m _ _ _ hm
  obtain ⟨n0, rfl, rfl, rfl, wf0⟩ := open_int Tryd.underlying3 (hval 0 3 v0 rfl rfl) h0
  obtain ⟨n1, rfl, rfl, rfl, wf1⟩ := open_int Tryd.underlying3 (hval 1 3 v1 rfl rfl) h1
  obtain ⟨c20, c21, y20, y21, m2, rfl, rfl, rfl, hy20, hy21⟩ := open_agg2 Tryd.underlying23 (by kernel_rfl) cellsSpan (hval 2 23 v2 rfl rfl) h2
  obtain ⟨n20, e20, rfl, wf20⟩ := DataW.trod_int Tryd.underlying3 hy20
  obtain ⟨n21, e21, rfl, wf21⟩ := DataW.trod_int Tryd.underlying3 hy21
  simp at e20 e21
  subst e20 e21
  clear hA0
  refine (walk n0 n1 n20 n21 W wf0 wf1 wf20 wf21 he).mono fun e W' ⟨hee, bel⟩ => ?_
  subst hee
  exact ⟨_, rfl, _, _, _, [], _, [], hW', trodAll_mk1 (shut_bool Tryd.underlying4 _), (trodAll_cons_mk (Below.trod laidOut (by kernel_rfl) (of_decide_eq_true (by kernel_rfl)) k0 bel lt0) (trodAll_cons_mk (Below.trod laidOut (by kernel_rfl) (of_decide_eq_true (by kernel_rfl)) k1 bel lt1) (trodAll_cons_mk (Below.trod laidOut (by kernel_rfl) (of_decide_eq_true (by kernel_rfl)) k2 bel lt2) trodAll_mk0))), rfl, bel.frame _, fun h => by cases h⟩

theorem laid_met (os : Os) : laidMetH Tryd.prog Rows.driftTellsRow.laid ((World.doorLaid Tryd.prog 4000 os).forCall (fun _ _ => 0) ⟨#[], #[.int .i64 0, .int .i64 0, .agg #[.int .i64 0, .int .i64 0]], []⟩).memory :=
  laidMetH_of_parts (laidMet_nil _ _) (by kernel_rfl)

set_option maxRecDepth 100000 in
theorem lifted (os : Os) (started : os.Started) (H : Type) (enc : TypeId × Value → H) (F : Stop.Interp) :
    ReturnsInHanded {} Tryd.checked os 5 .any ((OpenSpec.ofChange Rows.driftTellsSpec).preRow enc Tryd.prog Tryd.f5 Rows.driftTellsRow.domain false Rows.driftTellsRow.laid) (((OpenSpec.ofChange Rows.driftTellsSpec).at F).post enc Tryd.prog Tryd.f5 false true false false) := by
  refine returnsInHanded_of_row (C := Tryd.checked) (s := OpenSpec.ofChange Rows.driftTellsSpec) own started (by kernel_rfl) Tryd.func5
    (witness_row_atRef (enc := enc) (C := Tryd.checked) false (World.doorLaid Tryd.prog 4000 os) #[.int .i64 0, .int .i64 0, .agg #[.int .i64 0, .int .i64 0]] rfl (by kernel_rfl) (by kernel_rfl) (by kernel_rfl)
      (OpenSpec.preRow_of_B rfl 8 (by kernel_rfl) (by kernel_rfl) (laid_met os))) ?_
  intro W base args ds gs before hval hW _ hcond _ hL hsh _
  exact contract H enc W base args ds gs before hval hW hL hsh

theorem said : Rows.DriftTellsSaid :=
  OpenClaim.holds_of_cond 5 Tryd.f5 rfl rfl rfl rfl rfl rfl rfl ⟨rfl, rfl, rfl, rfl, rfl⟩ rfl rfl rfl rfl rfl (by kernel_rfl) Tryd.func5 (by kernel_rfl)
    (of_decide_eq_true (by kernel_rfl)) (by unfold Func.isWrapper; first | (rw [if_pos (by decide +kernel)]; kernel_rfl) | (rw [if_neg (by decide +kernel)]; exact ⟨rfl, rfl⟩))
    (fun os started H enc _ F => by rw [OpenClaim.pre_eq_preRow]; exact lifted os started H enc F)

theorem plain (f : FuncId) (fn : Func) (hf : Tryd.pinned.checked.prog.funcNamed "noonmark/noonlaw1.DriftTells" = some f) (hfn : Tryd.pinned.checked.prog.funcs[f]? = some fn) :
    true = Tryd.pinned.checked.prog.looks [] ∧ ∀ (j : Nat) t, fn.params[j]? = some t → Tryd.pinned.checked.prog.wantsStandIn t = false := by
  obtain rfl : f = 5 := Option.some.inj ((show Tryd.prog.funcNamed "noonmark/noonlaw1.DriftTells" = some 5 by kernel_rfl).symm.trans hf) |>.symm
  obtain rfl : fn = Tryd.f5 := (Option.some.inj (Tryd.func5.symm.trans hfn)).symm
  refine ⟨by kernel_rfl, fun j t ht => ?_⟩
  rw [Tryd.params5] at ht
  have hm := Array.mem_of_getElem? ht
  have all : ∀ t ∈ (#[3, 3, 23] : Array Nat), Tryd.prog.wantsStandIn t = false := by
    intro t ht
    simp only [List.mem_toArray, List.mem_cons, List.not_mem_nil, or_false] at ht
    rcases ht with rfl | rfl | rfl <;> kernel_rfl
  exact all t hm

theorem card : Rows.DriftTellsCardSaid :=
  Claim7.holds_tied_plain_at .later [] _ _ _ _ said (fun _ h => by cases h) (by kernel_rfl) (fun _ h => by cases h) driftTells_row_tie rfl ⟨rfl, rfl⟩ (by kernel_rfl) rfl plain (by kernel_rfl)
end Go.Proofs.YtdhgfdbghfefnaaDoor.driftTells
namespace Go.Proofs.YtdhgfdbghfefnaaDoor
theorem driftTells_holds : Rows.DriftTellsCardSaid := driftTells.card
#print axioms driftTells_holds
end Go.Proofs.YtdhgfdbghfefnaaDoor
