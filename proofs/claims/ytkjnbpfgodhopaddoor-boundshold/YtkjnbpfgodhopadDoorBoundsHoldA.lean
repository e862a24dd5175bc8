/- The ways through the law BoundsHold where there is no bound. -/
import Derived.Test.YtkjnbpfgodhopadDoorBoundsHoldM
import Derived.Test.YtkjnbpfgodhopadDoorSpanAdd
import Derived.Test.YtkjnbpfgodhopadDoorTold
import Derived.Deep.CutRange
import Derived.BigRegion
import Derived.IntWalk
import Derived.Deep.QuietTactic
import Derived.Deep.RegionHeld
import Derived.BigQuiet
import Derived.Lib.SmallJoins
namespace Go.Proofs.YtkjnbpfgodhopadDoor.boundsHold
open Go.ChangeShapes Go.WideShapes Go.ChangeAt Go.RowKit Go.Joins Go.Proofs.YtkjnbpfgodhopadDoor.told
set_option linter.unusedVariables false
set_option linter.unusedSimpArgs false

theorem error_diff (k f : Int) (w : World) (he : EnvE w) (h : k ≠ f) :
    Calls Tryd.prog 16 #[.iface 76 (.int .i64 k), .int .i64 f] w fun e w' => e = .returned (.bool false) ∧ Below w.heap.size w w' := by
  have H : Hid (EnvE w) := he
  have h' : (k == f) = false := by simpa using h
  clear he h
  go_enter Tryd.func16, Tryd.ntmps16
  go_wp2_with (go_at_call 45; refine (told_errno k _ H.out).mono ?_; rintro e u ⟨rfl, hb⟩)
  go_ret
  exact ⟨by simp [h'], hb⟩
abbrev twoCells : List Value := [.int .i64 0, .int .i64 1, .int .i64 1, .int .i64 2, .int .i64 1, .int .i64 2, .int .i64 10, .int .i64 20]
theorem two_esp {u : World} {b : Nat} (r : Row u b twoCells) : EHanded u (some ⟨b, 0, none⟩) 2 two := by
  refine ⟨by omega, Or.inr ⟨b, 0, rfl, fun i hi => ?_⟩⟩
  have hi' : i = 0 ∨ i = 1 := by omega
  rcases hi' with rfl | rfl
  · exact ⟨r.c 0 _ rfl, r.c 1 _ rfl, r.c 2 _ rfl, r.c 3 _ rfl⟩
  · exact ⟨r.c 4 _ rfl, r.c 5 _ rfl, r.c 6 _ rfl, r.c 7 _ rfl⟩
theorem fact {w : World} (B : Bd w) (u : World) (hu : Below w.heap.size w u) (b : Nat) (r : Row u b twoCells) :
    Calls Tryd.prog 22 #[.int .i64 3, .slice (some ⟨b, 0, none⟩) 2 2, .int .i64 0, .int .i64 2] u fun r w' => r = .returned (.tuple #[.agg #[.int .i64 11, .int .i64 22], .nilIface]) ∧ Below u.heap.size u w' := by
  have := B.between 3 (some ⟨b, 0, none⟩) 2 2 two 0 2 11 22 0 u hu (two_esp r) (by decide) (by decide) (by decide) two_bet
  rwa [errc_zero] at this
set_option maxRecDepth 100000 in
set_option maxHeartbeats 2000000 in
theorem bad1 (z : Int) (a : Option Addr) (m cap : Nat) (ca : Option Addr) (k cc : Nat) (x y t ga gb gl gh : Int) (w : World) (he : EnvE w) (B : Bd w) (lo hi : Int) (e : Int) (h : e ≠ 7) (FE : Value) (fb : Bool)
    (cX : ∀ u, Below w.heap.size w u → Calls Tryd.prog 22 #[.int .i64 z, .slice a m cap, .int .i64 x, .int .i64 y] u fun r w' => r = .returned (.tuple #[.agg #[.int .i64 lo, .int .i64 hi], .iface 76 (.int .i64 e)]) ∧ Below u.heap.size u w')
    (cF : ∀ u, Below w.heap.size w u → Calls Tryd.prog 19 #[.int .i64 z, .slice a m cap, .slice ca k cc] u fun r w' => r = .returned (.tuple #[.bool fb, FE]) ∧ Below u.heap.size u w') :
    Calls Tryd.prog 6 #[.int .i64 z, .slice a m cap, .slice ca k cc, .int .i64 x, .int .i64 y, .int .i64 t, .agg #[.int .i64 ga, .int .i64 gb, .int .i64 gl, .int .i64 gh]] w fun e w' => e = .returned (.bool true) ∧ Below w.heap.size w w' := by
  have hU : Below w.heap.size w ((w.alloc (.cells #[.int .i64 ga, .int .i64 gb, .int .i64 gl, .int .i64 gh] 50)).alloc (.cells #[.int .i64 0, .int .i64 1, .int .i64 1, .int .i64 2, .int .i64 1, .int .i64 2, .int .i64 10, .int .i64 20] 50)) := rbel_al (rbel_al (Below.refl _ _))
  have rU : Row ((w.alloc (.cells #[.int .i64 ga, .int .i64 gb, .int .i64 gl, .int .i64 gh] 50)).alloc (.cells #[.int .i64 0, .int .i64 1, .int .i64 1, .int .i64 2, .int .i64 1, .int .i64 2, .int .i64 10, .int .i64 20] 50)) (w.heap.size + 1) twoCells := Row.made (by simp)
  have rM : Row ((w.alloc (.cells #[.int .i64 ga, .int .i64 gb, .int .i64 gl, .int .i64 gh] 50)).alloc (.cells #[.int .i64 0, .int .i64 1, .int .i64 1, .int .i64 2, .int .i64 1, .int .i64 2, .int .i64 10, .int .i64 20] 50)) w.heap.size [.int .i64 ga, .int .i64 gb, .int .i64 gl, .int .i64 gh] := Row.al (Row.made rfl)
  have c0 := fact B _ hU _ rU
  have HU : Hid (Below w.heap.size w ((w.alloc (.cells #[.int .i64 ga, .int .i64 gb, .int .i64 gl, .int .i64 gh] 50)).alloc (.cells #[.int .i64 0, .int .i64 1, .int .i64 1, .int .i64 2, .int .i64 1, .int .i64 2, .int .i64 10, .int .i64 20] 50))) := hU
  have RM : Hid (Row ((w.alloc (.cells #[.int .i64 ga, .int .i64 gb, .int .i64 gl, .int .i64 gh] 50)).alloc (.cells #[.int .i64 0, .int .i64 1, .int .i64 1, .int .i64 2, .int .i64 1, .int .i64 2, .int .i64 10, .int .i64 20] 50)) w.heap.size [.int .i64 ga, .int .i64 gb, .int .i64 gl, .int .i64 gh]) := rM
  clear rU hU rM
  have HE : Hid (EnvE w) := he
  clear he B RM
  have cnt : Mark 0 := .mk _
  go_enter Tryd.func6, Tryd.ntmps6
  go_wp2_with (first
    | (go_at_call 22; have cq : Mark 0 := cnt; refine c0.mono ?_; clear cq cnt; have cnt : Mark 1 := .mk _; rintro e' u0 ⟨rfl, hb⟩; have HW0 : Hid (Below w.heap.size w u0) := rbel_on hb HU.out; clear hb)
    | (go_at_call 22; have cq : Mark 1 := cnt; refine (cX _ (rbel_al HW0.out)).mono ?_; clear cq cnt; have cnt : Mark 2 := .mk _; rintro e' u1 ⟨rfl, hb⟩; have HW1 : Hid (Below w.heap.size w u1) := rbel_on hb (rbel_al HW0.out); clear hb)
    | (go_at_call 19; refine (cF _ (rbel_al HW1.out)).mono ?_; rintro e' u2 ⟨rfl, hb⟩; have HW2 : Hid (Below w.heap.size w u2) := rbel_on hb (rbel_al HW1.out); clear hb)
    | (go_at_call 16; refine (error_diff _ 7 _ (HE.out.below HW2.out) h).mono ?_; rintro e' u3 ⟨rfl, hb⟩; have HW3 : Hid (Below w.heap.size w u3) := rbel_on hb HW2.out; clear hb))
  go_ret
  exact ⟨rfl, HW3.out⟩
set_option maxRecDepth 100000 in
set_option maxHeartbeats 2000000 in
theorem bad2 (z : Int) (a : Option Addr) (m cap : Nat) (ca : Option Addr) (k cc : Nat) (x y t ga gb gl gh : Int) (w : World) (he : EnvE w) (B : Bd w) (lo hi : Int) (v : Value) (fb : Bool)
    (cX : ∀ u, Below w.heap.size w u → Calls Tryd.prog 22 #[.int .i64 z, .slice a m cap, .int .i64 x, .int .i64 y] u fun r w' => r = .returned (.tuple #[.agg #[.int .i64 lo, .int .i64 hi], .iface 76 (.int .i64 7)]) ∧ Below u.heap.size u w')
    (cF : ∀ u, Below w.heap.size w u → Calls Tryd.prog 19 #[.int .i64 z, .slice a m cap, .slice ca k cc] u fun r w' => r = .returned (.tuple #[.bool fb, .iface 76 v]) ∧ Below u.heap.size u w') :
    Calls Tryd.prog 6 #[.int .i64 z, .slice a m cap, .slice ca k cc, .int .i64 x, .int .i64 y, .int .i64 t, .agg #[.int .i64 ga, .int .i64 gb, .int .i64 gl, .int .i64 gh]] w fun e w' => e = .returned (.bool true) ∧ Below w.heap.size w w' := by
  have hU : Below w.heap.size w ((w.alloc (.cells #[.int .i64 ga, .int .i64 gb, .int .i64 gl, .int .i64 gh] 50)).alloc (.cells #[.int .i64 0, .int .i64 1, .int .i64 1, .int .i64 2, .int .i64 1, .int .i64 2, .int .i64 10, .int .i64 20] 50)) := rbel_al (rbel_al (Below.refl _ _))
  have rU : Row ((w.alloc (.cells #[.int .i64 ga, .int .i64 gb, .int .i64 gl, .int .i64 gh] 50)).alloc (.cells #[.int .i64 0, .int .i64 1, .int .i64 1, .int .i64 2, .int .i64 1, .int .i64 2, .int .i64 10, .int .i64 20] 50)) (w.heap.size + 1) twoCells := Row.made (by simp)
  have rM : Row ((w.alloc (.cells #[.int .i64 ga, .int .i64 gb, .int .i64 gl, .int .i64 gh] 50)).alloc (.cells #[.int .i64 0, .int .i64 1, .int .i64 1, .int .i64 2, .int .i64 1, .int .i64 2, .int .i64 10, .int .i64 20] 50)) w.heap.size [.int .i64 ga, .int .i64 gb, .int .i64 gl, .int .i64 gh] := Row.al (Row.made rfl)
  have c0 := fact B _ hU _ rU
  have HU : Hid (Below w.heap.size w ((w.alloc (.cells #[.int .i64 ga, .int .i64 gb, .int .i64 gl, .int .i64 gh] 50)).alloc (.cells #[.int .i64 0, .int .i64 1, .int .i64 1, .int .i64 2, .int .i64 1, .int .i64 2, .int .i64 10, .int .i64 20] 50))) := hU
  have RM : Hid (Row ((w.alloc (.cells #[.int .i64 ga, .int .i64 gb, .int .i64 gl, .int .i64 gh] 50)).alloc (.cells #[.int .i64 0, .int .i64 1, .int .i64 1, .int .i64 2, .int .i64 1, .int .i64 2, .int .i64 10, .int .i64 20] 50)) w.heap.size [.int .i64 ga, .int .i64 gb, .int .i64 gl, .int .i64 gh]) := rM
  clear rU hU rM
  have HE : Hid (EnvE w) := he
  clear he B RM
  have cnt : Mark 0 := .mk _
  go_enter Tryd.func6, Tryd.ntmps6
  go_wp2_with (first
    | (go_at_call 22; have cq : Mark 0 := cnt; refine c0.mono ?_; clear cq cnt; have cnt : Mark 1 := .mk _; rintro e' u0 ⟨rfl, hb⟩; have HW0 : Hid (Below w.heap.size w u0) := rbel_on hb HU.out; clear hb)
    | (go_at_call 22; have cq : Mark 1 := cnt; refine (cX _ (rbel_al HW0.out)).mono ?_; clear cq cnt; have cnt : Mark 2 := .mk _; rintro e' u1 ⟨rfl, hb⟩; have HW1 : Hid (Below w.heap.size w u1) := rbel_on hb (rbel_al HW0.out); clear hb)
    | (go_at_call 19; refine (cF _ (rbel_al HW1.out)).mono ?_; rintro e' u2 ⟨rfl, hb⟩; have HW2 : Hid (Below w.heap.size w u2) := rbel_on hb (rbel_al HW1.out); clear hb)
    | (go_at_call 16; refine (error_errno 7 _ (HE.out.below HW2.out)).mono ?_; rintro e' u3 ⟨rfl, hb⟩; have HW3 : Hid (Below w.heap.size w u3) := rbel_on hb HW2.out; clear hb))
  go_ret
  exact ⟨rfl, HW3.out⟩
set_option maxRecDepth 100000 in
set_option maxHeartbeats 2000000 in
theorem bad3 (z : Int) (a : Option Addr) (m cap : Nat) (ca : Option Addr) (k cc : Nat) (x y t ga gb gl gh : Int) (w : World) (he : EnvE w) (B : Bd w) (lo hi : Int) (d : Unit)
    (cX : ∀ u, Below w.heap.size w u → Calls Tryd.prog 22 #[.int .i64 z, .slice a m cap, .int .i64 x, .int .i64 y] u fun r w' => r = .returned (.tuple #[.agg #[.int .i64 lo, .int .i64 hi], .iface 76 (.int .i64 7)]) ∧ Below u.heap.size u w')
    (cF : ∀ u, Below w.heap.size w u → Calls Tryd.prog 19 #[.int .i64 z, .slice a m cap, .slice ca k cc] u fun r w' => r = .returned (.tuple #[.bool false, .nilIface]) ∧ Below u.heap.size u w') :
    Calls Tryd.prog 6 #[.int .i64 z, .slice a m cap, .slice ca k cc, .int .i64 x, .int .i64 y, .int .i64 t, .agg #[.int .i64 ga, .int .i64 gb, .int .i64 gl, .int .i64 gh]] w fun e w' => e = .returned (.bool true) ∧ Below w.heap.size w w' := by
  have hU : Below w.heap.size w ((w.alloc (.cells #[.int .i64 ga, .int .i64 gb, .int .i64 gl, .int .i64 gh] 50)).alloc (.cells #[.int .i64 0, .int .i64 1, .int .i64 1, .int .i64 2, .int .i64 1, .int .i64 2, .int .i64 10, .int .i64 20] 50)) := rbel_al (rbel_al (Below.refl _ _))
  have rU : Row ((w.alloc (.cells #[.int .i64 ga, .int .i64 gb, .int .i64 gl, .int .i64 gh] 50)).alloc (.cells #[.int .i64 0, .int .i64 1, .int .i64 1, .int .i64 2, .int .i64 1, .int .i64 2, .int .i64 10, .int .i64 20] 50)) (w.heap.size + 1) twoCells := Row.made (by simp)
  have rM : Row ((w.alloc (.cells #[.int .i64 ga, .int .i64 gb, .int .i64 gl, .int .i64 gh] 50)).alloc (.cells #[.int .i64 0, .int .i64 1, .int .i64 1, .int .i64 2, .int .i64 1, .int .i64 2, .int .i64 10, .int .i64 20] 50)) w.heap.size [.int .i64 ga, .int .i64 gb, .int .i64 gl, .int .i64 gh] := Row.al (Row.made rfl)
  have c0 := fact B _ hU _ rU
  have HU : Hid (Below w.heap.size w ((w.alloc (.cells #[.int .i64 ga, .int .i64 gb, .int .i64 gl, .int .i64 gh] 50)).alloc (.cells #[.int .i64 0, .int .i64 1, .int .i64 1, .int .i64 2, .int .i64 1, .int .i64 2, .int .i64 10, .int .i64 20] 50))) := hU
  have RM : Hid (Row ((w.alloc (.cells #[.int .i64 ga, .int .i64 gb, .int .i64 gl, .int .i64 gh] 50)).alloc (.cells #[.int .i64 0, .int .i64 1, .int .i64 1, .int .i64 2, .int .i64 1, .int .i64 2, .int .i64 10, .int .i64 20] 50)) w.heap.size [.int .i64 ga, .int .i64 gb, .int .i64 gl, .int .i64 gh]) := rM
  clear rU hU rM
  have HE : Hid (EnvE w) := he
  clear he B RM
  have cnt : Mark 0 := .mk _
  go_enter Tryd.func6, Tryd.ntmps6
  go_wp2_with (first
    | (go_at_call 22; have cq : Mark 0 := cnt; refine c0.mono ?_; clear cq cnt; have cnt : Mark 1 := .mk _; rintro e' u0 ⟨rfl, hb⟩; have HW0 : Hid (Below w.heap.size w u0) := rbel_on hb HU.out; clear hb)
    | (go_at_call 22; have cq : Mark 1 := cnt; refine (cX _ (rbel_al HW0.out)).mono ?_; clear cq cnt; have cnt : Mark 2 := .mk _; rintro e' u1 ⟨rfl, hb⟩; have HW1 : Hid (Below w.heap.size w u1) := rbel_on hb (rbel_al HW0.out); clear hb)
    | (go_at_call 19; refine (cF _ (rbel_al HW1.out)).mono ?_; rintro e' u2 ⟨rfl, hb⟩; have HW2 : Hid (Below w.heap.size w u2) := rbel_on hb (rbel_al HW1.out); clear hb)
    | (go_at_call 16; refine (error_errno 7 _ (HE.out.below HW2.out)).mono ?_; rintro e' u3 ⟨rfl, hb⟩; have HW3 : Hid (Below w.heap.size w u3) := rbel_on hb HW2.out; clear hb))
  go_ret
  exact ⟨rfl, HW3.out⟩
end Go.Proofs.YtkjnbpfgodhopadDoor.boundsHold
