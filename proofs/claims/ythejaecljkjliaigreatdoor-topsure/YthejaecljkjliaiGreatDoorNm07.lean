/- What package probe answers of any numbers: isTime, wide, Check. A block as it is, with its type; tables of ints and bools, row by row, as they lie in memory. What there is to be answered of bounds. What there is to be answered of bounds is there. Edges' cells in a row of a call's own; the edges of the first few nodes. -/
import Derived.Test.YthejaecljkjliaiGreatDoorNm02
import Derived.Test.YthejaecljkjliaiGreatDoorNm01
import Derived.WalkKit
import Derived.ProofKit
import Derived.OpenShut
import Derived.Outline
import Derived.IntWalk
import Derived.Deep.RegionWith
import Derived.Deep.RegionHeld
import Derived.WalkLawsBesides
import Derived.OwnWalk
import Derived.Deep.Heap
import Derived.Deep.AppendLies
import Derived.Test.YthejaecljkjliaiGreatDoorNm03
namespace Go.Proofs.YthejaecljkjliaiGreatDoor
open Go.ChangeShapes Go.WideShapes Go.ChangeAt Go.RowKit
set_option linter.unusedVariables false
set_option linter.unusedSimpArgs false

set_option maxHeartbeats 1000000 in
theorem isTime_yes (n : Int) (w : World) (h : tmB n = true) :
    Calls Tryz.prog 73 #[.int .i64 n] w fun e w' => e = .returned (.bool true) ∧ Below w.heap.size w w' := by
  obtain ⟨h1, h2⟩ := tmB_t h
  clear h
  go_enter Tryz.func73, Tryz.ntmps73
  go_wp2
  go_ret
  exact ⟨rfl, by (repeat (first | assumption | exact Below.refl _ _ | refine Below.alloc ?_ (by first | (simp; done) | (simp; omega) | omega) _ | refine Below.setCell ?_ (by first | (with_reducible assumption) | (simp; done) | (simp; omega) | omega) _ | apply Below.drew | apply below_drewN | refine below_tr (by assumption) ?_))⟩

set_option maxHeartbeats 1000000 in
theorem isTime_low (n : Int) (w : World) (h : n < -1000000000000) :
    Calls Tryz.prog 73 #[.int .i64 n] w fun e w' => e = .returned (.bool false) ∧ Below w.heap.size w w' := by
  go_enter Tryz.func73, Tryz.ntmps73
  go_wp2
  go_ret
  exact ⟨rfl, by (repeat (first | assumption | exact Below.refl _ _ | refine Below.alloc ?_ (by first | (simp; done) | (simp; omega) | omega) _ | refine Below.setCell ?_ (by first | (with_reducible assumption) | (simp; done) | (simp; omega) | omega) _ | apply Below.drew | apply below_drewN | refine below_tr (by assumption) ?_))⟩

set_option maxHeartbeats 1000000 in
theorem isTime_high (n : Int) (w : World) (h : 1000000000000 < n) :
    Calls Tryz.prog 73 #[.int .i64 n] w fun e w' => e = .returned (.bool false) ∧ Below w.heap.size w w' := by
  have h2 : ¬ n < -1000000000000 := by omega
  have h3 : decide (n ≤ 1000000000000) = false := decide_eq_false (by omega)
  go_enter Tryz.func73, Tryz.ntmps73
  go_wp2
  go_ret
  exact ⟨rfl, by (repeat (first | assumption | exact Below.refl _ _ | refine Below.alloc ?_ (by first | (simp; done) | (simp; omega) | omega) _ | refine Below.setCell ?_ (by first | (with_reducible assumption) | (simp; done) | (simp; omega) | omega) _ | apply Below.drew | apply below_drewN | refine below_tr (by assumption) ?_))⟩

theorem isTime_no (n : Int) (w : World) (h : tmB n = false) :
    Calls Tryz.prog 73 #[.int .i64 n] w fun e w' => e = .returned (.bool false) ∧ Below w.heap.size w w' := by
  rcases tmB_f h with h | h
  · exact isTime_low n w h
  · exact isTime_high n w h

set_option maxHeartbeats 1000000 in
theorem pcheck_a (a b c d : Int) (w : World) (h0 : tmB a = false) :
    Calls Tryz.prog 71 #[.agg #[.int .i64 a, .int .i64 b, .int .i64 c, .int .i64 d]] w fun e w' => e = .returned (.iface 85 (.int .i64 (1))) ∧ Below w.heap.size w w' := by
  have cnt : Mark 0 := .mk _
  go_enter Tryz.func71, Tryz.ntmps71
  go_wp2_with (first | (go_at_call 73; have cq : Mark 0 := cnt; refine (isTime_no _ _ (by assumption)).mono ?_; clear cq cnt; have cnt : Mark 1 := .mk _; rintro e u0 ⟨rfl, hb⟩; replace hw : Below w.heap.size w u0 := rbel_on hb (rbel_al (Below.refl _ _)); replace PP : Row u0 (w.heap.size) [.int .i64 (a), .int .i64 (b), .int .i64 (c), .int .i64 (d)] := Row.on hb (Row.made (by simp)); replace cP0 := PP.c 0 _ rfl; replace cP1 := PP.c 1 _ rfl; replace cP2 := PP.c 2 _ rfl; replace cP3 := PP.c 3 _ rfl; replace zP := PP.lt; clear hb))
  go_ret
  exact ⟨rfl, by (repeat (first | assumption | exact Below.refl _ _ | refine Below.alloc ?_ (by first | (simp; done) | (simp; omega) | omega) _ | refine Below.setCell ?_ (by first | (with_reducible assumption) | (simp; done) | (simp; omega) | omega) _ | apply Below.drew | apply below_drewN | refine below_tr (by assumption) ?_))⟩

set_option maxHeartbeats 1000000 in
theorem pcheck_b (a b c d : Int) (w : World) (h0 : tmB a = true) (h1 : tmB b = false) :
    Calls Tryz.prog 71 #[.agg #[.int .i64 a, .int .i64 b, .int .i64 c, .int .i64 d]] w fun e w' => e = .returned (.iface 85 (.int .i64 (1))) ∧ Below w.heap.size w w' := by
  have cnt : Mark 0 := .mk _
  go_enter Tryz.func71, Tryz.ntmps71
  go_wp2_with (first | (go_at_call 73; have cq : Mark 0 := cnt; refine (isTime_yes _ _ (by assumption)).mono ?_; clear cq cnt; have cnt : Mark 1 := .mk _; rintro e u0 ⟨rfl, hb⟩; replace hw : Below w.heap.size w u0 := rbel_on hb (rbel_al (Below.refl _ _)); replace PP : Row u0 (w.heap.size) [.int .i64 (a), .int .i64 (b), .int .i64 (c), .int .i64 (d)] := Row.on hb (Row.made (by simp)); replace cP0 := PP.c 0 _ rfl; replace cP1 := PP.c 1 _ rfl; replace cP2 := PP.c 2 _ rfl; replace cP3 := PP.c 3 _ rfl; replace zP := PP.lt; clear hb) | (go_at_call 73; have cq : Mark 1 := cnt; refine (isTime_no _ _ (by assumption)).mono ?_; clear cq cnt; have cnt : Mark 2 := .mk _; rintro e u1 ⟨rfl, hb⟩; replace hw : Below w.heap.size w u1 := rbel_on hb (hw); replace PP : Row u1 (w.heap.size) [.int .i64 (a), .int .i64 (b), .int .i64 (c), .int .i64 (d)] := Row.on hb (PP); replace cP0 := PP.c 0 _ rfl; replace cP1 := PP.c 1 _ rfl; replace cP2 := PP.c 2 _ rfl; replace cP3 := PP.c 3 _ rfl; replace zP := PP.lt; clear hb))
  go_ret
  exact ⟨rfl, by (repeat (first | assumption | exact Below.refl _ _ | refine Below.alloc ?_ (by first | (simp; done) | (simp; omega) | omega) _ | refine Below.setCell ?_ (by first | (with_reducible assumption) | (simp; done) | (simp; omega) | omega) _ | apply Below.drew | apply below_drewN | refine below_tr (by assumption) ?_))⟩

set_option maxHeartbeats 1000000 in
theorem pcheck_c (a b c d : Int) (w : World) (h0 : tmB a = true) (h1 : tmB b = true) (h2 : tmB c = false) :
    Calls Tryz.prog 71 #[.agg #[.int .i64 a, .int .i64 b, .int .i64 c, .int .i64 d]] w fun e w' => e = .returned (.iface 85 (.int .i64 (1))) ∧ Below w.heap.size w w' := by
  have cnt : Mark 0 := .mk _
  go_enter Tryz.func71, Tryz.ntmps71
  go_wp2_with (first | (go_at_call 73; have cq : Mark 0 := cnt; refine (isTime_yes _ _ (by assumption)).mono ?_; clear cq cnt; have cnt : Mark 1 := .mk _; rintro e u0 ⟨rfl, hb⟩; replace hw : Below w.heap.size w u0 := rbel_on hb (rbel_al (Below.refl _ _)); replace PP : Row u0 (w.heap.size) [.int .i64 (a), .int .i64 (b), .int .i64 (c), .int .i64 (d)] := Row.on hb (Row.made (by simp)); replace cP0 := PP.c 0 _ rfl; replace cP1 := PP.c 1 _ rfl; replace cP2 := PP.c 2 _ rfl; replace cP3 := PP.c 3 _ rfl; replace zP := PP.lt; clear hb) | (go_at_call 73; have cq : Mark 1 := cnt; refine (isTime_yes _ _ (by assumption)).mono ?_; clear cq cnt; have cnt : Mark 2 := .mk _; rintro e u1 ⟨rfl, hb⟩; replace hw : Below w.heap.size w u1 := rbel_on hb (hw); replace PP : Row u1 (w.heap.size) [.int .i64 (a), .int .i64 (b), .int .i64 (c), .int .i64 (d)] := Row.on hb (PP); replace cP0 := PP.c 0 _ rfl; replace cP1 := PP.c 1 _ rfl; replace cP2 := PP.c 2 _ rfl; replace cP3 := PP.c 3 _ rfl; replace zP := PP.lt; clear hb) | (go_at_call 73; have cq : Mark 2 := cnt; refine (isTime_no _ _ (by assumption)).mono ?_; clear cq cnt; have cnt : Mark 3 := .mk _; rintro e u2 ⟨rfl, hb⟩; replace hw : Below w.heap.size w u2 := rbel_on hb (hw); replace PP : Row u2 (w.heap.size) [.int .i64 (a), .int .i64 (b), .int .i64 (c), .int .i64 (d)] := Row.on hb (PP); replace cP0 := PP.c 0 _ rfl; replace cP1 := PP.c 1 _ rfl; replace cP2 := PP.c 2 _ rfl; replace cP3 := PP.c 3 _ rfl; replace zP := PP.lt; clear hb))
  go_ret
  exact ⟨rfl, by (repeat (first | assumption | exact Below.refl _ _ | refine Below.alloc ?_ (by first | (simp; done) | (simp; omega) | omega) _ | refine Below.setCell ?_ (by first | (with_reducible assumption) | (simp; done) | (simp; omega) | omega) _ | apply Below.drew | apply below_drewN | refine below_tr (by assumption) ?_))⟩

set_option maxHeartbeats 1000000 in
theorem pcheck_d (a b c d : Int) (w : World) (h0 : tmB a = true) (h1 : tmB b = true) (h2 : tmB c = true) (h3 : tmB d = false) :
    Calls Tryz.prog 71 #[.agg #[.int .i64 a, .int .i64 b, .int .i64 c, .int .i64 d]] w fun e w' => e = .returned (.iface 85 (.int .i64 (1))) ∧ Below w.heap.size w w' := by
  have cnt : Mark 0 := .mk _
  go_enter Tryz.func71, Tryz.ntmps71
  go_wp2_with (first | (go_at_call 73; have cq : Mark 0 := cnt; refine (isTime_yes _ _ (by assumption)).mono ?_; clear cq cnt; have cnt : Mark 1 := .mk _; rintro e u0 ⟨rfl, hb⟩; replace hw : Below w.heap.size w u0 := rbel_on hb (rbel_al (Below.refl _ _)); replace PP : Row u0 (w.heap.size) [.int .i64 (a), .int .i64 (b), .int .i64 (c), .int .i64 (d)] := Row.on hb (Row.made (by simp)); replace cP0 := PP.c 0 _ rfl; replace cP1 := PP.c 1 _ rfl; replace cP2 := PP.c 2 _ rfl; replace cP3 := PP.c 3 _ rfl; replace zP := PP.lt; clear hb) | (go_at_call 73; have cq : Mark 1 := cnt; refine (isTime_yes _ _ (by assumption)).mono ?_; clear cq cnt; have cnt : Mark 2 := .mk _; rintro e u1 ⟨rfl, hb⟩; replace hw : Below w.heap.size w u1 := rbel_on hb (hw); replace PP : Row u1 (w.heap.size) [.int .i64 (a), .int .i64 (b), .int .i64 (c), .int .i64 (d)] := Row.on hb (PP); replace cP0 := PP.c 0 _ rfl; replace cP1 := PP.c 1 _ rfl; replace cP2 := PP.c 2 _ rfl; replace cP3 := PP.c 3 _ rfl; replace zP := PP.lt; clear hb) | (go_at_call 73; have cq : Mark 2 := cnt; refine (isTime_yes _ _ (by assumption)).mono ?_; clear cq cnt; have cnt : Mark 3 := .mk _; rintro e u2 ⟨rfl, hb⟩; replace hw : Below w.heap.size w u2 := rbel_on hb (hw); replace PP : Row u2 (w.heap.size) [.int .i64 (a), .int .i64 (b), .int .i64 (c), .int .i64 (d)] := Row.on hb (PP); replace cP0 := PP.c 0 _ rfl; replace cP1 := PP.c 1 _ rfl; replace cP2 := PP.c 2 _ rfl; replace cP3 := PP.c 3 _ rfl; replace zP := PP.lt; clear hb) | (go_at_call 73; have cq : Mark 3 := cnt; refine (isTime_no _ _ (by assumption)).mono ?_; clear cq cnt; have cnt : Mark 4 := .mk _; rintro e u3 ⟨rfl, hb⟩; replace hw : Below w.heap.size w u3 := rbel_on hb (hw); replace PP : Row u3 (w.heap.size) [.int .i64 (a), .int .i64 (b), .int .i64 (c), .int .i64 (d)] := Row.on hb (PP); replace cP0 := PP.c 0 _ rfl; replace cP1 := PP.c 1 _ rfl; replace cP2 := PP.c 2 _ rfl; replace cP3 := PP.c 3 _ rfl; replace zP := PP.lt; clear hb))
  go_ret
  exact ⟨rfl, by (repeat (first | assumption | exact Below.refl _ _ | refine Below.alloc ?_ (by first | (simp; done) | (simp; omega) | omega) _ | refine Below.setCell ?_ (by first | (with_reducible assumption) | (simp; done) | (simp; omega) | omega) _ | apply Below.drew | apply below_drewN | refine below_tr (by assumption) ?_))⟩

set_option maxHeartbeats 1000000 in
theorem pcheck_x (a b c d : Int) (w : World) (h0 : tmB a = true) (h1 : tmB b = true) (h2 : tmB c = true) (h3 : tmB d = true) (h4 : d < a) :
    Calls Tryz.prog 71 #[.agg #[.int .i64 a, .int .i64 b, .int .i64 c, .int .i64 d]] w fun e w' => e = .returned (.iface 85 (.int .i64 (3))) ∧ Below w.heap.size w w' := by
  have cnt : Mark 0 := .mk _
  go_enter Tryz.func71, Tryz.ntmps71
  go_wp2_with (first | (go_at_call 73; have cq : Mark 0 := cnt; refine (isTime_yes _ _ (by assumption)).mono ?_; clear cq cnt; have cnt : Mark 1 := .mk _; rintro e u0 ⟨rfl, hb⟩; replace hw : Below w.heap.size w u0 := rbel_on hb (rbel_al (Below.refl _ _)); replace PP : Row u0 (w.heap.size) [.int .i64 (a), .int .i64 (b), .int .i64 (c), .int .i64 (d)] := Row.on hb (Row.made (by simp)); replace cP0 := PP.c 0 _ rfl; replace cP1 := PP.c 1 _ rfl; replace cP2 := PP.c 2 _ rfl; replace cP3 := PP.c 3 _ rfl; replace zP := PP.lt; clear hb) | (go_at_call 73; have cq : Mark 1 := cnt; refine (isTime_yes _ _ (by assumption)).mono ?_; clear cq cnt; have cnt : Mark 2 := .mk _; rintro e u1 ⟨rfl, hb⟩; replace hw : Below w.heap.size w u1 := rbel_on hb (hw); replace PP : Row u1 (w.heap.size) [.int .i64 (a), .int .i64 (b), .int .i64 (c), .int .i64 (d)] := Row.on hb (PP); replace cP0 := PP.c 0 _ rfl; replace cP1 := PP.c 1 _ rfl; replace cP2 := PP.c 2 _ rfl; replace cP3 := PP.c 3 _ rfl; replace zP := PP.lt; clear hb) | (go_at_call 73; have cq : Mark 2 := cnt; refine (isTime_yes _ _ (by assumption)).mono ?_; clear cq cnt; have cnt : Mark 3 := .mk _; rintro e u2 ⟨rfl, hb⟩; replace hw : Below w.heap.size w u2 := rbel_on hb (hw); replace PP : Row u2 (w.heap.size) [.int .i64 (a), .int .i64 (b), .int .i64 (c), .int .i64 (d)] := Row.on hb (PP); replace cP0 := PP.c 0 _ rfl; replace cP1 := PP.c 1 _ rfl; replace cP2 := PP.c 2 _ rfl; replace cP3 := PP.c 3 _ rfl; replace zP := PP.lt; clear hb) | (go_at_call 73; have cq : Mark 3 := cnt; refine (isTime_yes _ _ (by assumption)).mono ?_; clear cq cnt; have cnt : Mark 4 := .mk _; rintro e u3 ⟨rfl, hb⟩; replace hw : Below w.heap.size w u3 := rbel_on hb (hw); replace PP : Row u3 (w.heap.size) [.int .i64 (a), .int .i64 (b), .int .i64 (c), .int .i64 (d)] := Row.on hb (PP); replace cP0 := PP.c 0 _ rfl; replace cP1 := PP.c 1 _ rfl; replace cP2 := PP.c 2 _ rfl; replace cP3 := PP.c 3 _ rfl; replace zP := PP.lt; clear hb))
  go_ret
  exact ⟨rfl, by (repeat (first | assumption | exact Below.refl _ _ | refine Below.alloc ?_ (by first | (simp; done) | (simp; omega) | omega) _ | refine Below.setCell ?_ (by first | (with_reducible assumption) | (simp; done) | (simp; omega) | omega) _ | apply Below.drew | apply below_drewN | refine below_tr (by assumption) ?_))⟩

set_option maxHeartbeats 1000000 in
theorem pcheck_y (a b c d : Int) (w : World) (h0 : tmB a = true) (h1 : tmB b = true) (h2 : tmB c = true) (h3 : tmB d = true) (h4 : a ≤ d) (h5 : c < b) :
    Calls Tryz.prog 71 #[.agg #[.int .i64 a, .int .i64 b, .int .i64 c, .int .i64 d]] w fun e w' => e = .returned (.iface 85 (.int .i64 (3))) ∧ Below w.heap.size w w' := by
  have cnt : Mark 0 := .mk _
  go_enter Tryz.func71, Tryz.ntmps71
  go_wp2_with (first | (go_at_call 73; have cq : Mark 0 := cnt; refine (isTime_yes _ _ (by assumption)).mono ?_; clear cq cnt; have cnt : Mark 1 := .mk _; rintro e u0 ⟨rfl, hb⟩; replace hw : Below w.heap.size w u0 := rbel_on hb (rbel_al (Below.refl _ _)); replace PP : Row u0 (w.heap.size) [.int .i64 (a), .int .i64 (b), .int .i64 (c), .int .i64 (d)] := Row.on hb (Row.made (by simp)); replace cP0 := PP.c 0 _ rfl; replace cP1 := PP.c 1 _ rfl; replace cP2 := PP.c 2 _ rfl; replace cP3 := PP.c 3 _ rfl; replace zP := PP.lt; clear hb) | (go_at_call 73; have cq : Mark 1 := cnt; refine (isTime_yes _ _ (by assumption)).mono ?_; clear cq cnt; have cnt : Mark 2 := .mk _; rintro e u1 ⟨rfl, hb⟩; replace hw : Below w.heap.size w u1 := rbel_on hb (hw); replace PP : Row u1 (w.heap.size) [.int .i64 (a), .int .i64 (b), .int .i64 (c), .int .i64 (d)] := Row.on hb (PP); replace cP0 := PP.c 0 _ rfl; replace cP1 := PP.c 1 _ rfl; replace cP2 := PP.c 2 _ rfl; replace cP3 := PP.c 3 _ rfl; replace zP := PP.lt; clear hb) | (go_at_call 73; have cq : Mark 2 := cnt; refine (isTime_yes _ _ (by assumption)).mono ?_; clear cq cnt; have cnt : Mark 3 := .mk _; rintro e u2 ⟨rfl, hb⟩; replace hw : Below w.heap.size w u2 := rbel_on hb (hw); replace PP : Row u2 (w.heap.size) [.int .i64 (a), .int .i64 (b), .int .i64 (c), .int .i64 (d)] := Row.on hb (PP); replace cP0 := PP.c 0 _ rfl; replace cP1 := PP.c 1 _ rfl; replace cP2 := PP.c 2 _ rfl; replace cP3 := PP.c 3 _ rfl; replace zP := PP.lt; clear hb) | (go_at_call 73; have cq : Mark 3 := cnt; refine (isTime_yes _ _ (by assumption)).mono ?_; clear cq cnt; have cnt : Mark 4 := .mk _; rintro e u3 ⟨rfl, hb⟩; replace hw : Below w.heap.size w u3 := rbel_on hb (hw); replace PP : Row u3 (w.heap.size) [.int .i64 (a), .int .i64 (b), .int .i64 (c), .int .i64 (d)] := Row.on hb (PP); replace cP0 := PP.c 0 _ rfl; replace cP1 := PP.c 1 _ rfl; replace cP2 := PP.c 2 _ rfl; replace cP3 := PP.c 3 _ rfl; replace zP := PP.lt; clear hb))
  go_ret
  exact ⟨rfl, by (repeat (first | assumption | exact Below.refl _ _ | refine Below.alloc ?_ (by first | (simp; done) | (simp; omega) | omega) _ | refine Below.setCell ?_ (by first | (with_reducible assumption) | (simp; done) | (simp; omega) | omega) _ | apply Below.drew | apply below_drewN | refine below_tr (by assumption) ?_))⟩

set_option maxHeartbeats 1000000 in
theorem pcheck_z (a b c d : Int) (w : World) (h0 : tmB a = true) (h1 : tmB b = true) (h2 : tmB c = true) (h3 : tmB d = true) (h4 : a ≤ d) (h5 : b ≤ c) :
    Calls Tryz.prog 71 #[.agg #[.int .i64 a, .int .i64 b, .int .i64 c, .int .i64 d]] w fun e w' => e = .returned (.nilIface) ∧ Below w.heap.size w w' := by
  have cnt : Mark 0 := .mk _
  go_enter Tryz.func71, Tryz.ntmps71
  go_wp2_with (first | (go_at_call 73; have cq : Mark 0 := cnt; refine (isTime_yes _ _ (by assumption)).mono ?_; clear cq cnt; have cnt : Mark 1 := .mk _; rintro e u0 ⟨rfl, hb⟩; replace hw : Below w.heap.size w u0 := rbel_on hb (rbel_al (Below.refl _ _)); replace PP : Row u0 (w.heap.size) [.int .i64 (a), .int .i64 (b), .int .i64 (c), .int .i64 (d)] := Row.on hb (Row.made (by simp)); replace cP0 := PP.c 0 _ rfl; replace cP1 := PP.c 1 _ rfl; replace cP2 := PP.c 2 _ rfl; replace cP3 := PP.c 3 _ rfl; replace zP := PP.lt; clear hb) | (go_at_call 73; have cq : Mark 1 := cnt; refine (isTime_yes _ _ (by assumption)).mono ?_; clear cq cnt; have cnt : Mark 2 := .mk _; rintro e u1 ⟨rfl, hb⟩; replace hw : Below w.heap.size w u1 := rbel_on hb (hw); replace PP : Row u1 (w.heap.size) [.int .i64 (a), .int .i64 (b), .int .i64 (c), .int .i64 (d)] := Row.on hb (PP); replace cP0 := PP.c 0 _ rfl; replace cP1 := PP.c 1 _ rfl; replace cP2 := PP.c 2 _ rfl; replace cP3 := PP.c 3 _ rfl; replace zP := PP.lt; clear hb) | (go_at_call 73; have cq : Mark 2 := cnt; refine (isTime_yes _ _ (by assumption)).mono ?_; clear cq cnt; have cnt : Mark 3 := .mk _; rintro e u2 ⟨rfl, hb⟩; replace hw : Below w.heap.size w u2 := rbel_on hb (hw); replace PP : Row u2 (w.heap.size) [.int .i64 (a), .int .i64 (b), .int .i64 (c), .int .i64 (d)] := Row.on hb (PP); replace cP0 := PP.c 0 _ rfl; replace cP1 := PP.c 1 _ rfl; replace cP2 := PP.c 2 _ rfl; replace cP3 := PP.c 3 _ rfl; replace zP := PP.lt; clear hb) | (go_at_call 73; have cq : Mark 3 := cnt; refine (isTime_yes _ _ (by assumption)).mono ?_; clear cq cnt; have cnt : Mark 4 := .mk _; rintro e u3 ⟨rfl, hb⟩; replace hw : Below w.heap.size w u3 := rbel_on hb (hw); replace PP : Row u3 (w.heap.size) [.int .i64 (a), .int .i64 (b), .int .i64 (c), .int .i64 (d)] := Row.on hb (PP); replace cP0 := PP.c 0 _ rfl; replace cP1 := PP.c 1 _ rfl; replace cP2 := PP.c 2 _ rfl; replace cP3 := PP.c 3 _ rfl; replace zP := PP.lt; clear hb))
  go_ret
  exact ⟨rfl, by (repeat (first | assumption | exact Below.refl _ _ | refine Below.alloc ?_ (by first | (simp; done) | (simp; omega) | omega) _ | refine Below.setCell ?_ (by first | (with_reducible assumption) | (simp; done) | (simp; omega) | omega) _ | apply Below.drew | apply below_drewN | refine below_tr (by assumption) ?_))⟩

theorem pcheck_ok (a b c d : Int) (w : World) (h : pE a b c d = 0) :
    Calls Tryz.prog 71 #[.agg #[.int .i64 a, .int .i64 b, .int .i64 c, .int .i64 d]] w fun e w' => e = .returned (.nilIface) ∧ Below w.heap.size w w' := by
  obtain ⟨h0, h1, h2, h3, h4, h5⟩ := pE_zero h
  exact pcheck_z a b c d w h0 h1 h2 h3 h4 h5

theorem pcheck_no (a b c d : Int) (w : World) (h : pE a b c d ≠ 0) :
    Calls Tryz.prog 71 #[.agg #[.int .i64 a, .int .i64 b, .int .i64 c, .int .i64 d]] w fun e w' => e = .returned (.iface 85 (.int .i64 (pE a b c d))) ∧ Below w.heap.size w w' := by
  rcases pE_some h with ⟨e, k⟩ | ⟨e, h0, h1, h2, h3, k⟩
  · rw [e]
    cases h0 : tmB a with
    | false => exact pcheck_a a b c d w h0
    | true =>
    cases h1 : tmB b with
    | false => exact pcheck_b a b c d w h0 h1
    | true =>
    cases h2 : tmB c with
    | false => exact pcheck_c a b c d w h0 h1 h2
    | true =>
    cases h3 : tmB d with
    | false => exact pcheck_d a b c d w h0 h1 h2 h3
    | true => simp [h0, h1, h2, h3] at k
  · rw [e]
    by_cases h4 : d < a
    · exact pcheck_x a b c d w h0 h1 h2 h3 h4
    · exact pcheck_y a b c d w h0 h1 h2 h3 (by omega) (by omega)

end Go.Proofs.YthejaecljkjliaiGreatDoor
namespace Go.Proofs.YthejaecljkjliaiGreatDoor
open Go.ChangeShapes Go.WideShapes Go.ChangeAt Go.RowKit
set_option linter.unusedVariables false

/-- A block holds just these cells, of this type. -/
def Blk (u : World) (e : TypeId) (b : Nat) (vs : List Value) : Prop := u.heap[b]? = some (.cells vs.toArray e (0, 0))
section
variable {W u w : World} {e e' : TypeId} {b b' n i : Nat} {vs vs' : List Value} {x : Value} {ob : Obj}
theorem Blk.lt (h : Blk u e b vs) : b < u.heap.size := by
  apply Classical.byContradiction
  intro k
  unfold Blk at h
  rw [Array.getElem?_eq_none (by omega)] at h
  cases h
theorem Blk.c (h : Blk u e b vs) (i : Nat) (v : Value) (hv : vs[i]? = some v) : u.cell? ⟨b, i, none⟩ = some v := by
  unfold World.cell?
  rw [show u.heap[(⟨b, i, none⟩ : Addr).block]? = some (.cells vs.toArray e (0, 0)) from h]
  simpa using hv
theorem Blk.f (h : Blk u e b vs) (i : Nat) : u.frozen? ⟨b, i, none⟩ = false := by
  unfold World.frozen?
  rw [show u.heap[(⟨b, i, none⟩ : Addr).block]? = some (.cells vs.toArray e (0, 0)) from h]
  simp
theorem Blk.ne (h : Blk u e b vs) (h' : Blk u e' b' vs') (ne : e ≠ e') : b ≠ b' := by
  rintro rfl
  unfold Blk at h h'
  rw [h] at h'
  simp at h'
  exact ne h'.2
theorem Blk.al (h : Blk W e b vs) : Blk (W.alloc ob) e b vs := (Below.heap_alloc _ _ _ h.lt).trans h
theorem Blk.made (hb : b = W.heap.size) : Blk (W.alloc (.cells vs.toArray e)) e b vs := by
  subst hb
  show (W.heap.push _)[W.heap.size]? = _
  simp
theorem Blk.dr (h : Blk W e b vs) : Blk W.drew e b vs := h
theorem Blk.drn (h : Blk W e b vs) : Blk (W.drewN n) e b vs := h
theorem Blk.on (hb : Below W.heap.size W u) (h : Blk W e b vs) : Blk u e b vs := (hb.block b h.lt).trans h
theorem Blk.grown {row : Option Nat} (hg : W.grownBy u row) (hne : some b ≠ row) (h : Blk W e b vs) : Blk u e b vs := (hg.block b h.lt hne).trans h
theorem Blk.far (hne : b ≠ b') (h : Blk W e b vs) : Blk (W.setCell ⟨b', i, none⟩ x) e b vs := (Deep.blk_setCell_other W ⟨b', i, none⟩ x b hne).trans h
theorem Blk.put (i : Nat) (h : Blk W e b vs) : Blk (W.setCell ⟨b, i, none⟩ x) e b (vs.set i x) := by
  unfold Blk at *
  show (W.heap.modify b _)[b]? = _
  rw [Array.getElem?_modify, if_pos rfl, h]
  simp
end
/-- A row of a table: its numbers; whether there is any. -/
def rowD (S : Tb) (n i : Nat) : List Value := (List.range n).map fun k => .int .i64 ((S i k).getD 0)
def rowH (S : Tb) (n i : Nat) : List Value := (List.range n).map fun k => .bool (S i k).isSome
theorem rowD_at (S : Tb) (n i k : Nat) (h : k < n) : (rowD S n i)[k]? = some (.int .i64 ((S i k).getD 0)) := by simp [rowD, h]
theorem rowH_at (S : Tb) (n i k : Nat) (h : k < n) : (rowH S n i)[k]? = some (.bool (S i k).isSome) := by simp [rowH, h]
/-- One bound turned. -/
def upd (S : Tb) (i b : Nat) (x : Int) : Tb := fun i' k => if i' = i ∧ k = b then some x else S i' k
theorem upd_rowD (S : Tb) (n i b : Nat) (x : Int) : rowD (upd S i b x) n i = (rowD S n i).set b (.int .i64 x) := by
  apply List.ext_getElem?
  intro k
  by_cases hk : k < n
  · rw [rowD_at _ _ _ _ hk]
    by_cases e : b = k
    · subst e
      rw [List.getElem?_set_self (by simp [rowD]; exact hk)]
      simp [upd]
    · rw [List.getElem?_set_ne e, rowD_at _ _ _ _ hk]
      simp [upd, show ¬ k = b from fun h => e h.symm]
  · rw [List.getElem?_eq_none (by simp [rowD]; omega), List.getElem?_eq_none (by simp [rowD]; omega)]
theorem upd_rowH (S : Tb) (n i b : Nat) (x : Int) : rowH (upd S i b x) n i = (rowH S n i).set b (.bool true) := by
  apply List.ext_getElem?
  intro k
  by_cases hk : k < n
  · rw [rowH_at _ _ _ _ hk]
    by_cases e : b = k
    · subst e
      rw [List.getElem?_set_self (by simp [rowH]; exact hk)]
      simp [upd]
    · rw [List.getElem?_set_ne e, rowH_at _ _ _ _ hk]
      simp [upd, show ¬ k = b from fun h => e h.symm]
  · rw [List.getElem?_eq_none (by simp [rowH]; omega), List.getElem?_eq_none (by simp [rowH]; omega)]
theorem upd_rowD_other (S : Tb) (n i j b : Nat) (x : Int) (h : j ≠ i) : rowD (upd S i b x) n j = rowD S n j := by simp [rowD, upd, h]
theorem upd_rowH_other (S : Tb) (n i j b : Nat) (x : Int) (h : j ≠ i) : rowH (upd S i b x) n j = rowH S n j := by simp [rowH, upd, h]
/-- A table in memory: two slices of rows. -/
structure Tab (u : World) (gd gh n : Nat) (Db Hb : Nat → Nat) (S : Tb) : Prop where
  outD : ∀ i, i < n → u.cell? ⟨gd, i, none⟩ = some (.slice (some ⟨Db i, 0, none⟩) n n)
  outH : ∀ i, i < n → u.cell? ⟨gh, i, none⟩ = some (.slice (some ⟨Hb i, 0, none⟩) n n)
  inD : ∀ i, i < n → Blk u 3 (Db i) (rowD S n i)
  inH : ∀ i, i < n → Blk u 4 (Hb i) (rowH S n i)
  oneD : ∀ i j, i < n → j < n → i ≠ j → Db i ≠ Db j
  oneH : ∀ i j, i < n → j < n → i ≠ j → Hb i ≠ Hb j
  apD : ∀ i, i < n → gd ≠ Db i ∧ gd ≠ Hb i
  apH : ∀ i, i < n → gh ≠ Db i ∧ gh ≠ Hb i
section
variable {u W : World} {gd gh n : Nat} {Db Hb : Nat → Nat} {S : Tb}
theorem Tab.ap (h : Tab u gd gh n Db Hb S) {i j : Nat} (hi : i < n) (hj : j < n) : Db i ≠ Hb j := (h.inD i hi).ne (h.inH j hj) (by decide)
theorem Tab.on (hb : Below W.heap.size W u) (h : Tab W gd gh n Db Hb S) : Tab u gd gh n Db Hb S :=
  ⟨fun i hi => by rw [hb.cell (World.block_lt_of_cell? _ _ (h.outD i hi))]; exact h.outD i hi, fun i hi => by rw [hb.cell (World.block_lt_of_cell? _ _ (h.outH i hi))]; exact h.outH i hi,
    fun i hi => (h.inD i hi).on hb, fun i hi => (h.inH i hi).on hb, h.oneD, h.oneH, h.apD, h.apH⟩
theorem Tab.drn {m : Nat} (h : Tab W gd gh n Db Hb S) : Tab (W.drewN m) gd gh n Db Hb S := ⟨h.outD, h.outH, h.inD, h.inH, h.oneD, h.oneH, h.apD, h.apH⟩
theorem Tab.dr (h : Tab W gd gh n Db Hb S) : Tab W.drew gd gh n Db Hb S := ⟨h.outD, h.outH, h.inD, h.inH, h.oneD, h.oneH, h.apD, h.apH⟩
/-- A number is stored, and that there is one. -/
theorem Tab.put (h : Tab W gd gh n Db Hb S) {i b : Nat} (hi : i < n) (x : Int) : Tab ((W.setCell ⟨Db i, b, none⟩ (.int .i64 x)).setCell ⟨Hb i, b, none⟩ (.bool true)) gd gh n Db Hb (upd S i b x) := by
  refine ⟨fun j hj => ?_, fun j hj => ?_, fun j hj => ?_, fun j hj => ?_, h.oneD, h.oneH, h.apD, h.apH⟩
  · rw [World.cell?_setCell_far _ _ _ _ (fun k => (h.apD i hi).2 k.symm), World.cell?_setCell_far _ _ _ _ (fun k => (h.apD i hi).1 k.symm)]; exact h.outD j hj
  · rw [World.cell?_setCell_far _ _ _ _ (fun k => (h.apH i hi).2 k.symm), World.cell?_setCell_far _ _ _ _ (fun k => (h.apH i hi).1 k.symm)]; exact h.outH j hj
  · by_cases e : j = i
    · subst e
      rw [upd_rowD]
      exact ((h.inD j hj).put b).far (h.ap hj hj)
    · rw [upd_rowD_other _ _ _ _ _ _ e]
      exact ((h.inD j hj).far (h.oneD j i hj hi e)).far (h.ap hj hi)
  · by_cases e : j = i
    · subst e
      rw [upd_rowH]
      exact ((h.inH j hj).far (fun k => h.ap hj hj k.symm)).put b
    · rw [upd_rowH_other _ _ _ _ _ _ e]
      exact ((h.inH j hj).far (fun k => h.ap hi hj k.symm)).far (h.oneH j i hj hi e)
end
/-- A step along an arc, as a store or none. -/
theorem rlx_upd (S : Tb) (i a b : Nat) (c x : Int) (h : S i a = some x) (g : S i b = none ∨ ∃ y, S i b = some y ∧ x + c < y) : rlx S i a b c = upd S i b (x + c) := by
  funext i' k
  unfold rlx upd
  by_cases e : i' = i ∧ k = b
  · rw [if_pos e, if_pos e, h]
    rcases g with g | ⟨y, g, lt⟩
    · rw [g]
    · rw [g]; simp only; rw [if_pos lt]
  · rw [if_neg e, if_neg e]
theorem rlx_same (S : Tb) (i a b : Nat) (c : Int) (g : S i a = none ∨ ∃ x y, S i a = some x ∧ S i b = some y ∧ ¬ x + c < y) : rlx S i a b c = S := by
  funext i' k
  unfold rlx
  by_cases e : i' = i ∧ k = b
  · obtain ⟨rfl, rfl⟩ := e
    rw [if_pos ⟨rfl, rfl⟩]
    rcases g with g | ⟨x, y, g1, g2, nl⟩
    · rw [g]
    · rw [g1, g2]; simp only; rw [if_neg nl]
  · rw [if_neg e]
end Go.Proofs.YthejaecljkjliaiGreatDoor
namespace Go.Proofs.YthejaecljkjliaiGreatDoor
open Go.ChangeShapes Go.WideShapes Go.ChangeAt Go.RowKit
set_option linter.unusedVariables false

/-- The table of the least ways, just so. -/
def IsT (q : Nat → Eg) (m n : Nat) (T : Tb) : Prop := ∀ i k, i < n → (∀ x, T i k = some x → Dst (Arc q m) i k x) ∧ (T i k = none → ∀ r c, ¬ Wk (Arc q m) r i k c)
section
variable {q : Nat → Eg} {m n : Nat} {T T' : Tb}
theorem IsT.one (h : IsT q m n T) (h' : IsT q m n T') {i : Nat} (hi : i < n) (k : Nat) : T i k = T' i k := by
  cases e : T i k with
  | none =>
    cases e' : T' i k with
    | none => rfl
    | some y =>
      obtain ⟨⟨r, w⟩, _⟩ := (h' i k hi).1 y e'
      exact absurd w ((h i k hi).2 e r y)
  | some x =>
    cases e' : T' i k with
    | none =>
      obtain ⟨⟨r, w⟩, _⟩ := (h i k hi).1 x e
      exact absurd w ((h' i k hi).2 e' r x)
    | some y => rw [((h i k hi).1 x e).one ((h' i k hi).1 y e')]
theorem IsT.back (h : IsT q m n T) {i k : Nat} (hi : i < n) (hk : k < n) {x : Int} (e : T i k = some x) : ∃ y, T k i = some y := by
  obtain ⟨⟨r, w⟩, _⟩ := (h i k hi).1 x e
  obtain ⟨r', c', w'⟩ := wk_back w
  cases e' : T k i with
  | none => exact absurd w' ((h k i hk).2 e' r' c')
  | some y => exact ⟨y, rfl⟩
/-- An end beyond the greatest time. -/
def Far (n : Nat) (T : Tb) : Prop := ∃ i k x, i < n ∧ k < n ∧ T i k = some x ∧ (x < -1000000000000 ∨ 1000000000000 < x)
theorem Far.same (h : IsT q m n T) (h' : IsT q m n T') (f : Far n T) : Far n T' := by
  obtain ⟨i, k, x, hi, hk, e, g⟩ := f
  exact ⟨i, k, x, hi, hk, by rw [← h.one h' hi k]; exact e, g⟩
theorem not_far (h : ¬ Far n T) {i k : Nat} {x : Int} (hi : i < n) (hk : k < n) (e : T i k = some x) : -1000000000000 ≤ x ∧ x ≤ 1000000000000 := by
  apply Classical.byContradiction
  intro c
  exact h ⟨i, k, x, hi, hk, e, by omega⟩
end
/-- The span of two nodes: none is told by zeros. -/
def spLo (T : Tb) (i k : Nat) : Int := match T i k with
  | none => 0
  | some _ => -((T k i).getD 0)
def spHi (T : Tb) (i k : Nat) : Int := (T i k).getD 0
/-- What All answers, of edges as they may be: its error, and the table that is told if there is none. -/
def AllA (q : Nat → Eg) (m n : Nat) (e : Int) (T : Tb) : Prop := (Neg (Arc q m) n ∧ e = 7) ∨ (¬ Neg (Arc q m) n ∧ IsT q m n T ∧ ((Far n T ∧ e = 1) ∨ (¬ Far n T ∧ e = 0)))
theorem AllA.e_one {q : Nat → Eg} {m n : Nat} {e e' : Int} {T T' : Tb} (h : AllA q m n e T) (h' : AllA q m n e' T') : e = e' := by
  rcases h with ⟨g, rfl⟩ | ⟨g, t, f⟩
  · rcases h' with ⟨_, rfl⟩ | ⟨g', _⟩
    · rfl
    · exact absurd g g'
  · rcases h' with ⟨g', _⟩ | ⟨_, t', f'⟩
    · exact absurd g' g
    · rcases f with ⟨f, rfl⟩ | ⟨f, rfl⟩
      · rcases f' with ⟨_, rfl⟩ | ⟨f', _⟩
        · rfl
        · exact absurd (f.same t t') f'
      · rcases f' with ⟨f', _⟩ | ⟨_, rfl⟩
        · exact absurd (f'.same t' t) f
        · rfl
/-- All, of any edges. -/
def AllE (z : Int) (q : Nat → Eg) (m : Nat) (e : Int) (T : Tb) : Prop := (eE z q m ≠ 0 ∧ e = eE z q m) ∨ (eE z q m = 0 ∧ AllA q m z.toNat e T)
/-- Between, of any edges and any two nodes. -/
def BetA (z : Int) (q : Nat → Eg) (m : Nat) (a b lo hi e : Int) : Prop :=
  (eE z q m ≠ 0 ∧ lo = 0 ∧ hi = 0 ∧ e = eE z q m) ∨ (eE z q m = 0 ∧ (a < 0 ∨ z ≤ a ∨ b < 0 ∨ z ≤ b) ∧ lo = 0 ∧ hi = 0 ∧ e = 1) ∨
  (eE z q m = 0 ∧ (0 ≤ a ∧ a < z ∧ 0 ≤ b ∧ b < z) ∧ ∃ f T, AllA q m z.toNat f T ∧
    ((f ≠ 0 ∧ lo = 0 ∧ hi = 0 ∧ e = f) ∨ (f = 0 ∧ T a.toNat b.toNat = none ∧ lo = 0 ∧ hi = 0 ∧ e = 5) ∨ (f = 0 ∧ (∃ x, T a.toNat b.toNat = some x) ∧ lo = spLo T a.toNat b.toNat ∧ hi = spHi T a.toNat b.toNat ∧ e = 0)))
/-- The first clock that is no time. -/
def badC (c : Nat → Int) (k : Nat) : Prop := ∃ i, i < k ∧ (c i < -1000000000000 ∨ 1000000000000 < c i)
/-- Do clocks fit the first m edges? -/
def fitB (q : Nat → Eg) (c : Nat → Int) : Nat → Bool
  | 0 => true
  | m + 1 => fitB q c m && (decide ((q m).lo ≤ c (q m).b.toNat - c (q m).a.toNat) && decide (c (q m).b.toNat - c (q m).a.toNat ≤ (q m).hi))
/-- Fits, of any edges and any clocks. -/
def FitA (z : Int) (q : Nat → Eg) (m k : Nat) (c : Nat → Int) (b : Bool) (e : Int) : Prop :=
  (eE z q m ≠ 0 ∧ b = false ∧ e = eE z q m) ∨ (eE z q m = 0 ∧ (k : Int) ≠ z ∧ b = false ∧ e = 3) ∨ (eE z q m = 0 ∧ (k : Int) = z ∧ badC c k ∧ b = false ∧ e = 1) ∨
  (eE z q m = 0 ∧ (k : Int) = z ∧ ¬ badC c k ∧ b = fitB q c m ∧ e = 0)
/-- What is told of all, as it lies in memory. -/
def STab (u : World) (s h : Value) (n : Nat) (T : Tb) : Prop :=
  ∃ (sb so sc hb ho hc : Nat) (rb ro rc gb go gc : Nat → Nat), s = .slice (some ⟨sb, so, none⟩) n sc ∧ h = .slice (some ⟨hb, ho, none⟩) n hc ∧
    (∀ i, i < n → u.cell? ⟨sb, so + i, none⟩ = some (.slice (some ⟨rb i, ro i, none⟩) n (rc i)) ∧ u.cell? ⟨hb, ho + i, none⟩ = some (.slice (some ⟨gb i, go i, none⟩) n (gc i))) ∧
    (∀ i k, i < n → k < n → u.cell? ⟨rb i, ro i + k * 2, none⟩ = some (.int .i64 (spLo T i k)) ∧ u.cell? ⟨rb i, ro i + k * 2 + 1, none⟩ = some (.int .i64 (spHi T i k)) ∧ u.cell? ⟨gb i, go i + k, none⟩ = some (.bool (T i k).isSome))
theorem STab.on {W u : World} {s h : Value} {n : Nat} {T : Tb} (hb : Below W.heap.size W u) (t : STab W s h n T) : STab u s h n T := by
  obtain ⟨sb, so, sc, hb', ho, hc, rb, ro, rc, gb, go, gc, e1, e2, r1, r2⟩ := t
  have on : ∀ (a : Addr) (v : Value), W.cell? a = some v → u.cell? a = some v := fun a v e => by rw [hb.cell (World.block_lt_of_cell? _ _ e)]; exact e
  exact ⟨sb, so, sc, hb', ho, hc, rb, ro, rc, gb, go, gc, e1, e2, fun i hi => ⟨on _ _ (r1 i hi).1, on _ _ (r1 i hi).2⟩, fun i k hi hk => ⟨on _ _ (r2 i k hi hk).1, on _ _ (r2 i k hi hk).2.1, on _ _ (r2 i k hi hk).2.2⟩⟩

end Go.Proofs.YthejaecljkjliaiGreatDoor
namespace Go.Proofs.YthejaecljkjliaiGreatDoor
open Go.ChangeShapes Go.WideShapes Go.ChangeAt Go.RowKit
set_option linter.unusedVariables false

theorem least_nat (P : Nat → Prop) : ∀ n, P n → ∃ k, P k ∧ ∀ j, j < k → ¬ P j := by
  intro n
  induction n using Nat.strongRecOn with
  | _ n ih =>
    intro h
    by_cases c : ∃ j, j < n ∧ P j
    · obtain ⟨j, hj, hp⟩ := c
      exact ih j hj hp
    · exact ⟨n, h, fun j hj hp => c ⟨j, hj, hp⟩⟩
section
variable {q : Nat → Eg} {m n : Nat}
theorem wk_low (hE : Egs n q m) : ∀ {r i k : Nat} {c : Int}, Wk (Arc q m) r i k c → -((r : Int) * 1000000000000) ≤ c := by
  intro r
  induction r with
  | zero =>
    intro i k c w
    obtain ⟨_, rfl⟩ := w.zero
    omega
  | succ r ih =>
    intro i k c w
    obtain ⟨j, a, b, w1, g, rfl⟩ := w.last
    have h1 := ih w1
    have h2 := hE.small g
    omega
theorem dst_some (hE : Egs n q m) (hN : ¬ Neg (Arc q m) n) {i k r : Nat} {c : Int} (hi : i < n) (w : Wk (Arc q m) r i k c) : ∃ d, Dst (Arc q m) i k d := by
  have low : ∀ r c, Wk (Arc q m) r i k c → -6000000000000 ≤ c := fun r c w => by
    obtain ⟨r', c', h1, h2, w'⟩ := short hE.arc (not_neg hN) r i k c hi w
    have h3 := wk_low hE w'
    have h4 := hE.n6
    omega
  obtain ⟨t, ⟨r', w'⟩, hm⟩ := least_nat (fun t => ∃ r, Wk (Arc q m) r i k ((t : Int) - 6000000000000)) (c + 6000000000000).toNat (by
    have := low r c w
    refine ⟨r, ?_⟩
    rw [show (((c + 6000000000000).toNat : Nat) : Int) - 6000000000000 = c by omega]
    exact w)
  refine ⟨(t : Int) - 6000000000000, ⟨r', w'⟩, fun s c' v => ?_⟩
  apply Classical.byContradiction
  intro h
  have := low s c' v
  refine hm (c' + 6000000000000).toNat (by omega) ⟨s, ?_⟩
  rw [show (((c' + 6000000000000).toNat : Nat) : Int) - 6000000000000 = c' by omega]
  exact v
open Classical in
theorem isT_some (hE : Egs n q m) (hN : ¬ Neg (Arc q m) n) : ∃ T, IsT q m n T := by
  refine ⟨fun i k => if h : ∃ c, Dst (Arc q m) i k c then some h.choose else none, fun i k hi => ⟨fun x e => ?_, fun e r c w => ?_⟩⟩
  · by_cases h : ∃ c, Dst (Arc q m) i k c
    · simp only [dif_pos h] at e
      obtain rfl := Option.some.inj e
      exact h.choose_spec
    · simp only [dif_neg h] at e
      cases e
  · have h := dst_some hE hN hi w
    simp only [dif_pos h] at e
    cases e
theorem allA_some (hE : Egs n q m) : ∃ e T, AllA q m n e T := by
  by_cases hN : Neg (Arc q m) n
  · exact ⟨7, tb0, Or.inl ⟨hN, rfl⟩⟩
  · obtain ⟨T, hT⟩ := isT_some hE hN
    by_cases f : Far n T
    · exact ⟨1, T, Or.inr ⟨hN, hT, Or.inl ⟨f, rfl⟩⟩⟩
    · exact ⟨0, T, Or.inr ⟨hN, hT, Or.inr ⟨f, rfl⟩⟩⟩
end
theorem fitA_some (z : Int) (q : Nat → Eg) (m k : Nat) (c : Nat → Int) : ∃ b e, FitA z q m k c b e := by
  by_cases h : eE z q m = 0
  · by_cases h1 : (k : Int) = z
    · by_cases h2 : badC c k
      · exact ⟨_, _, Or.inr (Or.inr (Or.inl ⟨h, h1, h2, rfl, rfl⟩))⟩
      · exact ⟨_, _, Or.inr (Or.inr (Or.inr ⟨h, h1, h2, rfl, rfl⟩))⟩
    · exact ⟨_, _, Or.inr (Or.inl ⟨h, h1, rfl, rfl⟩)⟩
  · exact ⟨_, _, Or.inl ⟨h, rfl, rfl⟩⟩
theorem betA_some {q : Nat → Eg} {m n : Nat} {f : Int} {T : Tb} (hZ : eE n q m = 0) (hA : AllA q m n f T) (a b : Int) : ∃ lo hi e, BetA n q m a b lo hi e := by
  by_cases c : 0 ≤ a ∧ a < n ∧ 0 ≤ b ∧ b < n
  · by_cases h : f = 0
    · cases t : T a.toNat b.toNat with
      | none => exact ⟨0, 0, 5, Or.inr (Or.inr ⟨hZ, c, f, T, by rw [Int.toNat_natCast]; exact hA, Or.inr (Or.inl ⟨h, t, rfl, rfl, rfl⟩)⟩)⟩
      | some x => exact ⟨_, _, 0, Or.inr (Or.inr ⟨hZ, c, f, T, by rw [Int.toNat_natCast]; exact hA, Or.inr (Or.inr ⟨h, ⟨x, t⟩, rfl, rfl, rfl⟩)⟩)⟩
    · exact ⟨0, 0, f, Or.inr (Or.inr ⟨hZ, c, f, T, by rw [Int.toNat_natCast]; exact hA, Or.inl ⟨h, rfl, rfl, rfl⟩⟩)⟩
  · exact ⟨0, 0, 1, Or.inr (Or.inl ⟨hZ, by omega, rfl, rfl, rfl⟩)⟩
end Go.Proofs.YthejaecljkjliaiGreatDoor
namespace Go.Proofs.YthejaecljkjliaiGreatDoor
open Go.ChangeShapes Go.WideShapes Go.ChangeAt Go.RowKit Go.Joins
set_option linter.unusedVariables false
set_option linter.unusedSimpArgs false

theorem infoEdgeN : (Tryz.prog.info? 73).map (fun i => (i.zero, i.size, i.bytes)) = some (some (.agg #[.int .i64 0, .int .i64 0, .int .i64 0, .int .i64 0]), 4, 32) := by kernel_rfl
theorem own_empty_e (w : World) (e : TypeId) (size base : Nat) (h : base ≤ w.heap.size) : (w.alloc (.cells #[] e)).ownsRow base e size (.slice (some ⟨w.heap.size, 0, none⟩) 0 0) 0 [] := by
  refine ⟨by simp, Or.inr ⟨w.heap.size, 0, #[], rfl, h, ?_, Nat.le_refl _, Nat.zero_le _, by simp, by simp⟩⟩
  show (w.heap.push _)[w.heap.size]? = _
  simp
/-- Edges' cells, one behind the other. -/
def ecl : List Eg → List Value
  | [] => []
  | q :: r => [.int .i64 q.a, .int .i64 q.b, .int .i64 q.lo, .int .i64 q.hi] ++ ecl r
theorem ecl_app (a b : List Eg) : ecl (a ++ b) = ecl a ++ ecl b := by
  induction a with
  | nil => rfl
  | cons l r ih => show _ ++ ecl (r ++ b) = _ ++ ecl r ++ ecl b; rw [ih, List.append_assoc]
theorem ecl_at {a : List Eg} {i : Nat} {q : Eg} (h : a[i]? = some q) {j : Nat} {v : Value} (hv : [Value.int .i64 q.a, .int .i64 q.b, .int .i64 q.lo, .int .i64 q.hi][j]? = some v) : (ecl a)[i * 4 + j]? = some v := by
  induction a generalizing i with
  | nil => cases h
  | cons l r ih =>
    show ([Value.int .i64 l.a, .int .i64 l.b, .int .i64 l.lo, .int .i64 l.hi] ++ ecl r)[i * 4 + j]? = some v
    cases i with
    | zero =>
      obtain rfl := Option.some.inj h
      have lt : j < 4 := by
        rcases Nat.lt_or_ge j 4 with h | h
        · exact h
        · rw [List.getElem?_eq_none h] at hv; cases hv
      rw [Nat.zero_mul, Nat.zero_add, List.getElem?_append_left lt]
      exact hv
    | succ i =>
      rw [List.getElem?_append_right (by show 4 ≤ _; omega), show (i + 1) * 4 + j - [Value.int .i64 l.a, .int .i64 l.b, .int .i64 l.lo, .int .i64 l.hi].length = i * 4 + j by show (i + 1) * 4 + j - 4 = _; omega]
      exact ih h
/-- Edges of the first few. -/
def Nd.eu (c : Nd) (t : Int) (i : Nat) : List Eg := ((List.range i).filter (fun j => c.has j)).map (fun (j : Nat) => (⟨(c.id : Int), (j : Int), c.alo j t, c.ahi j t⟩ : Eg))
theorem eu_all (c : Nd) (t : Int) : c.eu t c.n = c.eo t := rfl
theorem eu_yes {c : Nd} {t : Int} {i : Nat} (h : c.has i = true) : c.eu t (i + 1) = c.eu t i ++ [⟨(c.id : Int), (i : Int), c.alo i t, c.ahi i t⟩] := by
  unfold Nd.eu
  rw [List.range_succ, List.filter_append, List.map_append]
  simp [h]
theorem eu_no {c : Nd} {t : Int} {i : Nat} (h : c.has i = false) : c.eu t (i + 1) = c.eu t i := by
  unfold Nd.eu
  rw [List.range_succ, List.filter_append, List.map_append]
  simp [h]
theorem eu_len (c : Nd) (t : Int) (i : Nat) : (c.eu t i).length ≤ i := by
  unfold Nd.eu
  rw [List.length_map]
  exact Nat.le_trans (List.length_filter_le _ _) (by simp)
/-- A row of edges of the call's own, as it is handed over. -/
theorem own_eh {w : World} {base k : Nat} {v : Value} {l : List Eg} (h : w.ownsRow base 73 4 v k (ecl l)) (hl : l.length = k) (hk : k ≤ 9223372036854775807) : ∃ a cap, v = .slice a k cap ∧ EHanded w a k (egf l) ∧ (a = none → cap = 0) := by
  rcases h.2 with ⟨rfl, rfl⟩ | ⟨g, cap, cur, rfl, hb, hg, hc, _, hcs, htk⟩
  · exact ⟨none, 0, rfl, ⟨hk, Or.inl rfl⟩, fun _ => rfl⟩
  · refine ⟨_, cap, rfl, ⟨hk, Or.inr ⟨g, 0, rfl, fun i hi => ?_⟩⟩, fun e => by cases e⟩
    have hq : l[i]? = some (egf l i) := by unfold egf; rw [List.getD_eq_getElem?_getD, List.getElem?_eq_getElem (by omega)]; rfl
    have c := h.cells (g := g) rfl
    have f : ∀ j x, [Value.int .i64 (egf l i).a, .int .i64 (egf l i).b, .int .i64 (egf l i).lo, .int .i64 (egf l i).hi][j]? = some x → w.cell? ⟨g, 0 + (i * 4 + j), none⟩ = some x := fun j x hx => by
      have := c (i * 4 + j) x (ecl_at hq hx)
      rw [Addr.add_lit] at this
      exact this
    refine ⟨?_, ?_, ?_, ?_⟩
    · have := f 0 _ rfl; simpa using this
    · have := f 1 _ rfl; simpa using this
    · have := f 2 _ rfl; simpa using this
    · have := f 3 _ rfl; simpa using this
theorem ecl_len (l : List Eg) : (ecl l).length = l.length * 4 := by
  induction l with
  | nil => rfl
  | cons q r ih => show ([Value.int .i64 q.a, .int .i64 q.b, .int .i64 q.lo, .int .i64 q.hi] ++ ecl r).length = (r.length + 1) * 4; rw [List.length_append, ih]; show 4 + _ = _; omega
theorem ecl_one (l : List Eg) : ∀ u ∈ ecl l, u.oneCell' = true := by
  induction l with
  | nil => intro u hu; cases hu
  | cons q r ih =>
    intro u hu
    rcases List.mem_append.1 hu with h | h
    · simp at h
      rcases h with rfl | rfl | rfl | rfl <;> rfl
    · exact ih u h
/-- Edges that are handed over, cell by cell. -/
theorem esp_cells {w : World} {b off : Nat} {l : List Eg} (h : Esp w b off l.length (egf l)) : ∀ j x, (ecl l)[j]? = some x → w.cell? (Addr.add ⟨b, off, none⟩ j) = some x := by
  intro j x hx
  have hj : j < l.length * 4 := by
    rcases Nat.lt_or_ge j (l.length * 4) with q | q
    · exact q
    · rw [List.getElem?_eq_none (by rw [ecl_len]; exact q)] at hx; cases hx
  have hi : j / 4 < l.length := by omega
  have hq : l[j / 4]? = some (egf l (j / 4)) := by unfold egf; rw [List.getD_eq_getElem?_getD, List.getElem?_eq_getElem hi]; rfl
  obtain ⟨c0, c1, c2, c3⟩ := h (j / 4) hi
  have hm : j % 4 = 0 ∨ j % 4 = 1 ∨ j % 4 = 2 ∨ j % 4 = 3 := by omega
  rw [Addr.add_lit]
  rcases hm with m | m | m | m
  · have e := ecl_at hq (j := 0) (v := .int .i64 (egf l (j / 4)).a) rfl
    have ej : j / 4 * 4 + 0 = j := by omega
    rw [ej, hx] at e
    rw [Option.some.inj e, show off + j = off + j / 4 * 4 by omega]
    exact c0
  · have e := ecl_at hq (j := 1) (v := .int .i64 (egf l (j / 4)).b) rfl
    have ej : j / 4 * 4 + 1 = j := by omega
    rw [ej, hx] at e
    rw [Option.some.inj e, show off + j = off + j / 4 * 4 + 1 by omega]
    exact c1
  · have e := ecl_at hq (j := 2) (v := .int .i64 (egf l (j / 4)).lo) rfl
    have ej : j / 4 * 4 + 2 = j := by omega
    rw [ej, hx] at e
    rw [Option.some.inj e, show off + j = off + j / 4 * 4 + 2 by omega]
    exact c2
  · have e := ecl_at hq (j := 3) (v := .int .i64 (egf l (j / 4)).hi) rfl
    have ej : j / 4 * 4 + 3 = j := by omega
    rw [ej, hx] at e
    rw [Option.some.inj e, show off + j = off + j / 4 * 4 + 3 by omega]
    exact c3
theorem own_cap {w : World} {base k size : Nat} {e : TypeId} {v : Value} {a : Option Addr} {cap : Nat} {xs : List Value} (h : w.ownsRow base e size v k xs) (hv : v = .slice a k cap) : k ≤ cap ∧ cap ≤ maxLen := by
  rcases h.2 with ⟨e1, e2⟩ | ⟨g, cp, cur, e1, hb, hg, hc, hm, hcs, htk⟩
  · rw [e1] at hv
    injection hv with _ _ q
    subst q
    exact ⟨by omega, Nat.zero_le _⟩
  · rw [e1] at hv
    injection hv with _ _ q
    subst q
    exact ⟨hc, hm⟩
end Go.Proofs.YthejaecljkjliaiGreatDoor
