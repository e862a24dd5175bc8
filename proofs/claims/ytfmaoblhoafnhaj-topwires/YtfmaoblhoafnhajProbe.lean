/- What package probe answers of any numbers: isTime, wide, Check. -/
import Derived.Test.YtfmaoblhoafnhajNm06
import Derived.Test.YtfmaoblhoafnhajNm01
import Derived.Test.YtfmaoblhoafnhajNm11
import Derived.WalkKit
import Derived.ProofKit
import Derived.OpenShut
import Derived.Outline
import Derived.IntWalk
import Derived.Deep.RegionWith
import Derived.Deep.RegionHeld
import Derived.WalkLawsBesides
namespace Go.Proofs.Ytfmaoblhoafnhaj
open Go.ChangeShapes Go.WideShapes Go.ChangeAt Go.RowKit
set_option linter.unusedVariables false
set_option linter.unusedSimpArgs false

set_option maxHeartbeats 1000000 in
theorem isTime_yes (n : Int) (w : World) (h : tmB n = true) :
    Calls Try.prog 34 #[.int .i64 n] w fun e w' => e = .returned (.bool true) ∧ Below w.heap.size w w' := by
  obtain ⟨h1, h2⟩ := tmB_t h
  clear h
  go_enter Try.func34, Try.ntmps34
  go_wp2
  go_ret
  exact ⟨rfl, by (repeat (first | assumption | exact Below.refl _ _ | refine Below.alloc ?_ (by first | (simp; done) | (simp; omega) | omega) _ | refine Below.setCell ?_ (by first | (with_reducible assumption) | (simp; done) | (simp; omega) | omega) _ | apply Below.drew | apply below_drewN | refine below_tr (by assumption) ?_))⟩

set_option maxHeartbeats 1000000 in
theorem isTime_low (n : Int) (w : World) (h : n < -1000000000000) :
    Calls Try.prog 34 #[.int .i64 n] w fun e w' => e = .returned (.bool false) ∧ Below w.heap.size w w' := by
  go_enter Try.func34, Try.ntmps34
  go_wp2
  go_ret
  exact ⟨rfl, by (repeat (first | assumption | exact Below.refl _ _ | refine Below.alloc ?_ (by first | (simp; done) | (simp; omega) | omega) _ | refine Below.setCell ?_ (by first | (with_reducible assumption) | (simp; done) | (simp; omega) | omega) _ | apply Below.drew | apply below_drewN | refine below_tr (by assumption) ?_))⟩

set_option maxHeartbeats 1000000 in
theorem isTime_high (n : Int) (w : World) (h : 1000000000000 < n) :
    Calls Try.prog 34 #[.int .i64 n] w fun e w' => e = .returned (.bool false) ∧ Below w.heap.size w w' := by
  have h2 : ¬ n < -1000000000000 := by omega
  have h3 : decide (n ≤ 1000000000000) = false := decide_eq_false (by omega)
  go_enter Try.func34, Try.ntmps34
  go_wp2
  go_ret
  exact ⟨rfl, by (repeat (first | assumption | exact Below.refl _ _ | refine Below.alloc ?_ (by first | (simp; done) | (simp; omega) | omega) _ | refine Below.setCell ?_ (by first | (with_reducible assumption) | (simp; done) | (simp; omega) | omega) _ | apply Below.drew | apply below_drewN | refine below_tr (by assumption) ?_))⟩

theorem isTime_no (n : Int) (w : World) (h : tmB n = false) :
    Calls Try.prog 34 #[.int .i64 n] w fun e w' => e = .returned (.bool false) ∧ Below w.heap.size w w' := by
  rcases tmB_f h with h | h
  · exact isTime_low n w h
  · exact isTime_high n w h

set_option maxHeartbeats 1000000 in
theorem pcheck_a (a b c d : Int) (w : World) (h0 : tmB a = false) :
    Calls Try.prog 32 #[.agg #[.int .i64 a, .int .i64 b, .int .i64 c, .int .i64 d]] w fun e w' => e = .returned (.iface 73 (.int .i64 (1))) ∧ Below w.heap.size w w' := by
  have cnt : Mark 0 := .mk _
  go_enter Try.func32, Try.ntmps32
  go_wp2_with (first | (go_at_call 34; have cq : Mark 0 := cnt; refine (isTime_no _ _ (by assumption)).mono ?_; clear cq cnt; have cnt : Mark 1 := .mk _; rintro e u0 ⟨rfl, hb⟩; replace hw : Below w.heap.size w u0 := rbel_on hb (rbel_al (Below.refl _ _)); replace PP : Row u0 (w.heap.size) [.int .i64 (a), .int .i64 (b), .int .i64 (c), .int .i64 (d)] := Row.on hb (Row.made (by simp)); replace cP0 := PP.c 0 _ rfl; replace cP1 := PP.c 1 _ rfl; replace cP2 := PP.c 2 _ rfl; replace cP3 := PP.c 3 _ rfl; replace zP := PP.lt; clear hb))
  go_ret
  exact ⟨rfl, by (repeat (first | assumption | exact Below.refl _ _ | refine Below.alloc ?_ (by first | (simp; done) | (simp; omega) | omega) _ | refine Below.setCell ?_ (by first | (with_reducible assumption) | (simp; done) | (simp; omega) | omega) _ | apply Below.drew | apply below_drewN | refine below_tr (by assumption) ?_))⟩

set_option maxHeartbeats 1000000 in
theorem pcheck_b (a b c d : Int) (w : World) (h0 : tmB a = true) (h1 : tmB b = false) :
    Calls Try.prog 32 #[.agg #[.int .i64 a, .int .i64 b, .int .i64 c, .int .i64 d]] w fun e w' => e = .returned (.iface 73 (.int .i64 (1))) ∧ Below w.heap.size w w' := by
  have cnt : Mark 0 := .mk _
  go_enter Try.func32, Try.ntmps32
  go_wp2_with (first | (go_at_call 34; have cq : Mark 0 := cnt; refine (isTime_yes _ _ (by assumption)).mono ?_; clear cq cnt; have cnt : Mark 1 := .mk _; rintro e u0 ⟨rfl, hb⟩; replace hw : Below w.heap.size w u0 := rbel_on hb (rbel_al (Below.refl _ _)); replace PP : Row u0 (w.heap.size) [.int .i64 (a), .int .i64 (b), .int .i64 (c), .int .i64 (d)] := Row.on hb (Row.made (by simp)); replace cP0 := PP.c 0 _ rfl; replace cP1 := PP.c 1 _ rfl; replace cP2 := PP.c 2 _ rfl; replace cP3 := PP.c 3 _ rfl; replace zP := PP.lt; clear hb) | (go_at_call 34; have cq : Mark 1 := cnt; refine (isTime_no _ _ (by assumption)).mono ?_; clear cq cnt; have cnt : Mark 2 := .mk _; rintro e u1 ⟨rfl, hb⟩; replace hw : Below w.heap.size w u1 := rbel_on hb (hw); replace PP : Row u1 (w.heap.size) [.int .i64 (a), .int .i64 (b), .int .i64 (c), .int .i64 (d)] := Row.on hb (PP); replace cP0 := PP.c 0 _ rfl; replace cP1 := PP.c 1 _ rfl; replace cP2 := PP.c 2 _ rfl; replace cP3 := PP.c 3 _ rfl; replace zP := PP.lt; clear hb))
  go_ret
  exact ⟨rfl, by (repeat (first | assumption | exact Below.refl _ _ | refine Below.alloc ?_ (by first | (simp; done) | (simp; omega) | omega) _ | refine Below.setCell ?_ (by first | (with_reducible assumption) | (simp; done) | (simp; omega) | omega) _ | apply Below.drew | apply below_drewN | refine below_tr (by assumption) ?_))⟩

set_option maxHeartbeats 1000000 in
theorem pcheck_c (a b c d : Int) (w : World) (h0 : tmB a = true) (h1 : tmB b = true) (h2 : tmB c = false) :
    Calls Try.prog 32 #[.agg #[.int .i64 a, .int .i64 b, .int .i64 c, .int .i64 d]] w fun e w' => e = .returned (.iface 73 (.int .i64 (1))) ∧ Below w.heap.size w w' := by
  have cnt : Mark 0 := .mk _
  go_enter Try.func32, Try.ntmps32
  go_wp2_with (first | (go_at_call 34; have cq : Mark 0 := cnt; refine (isTime_yes _ _ (by assumption)).mono ?_; clear cq cnt; have cnt : Mark 1 := .mk _; rintro e u0 ⟨rfl, hb⟩; replace hw : Below w.heap.size w u0 := rbel_on hb (rbel_al (Below.refl _ _)); replace PP : Row u0 (w.heap.size) [.int .i64 (a), .int .i64 (b), .int .i64 (c), .int .i64 (d)] := Row.on hb (Row.made (by simp)); replace cP0 := PP.c 0 _ rfl; replace cP1 := PP.c 1 _ rfl; replace cP2 := PP.c 2 _ rfl; replace cP3 := PP.c 3 _ rfl; replace zP := PP.lt; clear hb) | (go_at_call 34; have cq : Mark 1 := cnt; refine (isTime_yes _ _ (by assumption)).mono ?_; clear cq cnt; have cnt : Mark 2 := .mk _; rintro e u1 ⟨rfl, hb⟩; replace hw : Below w.heap.size w u1 := rbel_on hb (hw); replace PP : Row u1 (w.heap.size) [.int .i64 (a), .int .i64 (b), .int .i64 (c), .int .i64 (d)] := Row.on hb (PP); replace cP0 := PP.c 0 _ rfl; replace cP1 := PP.c 1 _ rfl; replace cP2 := PP.c 2 _ rfl; replace cP3 := PP.c 3 _ rfl; replace zP := PP.lt; clear hb) | (go_at_call 34; have cq : Mark 2 := cnt; refine (isTime_no _ _ (by assumption)).mono ?_; clear cq cnt; have cnt : Mark 3 := .mk _; rintro e u2 ⟨rfl, hb⟩; replace hw : Below w.heap.size w u2 := rbel_on hb (hw); replace PP : Row u2 (w.heap.size) [.int .i64 (a), .int .i64 (b), .int .i64 (c), .int .i64 (d)] := Row.on hb (PP); replace cP0 := PP.c 0 _ rfl; replace cP1 := PP.c 1 _ rfl; replace cP2 := PP.c 2 _ rfl; replace cP3 := PP.c 3 _ rfl; replace zP := PP.lt; clear hb))
  go_ret
  exact ⟨rfl, by (repeat (first | assumption | exact Below.refl _ _ | refine Below.alloc ?_ (by first | (simp; done) | (simp; omega) | omega) _ | refine Below.setCell ?_ (by first | (with_reducible assumption) | (simp; done) | (simp; omega) | omega) _ | apply Below.drew | apply below_drewN | refine below_tr (by assumption) ?_))⟩

set_option maxHeartbeats 1000000 in
theorem pcheck_d (a b c d : Int) (w : World) (h0 : tmB a = true) (h1 : tmB b = true) (h2 : tmB c = true) (h3 : tmB d = false) :
    Calls Try.prog 32 #[.agg #[.int .i64 a, .int .i64 b, .int .i64 c, .int .i64 d]] w fun e w' => e = .returned (.iface 73 (.int .i64 (1))) ∧ Below w.heap.size w w' := by
  have cnt : Mark 0 := .mk _
  go_enter Try.func32, Try.ntmps32
  go_wp2_with (first | (go_at_call 34; have cq : Mark 0 := cnt; refine (isTime_yes _ _ (by assumption)).mono ?_; clear cq cnt; have cnt : Mark 1 := .mk _; rintro e u0 ⟨rfl, hb⟩; replace hw : Below w.heap.size w u0 := rbel_on hb (rbel_al (Below.refl _ _)); replace PP : Row u0 (w.heap.size) [.int .i64 (a), .int .i64 (b), .int .i64 (c), .int .i64 (d)] := Row.on hb (Row.made (by simp)); replace cP0 := PP.c 0 _ rfl; replace cP1 := PP.c 1 _ rfl; replace cP2 := PP.c 2 _ rfl; replace cP3 := PP.c 3 _ rfl; replace zP := PP.lt; clear hb) | (go_at_call 34; have cq : Mark 1 := cnt; refine (isTime_yes _ _ (by assumption)).mono ?_; clear cq cnt; have cnt : Mark 2 := .mk _; rintro e u1 ⟨rfl, hb⟩; replace hw : Below w.heap.size w u1 := rbel_on hb (hw); replace PP : Row u1 (w.heap.size) [.int .i64 (a), .int .i64 (b), .int .i64 (c), .int .i64 (d)] := Row.on hb (PP); replace cP0 := PP.c 0 _ rfl; replace cP1 := PP.c 1 _ rfl; replace cP2 := PP.c 2 _ rfl; replace cP3 := PP.c 3 _ rfl; replace zP := PP.lt; clear hb) | (go_at_call 34; have cq : Mark 2 := cnt; refine (isTime_yes _ _ (by assumption)).mono ?_; clear cq cnt; have cnt : Mark 3 := .mk _; rintro e u2 ⟨rfl, hb⟩; replace hw : Below w.heap.size w u2 := rbel_on hb (hw); replace PP : Row u2 (w.heap.size) [.int .i64 (a), .int .i64 (b), .int .i64 (c), .int .i64 (d)] := Row.on hb (PP); replace cP0 := PP.c 0 _ rfl; replace cP1 := PP.c 1 _ rfl; replace cP2 := PP.c 2 _ rfl; replace cP3 := PP.c 3 _ rfl; replace zP := PP.lt; clear hb) | (go_at_call 34; have cq : Mark 3 := cnt; refine (isTime_no _ _ (by assumption)).mono ?_; clear cq cnt; have cnt : Mark 4 := .mk _; rintro e u3 ⟨rfl, hb⟩; replace hw : Below w.heap.size w u3 := rbel_on hb (hw); replace PP : Row u3 (w.heap.size) [.int .i64 (a), .int .i64 (b), .int .i64 (c), .int .i64 (d)] := Row.on hb (PP); replace cP0 := PP.c 0 _ rfl; replace cP1 := PP.c 1 _ rfl; replace cP2 := PP.c 2 _ rfl; replace cP3 := PP.c 3 _ rfl; replace zP := PP.lt; clear hb))
  go_ret
  exact ⟨rfl, by (repeat (first | assumption | exact Below.refl _ _ | refine Below.alloc ?_ (by first | (simp; done) | (simp; omega) | omega) _ | refine Below.setCell ?_ (by first | (with_reducible assumption) | (simp; done) | (simp; omega) | omega) _ | apply Below.drew | apply below_drewN | refine below_tr (by assumption) ?_))⟩

set_option maxHeartbeats 1000000 in
theorem pcheck_x (a b c d : Int) (w : World) (h0 : tmB a = true) (h1 : tmB b = true) (h2 : tmB c = true) (h3 : tmB d = true) (h4 : d < a) :
    Calls Try.prog 32 #[.agg #[.int .i64 a, .int .i64 b, .int .i64 c, .int .i64 d]] w fun e w' => e = .returned (.iface 73 (.int .i64 (3))) ∧ Below w.heap.size w w' := by
  have cnt : Mark 0 := .mk _
  go_enter Try.func32, Try.ntmps32
  go_wp2_with (first | (go_at_call 34; have cq : Mark 0 := cnt; refine (isTime_yes _ _ (by assumption)).mono ?_; clear cq cnt; have cnt : Mark 1 := .mk _; rintro e u0 ⟨rfl, hb⟩; replace hw : Below w.heap.size w u0 := rbel_on hb (rbel_al (Below.refl _ _)); replace PP : Row u0 (w.heap.size) [.int .i64 (a), .int .i64 (b), .int .i64 (c), .int .i64 (d)] := Row.on hb (Row.made (by simp)); replace cP0 := PP.c 0 _ rfl; replace cP1 := PP.c 1 _ rfl; replace cP2 := PP.c 2 _ rfl; replace cP3 := PP.c 3 _ rfl; replace zP := PP.lt; clear hb) | (go_at_call 34; have cq : Mark 1 := cnt; refine (isTime_yes _ _ (by assumption)).mono ?_; clear cq cnt; have cnt : Mark 2 := .mk _; rintro e u1 ⟨rfl, hb⟩; replace hw : Below w.heap.size w u1 := rbel_on hb (hw); replace PP : Row u1 (w.heap.size) [.int .i64 (a), .int .i64 (b), .int .i64 (c), .int .i64 (d)] := Row.on hb (PP); replace cP0 := PP.c 0 _ rfl; replace cP1 := PP.c 1 _ rfl; replace cP2 := PP.c 2 _ rfl; replace cP3 := PP.c 3 _ rfl; replace zP := PP.lt; clear hb) | (go_at_call 34; have cq : Mark 2 := cnt; refine (isTime_yes _ _ (by assumption)).mono ?_; clear cq cnt; have cnt : Mark 3 := .mk _; rintro e u2 ⟨rfl, hb⟩; replace hw : Below w.heap.size w u2 := rbel_on hb (hw); replace PP : Row u2 (w.heap.size) [.int .i64 (a), .int .i64 (b), .int .i64 (c), .int .i64 (d)] := Row.on hb (PP); replace cP0 := PP.c 0 _ rfl; replace cP1 := PP.c 1 _ rfl; replace cP2 := PP.c 2 _ rfl; replace cP3 := PP.c 3 _ rfl; replace zP := PP.lt; clear hb) | (go_at_call 34; have cq : Mark 3 := cnt; refine (isTime_yes _ _ (by assumption)).mono ?_; clear cq cnt; have cnt : Mark 4 := .mk _; rintro e u3 ⟨rfl, hb⟩; replace hw : Below w.heap.size w u3 := rbel_on hb (hw); replace PP : Row u3 (w.heap.size) [.int .i64 (a), .int .i64 (b), .int .i64 (c), .int .i64 (d)] := Row.on hb (PP); replace cP0 := PP.c 0 _ rfl; replace cP1 := PP.c 1 _ rfl; replace cP2 := PP.c 2 _ rfl; replace cP3 := PP.c 3 _ rfl; replace zP := PP.lt; clear hb))
  go_ret
  exact ⟨rfl, by (repeat (first | assumption | exact Below.refl _ _ | refine Below.alloc ?_ (by first | (simp; done) | (simp; omega) | omega) _ | refine Below.setCell ?_ (by first | (with_reducible assumption) | (simp; done) | (simp; omega) | omega) _ | apply Below.drew | apply below_drewN | refine below_tr (by assumption) ?_))⟩

set_option maxHeartbeats 1000000 in
theorem pcheck_y (a b c d : Int) (w : World) (h0 : tmB a = true) (h1 : tmB b = true) (h2 : tmB c = true) (h3 : tmB d = true) (h4 : a ≤ d) (h5 : c < b) :
    Calls Try.prog 32 #[.agg #[.int .i64 a, .int .i64 b, .int .i64 c, .int .i64 d]] w fun e w' => e = .returned (.iface 73 (.int .i64 (3))) ∧ Below w.heap.size w w' := by
  have cnt : Mark 0 := .mk _
  go_enter Try.func32, Try.ntmps32
  go_wp2_with (first | (go_at_call 34; have cq : Mark 0 := cnt; refine (isTime_yes _ _ (by assumption)).mono ?_; clear cq cnt; have cnt : Mark 1 := .mk _; rintro e u0 ⟨rfl, hb⟩; replace hw : Below w.heap.size w u0 := rbel_on hb (rbel_al (Below.refl _ _)); replace PP : Row u0 (w.heap.size) [.int .i64 (a), .int .i64 (b), .int .i64 (c), .int .i64 (d)] := Row.on hb (Row.made (by simp)); replace cP0 := PP.c 0 _ rfl; replace cP1 := PP.c 1 _ rfl; replace cP2 := PP.c 2 _ rfl; replace cP3 := PP.c 3 _ rfl; replace zP := PP.lt; clear hb) | (go_at_call 34; have cq : Mark 1 := cnt; refine (isTime_yes _ _ (by assumption)).mono ?_; clear cq cnt; have cnt : Mark 2 := .mk _; rintro e u1 ⟨rfl, hb⟩; replace hw : Below w.heap.size w u1 := rbel_on hb (hw); replace PP : Row u1 (w.heap.size) [.int .i64 (a), .int .i64 (b), .int .i64 (c), .int .i64 (d)] := Row.on hb (PP); replace cP0 := PP.c 0 _ rfl; replace cP1 := PP.c 1 _ rfl; replace cP2 := PP.c 2 _ rfl; replace cP3 := PP.c 3 _ rfl; replace zP := PP.lt; clear hb) | (go_at_call 34; have cq : Mark 2 := cnt; refine (isTime_yes _ _ (by assumption)).mono ?_; clear cq cnt; have cnt : Mark 3 := .mk _; rintro e u2 ⟨rfl, hb⟩; replace hw : Below w.heap.size w u2 := rbel_on hb (hw); replace PP : Row u2 (w.heap.size) [.int .i64 (a), .int .i64 (b), .int .i64 (c), .int .i64 (d)] := Row.on hb (PP); replace cP0 := PP.c 0 _ rfl; replace cP1 := PP.c 1 _ rfl; replace cP2 := PP.c 2 _ rfl; replace cP3 := PP.c 3 _ rfl; replace zP := PP.lt; clear hb) | (go_at_call 34; have cq : Mark 3 := cnt; refine (isTime_yes _ _ (by assumption)).mono ?_; clear cq cnt; have cnt : Mark 4 := .mk _; rintro e u3 ⟨rfl, hb⟩; replace hw : Below w.heap.size w u3 := rbel_on hb (hw); replace PP : Row u3 (w.heap.size) [.int .i64 (a), .int .i64 (b), .int .i64 (c), .int .i64 (d)] := Row.on hb (PP); replace cP0 := PP.c 0 _ rfl; replace cP1 := PP.c 1 _ rfl; replace cP2 := PP.c 2 _ rfl; replace cP3 := PP.c 3 _ rfl; replace zP := PP.lt; clear hb))
  go_ret
  exact ⟨rfl, by (repeat (first | assumption | exact Below.refl _ _ | refine Below.alloc ?_ (by first | (simp; done) | (simp; omega) | omega) _ | refine Below.setCell ?_ (by first | (with_reducible assumption) | (simp; done) | (simp; omega) | omega) _ | apply Below.drew | apply below_drewN | refine below_tr (by assumption) ?_))⟩

set_option maxHeartbeats 1000000 in
theorem pcheck_z (a b c d : Int) (w : World) (h0 : tmB a = true) (h1 : tmB b = true) (h2 : tmB c = true) (h3 : tmB d = true) (h4 : a ≤ d) (h5 : b ≤ c) :
    Calls Try.prog 32 #[.agg #[.int .i64 a, .int .i64 b, .int .i64 c, .int .i64 d]] w fun e w' => e = .returned (.nilIface) ∧ Below w.heap.size w w' := by
  have cnt : Mark 0 := .mk _
  go_enter Try.func32, Try.ntmps32
  go_wp2_with (first | (go_at_call 34; have cq : Mark 0 := cnt; refine (isTime_yes _ _ (by assumption)).mono ?_; clear cq cnt; have cnt : Mark 1 := .mk _; rintro e u0 ⟨rfl, hb⟩; replace hw : Below w.heap.size w u0 := rbel_on hb (rbel_al (Below.refl _ _)); replace PP : Row u0 (w.heap.size) [.int .i64 (a), .int .i64 (b), .int .i64 (c), .int .i64 (d)] := Row.on hb (Row.made (by simp)); replace cP0 := PP.c 0 _ rfl; replace cP1 := PP.c 1 _ rfl; replace cP2 := PP.c 2 _ rfl; replace cP3 := PP.c 3 _ rfl; replace zP := PP.lt; clear hb) | (go_at_call 34; have cq : Mark 1 := cnt; refine (isTime_yes _ _ (by assumption)).mono ?_; clear cq cnt; have cnt : Mark 2 := .mk _; rintro e u1 ⟨rfl, hb⟩; replace hw : Below w.heap.size w u1 := rbel_on hb (hw); replace PP : Row u1 (w.heap.size) [.int .i64 (a), .int .i64 (b), .int .i64 (c), .int .i64 (d)] := Row.on hb (PP); replace cP0 := PP.c 0 _ rfl; replace cP1 := PP.c 1 _ rfl; replace cP2 := PP.c 2 _ rfl; replace cP3 := PP.c 3 _ rfl; replace zP := PP.lt; clear hb) | (go_at_call 34; have cq : Mark 2 := cnt; refine (isTime_yes _ _ (by assumption)).mono ?_; clear cq cnt; have cnt : Mark 3 := .mk _; rintro e u2 ⟨rfl, hb⟩; replace hw : Below w.heap.size w u2 := rbel_on hb (hw); replace PP : Row u2 (w.heap.size) [.int .i64 (a), .int .i64 (b), .int .i64 (c), .int .i64 (d)] := Row.on hb (PP); replace cP0 := PP.c 0 _ rfl; replace cP1 := PP.c 1 _ rfl; replace cP2 := PP.c 2 _ rfl; replace cP3 := PP.c 3 _ rfl; replace zP := PP.lt; clear hb) | (go_at_call 34; have cq : Mark 3 := cnt; refine (isTime_yes _ _ (by assumption)).mono ?_; clear cq cnt; have cnt : Mark 4 := .mk _; rintro e u3 ⟨rfl, hb⟩; replace hw : Below w.heap.size w u3 := rbel_on hb (hw); replace PP : Row u3 (w.heap.size) [.int .i64 (a), .int .i64 (b), .int .i64 (c), .int .i64 (d)] := Row.on hb (PP); replace cP0 := PP.c 0 _ rfl; replace cP1 := PP.c 1 _ rfl; replace cP2 := PP.c 2 _ rfl; replace cP3 := PP.c 3 _ rfl; replace zP := PP.lt; clear hb))
  go_ret
  exact ⟨rfl, by (repeat (first | assumption | exact Below.refl _ _ | refine Below.alloc ?_ (by first | (simp; done) | (simp; omega) | omega) _ | refine Below.setCell ?_ (by first | (with_reducible assumption) | (simp; done) | (simp; omega) | omega) _ | apply Below.drew | apply below_drewN | refine below_tr (by assumption) ?_))⟩

theorem pcheck_ok (a b c d : Int) (w : World) (h : pE a b c d = 0) :
    Calls Try.prog 32 #[.agg #[.int .i64 a, .int .i64 b, .int .i64 c, .int .i64 d]] w fun e w' => e = .returned (.nilIface) ∧ Below w.heap.size w w' := by
  obtain ⟨h0, h1, h2, h3, h4, h5⟩ := pE_zero h
  exact pcheck_z a b c d w h0 h1 h2 h3 h4 h5

theorem pcheck_no (a b c d : Int) (w : World) (h : pE a b c d ≠ 0) :
    Calls Try.prog 32 #[.agg #[.int .i64 a, .int .i64 b, .int .i64 c, .int .i64 d]] w fun e w' => e = .returned (.iface 73 (.int .i64 (pE a b c d))) ∧ Below w.heap.size w w' := by
  rcases pE_some h with ⟨e, k⟩ | ⟨e, h0, h1, h2, h3, k⟩
  · rw [e]
    cases h0 : tmB a with
    | false => exact pcheck_a a b c d w h0
    | true =>
    cases h1 : tmB b with
    | false => exact pcheck_b a b c d w h0 h1
    | true =>
    cases h2 : tmB c with
    | false => exact pcheck_c a b c d w h0 h1 h2
    | true =>
    cases h3 : tmB d with
    | false => exact pcheck_d a b c d w h0 h1 h2 h3
    | true => simp [h0, h1, h2, h3] at k
  · rw [e]
    by_cases h4 : d < a
    · exact pcheck_x a b c d w h0 h1 h2 h3 h4
    · exact pcheck_y a b c d w h0 h1 h2 h3 (by omega) (by omega)

end Go.Proofs.Ytfmaoblhoafnhaj
