/- What the document's own node (package noonref2) answers of a letter: refused, or no answer. -/
import Derived.Test.YtnagdjipmpjaaaiGreatDoorNm25
namespace Go.Proofs.YtnagdjipmpjaaaiGreatDoor
open Go.ChangeShapes Go.WideShapes Go.ChangeAt Go.RowKit Go.Joins
set_option linter.unusedVariables false
set_option linter.unusedSimpArgs false

set_option maxRecDepth 100000 in
set_option maxHeartbeats 4000000 in
theorem rhear_bk (b : Nat) (c : Nd) (x y t1 t2 t3 t : Int) (u : World) (hR : RN u b c) (hI : c.I) (a : Bool) (hb : c.bk t) :
    Calls Tryz.prog 32 #[.pointer (some ⟨b, 0, none⟩), .agg #[.int .i64 x, .int .i64 y, .bool a, .int .i64 t1, .int .i64 t2, .int .i64 t3], .int .i64 t] u fun o w' => o = .returned (.tuple #[.bool false, .int .i64 8]) ∧ Below u.heap.size u w' := by
  have HR : Hid (RN u b c) := hR
  have zb := hR.lt
  have c0 := hR.id
  have c1 := hR.n
  have HB : Hid (c.bk t) := hb
  clear hR hI hb
  go_enter Tryz.func32, Tryz.ntmps32
  go_wp2_with (go_at_call 56; refine (rback_yes b c t _ (RN.on (rbel_al (Below.refl _ _)) HR.out) HB.out).mono ?_; rintro o u1 ⟨rfl, hu⟩; rw [hu]; clear hu)
  go_ret2
  exact ⟨rfl, by first | exact rbel_drn (rbel_al (Below.refl _ _)) | exact rbel_al (Below.refl _ _)⟩
set_option maxRecDepth 100000 in
set_option maxHeartbeats 4000000 in
theorem rhear_b1 (b : Nat) (c : Nd) (x y t1 t2 t3 t : Int) (u : World) (hR : RN u b c) (hI : c.I) (a : Bool) (hb : ¬ c.bk t) (h : y ≠ c.id) :
    Calls Tryz.prog 32 #[.pointer (some ⟨b, 0, none⟩), .agg #[.int .i64 x, .int .i64 y, .bool a, .int .i64 t1, .int .i64 t2, .int .i64 t3], .int .i64 t] u fun o w' => o = .returned (.tuple #[.bool false, .int .i64 3]) ∧ Below u.heap.size u w' := by
  have HR : Hid (RN u b c) := hR
  have zb := hR.lt
  have c0 := hR.id
  have c1 := hR.n
  have HB : Hid (¬ c.bk t) := hb
  clear hR hI hb
  have d1 : (y == (c.id : Int)) = false := by simp; exact h
  go_enter Tryz.func32, Tryz.ntmps32
  go_wp2_with (go_at_call 56; refine (rback_no b c t _ (RN.on (rbel_al (Below.refl _ _)) HR.out) HB.out).mono ?_; rintro o u1 ⟨rfl, hu⟩; rw [hu]; clear hu)
  go_quiet (fail)
  go_wp2
  go_ret2
  exact ⟨rfl, by first | exact rbel_drn (rbel_al (Below.refl _ _)) | exact rbel_al (Below.refl _ _)⟩
set_option maxRecDepth 100000 in
set_option maxHeartbeats 4000000 in
theorem rhear_b2 (b : Nat) (c : Nd) (x y t1 t2 t3 t : Int) (u : World) (hR : RN u b c) (hI : c.I) (a : Bool) (hb : ¬ c.bk t) (h0 : y = c.id) (h : x = c.id) :
    Calls Tryz.prog 32 #[.pointer (some ⟨b, 0, none⟩), .agg #[.int .i64 x, .int .i64 y, .bool a, .int .i64 t1, .int .i64 t2, .int .i64 t3], .int .i64 t] u fun o w' => o = .returned (.tuple #[.bool false, .int .i64 3]) ∧ Below u.heap.size u w' := by
  have HR : Hid (RN u b c) := hR
  have zb := hR.lt
  have c0 := hR.id
  have c1 := hR.n
  have HB : Hid (¬ c.bk t) := hb
  clear hR hI hb
  subst h0
  subst h
  go_enter Tryz.func32, Tryz.ntmps32
  go_wp2_with (go_at_call 56; refine (rback_no b c t _ (RN.on (rbel_al (Below.refl _ _)) HR.out) HB.out).mono ?_; rintro o u1 ⟨rfl, hu⟩; rw [hu]; clear hu)
  go_quiet (fail)
  go_wp2
  go_ret2
  exact ⟨rfl, by first | exact rbel_drn (rbel_al (Below.refl _ _)) | exact rbel_al (Below.refl _ _)⟩
set_option maxRecDepth 100000 in
set_option maxHeartbeats 4000000 in
theorem rhear_b3 (b : Nat) (c : Nd) (x y t1 t2 t3 t : Int) (u : World) (hR : RN u b c) (hI : c.I) (a : Bool) (hb : ¬ c.bk t) (h0 : y = c.id) (h1 : x ≠ c.id) (h : x < 0) :
    Calls Tryz.prog 32 #[.pointer (some ⟨b, 0, none⟩), .agg #[.int .i64 x, .int .i64 y, .bool a, .int .i64 t1, .int .i64 t2, .int .i64 t3], .int .i64 t] u fun o w' => o = .returned (.tuple #[.bool false, .int .i64 3]) ∧ Below u.heap.size u w' := by
  have HR : Hid (RN u b c) := hR
  have zb := hR.lt
  have c0 := hR.id
  have c1 := hR.n
  have HB : Hid (¬ c.bk t) := hb
  clear hR hI hb
  subst h0
  have d1 : (x == (c.id : Int)) = false := by simp; exact h1
  have d2 : decide (x < 0) = true := decide_eq_true h
  go_enter Tryz.func32, Tryz.ntmps32
  go_wp2_with (go_at_call 56; refine (rback_no b c t _ (RN.on (rbel_al (Below.refl _ _)) HR.out) HB.out).mono ?_; rintro o u1 ⟨rfl, hu⟩; rw [hu]; clear hu)
  go_quiet (fail)
  go_wp2
  go_ret2
  exact ⟨rfl, by first | exact rbel_drn (rbel_al (Below.refl _ _)) | exact rbel_al (Below.refl _ _)⟩
set_option maxRecDepth 100000 in
set_option maxHeartbeats 4000000 in
theorem rhear_b4 (b : Nat) (c : Nd) (x y t1 t2 t3 t : Int) (u : World) (hR : RN u b c) (hI : c.I) (a : Bool) (hb : ¬ c.bk t) (h0 : y = c.id) (h1 : x ≠ c.id) (h2 : ¬ x < 0) (h : (c.n : Int) ≤ x) :
    Calls Tryz.prog 32 #[.pointer (some ⟨b, 0, none⟩), .agg #[.int .i64 x, .int .i64 y, .bool a, .int .i64 t1, .int .i64 t2, .int .i64 t3], .int .i64 t] u fun o w' => o = .returned (.tuple #[.bool false, .int .i64 3]) ∧ Below u.heap.size u w' := by
  have HR : Hid (RN u b c) := hR
  have zb := hR.lt
  have c0 := hR.id
  have c1 := hR.n
  have HB : Hid (¬ c.bk t) := hb
  clear hR hI hb
  subst h0
  have d1 : (x == (c.id : Int)) = false := by simp; exact h1
  have d2 : decide (x < 0) = false := decide_eq_false h2
  have d3 : decide ((c.n : Int) ≤ x) = true := decide_eq_true h
  go_enter Tryz.func32, Tryz.ntmps32
  go_wp2_with (go_at_call 56; refine (rback_no b c t _ (RN.on (rbel_al (Below.refl _ _)) HR.out) HB.out).mono ?_; rintro o u1 ⟨rfl, hu⟩; rw [hu]; clear hu)
  go_quiet (fail)
  go_wp2
  go_ret2
  exact ⟨rfl, by first | exact rbel_drn (rbel_al (Below.refl _ _)) | exact rbel_al (Below.refl _ _)⟩
set_option maxRecDepth 100000 in
set_option maxHeartbeats 4000000 in
theorem rhear_ask (b : Nat) (c : Nd) (x y t1 t2 t3 t : Int) (u : World) (hR : RN u b c) (hI : c.I) (hb : ¬ c.bk t) (k : Nat) (ex : x = k) (hk : k < c.n) (hne : k ≠ c.id) (h0 : y = c.id) :
    Calls Tryz.prog 32 #[.pointer (some ⟨b, 0, none⟩), .agg #[.int .i64 x, .int .i64 y, .bool false, .int .i64 t1, .int .i64 t2, .int .i64 t3], .int .i64 t] u fun o w' => o = .returned (.tuple #[.bool false, .int .i64 0]) ∧ RN w' b { c with h := t } ∧ Keeps (fun i => i = b) u w' := by
  have HR : Hid (RN u b c) := hR
  have zb := hR.lt
  have c0 := hR.id
  have c1 := hR.n
  have HB : Hid (¬ c.bk t) := hb
  subst h0
  subst ex
  have d1 : ((k : Int) == (c.id : Int)) = false := by simp; omega
  have d2 : decide ((k : Int) < 0) = false := decide_eq_false (by omega)
  have d3 : decide ((c.n : Int) ≤ (k : Int)) = false := decide_eq_false (by omega)
  have c3 := hR.h
  have f3 := hR.fz 3
  clear hR hI hb
  go_enter Tryz.func32, Tryz.ntmps32
  go_wp2_with (go_at_call 56; refine (rback_no b c t _ (RN.on (rbel_al (Below.refl _ _)) HR.out) HB.out).mono ?_; rintro o u1 ⟨rfl, hu⟩; rw [hu]; clear hu)
  go_quiet (fail)
  go_wp2
  go_ret2
  exact ⟨rfl, RN.late (RN.on (rbel_drn (rbel_al (Below.refl _ _))) HR.out), Keeps.put (S := fun i => i = b) rfl (Keeps.of (rbel_drn (rbel_al (Below.refl _ _))))⟩
end Go.Proofs.YtnagdjipmpjaaaiGreatDoor
