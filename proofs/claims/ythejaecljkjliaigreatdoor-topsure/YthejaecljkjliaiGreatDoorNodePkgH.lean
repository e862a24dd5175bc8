/- Package node, as it landed: Hear. -/
import Derived.Test.YthejaecljkjliaiGreatDoorNm05
import Derived.Deep.RegionWith
import Derived.Deep.CutRange
import Derived.Deep.CutBlock
namespace Go.Proofs.YthejaecljkjliaiGreatDoor
open Go.ChangeShapes Go.WideShapes Go.ChangeAt Go.RowKit Go.Joins Go.Maps
set_option linter.unusedVariables false
set_option linter.unusedSimpArgs false

section
variable {u : World} {b M : Nat} {c : Nd}
set_option maxRecDepth 100000 in
set_option maxHeartbeats 8000000 in
theorem hear_bk (h : PN u b M c) (hI : c.I) (x y t1 t2 t3 t : Int) (a : Bool) (hb : c.bk t) :
    Calls Tryz.prog 53 #[.pointer (some ⟨b, 0, none⟩), .agg #[.int .i64 x, .int .i64 y, .bool a, .int .i64 t1, .int .i64 t2, .int .i64 t3], .int .i64 t] u fun o w' => o = .returned (.tuple #[.bool false, .iface 85 (.int .i64 8)]) ∧ Below u.heap.size u w' := by
  have HR : Hid (PN u b M c) := h
  have HI : Hid c.I := hI
  have zb := h.lt
  have c0 := h.r.c 0 _ rfl
  have c1 := h.r.c 1 _ rfl
  have HB : Hid (c.bk t) := hb
  clear h hI hb
  go_enter Tryz.func53, Tryz.ntmps53
  go_wp2_with (go_at_call 90; refine (chk_bk (PN.on (rbel_al (Below.refl _ _)) HR.out) HI.out t HB.out).mono ?_; rintro o u1 ⟨rfl, hu⟩; rw [hu]; clear hu)
  go_ret2
  exact ⟨rfl, rbel_al (Below.refl _ _)⟩
set_option maxRecDepth 100000 in
set_option maxHeartbeats 8000000 in
theorem hear_b1 (h : PN u b M c) (hI : c.I) (x y t1 t2 t3 t : Int) (a : Bool) (hb : ¬ c.bk t) (hx : y ≠ c.id) :
    Calls Tryz.prog 53 #[.pointer (some ⟨b, 0, none⟩), .agg #[.int .i64 x, .int .i64 y, .bool a, .int .i64 t1, .int .i64 t2, .int .i64 t3], .int .i64 t] u fun o w' => o = .returned (.tuple #[.bool false, .iface 85 (.int .i64 3)]) ∧ Below u.heap.size u w' := by
  have HR : Hid (PN u b M c) := h
  have HI : Hid c.I := hI
  have zb := h.lt
  have c0 := h.r.c 0 _ rfl
  have c1 := h.r.c 1 _ rfl
  have HB : Hid (¬ c.bk t) := hb
  clear h hI hb
  have d1 : (y == (c.id : Int)) = false := by simp; exact hx
  have d1n : (y != (c.id : Int)) = true := by simp; exact hx
  go_enter Tryz.func53, Tryz.ntmps53
  go_wp2_with (go_at_call 90; refine (chk_no (PN.on (rbel_al (Below.refl _ _)) HR.out) HI.out t HB.out).mono ?_; rintro o u1 ⟨rfl, hu⟩; rw [hu]; clear hu)
  go_quiet (fail)
  go_wp2
  go_ret2
  exact ⟨rfl, by first | exact rbel_drn (rbel_al (Below.refl _ _)) | exact rbel_al (Below.refl _ _)⟩
set_option maxRecDepth 100000 in
set_option maxHeartbeats 8000000 in
theorem hear_b2 (h : PN u b M c) (hI : c.I) (x y t1 t2 t3 t : Int) (a : Bool) (hb : ¬ c.bk t) (h0 : y = c.id) (hx : x = c.id) :
    Calls Tryz.prog 53 #[.pointer (some ⟨b, 0, none⟩), .agg #[.int .i64 x, .int .i64 y, .bool a, .int .i64 t1, .int .i64 t2, .int .i64 t3], .int .i64 t] u fun o w' => o = .returned (.tuple #[.bool false, .iface 85 (.int .i64 3)]) ∧ Below u.heap.size u w' := by
  have HR : Hid (PN u b M c) := h
  have HI : Hid c.I := hI
  have zb := h.lt
  have c0 := h.r.c 0 _ rfl
  have c1 := h.r.c 1 _ rfl
  have HB : Hid (¬ c.bk t) := hb
  clear h hI hb
  subst h0
  subst hx
  go_enter Tryz.func53, Tryz.ntmps53
  go_wp2_with (go_at_call 90; refine (chk_no (PN.on (rbel_al (Below.refl _ _)) HR.out) HI.out t HB.out).mono ?_; rintro o u1 ⟨rfl, hu⟩; rw [hu]; clear hu)
  go_quiet (fail)
  go_wp2
  go_ret2
  exact ⟨rfl, by first | exact rbel_drn (rbel_al (Below.refl _ _)) | exact rbel_al (Below.refl _ _)⟩
set_option maxRecDepth 100000 in
set_option maxHeartbeats 8000000 in
theorem hear_b3 (h : PN u b M c) (hI : c.I) (x y t1 t2 t3 t : Int) (a : Bool) (hb : ¬ c.bk t) (h0 : y = c.id) (h1 : x ≠ c.id) (hx : x < 0) :
    Calls Tryz.prog 53 #[.pointer (some ⟨b, 0, none⟩), .agg #[.int .i64 x, .int .i64 y, .bool a, .int .i64 t1, .int .i64 t2, .int .i64 t3], .int .i64 t] u fun o w' => o = .returned (.tuple #[.bool false, .iface 85 (.int .i64 3)]) ∧ Below u.heap.size u w' := by
  have HR : Hid (PN u b M c) := h
  have HI : Hid c.I := hI
  have zb := h.lt
  have c0 := h.r.c 0 _ rfl
  have c1 := h.r.c 1 _ rfl
  have HB : Hid (¬ c.bk t) := hb
  clear h hI hb
  subst h0
  have d1 : (x == (c.id : Int)) = false := by simp; exact h1
  have d2 : decide (x < 0) = true := decide_eq_true hx
  go_enter Tryz.func53, Tryz.ntmps53
  go_wp2_with (go_at_call 90; refine (chk_no (PN.on (rbel_al (Below.refl _ _)) HR.out) HI.out t HB.out).mono ?_; rintro o u1 ⟨rfl, hu⟩; rw [hu]; clear hu)
  go_quiet (fail)
  go_wp2
  go_ret2
  exact ⟨rfl, by first | exact rbel_drn (rbel_al (Below.refl _ _)) | exact rbel_al (Below.refl _ _)⟩
set_option maxRecDepth 100000 in
set_option maxHeartbeats 8000000 in
theorem hear_b4 (h : PN u b M c) (hI : c.I) (x y t1 t2 t3 t : Int) (a : Bool) (hb : ¬ c.bk t) (h0 : y = c.id) (h1 : x ≠ c.id) (h2 : ¬ x < 0) (hx : (c.n : Int) ≤ x) :
    Calls Tryz.prog 53 #[.pointer (some ⟨b, 0, none⟩), .agg #[.int .i64 x, .int .i64 y, .bool a, .int .i64 t1, .int .i64 t2, .int .i64 t3], .int .i64 t] u fun o w' => o = .returned (.tuple #[.bool false, .iface 85 (.int .i64 3)]) ∧ Below u.heap.size u w' := by
  have HR : Hid (PN u b M c) := h
  have HI : Hid c.I := hI
  have zb := h.lt
  have c0 := h.r.c 0 _ rfl
  have c1 := h.r.c 1 _ rfl
  have HB : Hid (¬ c.bk t) := hb
  clear h hI hb
  subst h0
  have d1 : (x == (c.id : Int)) = false := by simp; exact h1
  have d2 : decide (x < 0) = false := decide_eq_false h2
  have d3 : decide ((c.n : Int) ≤ x) = true := decide_eq_true hx
  go_enter Tryz.func53, Tryz.ntmps53
  go_wp2_with (go_at_call 90; refine (chk_no (PN.on (rbel_al (Below.refl _ _)) HR.out) HI.out t HB.out).mono ?_; rintro o u1 ⟨rfl, hu⟩; rw [hu]; clear hu)
  go_quiet (fail)
  go_wp2
  go_ret2
  exact ⟨rfl, by first | exact rbel_drn (rbel_al (Below.refl _ _)) | exact rbel_al (Below.refl _ _)⟩
set_option maxRecDepth 100000 in
set_option maxHeartbeats 8000000 in
theorem hear_ask (h : PN u b M c) (hI : c.I) (x y t1 t2 t3 t : Int) (hb : ¬ c.bk t) (k : Nat) (ex : x = k) (hk : k < c.n) (hne : k ≠ c.id) (h0 : y = c.id) :
    Calls Tryz.prog 53 #[.pointer (some ⟨b, 0, none⟩), .agg #[.int .i64 x, .int .i64 y, .bool false, .int .i64 t1, .int .i64 t2, .int .i64 t3], .int .i64 t] u fun o w' => o = .returned (.tuple #[.bool false, .nilIface]) ∧ PN w' b M { c with h := t } ∧ Keeps (Fn b M) u w' := by
  have HR : Hid (PN u b M c) := h
  have HI : Hid c.I := hI
  have zb := h.lt
  have c0 := h.r.c 0 _ rfl
  have c1 := h.r.c 1 _ rfl
  have HB : Hid (¬ c.bk t) := hb
  subst h0
  subst ex
  have d1 : ((k : Int) == (c.id : Int)) = false := by simp; omega
  have d2 : decide ((k : Int) < 0) = false := decide_eq_false (by omega)
  have d3 : decide ((c.n : Int) ≤ (k : Int)) = false := decide_eq_false (by omega)
  have HT : Hid (0 ≤ t) := by unfold Nd.bk at hb; show 0 ≤ t; omega
  have c3 := h.r.c 3 _ rfl
  have f3 := h.r.f 3 _ rfl
  have ne1 : ¬ (b = u.heap.size) := by omega
  have ne2 : ¬ (u.heap.size = b) := by omega
  clear h hI hb
  go_enter Tryz.func53, Tryz.ntmps53
  go_wp2_with (go_at_call 90; refine (chk_no (PN.on (rbel_al (Below.refl _ _)) HR.out) HI.out t HB.out).mono ?_; rintro o u1 ⟨rfl, hu⟩; rw [hu]; clear hu)
  go_quiet (fail)
  go_wp2
  go_ret2
  exact ⟨rfl, (PN.late (PN.on (rbel_drn (rbel_al (Below.refl _ _))) HR.out) HT.out).1, Keeps.put (S := Fn b M) (Or.inl rfl) (Keeps.of (rbel_drn (rbel_al (Below.refl _ _))))⟩
set_option maxRecDepth 100000 in
set_option maxHeartbeats 8000000 in
theorem hear_no (h : PN u b M c) (hI : c.I) (x y t1 t2 t3 t : Int) (hb : ¬ c.bk t) (k : Nat) (ex : x = k) (hk : k < c.n) (hne : k ≠ c.id) (h0 : y = c.id) (e : Int) (he : e ≠ 0) (cL : ∀ w : World, Below u.heap.size u w → Calls Tryz.prog 91 #[.pointer (some ⟨b, 0, none⟩), .agg #[.int .i64 x, .int .i64 y, .bool true, .int .i64 t1, .int .i64 t2, .int .i64 t3], .int .i64 t] w fun o w' => o = .returned (.iface 85 (.int .i64 e)) ∧ Below w.heap.size w w') :
    Calls Tryz.prog 53 #[.pointer (some ⟨b, 0, none⟩), .agg #[.int .i64 x, .int .i64 y, .bool true, .int .i64 t1, .int .i64 t2, .int .i64 t3], .int .i64 t] u fun o w' => o = .returned (.tuple #[.bool false, .iface 85 (.int .i64 e)]) ∧ Below u.heap.size u w' := by
  have HR : Hid (PN u b M c) := h
  have HI : Hid c.I := hI
  have zb := h.lt
  have c0 := h.r.c 0 _ rfl
  have c1 := h.r.c 1 _ rfl
  have HB : Hid (¬ c.bk t) := hb
  subst h0
  subst ex
  have d1 : ((k : Int) == (c.id : Int)) = false := by simp; omega
  have d2 : decide ((k : Int) < 0) = false := decide_eq_false (by omega)
  have d3 : decide ((c.n : Int) ≤ (k : Int)) = false := decide_eq_false (by omega)
  have HT : Hid (0 ≤ t) := by unfold Nd.bk at hb; show 0 ≤ t; omega
  clear h hI hb
  go_enter Tryz.func53, Tryz.ntmps53
  go_wp2_with (go_at_call 90; refine (chk_no (PN.on (rbel_al (Below.refl _ _)) HR.out) HI.out t HB.out).mono ?_; rintro o u1 ⟨rfl, hu⟩; rw [hu]; clear hu)
  go_quiet (fail)
  go_wp2_with (go_at_call 91; refine (cL _ (rbel_drn (rbel_al (Below.refl _ _)))).mono ?_; rintro o u2 ⟨rfl, hb⟩; have B2 : Hid (Below u.heap.size u u2) := rbel_on hb (rbel_drn (rbel_al (Below.refl _ _))); clear hb)
  go_ret2
  exact ⟨rfl, B2.out⟩
set_option maxRecDepth 100000 in
set_option maxHeartbeats 8000000 in
theorem hear_yes (h : PN u b M c) (hI : c.I) (x y t1 t2 t3 t : Int) (hb : ¬ c.bk t) (k : Nat) (ex : x = k) (hk : k < c.n) (hne : k ≠ c.id) (h0 : y = c.id) (c2 : Nd) (hid : c2.id = c.id) (cL : ∀ w : World, Below u.heap.size u w → Calls Tryz.prog 91 #[.pointer (some ⟨b, 0, none⟩), .agg #[.int .i64 x, .int .i64 y, .bool true, .int .i64 t1, .int .i64 t2, .int .i64 t3], .int .i64 t] w fun o w' => o = .returned .nilIface ∧ PN w' b M c2 ∧ Keeps (fun j => j = M) w w') :
    Calls Tryz.prog 53 #[.pointer (some ⟨b, 0, none⟩), .agg #[.int .i64 x, .int .i64 y, .bool true, .int .i64 t1, .int .i64 t2, .int .i64 t3], .int .i64 t] u fun o w' => o = .returned (.tuple #[.bool true, .nilIface]) ∧ PN w' b M { c2 with h := t } ∧ Keeps (Fn b M) u w' := by
  have HR : Hid (PN u b M c) := h
  have HI : Hid c.I := hI
  have zb := h.lt
  have c0 := h.r.c 0 _ rfl
  have c1 := h.r.c 1 _ rfl
  have HB : Hid (¬ c.bk t) := hb
  subst h0
  subst ex
  have d1 : ((k : Int) == (c.id : Int)) = false := by simp; omega
  have d2 : decide ((k : Int) < 0) = false := decide_eq_false (by omega)
  have d3 : decide ((c.n : Int) ≤ (k : Int)) = false := decide_eq_false (by omega)
  have HT : Hid (0 ≤ t) := by unfold Nd.bk at hb; show 0 ≤ t; omega
  have zM := h.ltM
  clear h hI hb hid
  go_enter Tryz.func53, Tryz.ntmps53
  go_wp2_with (go_at_call 90; refine (chk_no (PN.on (rbel_al (Below.refl _ _)) HR.out) HI.out t HB.out).mono ?_; rintro o u1 ⟨rfl, hu⟩; rw [hu]; clear hu)
  go_quiet (fail)
  go_wp2_with (go_at_call 91; refine (cL _ (rbel_drn (rbel_al (Below.refl _ _)))).mono ?_; rintro o u2 ⟨rfl, hP, hK⟩; have P2 : Hid (PN u2 b M c2) := hP; have R2 : Hid (Row u2 u.heap.size [.int .i64 (k : Int), .int .i64 (c.id : Int), .bool true, .int .i64 t1, .int .i64 t2, .int .i64 t3]) := Keeps.row hK (by show ¬ (u.heap.size = M); omega) (Row.drn (Row.made rfl)); have K2 : Hid (Keeps (Fn b M) u u2) := ⟨hK.os, hK.tape, hK.output, Nat.le_trans (by simp) hK.size, fun i hi hn => (hK.block i (Nat.lt_of_lt_of_le hi (by simp)) (fun e => hn (Or.inr e))).trans ((rbel_drn (rbel_al (Below.refl _ _)) : Below u.heap.size u ((u.alloc (Obj.cells #[.int .i64 (k : Int), .int .i64 (c.id : Int), .bool true, .int .i64 t1, .int .i64 t2, .int .i64 t3] 98)).drewN nq)).block i hi)⟩; have y3 := hP.r.c 3 _ rfl; have g3 := hP.r.f 3 _ rfl; have x2 := R2.out.c 2 _ rfl; have z1 := hP.lt; have z2 := R2.out.lt; have n1 : ¬ (b = u.heap.size) := (by omega); have n2 : ¬ (u.heap.size = b) := (by omega); clear hP hK)
  go_ret2
  exact ⟨rfl, (PN.late P2.out HT.out).1, Keeps.put (S := Fn b M) (Or.inl rfl) K2.out⟩
end
end Go.Proofs.YthejaecljkjliaiGreatDoor
