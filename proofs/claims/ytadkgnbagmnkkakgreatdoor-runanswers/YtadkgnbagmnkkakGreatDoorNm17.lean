/- Package node, as it landed: Hear. Package node, as it landed: learn. Package node, as it landed: learn, where something is known already. Package node, as it landed: learn, where something is known already, and both have something. Package node, as it landed: whatever it hears. Package node, as it landed: Spans. -/
import Derived.Test.YtadkgnbagmnkkakGreatDoorNm16
import Derived.Deep.RegionWith
import Derived.Deep.CutRange
import Derived.Deep.CutBlock
import Derived.Test.YtadkgnbagmnkkakGreatDoorNm03
import Derived.Deep.RegionLaw
import Derived.Test.YtadkgnbagmnkkakGreatDoorNodeSt
import Derived.Test.YtadkgnbagmnkkakGreatDoorNm01
namespace Go.Proofs.YtadkgnbagmnkkakGreatDoor
open Go.ChangeShapes Go.WideShapes Go.ChangeAt Go.RowKit Go.Joins Go.Maps
set_option linter.unusedVariables false
set_option linter.unusedSimpArgs false

set_option maxHeartbeats 8000000
set_option maxRecDepth 100000
section
variable {u : World} {b M : Nat} {c : Nd}
theorem hear_bk (h : PN u b M c) (hI : c.I) (x y t1 t2 t3 t : Int) (a : Bool) (hb : c.bk t) :
  Calls Tryz.prog 148 #[.pointer (some ⟨b, 0, none⟩), .agg #[.int .i64 x, .int .i64 y, .bool a, .int .i64 t1, .int .i64 t2, .int .i64 t3], .int .i64 t] u fun o w' => o = .returned (.tuple #[.bool false, .iface 86 (.int .i64 8)]) ∧ Below u.heap.size u w' := by
 have HR : Hid (PN u b M c) := h
 have HI : Hid c.I := hI
 have zb := h.lt
 have c0 := h.r.c 0 _ rfl
 have c1 := h.r.c 1 _ rfl
 have HB : Hid (c.bk t) := hb
 clear h hI hb
 go_enter Tryz.func148, Tryz.ntmps148
 go_wp2_with (go_at_call 178; refine (chk_bk (PN.on (rbel_al (Below.refl _ _)) HR.out) HI.out t HB.out).mono ?_; rintro o u1 ⟨rfl, hu⟩; rw [hu]; clear hu)
 go_ret2
 exact ⟨rfl, rbel_al (Below.refl _ _)⟩
theorem hear_b1 (h : PN u b M c) (hI : c.I) (x y t1 t2 t3 t : Int) (a : Bool) (hb : ¬ c.bk t) (hx : y ≠ c.id) :
  Calls Tryz.prog 148 #[.pointer (some ⟨b, 0, none⟩), .agg #[.int .i64 x, .int .i64 y, .bool a, .int .i64 t1, .int .i64 t2, .int .i64 t3], .int .i64 t] u fun o w' => o = .returned (.tuple #[.bool false, .iface 86 (.int .i64 3)]) ∧ Below u.heap.size u w' := by
 have HR : Hid (PN u b M c) := h
 have HI : Hid c.I := hI
 have zb := h.lt
 have c0 := h.r.c 0 _ rfl
 have c1 := h.r.c 1 _ rfl
 have HB : Hid (¬ c.bk t) := hb
 clear h hI hb
 have d1 : (y == (c.id : Int)) = false := by simp; exact hx
 have d1n : (y != (c.id : Int)) = true := by simp; exact hx
 go_enter Tryz.func148, Tryz.ntmps148
 go_wp2_with (go_at_call 178; refine (chk_no (PN.on (rbel_al (Below.refl _ _)) HR.out) HI.out t HB.out).mono ?_; rintro o u1 ⟨rfl, hu⟩; rw [hu]; clear hu)
 go_quiet (fail)
 go_wp2
 go_ret2
 exact ⟨rfl, by first | exact rbel_drn (rbel_al (Below.refl _ _)) | exact rbel_al (Below.refl _ _)⟩
theorem hear_b2 (h : PN u b M c) (hI : c.I) (x y t1 t2 t3 t : Int) (a : Bool) (hb : ¬ c.bk t) (h0 : y = c.id) (hx : x = c.id) :
  Calls Tryz.prog 148 #[.pointer (some ⟨b, 0, none⟩), .agg #[.int .i64 x, .int .i64 y, .bool a, .int .i64 t1, .int .i64 t2, .int .i64 t3], .int .i64 t] u fun o w' => o = .returned (.tuple #[.bool false, .iface 86 (.int .i64 3)]) ∧ Below u.heap.size u w' := by
 have HR : Hid (PN u b M c) := h
 have HI : Hid c.I := hI
 have zb := h.lt
 have c0 := h.r.c 0 _ rfl
 have c1 := h.r.c 1 _ rfl
 have HB : Hid (¬ c.bk t) := hb
 clear h hI hb
 subst h0
 subst hx
 go_enter Tryz.func148, Tryz.ntmps148
 go_wp2_with (go_at_call 178; refine (chk_no (PN.on (rbel_al (Below.refl _ _)) HR.out) HI.out t HB.out).mono ?_; rintro o u1 ⟨rfl, hu⟩; rw [hu]; clear hu)
 go_quiet (fail)
 go_wp2
 go_ret2
 exact ⟨rfl, by first | exact rbel_drn (rbel_al (Below.refl _ _)) | exact rbel_al (Below.refl _ _)⟩
theorem hear_b3 (h : PN u b M c) (hI : c.I) (x y t1 t2 t3 t : Int) (a : Bool) (hb : ¬ c.bk t) (h0 : y = c.id) (h1 : x ≠ c.id) (hx : x < 0) :
  Calls Tryz.prog 148 #[.pointer (some ⟨b, 0, none⟩), .agg #[.int .i64 x, .int .i64 y, .bool a, .int .i64 t1, .int .i64 t2, .int .i64 t3], .int .i64 t] u fun o w' => o = .returned (.tuple #[.bool false, .iface 86 (.int .i64 3)]) ∧ Below u.heap.size u w' := by
 have HR : Hid (PN u b M c) := h
 have HI : Hid c.I := hI
 have zb := h.lt
 have c0 := h.r.c 0 _ rfl
 have c1 := h.r.c 1 _ rfl
 have HB : Hid (¬ c.bk t) := hb
 clear h hI hb
 subst h0
 have d1 : (x == (c.id : Int)) = false := by simp; exact h1
 have d2 : decide (x < 0) = true := decide_eq_true hx
 go_enter Tryz.func148, Tryz.ntmps148
 go_wp2_with (go_at_call 178; refine (chk_no (PN.on (rbel_al (Below.refl _ _)) HR.out) HI.out t HB.out).mono ?_; rintro o u1 ⟨rfl, hu⟩; rw [hu]; clear hu)
 go_quiet (fail)
 go_wp2
 go_ret2
 exact ⟨rfl, by first | exact rbel_drn (rbel_al (Below.refl _ _)) | exact rbel_al (Below.refl _ _)⟩
theorem hear_b4 (h : PN u b M c) (hI : c.I) (x y t1 t2 t3 t : Int) (a : Bool) (hb : ¬ c.bk t) (h0 : y = c.id) (h1 : x ≠ c.id) (h2 : ¬ x < 0) (hx : (c.n : Int) ≤ x) :
  Calls Tryz.prog 148 #[.pointer (some ⟨b, 0, none⟩), .agg #[.int .i64 x, .int .i64 y, .bool a, .int .i64 t1, .int .i64 t2, .int .i64 t3], .int .i64 t] u fun o w' => o = .returned (.tuple #[.bool false, .iface 86 (.int .i64 3)]) ∧ Below u.heap.size u w' := by
 have HR : Hid (PN u b M c) := h
 have HI : Hid c.I := hI
 have zb := h.lt
 have c0 := h.r.c 0 _ rfl
 have c1 := h.r.c 1 _ rfl
 have HB : Hid (¬ c.bk t) := hb
 clear h hI hb
 subst h0
 have d1 : (x == (c.id : Int)) = false := by simp; exact h1
 have d2 : decide (x < 0) = false := decide_eq_false h2
 have d3 : decide ((c.n : Int) ≤ x) = true := decide_eq_true hx
 go_enter Tryz.func148, Tryz.ntmps148
 go_wp2_with (go_at_call 178; refine (chk_no (PN.on (rbel_al (Below.refl _ _)) HR.out) HI.out t HB.out).mono ?_; rintro o u1 ⟨rfl, hu⟩; rw [hu]; clear hu)
 go_quiet (fail)
 go_wp2
 go_ret2
 exact ⟨rfl, by first | exact rbel_drn (rbel_al (Below.refl _ _)) | exact rbel_al (Below.refl _ _)⟩
theorem hear_ask (h : PN u b M c) (hI : c.I) (x y t1 t2 t3 t : Int) (hb : ¬ c.bk t) (k : Nat) (ex : x = k) (hk : k < c.n) (hne : k ≠ c.id) (h0 : y = c.id) :
  Calls Tryz.prog 148 #[.pointer (some ⟨b, 0, none⟩), .agg #[.int .i64 x, .int .i64 y, .bool false, .int .i64 t1, .int .i64 t2, .int .i64 t3], .int .i64 t] u fun o w' => o = .returned (.tuple #[.bool false, .nilIface]) ∧ PN w' b M { c with h := t } ∧ Keeps (Fn b M) u w' := by
 have HR : Hid (PN u b M c) := h
 have HI : Hid c.I := hI
 have zb := h.lt
 have c0 := h.r.c 0 _ rfl
 have c1 := h.r.c 1 _ rfl
 have HB : Hid (¬ c.bk t) := hb
 subst h0
 subst ex
 have d1 : ((k : Int) == (c.id : Int)) = false := by simp; omega
 have d2 : decide ((k : Int) < 0) = false := decide_eq_false (by omega)
 have d3 : decide ((c.n : Int) ≤ (k : Int)) = false := decide_eq_false (by omega)
 have HT : Hid (0 ≤ t) := by unfold Nd.bk at hb; show 0 ≤ t; omega
 have c3 := h.r.c 3 _ rfl
 have f3 := h.r.f 3 _ rfl
 have ne1 : ¬ (b = u.heap.size) := by omega
 have ne2 : ¬ (u.heap.size = b) := by omega
 clear h hI hb
 go_enter Tryz.func148, Tryz.ntmps148
 go_wp2_with (go_at_call 178; refine (chk_no (PN.on (rbel_al (Below.refl _ _)) HR.out) HI.out t HB.out).mono ?_; rintro o u1 ⟨rfl, hu⟩; rw [hu]; clear hu)
 go_quiet (fail)
 go_wp2
 go_ret2
 exact ⟨rfl, (PN.late (PN.on (rbel_drn (rbel_al (Below.refl _ _))) HR.out) HT.out).1, Keeps.put (S := Fn b M) (Or.inl rfl) (Keeps.of (rbel_drn (rbel_al (Below.refl _ _))))⟩
theorem hear_no (h : PN u b M c) (hI : c.I) (x y t1 t2 t3 t : Int) (hb : ¬ c.bk t) (k : Nat) (ex : x = k) (hk : k < c.n) (hne : k ≠ c.id) (h0 : y = c.id) (e : Int) (he : e ≠ 0) (cL : ∀ w : World, Below u.heap.size u w → Calls Tryz.prog 179 #[.pointer (some ⟨b, 0, none⟩), .agg #[.int .i64 x, .int .i64 y, .bool true, .int .i64 t1, .int .i64 t2, .int .i64 t3], .int .i64 t] w fun o w' => o = .returned (.iface 86 (.int .i64 e)) ∧ Below w.heap.size w w') :
  Calls Tryz.prog 148 #[.pointer (some ⟨b, 0, none⟩), .agg #[.int .i64 x, .int .i64 y, .bool true, .int .i64 t1, .int .i64 t2, .int .i64 t3], .int .i64 t] u fun o w' => o = .returned (.tuple #[.bool false, .iface 86 (.int .i64 e)]) ∧ Below u.heap.size u w' := by
 have HR : Hid (PN u b M c) := h
 have HI : Hid c.I := hI
 have zb := h.lt
 have c0 := h.r.c 0 _ rfl
 have c1 := h.r.c 1 _ rfl
 have HB : Hid (¬ c.bk t) := hb
 subst h0
 subst ex
 have d1 : ((k : Int) == (c.id : Int)) = false := by simp; omega
 have d2 : decide ((k : Int) < 0) = false := decide_eq_false (by omega)
 have d3 : decide ((c.n : Int) ≤ (k : Int)) = false := decide_eq_false (by omega)
 have HT : Hid (0 ≤ t) := by unfold Nd.bk at hb; show 0 ≤ t; omega
 clear h hI hb
 go_enter Tryz.func148, Tryz.ntmps148
 go_wp2_with (go_at_call 178; refine (chk_no (PN.on (rbel_al (Below.refl _ _)) HR.out) HI.out t HB.out).mono ?_; rintro o u1 ⟨rfl, hu⟩; rw [hu]; clear hu)
 go_quiet (fail)
 go_wp2_with (go_at_call 179; refine (cL _ (rbel_drn (rbel_al (Below.refl _ _)))).mono ?_; rintro o u2 ⟨rfl, hb⟩; have B2 : Hid (Below u.heap.size u u2) := rbel_on hb (rbel_drn (rbel_al (Below.refl _ _))); clear hb)
 go_ret2
 exact ⟨rfl, B2.out⟩
theorem hear_yes (h : PN u b M c) (hI : c.I) (x y t1 t2 t3 t : Int) (hb : ¬ c.bk t) (k : Nat) (ex : x = k) (hk : k < c.n) (hne : k ≠ c.id) (h0 : y = c.id) (c2 : Nd) (hid : c2.id = c.id) (cL : ∀ w : World, Below u.heap.size u w → Calls Tryz.prog 179 #[.pointer (some ⟨b, 0, none⟩), .agg #[.int .i64 x, .int .i64 y, .bool true, .int .i64 t1, .int .i64 t2, .int .i64 t3], .int .i64 t] w fun o w' => o = .returned .nilIface ∧ PN w' b M c2 ∧ Keeps (fun j => j = M) w w') :
  Calls Tryz.prog 148 #[.pointer (some ⟨b, 0, none⟩), .agg #[.int .i64 x, .int .i64 y, .bool true, .int .i64 t1, .int .i64 t2, .int .i64 t3], .int .i64 t] u fun o w' => o = .returned (.tuple #[.bool true, .nilIface]) ∧ PN w' b M { c2 with h := t } ∧ Keeps (Fn b M) u w' := by
 have HR : Hid (PN u b M c) := h
 have HI : Hid c.I := hI
 have zb := h.lt
 have c0 := h.r.c 0 _ rfl
 have c1 := h.r.c 1 _ rfl
 have HB : Hid (¬ c.bk t) := hb
 subst h0
 subst ex
 have d1 : ((k : Int) == (c.id : Int)) = false := by simp; omega
 have d2 : decide ((k : Int) < 0) = false := decide_eq_false (by omega)
 have d3 : decide ((c.n : Int) ≤ (k : Int)) = false := decide_eq_false (by omega)
 have HT : Hid (0 ≤ t) := by unfold Nd.bk at hb; show 0 ≤ t; omega
 have zM := h.ltM
 clear h hI hb hid
 go_enter Tryz.func148, Tryz.ntmps148
 go_wp2_with (go_at_call 178; refine (chk_no (PN.on (rbel_al (Below.refl _ _)) HR.out) HI.out t HB.out).mono ?_; rintro o u1 ⟨rfl, hu⟩; rw [hu]; clear hu)
 go_quiet (fail)
 go_wp2_with (go_at_call 179; refine (cL _ (rbel_drn (rbel_al (Below.refl _ _)))).mono ?_; rintro o u2 ⟨rfl, hP, hK⟩; have P2 : Hid (PN u2 b M c2) := hP; have R2 : Hid (Row u2 u.heap.size [.int .i64 (k : Int), .int .i64 (c.id : Int), .bool true, .int .i64 t1, .int .i64 t2, .int .i64 t3]) := Keeps.row hK (by show ¬ (u.heap.size = M); omega) (Row.drn (Row.made rfl)); have K2 : Hid (Keeps (Fn b M) u u2) := ⟨hK.os, hK.tape, hK.output, Nat.le_trans (by simp) hK.size, fun i hi hn => (hK.block i (Nat.lt_of_lt_of_le hi (by simp)) (fun e => hn (Or.inr e))).trans ((rbel_drn (rbel_al (Below.refl _ _)) : Below u.heap.size u ((u.alloc (Obj.cells #[.int .i64 (k : Int), .int .i64 (c.id : Int), .bool true, .int .i64 t1, .int .i64 t2, .int .i64 t3] 113)).drewN nq)).block i hi)⟩; have y3 := hP.r.c 3 _ rfl; have g3 := hP.r.f 3 _ rfl; have x2 := R2.out.c 2 _ rfl; have z1 := hP.lt; have z2 := R2.out.lt; have n1 : ¬ (b = u.heap.size) := (by omega); have n2 : ¬ (u.heap.size = b) := (by omega); clear hP hK)
 go_ret2
 exact ⟨rfl, (PN.late P2.out HT.out).1, Keeps.put (S := Fn b M) (Or.inl rfl) K2.out⟩
end
set_option maxHeartbeats 8000000
set_option maxRecDepth 100000
section
variable {u : World} {b M : Nat} {c : Nd}
theorem learn_off (h : PN u b M c) (k : Nat) (y t1 t2 t3 t : Int) (a : Bool) (e : Int) (he : oE t1 t2 t3 t c.p = e) (hz : e ≠ 0) :
    Calls Tryz.prog 179 #[.pointer (some ⟨b, 0, none⟩), .agg #[.int .i64 (k : Int), .int .i64 y, .bool a, .int .i64 t1, .int .i64 t2, .int .i64 t3], .int .i64 t] u fun o w' => o = .returned (.iface 86 (.int .i64 e)) ∧ Below u.heap.size u w' := by
  have HR : Hid (PN u b M c) := h
  have zb := h.lt
  have zM := h.ltM
  have cO := fun w => off_no t1 t2 t3 t c.p w (by rw [he]; exact hz)
  rw [he] at cO
  clear h he hz
  go_enter Tryz.func179, Tryz.ntmps179
  go_wp2
  have BW : Hid (Below u.heap.size u ((u.alloc (Obj.cells #[.int .i64 (k : Int), .int .i64 y, .bool a, .int .i64 t1, .int .i64 t2, .int .i64 t3] 113)))) := rbel_al (Below.refl _ _)
  have RX : Hid (Row ((u.alloc (Obj.cells #[.int .i64 (k : Int), .int .i64 y, .bool a, .int .i64 t1, .int .i64 t2, .int .i64 t3] 113))) u.heap.size [.int .i64 (k : Int), .int .i64 y, .bool a, .int .i64 t1, .int .i64 t2, .int .i64 t3]) := Row.made rfl
  generalize ((u.alloc (Obj.cells #[.int .i64 (k : Int), .int .i64 y, .bool a, .int .i64 t1, .int .i64 t2, .int .i64 t3] 113))) = W at *
  have HW : Hid (PN W b M c) := PN.on BW.out HR.out
  have lx : u.heap.size < W.heap.size := RX.out.lt
  have lb : b < W.heap.size := by omega
  have x0 := RX.out.c 0 _ rfl
  have x3 := RX.out.c 3 _ rfl
  have x4 := RX.out.c 4 _ rfl
  have x5 := RX.out.c 5 _ rfl
  have c2 := HW.out.r.c 2 _ rfl
  have ne1 : ¬ (W.heap.size = u.heap.size) := by omega
  have ne2 : ¬ (u.heap.size = W.heap.size) := by omega
  have ne3 : ¬ (W.heap.size = b) := by omega
  have ne4 : ¬ (b = W.heap.size) := by omega
  go_region_held (fun w' => w'.cell? ⟨u.heap.size, 3, none⟩ = some (.int .i64 t1) ∧ w'.cell? ⟨u.heap.size, 4, none⟩ = some (.int .i64 t2) ∧ w'.cell? ⟨u.heap.size, 5, none⟩ = some (.int .i64 t3) ∧ w'.cell? ⟨b, 2, none⟩ = some (.int .i64 c.p)) (go_keep) (first
    | (go_at_call 196; refine (cO _).mono ?_; rintro o u1 ⟨rfl, hb⟩; first
      | (have RT1 : Hid (Row u1 W.heap.size [.int .i64 0, .int .i64 0]) := Row.on hb (Row.dr (Row.made (W := W) rfl)); have BX1 : Hid (Below u.heap.size u u1) := rbel_on hb (rbel_dr (rbel_al BW.out)); have RX1 : Hid (Row u1 u.heap.size [.int .i64 (k : Int), .int .i64 y, .bool a, .int .i64 t1, .int .i64 t2, .int .i64 t3]) := Row.on hb (Row.dr (Row.al RX.out)); have HN1 : Hid (PN u1 b M c) := PN.on BX1.out HR.out; have j0 := RX1.out.c 0 _ rfl; have j3 := RX1.out.c 3 _ rfl; have j4 := RX1.out.c 4 _ rfl; have j5 := RX1.out.c 5 _ rfl; have j2 := HN1.out.r.c 2 _ rfl; have lx1 : u.heap.size < u1.heap.size := RX1.out.lt; clear hb; have t0 := RT1.out.c 0 _ rfl; have t1_ := RT1.out.c 1 _ rfl; have g0 := RT1.out.f 0 _ rfl; have g1 := RT1.out.f 1 _ rfl; have lt1 : W.heap.size < u1.heap.size := RT1.out.lt)
      | (have RT1 : Hid (Row u1 W.heap.size [.int .i64 0, .int .i64 0]) := Row.on hb (Row.made (W := W.drew) rfl); have BX1 : Hid (Below u.heap.size u u1) := rbel_on hb (rbel_al (rbel_dr BW.out)); have RX1 : Hid (Row u1 u.heap.size [.int .i64 (k : Int), .int .i64 y, .bool a, .int .i64 t1, .int .i64 t2, .int .i64 t3]) := Row.on hb (Row.al (Row.dr RX.out)); have HN1 : Hid (PN u1 b M c) := PN.on BX1.out HR.out; have j0 := RX1.out.c 0 _ rfl; have j3 := RX1.out.c 3 _ rfl; have j4 := RX1.out.c 4 _ rfl; have j5 := RX1.out.c 5 _ rfl; have j2 := HN1.out.r.c 2 _ rfl; have lx1 : u.heap.size < u1.heap.size := RX1.out.lt; clear hb; have t0 := RT1.out.c 0 _ rfl; have t1_ := RT1.out.c 1 _ rfl; have g0 := RT1.out.f 0 _ rfl; have g1 := RT1.out.f 1 _ rfl; have lt1 : W.heap.size < u1.heap.size := RT1.out.lt)
      | (have BX1 : Hid (Below u.heap.size u u1) := rbel_on hb (rbel_dr BW.out); have RX1 : Hid (Row u1 u.heap.size [.int .i64 (k : Int), .int .i64 y, .bool a, .int .i64 t1, .int .i64 t2, .int .i64 t3]) := Row.on hb (Row.dr RX.out); have HN1 : Hid (PN u1 b M c) := PN.on BX1.out HR.out; have j0 := RX1.out.c 0 _ rfl; have j3 := RX1.out.c 3 _ rfl; have j4 := RX1.out.c 4 _ rfl; have j5 := RX1.out.c 5 _ rfl; have j2 := HN1.out.r.c 2 _ rfl; have lx1 : u.heap.size < u1.heap.size := RX1.out.lt; clear hb)))
  all_goals
    go_wp2
    go_ret
    exact ⟨rfl, by first | exact rbel_al BX1.out | exact rbel_put (by omega) (rbel_put (by omega) BX1.out) | exact BX1.out⟩
theorem learn_new (h : PN u b M c) (k : Nat) (y t1 t2 t3 t : Int) (a : Bool) (kk : k < 6) (a1 a2 : Int) (he : oE t1 t2 t3 t c.p = 0) (e1 : t3 - t = a1) (e2 : oH t1 t2 t c.p = a2) (hh : c.has k = false) (hle : a1 ≤ a2) :
    Calls Tryz.prog 179 #[.pointer (some ⟨b, 0, none⟩), .agg #[.int .i64 (k : Int), .int .i64 y, .bool a, .int .i64 t1, .int .i64 t2, .int .i64 t3], .int .i64 t] u fun o w' => o = .returned .nilIface ∧ PN w' b M (c.put k a1 a2 t) ∧ Keeps (fun j => j = M) u w' := by
  have HR : Hid (PN u b M c) := h
  have zb := h.lt
  have zM := h.ltM
  have cO := fun w => off_ok t1 t2 t3 t c.p w he
  rw [e1, e2] at cO
  clear h he e1 e2
  go_enter Tryz.func179, Tryz.ntmps179
  go_wp2
  have BW : Hid (Below u.heap.size u ((u.alloc (Obj.cells #[.int .i64 (k : Int), .int .i64 y, .bool a, .int .i64 t1, .int .i64 t2, .int .i64 t3] 113)))) := rbel_al (Below.refl _ _)
  have RX : Hid (Row ((u.alloc (Obj.cells #[.int .i64 (k : Int), .int .i64 y, .bool a, .int .i64 t1, .int .i64 t2, .int .i64 t3] 113))) u.heap.size [.int .i64 (k : Int), .int .i64 y, .bool a, .int .i64 t1, .int .i64 t2, .int .i64 t3]) := Row.made rfl
  generalize ((u.alloc (Obj.cells #[.int .i64 (k : Int), .int .i64 y, .bool a, .int .i64 t1, .int .i64 t2, .int .i64 t3] 113))) = W at *
  have HW : Hid (PN W b M c) := PN.on BW.out HR.out
  have lx : u.heap.size < W.heap.size := RX.out.lt
  have lb : b < W.heap.size := by omega
  have x0 := RX.out.c 0 _ rfl
  have x3 := RX.out.c 3 _ rfl
  have x4 := RX.out.c 4 _ rfl
  have x5 := RX.out.c 5 _ rfl
  have c2 := HW.out.r.c 2 _ rfl
  have ne1 : ¬ (W.heap.size = u.heap.size) := by omega
  have ne2 : ¬ (u.heap.size = W.heap.size) := by omega
  have ne3 : ¬ (W.heap.size = b) := by omega
  have ne4 : ¬ (b = W.heap.size) := by omega
  go_region_held (fun w' => w'.cell? ⟨u.heap.size, 3, none⟩ = some (.int .i64 t1) ∧ w'.cell? ⟨u.heap.size, 4, none⟩ = some (.int .i64 t2) ∧ w'.cell? ⟨u.heap.size, 5, none⟩ = some (.int .i64 t3) ∧ w'.cell? ⟨b, 2, none⟩ = some (.int .i64 c.p)) (go_keep) (first
    | (go_at_call 196; refine (cO _).mono ?_; rintro o u1 ⟨rfl, hb⟩; first
      | (have RT1 : Hid (Row u1 W.heap.size [.int .i64 0, .int .i64 0]) := Row.on hb (Row.dr (Row.made (W := W) rfl)); have BX1 : Hid (Below u.heap.size u u1) := rbel_on hb (rbel_dr (rbel_al BW.out)); have RX1 : Hid (Row u1 u.heap.size [.int .i64 (k : Int), .int .i64 y, .bool a, .int .i64 t1, .int .i64 t2, .int .i64 t3]) := Row.on hb (Row.dr (Row.al RX.out)); have HN1 : Hid (PN u1 b M c) := PN.on BX1.out HR.out; have j0 := RX1.out.c 0 _ rfl; have j3 := RX1.out.c 3 _ rfl; have j4 := RX1.out.c 4 _ rfl; have j5 := RX1.out.c 5 _ rfl; have j2 := HN1.out.r.c 2 _ rfl; have lx1 : u.heap.size < u1.heap.size := RX1.out.lt; clear hb; have t0 := RT1.out.c 0 _ rfl; have t1_ := RT1.out.c 1 _ rfl; have g0 := RT1.out.f 0 _ rfl; have g1 := RT1.out.f 1 _ rfl; have lt1 : W.heap.size < u1.heap.size := RT1.out.lt)
      | (have RT1 : Hid (Row u1 W.heap.size [.int .i64 0, .int .i64 0]) := Row.on hb (Row.made (W := W.drew) rfl); have BX1 : Hid (Below u.heap.size u u1) := rbel_on hb (rbel_al (rbel_dr BW.out)); have RX1 : Hid (Row u1 u.heap.size [.int .i64 (k : Int), .int .i64 y, .bool a, .int .i64 t1, .int .i64 t2, .int .i64 t3]) := Row.on hb (Row.al (Row.dr RX.out)); have HN1 : Hid (PN u1 b M c) := PN.on BX1.out HR.out; have j0 := RX1.out.c 0 _ rfl; have j3 := RX1.out.c 3 _ rfl; have j4 := RX1.out.c 4 _ rfl; have j5 := RX1.out.c 5 _ rfl; have j2 := HN1.out.r.c 2 _ rfl; have lx1 : u.heap.size < u1.heap.size := RX1.out.lt; clear hb; have t0 := RT1.out.c 0 _ rfl; have t1_ := RT1.out.c 1 _ rfl; have g0 := RT1.out.f 0 _ rfl; have g1 := RT1.out.f 1 _ rfl; have lt1 : W.heap.size < u1.heap.size := RT1.out.lt)
      | (have BX1 : Hid (Below u.heap.size u u1) := rbel_on hb (rbel_dr BW.out); have RX1 : Hid (Row u1 u.heap.size [.int .i64 (k : Int), .int .i64 y, .bool a, .int .i64 t1, .int .i64 t2, .int .i64 t3]) := Row.on hb (Row.dr RX.out); have HN1 : Hid (PN u1 b M c) := PN.on BX1.out HR.out; have j0 := RX1.out.c 0 _ rfl; have j3 := RX1.out.c 3 _ rfl; have j4 := RX1.out.c 4 _ rfl; have j5 := RX1.out.c 5 _ rfl; have j2 := HN1.out.r.c 2 _ rfl; have lx1 : u.heap.size < u1.heap.size := RX1.out.lt; clear hb)))
  all_goals
    first
      | (have q := RT1.out
         have RT : Hid (Row ((u1.setCell ⟨W.heap.size, 0, none⟩ (.int .i64 a1)).setCell ⟨W.heap.size, 1, none⟩ (.int .i64 a2)) W.heap.size [.int .i64 a1, .int .i64 a2]) := Row.put 1 (Row.put 0 q)
         have BXX : Hid (Below u.heap.size u ((u1.setCell ⟨W.heap.size, 0, none⟩ (.int .i64 a1)).setCell ⟨W.heap.size, 1, none⟩ (.int .i64 a2))) := rbel_put (by omega) (rbel_put (by omega) BX1.out)
         have RXX : Hid (Row ((u1.setCell ⟨W.heap.size, 0, none⟩ (.int .i64 a1)).setCell ⟨W.heap.size, 1, none⟩ (.int .i64 a2)) u.heap.size [.int .i64 (k : Int), .int .i64 y, .bool a, .int .i64 t1, .int .i64 t2, .int .i64 t3]) := Row.far (by omega) (Row.far (by omega) RX1.out)
         have sT : Hid (u.heap.size < W.heap.size) := lx
         clear q RT1 t0 t1_ g0 g1 j0 j3 j4 j5 j2 HN1 RX1 BX1 x0 x3 x4 x5 c2 HW RX BW ne1 ne2 ne3 ne4 lt1 lx1 lx lb
         generalize ((u1.setCell ⟨W.heap.size, 0, none⟩ (.int .i64 a1)).setCell ⟨W.heap.size, 1, none⟩ (.int .i64 a2)) = X at *
         generalize W.heap.size = T at *)
      | (have RT : Hid (Row (u1.alloc (Obj.cells #[.int .i64 a1, .int .i64 a2] 34)) u1.heap.size [.int .i64 a1, .int .i64 a2]) := Row.made rfl
         have BXX : Hid (Below u.heap.size u (u1.alloc (Obj.cells #[.int .i64 a1, .int .i64 a2] 34))) := rbel_al BX1.out
         have RXX : Hid (Row (u1.alloc (Obj.cells #[.int .i64 a1, .int .i64 a2] 34)) u.heap.size [.int .i64 (k : Int), .int .i64 y, .bool a, .int .i64 t1, .int .i64 t2, .int .i64 t3]) := Row.al RX1.out
         have sT : Hid (u.heap.size < u1.heap.size) := lx1
         clear j0 j3 j4 j5 j2 HN1 RX1 BX1 x0 x3 x4 x5 c2 HW RX BW ne1 ne2 ne3 ne4 lx1 lx lb
         generalize (u1.alloc (Obj.cells #[.int .i64 a1, .int .i64 a2] 34)) = X at *
         generalize u1.heap.size = T at *)
    have HX : Hid (PN X b M c) := PN.on BXX.out HR.out
    have lb : b < X.heap.size := HX.out.lt
    have lT : T < X.heap.size := RT.out.lt
    have lL : u.heap.size < X.heap.size := RXX.out.lt
    have x0 := RXX.out.c 0 _ rfl
    have c4 := HX.out.r.c 4 _ rfl
    have k1 := (PN.on (rbel_dr (Below.refl _ _)) HX.out : PN X.drew b M c).look kk
    have k2 := (PN.on (rbel_dr (rbel_al (Below.refl _ _))) HX.out : PN (X.alloc (Obj.cells #[.int .i64 0, .int .i64 0, .int .i64 0] 293)).drew b M c).look kk
    have k3 := (PN.on (rbel_al (rbel_dr (Below.refl _ _))) HX.out : PN (X.drew.alloc (Obj.cells #[.int .i64 0, .int .i64 0, .int .i64 0] 293)) b M c).look kk
    have t0 := RT.out.c 0 _ rfl
    have t1_ := RT.out.c 1 _ rfl
    rw [hh] at k1 k2 k3
    go_wp2
    go_region
    all_goals
      have BV : Hid (Below u.heap.size u ((X.alloc (Obj.cells #[.int .i64 (vL c k), .int .i64 (vH c k), .int .i64 (vA c k)] 293)).drew)) := rbel_dr (rbel_al BXX.out)
      have RV : Hid (Row ((X.alloc (Obj.cells #[.int .i64 (vL c k), .int .i64 (vH c k), .int .i64 (vA c k)] 293)).drew) u.heap.size [.int .i64 (k : Int), .int .i64 y, .bool a, .int .i64 t1, .int .i64 t2, .int .i64 t3]) := Row.dr (Row.al RXX.out)
      have RT2 : Hid (Row ((X.alloc (Obj.cells #[.int .i64 (vL c k), .int .i64 (vH c k), .int .i64 (vA c k)] 293)).drew) T [.int .i64 a1, .int .i64 a2]) := Row.dr (Row.al RT.out)
      have RO : Hid (Row ((X.alloc (Obj.cells #[.int .i64 (vL c k), .int .i64 (vH c k), .int .i64 (vA c k)] 293)).drew) X.heap.size [.int .i64 (vL c k), .int .i64 (vH c k), .int .i64 (vA c k)]) := Row.dr (Row.made rfl)
      have sX : Hid (u.heap.size < X.heap.size ∧ T < X.heap.size ∧ u.heap.size < T) := ⟨lL, lT, sT.out⟩
      clear k1 k2 k3 x0 c4 t0 t1_ HX BXX RXX RT lb lT lL sT
      generalize ((X.alloc (Obj.cells #[.int .i64 (vL c k), .int .i64 (vH c k), .int .i64 (vA c k)] 293)).drew) = V at *
      generalize X.heap.size = O at *
      have HV : Hid (PN V b M c) := PN.on BV.out HR.out
      have lb : b < V.heap.size := HV.out.lt
      have lT : T < V.heap.size := RT2.out.lt
      have lL : u.heap.size < V.heap.size := RV.out.lt
      have x0 := RV.out.c 0 _ rfl
      have c4 := HV.out.r.c 4 _ rfl
      have t0 := RT2.out.c 0 _ rfl
      have t1_ := RT2.out.c 1 _ rfl
      have HS := (PN.on (rbel_dr (Below.refl _ _)) HV.out : PN V.drew b M c).store kk a1 a2 t
      obtain ⟨Y, hY, hPY, hKY⟩ := HS
      have HPY : Hid (PN Y b M (c.put k a1 a2 t)) := hPY
      have HKY : Hid (Keeps (fun j => j = M) u Y) := Keeps.trans (Keeps.of (rbel_dr BV.out)) hKY
      clear hPY hKY
      have d9 : ¬ (a2 < a1) := by omega
      go_wp2
      go_region
      all_goals
        go_wp2
        go_ret
        exact ⟨rfl, HPY.out, HKY.out⟩
end
section
variable {u : World} {b M : Nat} {c : Nd}
set_option maxRecDepth 100000 in
set_option maxHeartbeats 8000000 in
theorem learn_clash (h : PN u b M c) (k : Nat) (y t1 t2 t3 t : Int) (a : Bool) (kk : k < 6) (a1 a2 : Int) (he : oE t1 t2 t3 t c.p = 0) (e1 : t3 - t = a1) (e2 : oH t1 t2 t c.p = a2) (hh : c.has k = true) (lo hi s wl wh : Int) (eL : vL c k = lo) (eH : vH c k = hi) (eA : vA c k = s) (cW : ∀ w : World, w.cell? ⟨b, 2, none⟩ = some (.int .i64 c.p) → Calls Tryz.prog 197 #[.pointer (some ⟨b, 0, none⟩), .agg #[.int .i64 lo, .int .i64 hi, .int .i64 s], .int .i64 t] w fun o w' => o = .returned (.tuple #[.agg #[.int .i64 wl, .int .i64 wh], .nilIface]) ∧ Below w.heap.size w w') (b1 b2 : Int) (m1 : (a1 < wl ∧ wl = b1) ∨ (¬ a1 < wl ∧ a1 = b1)) (m2 : (wh < a2 ∧ wh = b2) ∨ (¬ wh < a2 ∧ a2 = b2)) (hc : b2 < b1) :
    Calls Tryz.prog 179 #[.pointer (some ⟨b, 0, none⟩), .agg #[.int .i64 (k : Int), .int .i64 y, .bool a, .int .i64 t1, .int .i64 t2, .int .i64 t3], .int .i64 t] u fun o w' => o = .returned (.iface 86 (.int .i64 7)) ∧ Below u.heap.size u w' := by
  have HR : Hid (PN u b M c) := h
  have zb := h.lt
  have zM := h.ltM
  have cO := fun w => off_ok t1 t2 t3 t c.p w he
  rw [e1, e2] at cO
  clear h he e1 e2
  go_enter Tryz.func179, Tryz.ntmps179
  go_wp2
  have BW : Hid (Below u.heap.size u ((u.alloc (Obj.cells #[.int .i64 (k : Int), .int .i64 y, .bool a, .int .i64 t1, .int .i64 t2, .int .i64 t3] 113)))) := rbel_al (Below.refl _ _)
  have RX : Hid (Row ((u.alloc (Obj.cells #[.int .i64 (k : Int), .int .i64 y, .bool a, .int .i64 t1, .int .i64 t2, .int .i64 t3] 113))) u.heap.size [.int .i64 (k : Int), .int .i64 y, .bool a, .int .i64 t1, .int .i64 t2, .int .i64 t3]) := Row.made rfl
  generalize ((u.alloc (Obj.cells #[.int .i64 (k : Int), .int .i64 y, .bool a, .int .i64 t1, .int .i64 t2, .int .i64 t3] 113))) = W at *
  have HW : Hid (PN W b M c) := PN.on BW.out HR.out
  have lx : u.heap.size < W.heap.size := RX.out.lt
  have lb : b < W.heap.size := by omega
  have x0 := RX.out.c 0 _ rfl
  have x3 := RX.out.c 3 _ rfl
  have x4 := RX.out.c 4 _ rfl
  have x5 := RX.out.c 5 _ rfl
  have c2 := HW.out.r.c 2 _ rfl
  have ne1 : ¬ (W.heap.size = u.heap.size) := by omega
  have ne2 : ¬ (u.heap.size = W.heap.size) := by omega
  have ne3 : ¬ (W.heap.size = b) := by omega
  have ne4 : ¬ (b = W.heap.size) := by omega
  go_region_held (fun w' => w'.cell? ⟨u.heap.size, 3, none⟩ = some (.int .i64 t1) ∧ w'.cell? ⟨u.heap.size, 4, none⟩ = some (.int .i64 t2) ∧ w'.cell? ⟨u.heap.size, 5, none⟩ = some (.int .i64 t3) ∧ w'.cell? ⟨b, 2, none⟩ = some (.int .i64 c.p)) (go_keep) (first
    | (go_at_call 196; refine (cO _).mono ?_; rintro o u1 ⟨rfl, hb⟩; first
      | (have RT1 : Hid (Row u1 W.heap.size [.int .i64 0, .int .i64 0]) := Row.on hb (Row.dr (Row.made (W := W) rfl)); have BX1 : Hid (Below u.heap.size u u1) := rbel_on hb (rbel_dr (rbel_al BW.out)); have RX1 : Hid (Row u1 u.heap.size [.int .i64 (k : Int), .int .i64 y, .bool a, .int .i64 t1, .int .i64 t2, .int .i64 t3]) := Row.on hb (Row.dr (Row.al RX.out)); have HN1 : Hid (PN u1 b M c) := PN.on BX1.out HR.out; have j0 := RX1.out.c 0 _ rfl; have j3 := RX1.out.c 3 _ rfl; have j4 := RX1.out.c 4 _ rfl; have j5 := RX1.out.c 5 _ rfl; have j2 := HN1.out.r.c 2 _ rfl; have lx1 : u.heap.size < u1.heap.size := RX1.out.lt; clear hb; have t0 := RT1.out.c 0 _ rfl; have t1_ := RT1.out.c 1 _ rfl; have g0 := RT1.out.f 0 _ rfl; have g1 := RT1.out.f 1 _ rfl; have lt1 : W.heap.size < u1.heap.size := RT1.out.lt)
      | (have RT1 : Hid (Row u1 W.heap.size [.int .i64 0, .int .i64 0]) := Row.on hb (Row.made (W := W.drew) rfl); have BX1 : Hid (Below u.heap.size u u1) := rbel_on hb (rbel_al (rbel_dr BW.out)); have RX1 : Hid (Row u1 u.heap.size [.int .i64 (k : Int), .int .i64 y, .bool a, .int .i64 t1, .int .i64 t2, .int .i64 t3]) := Row.on hb (Row.al (Row.dr RX.out)); have HN1 : Hid (PN u1 b M c) := PN.on BX1.out HR.out; have j0 := RX1.out.c 0 _ rfl; have j3 := RX1.out.c 3 _ rfl; have j4 := RX1.out.c 4 _ rfl; have j5 := RX1.out.c 5 _ rfl; have j2 := HN1.out.r.c 2 _ rfl; have lx1 : u.heap.size < u1.heap.size := RX1.out.lt; clear hb; have t0 := RT1.out.c 0 _ rfl; have t1_ := RT1.out.c 1 _ rfl; have g0 := RT1.out.f 0 _ rfl; have g1 := RT1.out.f 1 _ rfl; have lt1 : W.heap.size < u1.heap.size := RT1.out.lt)
      | (have BX1 : Hid (Below u.heap.size u u1) := rbel_on hb (rbel_dr BW.out); have RX1 : Hid (Row u1 u.heap.size [.int .i64 (k : Int), .int .i64 y, .bool a, .int .i64 t1, .int .i64 t2, .int .i64 t3]) := Row.on hb (Row.dr RX.out); have HN1 : Hid (PN u1 b M c) := PN.on BX1.out HR.out; have j0 := RX1.out.c 0 _ rfl; have j3 := RX1.out.c 3 _ rfl; have j4 := RX1.out.c 4 _ rfl; have j5 := RX1.out.c 5 _ rfl; have j2 := HN1.out.r.c 2 _ rfl; have lx1 : u.heap.size < u1.heap.size := RX1.out.lt; clear hb)))
  all_goals
    first
      | (have q := RT1.out
         have RT : Hid (Row ((u1.setCell ⟨W.heap.size, 0, none⟩ (.int .i64 a1)).setCell ⟨W.heap.size, 1, none⟩ (.int .i64 a2)) W.heap.size [.int .i64 a1, .int .i64 a2]) := Row.put 1 (Row.put 0 q)
         have BXX : Hid (Below u.heap.size u ((u1.setCell ⟨W.heap.size, 0, none⟩ (.int .i64 a1)).setCell ⟨W.heap.size, 1, none⟩ (.int .i64 a2))) := rbel_put (by omega) (rbel_put (by omega) BX1.out)
         have RXX : Hid (Row ((u1.setCell ⟨W.heap.size, 0, none⟩ (.int .i64 a1)).setCell ⟨W.heap.size, 1, none⟩ (.int .i64 a2)) u.heap.size [.int .i64 (k : Int), .int .i64 y, .bool a, .int .i64 t1, .int .i64 t2, .int .i64 t3]) := Row.far (by omega) (Row.far (by omega) RX1.out)
         have sT : Hid (u.heap.size < W.heap.size) := lx
         clear q RT1 t0 t1_ g0 g1 j0 j3 j4 j5 j2 HN1 RX1 BX1 x0 x3 x4 x5 c2 HW RX BW ne1 ne2 ne3 ne4 lt1 lx1 lx lb
         generalize ((u1.setCell ⟨W.heap.size, 0, none⟩ (.int .i64 a1)).setCell ⟨W.heap.size, 1, none⟩ (.int .i64 a2)) = X at *
         generalize W.heap.size = T at *)
      | (have RT : Hid (Row (u1.alloc (Obj.cells #[.int .i64 a1, .int .i64 a2] 34)) u1.heap.size [.int .i64 a1, .int .i64 a2]) := Row.made rfl
         have BXX : Hid (Below u.heap.size u (u1.alloc (Obj.cells #[.int .i64 a1, .int .i64 a2] 34))) := rbel_al BX1.out
         have RXX : Hid (Row (u1.alloc (Obj.cells #[.int .i64 a1, .int .i64 a2] 34)) u.heap.size [.int .i64 (k : Int), .int .i64 y, .bool a, .int .i64 t1, .int .i64 t2, .int .i64 t3]) := Row.al RX1.out
         have sT : Hid (u.heap.size < u1.heap.size) := lx1
         clear j0 j3 j4 j5 j2 HN1 RX1 BX1 x0 x3 x4 x5 c2 HW RX BW ne1 ne2 ne3 ne4 lx1 lx lb
         generalize (u1.alloc (Obj.cells #[.int .i64 a1, .int .i64 a2] 34)) = X at *
         generalize u1.heap.size = T at *)
    have HX : Hid (PN X b M c) := PN.on BXX.out HR.out
    have lb : b < X.heap.size := HX.out.lt
    have lT : T < X.heap.size := RT.out.lt
    have lL : u.heap.size < X.heap.size := RXX.out.lt
    have x0 := RXX.out.c 0 _ rfl
    have c4 := HX.out.r.c 4 _ rfl
    have k1 := (PN.on (rbel_dr (Below.refl _ _)) HX.out : PN X.drew b M c).look kk
    have k2 := (PN.on (rbel_dr (rbel_al (Below.refl _ _))) HX.out : PN (X.alloc (Obj.cells #[.int .i64 0, .int .i64 0, .int .i64 0] 293)).drew b M c).look kk
    have k3 := (PN.on (rbel_al (rbel_dr (Below.refl _ _))) HX.out : PN (X.drew.alloc (Obj.cells #[.int .i64 0, .int .i64 0, .int .i64 0] 293)) b M c).look kk
    have t0 := RT.out.c 0 _ rfl
    have t1_ := RT.out.c 1 _ rfl
    rw [hh, eL, eH, eA] at k1 k2 k3
    go_wp2
    go_region
    all_goals
      have BV : Hid (Below u.heap.size u ((X.alloc (Obj.cells #[.int .i64 lo, .int .i64 hi, .int .i64 s] 293)).drew)) := rbel_dr (rbel_al BXX.out)
      have RV : Hid (Row ((X.alloc (Obj.cells #[.int .i64 lo, .int .i64 hi, .int .i64 s] 293)).drew) u.heap.size [.int .i64 (k : Int), .int .i64 y, .bool a, .int .i64 t1, .int .i64 t2, .int .i64 t3]) := Row.dr (Row.al RXX.out)
      have RT2 : Hid (Row ((X.alloc (Obj.cells #[.int .i64 lo, .int .i64 hi, .int .i64 s] 293)).drew) T [.int .i64 a1, .int .i64 a2]) := Row.dr (Row.al RT.out)
      have RO : Hid (Row ((X.alloc (Obj.cells #[.int .i64 lo, .int .i64 hi, .int .i64 s] 293)).drew) X.heap.size [.int .i64 lo, .int .i64 hi, .int .i64 s]) := Row.dr (Row.made rfl)
      have sX : Hid (u.heap.size < X.heap.size ∧ T < X.heap.size ∧ u.heap.size < T) := ⟨lL, lT, sT.out⟩
      clear k1 k2 k3 x0 c4 t0 t1_ HX BXX RXX RT lb lT lL sT
      generalize ((X.alloc (Obj.cells #[.int .i64 lo, .int .i64 hi, .int .i64 s] 293)).drew) = V at *
      generalize X.heap.size = O at *
      have HV : Hid (PN V b M c) := PN.on BV.out HR.out
      have c2 := HV.out.r.c 2 _ rfl
      have o0 := RO.out.c 0 _ rfl
      have o1 := RO.out.c 1 _ rfl
      have o2 := RO.out.c 2 _ rfl
      have t0 := RT2.out.c 0 _ rfl
      have t1_ := RT2.out.c 1 _ rfl
      have lO : O < V.heap.size := RO.out.lt
      rcases m1 with ⟨m1, h1⟩ | ⟨m1, h1⟩
      · rcases m2 with ⟨m2, h2⟩ | ⟨m2, h2⟩
        · subst h1; subst h2
          go_wp2_with (go_at_call 197; refine (cW _ c2).mono ?_; rintro o u2 ⟨rfl, hb⟩; have B2 : Hid (Below u.heap.size u u2) := rbel_on hb BV.out; have R2 : Hid (Row u2 u.heap.size [.int .i64 (k : Int), .int .i64 y, .bool a, .int .i64 t1, .int .i64 t2, .int .i64 t3]) := Row.on hb RV.out; have T2 : Hid (Row u2 T [.int .i64 a1, .int .i64 a2]) := Row.on hb RT2.out; have s0 := T2.out.c 0 _ rfl; have s1 := T2.out.c 1 _ rfl; have g0 := T2.out.f 0 _ rfl; have g1 := T2.out.f 1 _ rfl; have H2 : Hid (PN u2 b M c) := PN.on B2.out HR.out; have y4 := H2.out.r.c 4 _ rfl; have y0 := R2.out.c 0 _ rfl; have z1 : T < u2.heap.size := T2.out.lt; have z2 : u.heap.size < u2.heap.size := R2.out.lt; have z3 : b < u2.heap.size := H2.out.lt; have n1 : ¬ (u2.heap.size = T) := (by omega); have n2 : ¬ (T = u2.heap.size) := (by omega); clear hb)
          go_ret
          exact ⟨rfl, rbel_al (rbel_put (by have := sX.out; omega) (rbel_put (by have := sX.out; omega) B2.out))⟩
        · subst h1; subst h2
          go_wp2_with (go_at_call 197; refine (cW _ c2).mono ?_; rintro o u2 ⟨rfl, hb⟩; have B2 : Hid (Below u.heap.size u u2) := rbel_on hb BV.out; have R2 : Hid (Row u2 u.heap.size [.int .i64 (k : Int), .int .i64 y, .bool a, .int .i64 t1, .int .i64 t2, .int .i64 t3]) := Row.on hb RV.out; have T2 : Hid (Row u2 T [.int .i64 a1, .int .i64 a2]) := Row.on hb RT2.out; have s0 := T2.out.c 0 _ rfl; have s1 := T2.out.c 1 _ rfl; have g0 := T2.out.f 0 _ rfl; have g1 := T2.out.f 1 _ rfl; have H2 : Hid (PN u2 b M c) := PN.on B2.out HR.out; have y4 := H2.out.r.c 4 _ rfl; have y0 := R2.out.c 0 _ rfl; have z1 : T < u2.heap.size := T2.out.lt; have z2 : u.heap.size < u2.heap.size := R2.out.lt; have z3 : b < u2.heap.size := H2.out.lt; have n1 : ¬ (u2.heap.size = T) := (by omega); have n2 : ¬ (T = u2.heap.size) := (by omega); clear hb)
          go_ret
          exact ⟨rfl, rbel_al (rbel_put (by have := sX.out; omega) (rbel_put (by have := sX.out; omega) B2.out))⟩
      · rcases m2 with ⟨m2, h2⟩ | ⟨m2, h2⟩
        · subst h1; subst h2
          go_wp2_with (go_at_call 197; refine (cW _ c2).mono ?_; rintro o u2 ⟨rfl, hb⟩; have B2 : Hid (Below u.heap.size u u2) := rbel_on hb BV.out; have R2 : Hid (Row u2 u.heap.size [.int .i64 (k : Int), .int .i64 y, .bool a, .int .i64 t1, .int .i64 t2, .int .i64 t3]) := Row.on hb RV.out; have T2 : Hid (Row u2 T [.int .i64 a1, .int .i64 a2]) := Row.on hb RT2.out; have s0 := T2.out.c 0 _ rfl; have s1 := T2.out.c 1 _ rfl; have g0 := T2.out.f 0 _ rfl; have g1 := T2.out.f 1 _ rfl; have H2 : Hid (PN u2 b M c) := PN.on B2.out HR.out; have y4 := H2.out.r.c 4 _ rfl; have y0 := R2.out.c 0 _ rfl; have z1 : T < u2.heap.size := T2.out.lt; have z2 : u.heap.size < u2.heap.size := R2.out.lt; have z3 : b < u2.heap.size := H2.out.lt; have n1 : ¬ (u2.heap.size = T) := (by omega); have n2 : ¬ (T = u2.heap.size) := (by omega); clear hb)
          go_ret
          exact ⟨rfl, rbel_al (rbel_put (by have := sX.out; omega) (rbel_put (by have := sX.out; omega) B2.out))⟩
        · subst h1; subst h2
          go_wp2_with (go_at_call 197; refine (cW _ c2).mono ?_; rintro o u2 ⟨rfl, hb⟩; have B2 : Hid (Below u.heap.size u u2) := rbel_on hb BV.out; have R2 : Hid (Row u2 u.heap.size [.int .i64 (k : Int), .int .i64 y, .bool a, .int .i64 t1, .int .i64 t2, .int .i64 t3]) := Row.on hb RV.out; have T2 : Hid (Row u2 T [.int .i64 a1, .int .i64 a2]) := Row.on hb RT2.out; have s0 := T2.out.c 0 _ rfl; have s1 := T2.out.c 1 _ rfl; have g0 := T2.out.f 0 _ rfl; have g1 := T2.out.f 1 _ rfl; have H2 : Hid (PN u2 b M c) := PN.on B2.out HR.out; have y4 := H2.out.r.c 4 _ rfl; have y0 := R2.out.c 0 _ rfl; have z1 : T < u2.heap.size := T2.out.lt; have z2 : u.heap.size < u2.heap.size := R2.out.lt; have z3 : b < u2.heap.size := H2.out.lt; have n1 : ¬ (u2.heap.size = T) := (by omega); have n2 : ¬ (T = u2.heap.size) := (by omega); clear hb)
          go_ret
          exact ⟨rfl, rbel_al (rbel_put (by have := sX.out; omega) (rbel_put (by have := sX.out; omega) B2.out))⟩
end
section
variable {u : World} {b M : Nat} {c : Nd}
set_option maxRecDepth 100000 in
set_option maxHeartbeats 8000000 in
theorem learn_kept (h : PN u b M c) (k : Nat) (y t1 t2 t3 t : Int) (a : Bool) (kk : k < 6) (a1 a2 : Int) (he : oE t1 t2 t3 t c.p = 0) (e1 : t3 - t = a1) (e2 : oH t1 t2 t c.p = a2) (hh : c.has k = true) (lo hi s wl wh : Int) (eL : vL c k = lo) (eH : vH c k = hi) (eA : vA c k = s) (cW : ∀ w : World, w.cell? ⟨b, 2, none⟩ = some (.int .i64 c.p) → Calls Tryz.prog 197 #[.pointer (some ⟨b, 0, none⟩), .agg #[.int .i64 lo, .int .i64 hi, .int .i64 s], .int .i64 t] w fun o w' => o = .returned (.tuple #[.agg #[.int .i64 wl, .int .i64 wh], .nilIface]) ∧ Below w.heap.size w w') (b1 b2 : Int) (m1 : (a1 < wl ∧ wl = b1) ∨ (¬ a1 < wl ∧ a1 = b1)) (m2 : (wh < a2 ∧ wh = b2) ∨ (¬ wh < a2 ∧ a2 = b2)) (hc : ¬ b2 < b1) :
    Calls Tryz.prog 179 #[.pointer (some ⟨b, 0, none⟩), .agg #[.int .i64 (k : Int), .int .i64 y, .bool a, .int .i64 t1, .int .i64 t2, .int .i64 t3], .int .i64 t] u fun o w' => o = .returned .nilIface ∧ PN w' b M (c.put k b1 b2 t) ∧ Keeps (fun j => j = M) u w' := by
  have HR : Hid (PN u b M c) := h
  have zb := h.lt
  have zM := h.ltM
  have cO := fun w => off_ok t1 t2 t3 t c.p w he
  rw [e1, e2] at cO
  clear h he e1 e2
  go_enter Tryz.func179, Tryz.ntmps179
  go_wp2
  have BW : Hid (Below u.heap.size u ((u.alloc (Obj.cells #[.int .i64 (k : Int), .int .i64 y, .bool a, .int .i64 t1, .int .i64 t2, .int .i64 t3] 113)))) := rbel_al (Below.refl _ _)
  have RX : Hid (Row ((u.alloc (Obj.cells #[.int .i64 (k : Int), .int .i64 y, .bool a, .int .i64 t1, .int .i64 t2, .int .i64 t3] 113))) u.heap.size [.int .i64 (k : Int), .int .i64 y, .bool a, .int .i64 t1, .int .i64 t2, .int .i64 t3]) := Row.made rfl
  generalize ((u.alloc (Obj.cells #[.int .i64 (k : Int), .int .i64 y, .bool a, .int .i64 t1, .int .i64 t2, .int .i64 t3] 113))) = W at *
  have HW : Hid (PN W b M c) := PN.on BW.out HR.out
  have lx : u.heap.size < W.heap.size := RX.out.lt
  have lb : b < W.heap.size := by omega
  have x0 := RX.out.c 0 _ rfl
  have x3 := RX.out.c 3 _ rfl
  have x4 := RX.out.c 4 _ rfl
  have x5 := RX.out.c 5 _ rfl
  have c2 := HW.out.r.c 2 _ rfl
  have ne1 : ¬ (W.heap.size = u.heap.size) := by omega
  have ne2 : ¬ (u.heap.size = W.heap.size) := by omega
  have ne3 : ¬ (W.heap.size = b) := by omega
  have ne4 : ¬ (b = W.heap.size) := by omega
  go_region_held (fun w' => w'.cell? ⟨u.heap.size, 3, none⟩ = some (.int .i64 t1) ∧ w'.cell? ⟨u.heap.size, 4, none⟩ = some (.int .i64 t2) ∧ w'.cell? ⟨u.heap.size, 5, none⟩ = some (.int .i64 t3) ∧ w'.cell? ⟨b, 2, none⟩ = some (.int .i64 c.p)) (go_keep) (first
    | (go_at_call 196; refine (cO _).mono ?_; rintro o u1 ⟨rfl, hb⟩; first
      | (have RT1 : Hid (Row u1 W.heap.size [.int .i64 0, .int .i64 0]) := Row.on hb (Row.dr (Row.made (W := W) rfl)); have BX1 : Hid (Below u.heap.size u u1) := rbel_on hb (rbel_dr (rbel_al BW.out)); have RX1 : Hid (Row u1 u.heap.size [.int .i64 (k : Int), .int .i64 y, .bool a, .int .i64 t1, .int .i64 t2, .int .i64 t3]) := Row.on hb (Row.dr (Row.al RX.out)); have HN1 : Hid (PN u1 b M c) := PN.on BX1.out HR.out; have j0 := RX1.out.c 0 _ rfl; have j3 := RX1.out.c 3 _ rfl; have j4 := RX1.out.c 4 _ rfl; have j5 := RX1.out.c 5 _ rfl; have j2 := HN1.out.r.c 2 _ rfl; have lx1 : u.heap.size < u1.heap.size := RX1.out.lt; clear hb; have t0 := RT1.out.c 0 _ rfl; have t1_ := RT1.out.c 1 _ rfl; have g0 := RT1.out.f 0 _ rfl; have g1 := RT1.out.f 1 _ rfl; have lt1 : W.heap.size < u1.heap.size := RT1.out.lt)
      | (have RT1 : Hid (Row u1 W.heap.size [.int .i64 0, .int .i64 0]) := Row.on hb (Row.made (W := W.drew) rfl); have BX1 : Hid (Below u.heap.size u u1) := rbel_on hb (rbel_al (rbel_dr BW.out)); have RX1 : Hid (Row u1 u.heap.size [.int .i64 (k : Int), .int .i64 y, .bool a, .int .i64 t1, .int .i64 t2, .int .i64 t3]) := Row.on hb (Row.al (Row.dr RX.out)); have HN1 : Hid (PN u1 b M c) := PN.on BX1.out HR.out; have j0 := RX1.out.c 0 _ rfl; have j3 := RX1.out.c 3 _ rfl; have j4 := RX1.out.c 4 _ rfl; have j5 := RX1.out.c 5 _ rfl; have j2 := HN1.out.r.c 2 _ rfl; have lx1 : u.heap.size < u1.heap.size := RX1.out.lt; clear hb; have t0 := RT1.out.c 0 _ rfl; have t1_ := RT1.out.c 1 _ rfl; have g0 := RT1.out.f 0 _ rfl; have g1 := RT1.out.f 1 _ rfl; have lt1 : W.heap.size < u1.heap.size := RT1.out.lt)
      | (have BX1 : Hid (Below u.heap.size u u1) := rbel_on hb (rbel_dr BW.out); have RX1 : Hid (Row u1 u.heap.size [.int .i64 (k : Int), .int .i64 y, .bool a, .int .i64 t1, .int .i64 t2, .int .i64 t3]) := Row.on hb (Row.dr RX.out); have HN1 : Hid (PN u1 b M c) := PN.on BX1.out HR.out; have j0 := RX1.out.c 0 _ rfl; have j3 := RX1.out.c 3 _ rfl; have j4 := RX1.out.c 4 _ rfl; have j5 := RX1.out.c 5 _ rfl; have j2 := HN1.out.r.c 2 _ rfl; have lx1 : u.heap.size < u1.heap.size := RX1.out.lt; clear hb)))
  all_goals
    first
      | (have q := RT1.out
         have RT : Hid (Row ((u1.setCell ⟨W.heap.size, 0, none⟩ (.int .i64 a1)).setCell ⟨W.heap.size, 1, none⟩ (.int .i64 a2)) W.heap.size [.int .i64 a1, .int .i64 a2]) := Row.put 1 (Row.put 0 q)
         have BXX : Hid (Below u.heap.size u ((u1.setCell ⟨W.heap.size, 0, none⟩ (.int .i64 a1)).setCell ⟨W.heap.size, 1, none⟩ (.int .i64 a2))) := rbel_put (by omega) (rbel_put (by omega) BX1.out)
         have RXX : Hid (Row ((u1.setCell ⟨W.heap.size, 0, none⟩ (.int .i64 a1)).setCell ⟨W.heap.size, 1, none⟩ (.int .i64 a2)) u.heap.size [.int .i64 (k : Int), .int .i64 y, .bool a, .int .i64 t1, .int .i64 t2, .int .i64 t3]) := Row.far (by omega) (Row.far (by omega) RX1.out)
         have sT : Hid (u.heap.size < W.heap.size) := lx
         clear q RT1 t0 t1_ g0 g1 j0 j3 j4 j5 j2 HN1 RX1 BX1 x0 x3 x4 x5 c2 HW RX BW ne1 ne2 ne3 ne4 lt1 lx1 lx lb
         generalize ((u1.setCell ⟨W.heap.size, 0, none⟩ (.int .i64 a1)).setCell ⟨W.heap.size, 1, none⟩ (.int .i64 a2)) = X at *
         generalize W.heap.size = T at *)
      | (have RT : Hid (Row (u1.alloc (Obj.cells #[.int .i64 a1, .int .i64 a2] 34)) u1.heap.size [.int .i64 a1, .int .i64 a2]) := Row.made rfl
         have BXX : Hid (Below u.heap.size u (u1.alloc (Obj.cells #[.int .i64 a1, .int .i64 a2] 34))) := rbel_al BX1.out
         have RXX : Hid (Row (u1.alloc (Obj.cells #[.int .i64 a1, .int .i64 a2] 34)) u.heap.size [.int .i64 (k : Int), .int .i64 y, .bool a, .int .i64 t1, .int .i64 t2, .int .i64 t3]) := Row.al RX1.out
         have sT : Hid (u.heap.size < u1.heap.size) := lx1
         clear j0 j3 j4 j5 j2 HN1 RX1 BX1 x0 x3 x4 x5 c2 HW RX BW ne1 ne2 ne3 ne4 lx1 lx lb
         generalize (u1.alloc (Obj.cells #[.int .i64 a1, .int .i64 a2] 34)) = X at *
         generalize u1.heap.size = T at *)
    have HX : Hid (PN X b M c) := PN.on BXX.out HR.out
    have lb : b < X.heap.size := HX.out.lt
    have lT : T < X.heap.size := RT.out.lt
    have lL : u.heap.size < X.heap.size := RXX.out.lt
    have x0 := RXX.out.c 0 _ rfl
    have c4 := HX.out.r.c 4 _ rfl
    have k1 := (PN.on (rbel_dr (Below.refl _ _)) HX.out : PN X.drew b M c).look kk
    have k2 := (PN.on (rbel_dr (rbel_al (Below.refl _ _))) HX.out : PN (X.alloc (Obj.cells #[.int .i64 0, .int .i64 0, .int .i64 0] 293)).drew b M c).look kk
    have k3 := (PN.on (rbel_al (rbel_dr (Below.refl _ _))) HX.out : PN (X.drew.alloc (Obj.cells #[.int .i64 0, .int .i64 0, .int .i64 0] 293)) b M c).look kk
    have t0 := RT.out.c 0 _ rfl
    have t1_ := RT.out.c 1 _ rfl
    rw [hh, eL, eH, eA] at k1 k2 k3
    go_wp2
    go_region
    all_goals
      have BV : Hid (Below u.heap.size u ((X.alloc (Obj.cells #[.int .i64 lo, .int .i64 hi, .int .i64 s] 293)).drew)) := rbel_dr (rbel_al BXX.out)
      have RV : Hid (Row ((X.alloc (Obj.cells #[.int .i64 lo, .int .i64 hi, .int .i64 s] 293)).drew) u.heap.size [.int .i64 (k : Int), .int .i64 y, .bool a, .int .i64 t1, .int .i64 t2, .int .i64 t3]) := Row.dr (Row.al RXX.out)
      have RT2 : Hid (Row ((X.alloc (Obj.cells #[.int .i64 lo, .int .i64 hi, .int .i64 s] 293)).drew) T [.int .i64 a1, .int .i64 a2]) := Row.dr (Row.al RT.out)
      have RO : Hid (Row ((X.alloc (Obj.cells #[.int .i64 lo, .int .i64 hi, .int .i64 s] 293)).drew) X.heap.size [.int .i64 lo, .int .i64 hi, .int .i64 s]) := Row.dr (Row.made rfl)
      have sX : Hid (u.heap.size < X.heap.size ∧ T < X.heap.size ∧ u.heap.size < T) := ⟨lL, lT, sT.out⟩
      clear k1 k2 k3 x0 c4 t0 t1_ HX BXX RXX RT lb lT lL sT
      generalize ((X.alloc (Obj.cells #[.int .i64 lo, .int .i64 hi, .int .i64 s] 293)).drew) = V at *
      generalize X.heap.size = O at *
      have HV : Hid (PN V b M c) := PN.on BV.out HR.out
      have c2 := HV.out.r.c 2 _ rfl
      have o0 := RO.out.c 0 _ rfl
      have o1 := RO.out.c 1 _ rfl
      have o2 := RO.out.c 2 _ rfl
      have t0 := RT2.out.c 0 _ rfl
      have t1_ := RT2.out.c 1 _ rfl
      have lO : O < V.heap.size := RO.out.lt
      rcases m1 with ⟨m1, h1⟩ | ⟨m1, h1⟩
      · rcases m2 with ⟨m2, h2⟩ | ⟨m2, h2⟩
        · subst h1; subst h2
          go_wp2_with (go_at_call 197; refine (cW _ c2).mono ?_; rintro o u2 ⟨rfl, hb⟩; have B2 : Hid (Below u.heap.size u u2) := rbel_on hb BV.out; have R2 : Hid (Row u2 u.heap.size [.int .i64 (k : Int), .int .i64 y, .bool a, .int .i64 t1, .int .i64 t2, .int .i64 t3]) := Row.on hb RV.out; have T2 : Hid (Row u2 T [.int .i64 a1, .int .i64 a2]) := Row.on hb RT2.out; have s0 := T2.out.c 0 _ rfl; have s1 := T2.out.c 1 _ rfl; have g0 := T2.out.f 0 _ rfl; have g1 := T2.out.f 1 _ rfl; have H2 : Hid (PN u2 b M c) := PN.on B2.out HR.out; have y4 := H2.out.r.c 4 _ rfl; have y0 := R2.out.c 0 _ rfl; have z1 : T < u2.heap.size := T2.out.lt; have z2 : u.heap.size < u2.heap.size := R2.out.lt; have z3 : b < u2.heap.size := H2.out.lt; have n1 : ¬ (u2.heap.size = T) := (by omega); have n2 : ¬ (T = u2.heap.size) := (by omega); clear hb)
          have B3 : Hid (Below u.heap.size u (((u2.setCell ⟨T, 0, none⟩ (.int .i64 wl)).setCell ⟨T, 1, none⟩ (.int .i64 wh)).alloc (Obj.cells #[.int .i64 wl, .int .i64 wh] 34))) := rbel_al (rbel_put (by have := sX.out; omega) (rbel_put (by have := sX.out; omega) B2.out))
          have R3 : Hid (Row (((u2.setCell ⟨T, 0, none⟩ (.int .i64 wl)).setCell ⟨T, 1, none⟩ (.int .i64 wh)).alloc (Obj.cells #[.int .i64 wl, .int .i64 wh] 34)) u.heap.size [.int .i64 (k : Int), .int .i64 y, .bool a, .int .i64 t1, .int .i64 t2, .int .i64 t3]) := Row.al (Row.far (by have := sX.out; omega) (Row.far (by have := sX.out; omega) R2.out))
          have T3 : Hid (Row (((u2.setCell ⟨T, 0, none⟩ (.int .i64 wl)).setCell ⟨T, 1, none⟩ (.int .i64 wh)).alloc (Obj.cells #[.int .i64 wl, .int .i64 wh] 34)) T [.int .i64 wl, .int .i64 wh]) := Row.al (Row.put 1 (Row.put 0 T2.out))
          clear y4 y0 s0 s1 g0 g1 H2 R2 T2 B2 z1 z2 z3 n1 n2 c2 o0 o1 o2 t0 t1_ lO RO RT2 RV
          generalize (((u2.setCell ⟨T, 0, none⟩ (.int .i64 wl)).setCell ⟨T, 1, none⟩ (.int .i64 wh)).alloc (Obj.cells #[.int .i64 wl, .int .i64 wh] 34)) = U at *
          have H3 : Hid (PN U b M c) := PN.on B3.out HR.out
          have lb : b < U.heap.size := H3.out.lt
          have lT : T < U.heap.size := T3.out.lt
          have lL : u.heap.size < U.heap.size := R3.out.lt
          have x0 := R3.out.c 0 _ rfl
          have c4 := H3.out.r.c 4 _ rfl
          have t0 := T3.out.c 0 _ rfl
          have t1_ := T3.out.c 1 _ rfl
          have HS := (PN.on (rbel_dr (Below.refl _ _)) H3.out : PN U.drew b M c).store kk wl wh t
          obtain ⟨Y, hY, hPY, hKY⟩ := HS
          have HPY : Hid (PN Y b M (c.put k wl wh t)) := hPY
          have HKY : Hid (Keeps (fun j => j = M) u Y) := Keeps.trans (Keeps.of (rbel_dr B3.out)) hKY
          clear hPY hKY
          go_region
          all_goals
            go_wp2
            go_ret
            exact ⟨rfl, HPY.out, HKY.out⟩
        · subst h1; subst h2
          go_wp2_with (go_at_call 197; refine (cW _ c2).mono ?_; rintro o u2 ⟨rfl, hb⟩; have B2 : Hid (Below u.heap.size u u2) := rbel_on hb BV.out; have R2 : Hid (Row u2 u.heap.size [.int .i64 (k : Int), .int .i64 y, .bool a, .int .i64 t1, .int .i64 t2, .int .i64 t3]) := Row.on hb RV.out; have T2 : Hid (Row u2 T [.int .i64 a1, .int .i64 a2]) := Row.on hb RT2.out; have s0 := T2.out.c 0 _ rfl; have s1 := T2.out.c 1 _ rfl; have g0 := T2.out.f 0 _ rfl; have g1 := T2.out.f 1 _ rfl; have H2 : Hid (PN u2 b M c) := PN.on B2.out HR.out; have y4 := H2.out.r.c 4 _ rfl; have y0 := R2.out.c 0 _ rfl; have z1 : T < u2.heap.size := T2.out.lt; have z2 : u.heap.size < u2.heap.size := R2.out.lt; have z3 : b < u2.heap.size := H2.out.lt; have n1 : ¬ (u2.heap.size = T) := (by omega); have n2 : ¬ (T = u2.heap.size) := (by omega); clear hb)
          have B3 : Hid (Below u.heap.size u (((u2.setCell ⟨T, 0, none⟩ (.int .i64 wl)).setCell ⟨T, 1, none⟩ (.int .i64 a2)).alloc (Obj.cells #[.int .i64 wl, .int .i64 wh] 34))) := rbel_al (rbel_put (by have := sX.out; omega) (rbel_put (by have := sX.out; omega) B2.out))
          have R3 : Hid (Row (((u2.setCell ⟨T, 0, none⟩ (.int .i64 wl)).setCell ⟨T, 1, none⟩ (.int .i64 a2)).alloc (Obj.cells #[.int .i64 wl, .int .i64 wh] 34)) u.heap.size [.int .i64 (k : Int), .int .i64 y, .bool a, .int .i64 t1, .int .i64 t2, .int .i64 t3]) := Row.al (Row.far (by have := sX.out; omega) (Row.far (by have := sX.out; omega) R2.out))
          have T3 : Hid (Row (((u2.setCell ⟨T, 0, none⟩ (.int .i64 wl)).setCell ⟨T, 1, none⟩ (.int .i64 a2)).alloc (Obj.cells #[.int .i64 wl, .int .i64 wh] 34)) T [.int .i64 wl, .int .i64 a2]) := Row.al (Row.put 1 (Row.put 0 T2.out))
          clear y4 y0 s0 s1 g0 g1 H2 R2 T2 B2 z1 z2 z3 n1 n2 c2 o0 o1 o2 t0 t1_ lO RO RT2 RV
          generalize (((u2.setCell ⟨T, 0, none⟩ (.int .i64 wl)).setCell ⟨T, 1, none⟩ (.int .i64 a2)).alloc (Obj.cells #[.int .i64 wl, .int .i64 wh] 34)) = U at *
          have H3 : Hid (PN U b M c) := PN.on B3.out HR.out
          have lb : b < U.heap.size := H3.out.lt
          have lT : T < U.heap.size := T3.out.lt
          have lL : u.heap.size < U.heap.size := R3.out.lt
          have x0 := R3.out.c 0 _ rfl
          have c4 := H3.out.r.c 4 _ rfl
          have t0 := T3.out.c 0 _ rfl
          have t1_ := T3.out.c 1 _ rfl
          have HS := (PN.on (rbel_dr (Below.refl _ _)) H3.out : PN U.drew b M c).store kk wl a2 t
          obtain ⟨Y, hY, hPY, hKY⟩ := HS
          have HPY : Hid (PN Y b M (c.put k wl a2 t)) := hPY
          have HKY : Hid (Keeps (fun j => j = M) u Y) := Keeps.trans (Keeps.of (rbel_dr B3.out)) hKY
          clear hPY hKY
          go_region
          all_goals
            go_wp2
            go_ret
            exact ⟨rfl, HPY.out, HKY.out⟩
      · rcases m2 with ⟨m2, h2⟩ | ⟨m2, h2⟩
        · subst h1; subst h2
          go_wp2_with (go_at_call 197; refine (cW _ c2).mono ?_; rintro o u2 ⟨rfl, hb⟩; have B2 : Hid (Below u.heap.size u u2) := rbel_on hb BV.out; have R2 : Hid (Row u2 u.heap.size [.int .i64 (k : Int), .int .i64 y, .bool a, .int .i64 t1, .int .i64 t2, .int .i64 t3]) := Row.on hb RV.out; have T2 : Hid (Row u2 T [.int .i64 a1, .int .i64 a2]) := Row.on hb RT2.out; have s0 := T2.out.c 0 _ rfl; have s1 := T2.out.c 1 _ rfl; have g0 := T2.out.f 0 _ rfl; have g1 := T2.out.f 1 _ rfl; have H2 : Hid (PN u2 b M c) := PN.on B2.out HR.out; have y4 := H2.out.r.c 4 _ rfl; have y0 := R2.out.c 0 _ rfl; have z1 : T < u2.heap.size := T2.out.lt; have z2 : u.heap.size < u2.heap.size := R2.out.lt; have z3 : b < u2.heap.size := H2.out.lt; have n1 : ¬ (u2.heap.size = T) := (by omega); have n2 : ¬ (T = u2.heap.size) := (by omega); clear hb)
          have B3 : Hid (Below u.heap.size u (((u2.setCell ⟨T, 0, none⟩ (.int .i64 a1)).setCell ⟨T, 1, none⟩ (.int .i64 wh)).alloc (Obj.cells #[.int .i64 wl, .int .i64 wh] 34))) := rbel_al (rbel_put (by have := sX.out; omega) (rbel_put (by have := sX.out; omega) B2.out))
          have R3 : Hid (Row (((u2.setCell ⟨T, 0, none⟩ (.int .i64 a1)).setCell ⟨T, 1, none⟩ (.int .i64 wh)).alloc (Obj.cells #[.int .i64 wl, .int .i64 wh] 34)) u.heap.size [.int .i64 (k : Int), .int .i64 y, .bool a, .int .i64 t1, .int .i64 t2, .int .i64 t3]) := Row.al (Row.far (by have := sX.out; omega) (Row.far (by have := sX.out; omega) R2.out))
          have T3 : Hid (Row (((u2.setCell ⟨T, 0, none⟩ (.int .i64 a1)).setCell ⟨T, 1, none⟩ (.int .i64 wh)).alloc (Obj.cells #[.int .i64 wl, .int .i64 wh] 34)) T [.int .i64 a1, .int .i64 wh]) := Row.al (Row.put 1 (Row.put 0 T2.out))
          clear y4 y0 s0 s1 g0 g1 H2 R2 T2 B2 z1 z2 z3 n1 n2 c2 o0 o1 o2 t0 t1_ lO RO RT2 RV
          generalize (((u2.setCell ⟨T, 0, none⟩ (.int .i64 a1)).setCell ⟨T, 1, none⟩ (.int .i64 wh)).alloc (Obj.cells #[.int .i64 wl, .int .i64 wh] 34)) = U at *
          have H3 : Hid (PN U b M c) := PN.on B3.out HR.out
          have lb : b < U.heap.size := H3.out.lt
          have lT : T < U.heap.size := T3.out.lt
          have lL : u.heap.size < U.heap.size := R3.out.lt
          have x0 := R3.out.c 0 _ rfl
          have c4 := H3.out.r.c 4 _ rfl
          have t0 := T3.out.c 0 _ rfl
          have t1_ := T3.out.c 1 _ rfl
          have HS := (PN.on (rbel_dr (Below.refl _ _)) H3.out : PN U.drew b M c).store kk a1 wh t
          obtain ⟨Y, hY, hPY, hKY⟩ := HS
          have HPY : Hid (PN Y b M (c.put k a1 wh t)) := hPY
          have HKY : Hid (Keeps (fun j => j = M) u Y) := Keeps.trans (Keeps.of (rbel_dr B3.out)) hKY
          clear hPY hKY
          go_region
          all_goals
            go_wp2
            go_ret
            exact ⟨rfl, HPY.out, HKY.out⟩
        · subst h1; subst h2
          go_wp2_with (go_at_call 197; refine (cW _ c2).mono ?_; rintro o u2 ⟨rfl, hb⟩; have B2 : Hid (Below u.heap.size u u2) := rbel_on hb BV.out; have R2 : Hid (Row u2 u.heap.size [.int .i64 (k : Int), .int .i64 y, .bool a, .int .i64 t1, .int .i64 t2, .int .i64 t3]) := Row.on hb RV.out; have T2 : Hid (Row u2 T [.int .i64 a1, .int .i64 a2]) := Row.on hb RT2.out; have s0 := T2.out.c 0 _ rfl; have s1 := T2.out.c 1 _ rfl; have g0 := T2.out.f 0 _ rfl; have g1 := T2.out.f 1 _ rfl; have H2 : Hid (PN u2 b M c) := PN.on B2.out HR.out; have y4 := H2.out.r.c 4 _ rfl; have y0 := R2.out.c 0 _ rfl; have z1 : T < u2.heap.size := T2.out.lt; have z2 : u.heap.size < u2.heap.size := R2.out.lt; have z3 : b < u2.heap.size := H2.out.lt; have n1 : ¬ (u2.heap.size = T) := (by omega); have n2 : ¬ (T = u2.heap.size) := (by omega); clear hb)
          have B3 : Hid (Below u.heap.size u (((u2.setCell ⟨T, 0, none⟩ (.int .i64 a1)).setCell ⟨T, 1, none⟩ (.int .i64 a2)).alloc (Obj.cells #[.int .i64 wl, .int .i64 wh] 34))) := rbel_al (rbel_put (by have := sX.out; omega) (rbel_put (by have := sX.out; omega) B2.out))
          have R3 : Hid (Row (((u2.setCell ⟨T, 0, none⟩ (.int .i64 a1)).setCell ⟨T, 1, none⟩ (.int .i64 a2)).alloc (Obj.cells #[.int .i64 wl, .int .i64 wh] 34)) u.heap.size [.int .i64 (k : Int), .int .i64 y, .bool a, .int .i64 t1, .int .i64 t2, .int .i64 t3]) := Row.al (Row.far (by have := sX.out; omega) (Row.far (by have := sX.out; omega) R2.out))
          have T3 : Hid (Row (((u2.setCell ⟨T, 0, none⟩ (.int .i64 a1)).setCell ⟨T, 1, none⟩ (.int .i64 a2)).alloc (Obj.cells #[.int .i64 wl, .int .i64 wh] 34)) T [.int .i64 a1, .int .i64 a2]) := Row.al (Row.put 1 (Row.put 0 T2.out))
          clear y4 y0 s0 s1 g0 g1 H2 R2 T2 B2 z1 z2 z3 n1 n2 c2 o0 o1 o2 t0 t1_ lO RO RT2 RV
          generalize (((u2.setCell ⟨T, 0, none⟩ (.int .i64 a1)).setCell ⟨T, 1, none⟩ (.int .i64 a2)).alloc (Obj.cells #[.int .i64 wl, .int .i64 wh] 34)) = U at *
          have H3 : Hid (PN U b M c) := PN.on B3.out HR.out
          have lb : b < U.heap.size := H3.out.lt
          have lT : T < U.heap.size := T3.out.lt
          have lL : u.heap.size < U.heap.size := R3.out.lt
          have x0 := R3.out.c 0 _ rfl
          have c4 := H3.out.r.c 4 _ rfl
          have t0 := T3.out.c 0 _ rfl
          have t1_ := T3.out.c 1 _ rfl
          have HS := (PN.on (rbel_dr (Below.refl _ _)) H3.out : PN U.drew b M c).store kk a1 a2 t
          obtain ⟨Y, hY, hPY, hKY⟩ := HS
          have HPY : Hid (PN Y b M (c.put k a1 a2 t)) := hPY
          have HKY : Hid (Keeps (fun j => j = M) u Y) := Keeps.trans (Keeps.of (rbel_dr B3.out)) hKY
          clear hPY hKY
          go_region
          all_goals
            go_wp2
            go_ret
            exact ⟨rfl, HPY.out, HKY.out⟩
end
section
variable {u : World} {b M : Nat} {c c' : Nd}
def HrO (u : World) (b M : Nat) (c' : Nd) (B : Bool) (e : Int) (o : Ending) (w' : World) : Prop := o = .returned (.tuple #[.bool B, errc e]) ∧ PN w' b M c' ∧ Keeps (Fn b M) u w'
theorem hear_any (h : PN u b M c) (g : c.I) (l : Lt) (t e : Int) (B : Bool) (hh : HearR c l t c' B e) :
  Calls Tryz.prog 148 #[.pointer (some ⟨b, 0, none⟩), ltv l, .int .i64 t] u fun o w' => HrO u b M c' B e o w' := by
 have same : ∀ {v : Int} {X : Calls Tryz.prog 148 #[.pointer (some ⟨b, 0, none⟩), ltv l, .int .i64 t] u fun o w' => o = .returned (.tuple #[.bool false, .iface 86 (.int .i64 v)]) ∧ Below u.heap.size u w'}, v ≠ 0 → Calls Tryz.prog 148 #[.pointer (some ⟨b, 0, none⟩), ltv l, .int .i64 t] u fun o w' => HrO u b M c false v o w' := fun {v X} hv => X.mono fun _ _ ⟨he, hw⟩ => ⟨by rw [errc_not hv]; exact he, PN.on hw h, Keeps.of hw⟩
 obtain ⟨x, y, a, t1, t2, t3⟩ := l
 have frm : ¬ c.bad ⟨x, y, a, t1, t2, t3⟩ → ∃ k : Nat, x = k ∧ k < c.n ∧ k ≠ c.id ∧ y = c.id ∧ k < 6 := fun hb => by
  have n6 := g.n6
  unfold Nd.bad at hb
  have h1 : y = c.id := Classical.byContradiction (fun q => hb (Or.inl q))
  have h2 : x ≠ c.id := fun q => hb (Or.inr (Or.inl q))
  have h3 : ¬ x < 0 := fun q => hb (Or.inr (Or.inr (Or.inl q)))
  have h4 : ¬ (c.n : Int) ≤ x := fun q => hb (Or.inr (Or.inr (Or.inr q)))
  exact ⟨x.toNat, by omega, by omega, by omega, h1, by omega⟩
 rcases hh with ⟨hb, ec, rfl, rfl⟩ | ⟨hb, hd, ec, rfl, rfl⟩ | ⟨hb, hd, ha, ec, rfl, rfl⟩ | ⟨hb, hd, ha, hz, ec, rfl, rfl⟩ | ⟨hb, hd, ha, hz, hc, ec, rfl, rfl⟩ | ⟨hb, hd, ha, hz, hc, ec, rfl, rfl⟩
 all_goals
  rw [ec]
  clear ec
 ·exact same (X := hear_bk h g x y t1 t2 t3 t a hb) (by decide)
 ·refine same (X := ?_) (by decide)
  by_cases q1 : y = c.id
  ·by_cases q2 : x = c.id
   ·exact hear_b2 h g x y t1 t2 t3 t a hb q1 q2
   ·by_cases q3 : x < 0
    ·exact hear_b3 h g x y t1 t2 t3 t a hb q1 q2 q3
    ·refine hear_b4 h g x y t1 t2 t3 t a hb q1 q2 q3 ?_
     unfold Nd.bad at hd
     rcases hd with d | d | d | d
     ·exact absurd q1 d
     ·exact absurd d q2
     ·exact absurd d q3
     ·exact d
  ·exact hear_b1 h g x y t1 t2 t3 t a hb q1
 ·obtain ⟨k, ex, hk, hne, h0, kk⟩ := frm hd
  obtain rfl : a = false := ha
  refine (hear_ask h g x y t1 t2 t3 t hb k ex hk hne h0).mono fun _ _ ⟨he, hp, hw⟩ => ⟨by rw [errc_zero]; exact he, hp, hw⟩
 ·obtain ⟨k, ex, hk, hne, h0, kk⟩ := frm hd
  obtain rfl : a = true := ha
  refine same (X := ?_) hz
  refine hear_no h g x y t1 t2 t3 t hb k ex hk hne h0 _ hz ?_
  intro w hw
  subst ex
  exact learn_off (PN.on hw h) k y t1 t2 t3 t true _ rfl hz
 ·obtain ⟨k, ex, hk, hne, h0, kk⟩ := frm hd
  obtain rfl : a = true := ha
  subst ex
  have hh : c.has k = true := by
   cases q : c.has k with
   | true => rfl
   | false =>
    have e1 : c.bHi k t (c.oU ⟨k, y, true, t1, t2, t3⟩ t) = oH t1 t2 t c.p := by unfold Nd.bHi; rw [q]; rfl
    have e2 : c.bLo k t (Nd.oL ⟨k, y, true, t1, t2, t3⟩ t) = t3 - t := by unfold Nd.bLo; rw [q]; rfl
    have hc' : c.bHi k t (c.oU ⟨k, y, true, t1, t2, t3⟩ t) < c.bLo k t (Nd.oL ⟨k, y, true, t1, t2, t3⟩ t) := hc
    rw [e1, e2] at hc'
    have q9 : t3 - t ≤ oH t1 t2 t c.p := (oE_zero hz).2.2.2.2
    clear hc
    omega
  have e1 : c.bHi k t (oH t1 t2 t c.p) = if c.ahi k t < oH t1 t2 t c.p then c.ahi k t else oH t1 t2 t c.p := by unfold Nd.bHi; rw [if_pos hh]
  have e2 : c.bLo k t (t3 - t) = if t3 - t < c.alo k t then c.alo k t else t3 - t := by unfold Nd.bLo; rw [if_pos hh]
  refine same (X := ?_) (by decide)
  refine hear_no h g (k : Int) y t1 t2 t3 t hb k rfl hk hne h0 _ (by decide) ?_
  intro w hw
  refine learn_clash (PN.on hw h) k y t1 t2 t3 t true kk (t3 - t) (oH t1 t2 t c.p) hz rfl rfl hh (vL c k) (vH c k) (vA c k) (c.alo k t) (c.ahi k t) rfl rfl rfl (fun w' c2 => wid_any g hb hh w' c2) (c.bLo k t (t3 - t)) (c.bHi k t (oH t1 t2 t c.p)) ?_ ?_ hc
  ·rw [e2]; split
   ·exact Or.inl ⟨by assumption, rfl⟩
   ·exact Or.inr ⟨by assumption, rfl⟩
  ·rw [e1]; split
   ·exact Or.inl ⟨by assumption, rfl⟩
   ·exact Or.inr ⟨by assumption, rfl⟩
 ·obtain ⟨k, ex, hk, hne, h0, kk⟩ := frm hd
  obtain rfl : a = true := ha
  subst ex
  have fin : ∀ {o : Ending} {w' : World} {p q : Int}, o = .returned (.tuple #[.bool true, .nilIface]) ∧ PN w' b M { (c.put k p q t) with h := t } ∧ Keeps (Fn b M) u w' → p = c.bLo k t (t3 - t) → q = c.bHi k t (oH t1 t2 t c.p) → HrO u b M (c.kept k t (c.bLo k t (t3 - t)) (c.bHi k t (oH t1 t2 t c.p))) true 0 o w' := fun {o w' p q} ⟨he, hp, hw⟩ ep eq => by
   subst ep
   subst eq
   exact ⟨by rw [errc_zero]; exact he, hp, hw⟩
  cases hh : c.has k with
  | false =>
   have e1 : c.bHi k t (oH t1 t2 t c.p) = oH t1 t2 t c.p := by unfold Nd.bHi; rw [hh]; rfl
   have e2 : c.bLo k t (t3 - t) = t3 - t := by unfold Nd.bLo; rw [hh]; rfl
   refine (hear_yes h g (k : Int) y t1 t2 t3 t hb k rfl hk hne h0 (c.put k (t3 - t) (oH t1 t2 t c.p) t) rfl ?_).mono fun _ _ q => fin q e2.symm e1.symm
   intro w hw
   exact learn_new (PN.on hw h) k y t1 t2 t3 t true kk (t3 - t) (oH t1 t2 t c.p) hz rfl rfl hh (oE_zero hz).2.2.2.2
  | true =>
   have e1 : c.bHi k t (oH t1 t2 t c.p) = if c.ahi k t < oH t1 t2 t c.p then c.ahi k t else oH t1 t2 t c.p := by unfold Nd.bHi; rw [if_pos hh]
   have e2 : c.bLo k t (t3 - t) = if t3 - t < c.alo k t then c.alo k t else t3 - t := by unfold Nd.bLo; rw [if_pos hh]
   refine (hear_yes h g (k : Int) y t1 t2 t3 t hb k rfl hk hne h0 (c.put k (c.bLo k t (t3 - t)) (c.bHi k t (oH t1 t2 t c.p)) t) rfl ?_).mono fun _ _ q => fin q rfl rfl
   intro w hw
   refine learn_kept (PN.on hw h) k y t1 t2 t3 t true kk (t3 - t) (oH t1 t2 t c.p) hz rfl rfl hh (vL c k) (vH c k) (vA c k) (c.alo k t) (c.ahi k t) rfl rfl rfl (fun w' c2 => wid_any g hb hh w' c2) (c.bLo k t (t3 - t)) (c.bHi k t (oH t1 t2 t c.p)) ?_ ?_ ?_
   ·rw [e2]; split
    ·exact Or.inl ⟨by assumption, rfl⟩
    ·exact Or.inr ⟨by assumption, rfl⟩
   ·rw [e1]; split
    ·exact Or.inl ⟨by assumption, rfl⟩
    ·exact Or.inr ⟨by assumption, rfl⟩
   ·have hc' : c.bLo k t (t3 - t) ≤ c.bHi k t (oH t1 t2 t c.p) := hc
    omega
end
set_option maxHeartbeats 8000000
set_option maxRecDepth 100000
section
variable {u : World} {b M : Nat} {c : Nd}
theorem nspans_bk (h : PN u b M c) (hI : c.I) (t : Int) (hb : c.bk t) :
  Calls Tryz.prog 180 #[.pointer (some ⟨b, 0, none⟩), .int .i64 t] u fun o w' => o = .returned (.tuple #[.slice none 0 0, .slice none 0 0, .iface 86 (.int .i64 8)]) ∧ Below u.heap.size u w' := by
 have HR : Hid (PN u b M c) := h
 have HI : Hid c.I := hI
 have HB : Hid (c.bk t) := hb
 clear h hI hb
 go_enter Tryz.func180, Tryz.ntmps180
 go_wp2_with (go_at_call 178; refine (chk_bk HR.out HI.out t HB.out).mono ?_; rintro o u1 ⟨rfl, hu⟩; rw [hu]; clear hu)
 exact bodyPost_ret (v := .tuple #[.slice none 0 0, .slice none 0 0, .iface 86 (.int .i64 8)]) (by simp [results, Tryz.results180, go_sem, *]) rfl ⟨rfl, Below.refl _ _⟩
def SpA (u : World) (b M : Nat) (c : Nd) (t : Int) (o : Ending) (w' : World) : Prop := (∃ e, SpR c t e ∧ ((e = 0 ∧ ∃ s g : Nat, o = .returned (.tuple #[.slice (some ⟨s, 0, none⟩) c.n c.n, .slice (some ⟨g, 0, none⟩) c.n c.n, .nilIface]) ∧ StN w' s g c.n c t ∧ u.heap.size ≤ s ∧ u.heap.size ≤ g) ∨ (e ≠ 0 ∧ o = .returned (.tuple #[.slice none 0 0, .slice none 0 0, .iface 86 (.int .i64 e)])))) ∧ Below u.heap.size u w'
theorem nspans_go (h : PN u b M c) (hI : c.I) (t : Int) (hb : ¬ c.bk t) :
  Calls Tryz.prog 180 #[.pointer (some ⟨b, 0, none⟩), .int .i64 t] u fun o w' => SpA u b M c t o w' := by
 have HR : Hid (PN u b M c) := h
 have HB : Hid (¬ c.bk t) := hb
 have HI : Hid c.I := hI
 have h6 := hI.n6
 have hid := hI.idn
 have m1 := kmk_spans c.n h6
 have m2 := kmk_bools c.n h6
 have c0 := h.r.c 0 _ rfl
 have c1 := h.r.c 1 _ rfl
 have zb := h.lt
 have hid2 : (c.id : Int) < (c.n : Int) := by omega
 clear h hb hI
 go_enter Tryz.func180, Tryz.ntmps180
 go_wp2_with (go_at_call 178; refine (chk_no HR.out HI.out t HB.out).mono ?_; rintro o u1 ⟨rfl, hu⟩; rw [hu]; clear hu)
 go_region
 ·have a1 : Array.replicate (c.n * 2) (Value.int .i64 0) = (List.replicate (c.n * 2) (Value.int .i64 0)).toArray := by simp
  have a2 : Array.replicate c.n (Value.bool false) = (List.replicate c.n (Value.bool false)).toArray := by simp
  have ra : Hid (Row (((u.alloc (Obj.cells (Array.replicate (c.n * 2) (Value.int IntKind.i64 0)) 34)).alloc (Obj.cells (Array.replicate c.n (Value.bool false)) 4)).drew) (u.heap.size) (List.replicate (c.n * 2) (Value.int .i64 0))) := by show Row _ _ _; rw [a1, a2]; exact Row.dr (Row.al (Row.made rfl))
  have rb : Hid (Row (((u.alloc (Obj.cells (Array.replicate (c.n * 2) (Value.int IntKind.i64 0)) 34)).alloc (Obj.cells (Array.replicate c.n (Value.bool false)) 4)).drew) (u.heap.size + 1) (List.replicate c.n (Value.bool false))) := by show Row _ _ _; rw [a1, a2]; exact Row.dr (Row.made (by simp))
  have BW : Hid (Below u.heap.size u (((u.alloc (Obj.cells (Array.replicate (c.n * 2) (Value.int IntKind.i64 0)) 34)).alloc (Obj.cells (Array.replicate c.n (Value.bool false)) 4)).drew)) := rbel_dr (rbel_al (rbel_al (Below.refl _ _)))
  clear a1 a2 m1 m2
  generalize (((u.alloc (Obj.cells (Array.replicate (c.n * 2) (Value.int IntKind.i64 0)) 34)).alloc (Obj.cells (Array.replicate c.n (Value.bool false)) 4)).drew) = Z at *
  have HZ : Hid (PN Z b M c) := PN.on BW.out HR.out
  have y0 := HZ.out.r.c 0 _ rfl
  have y1 := HZ.out.r.c 1 _ rfl
  have q0 : Z.cell? ⟨u.heap.size + 1, c.id, none⟩ = some (.bool false) := rb.out.c _ _ (by rw [List.getElem?_replicate, if_pos hid])
  have q1 : Z.frozen? ⟨u.heap.size + 1, c.id, none⟩ = false := rb.out.f _ _ (by rw [List.getElem?_replicate, if_pos hid])
  have q2 : u.heap.size + 1 < Z.heap.size := World.block_lt_of_cell? _ _ q0
  have zb2 : b < Z.heap.size := HZ.out.lt
  have n1 : ¬ (u.heap.size + 1 = b) := by omega
  have n2 : ¬ (b = u.heap.size + 1) := by omega
  have S0 : Hid (StN (Z.setCell ⟨u.heap.size + 1, c.id, none⟩ (.bool true)) (u.heap.size) (u.heap.size + 1) 0 c t) := StN.start (Row.far (by omega) ra.out) (Row.put c.id rb.out) hid (by omega)
  have B0 : Hid (Below u.heap.size u (Z.setCell ⟨u.heap.size + 1, c.id, none⟩ (.bool true))) := rbel_put (by omega) BW.out
  go_wp2
  clear q0 q1 q2 y0 y1 c0 c1 ra rb BW HZ n1 n2 zb2
  generalize (Z.setCell ⟨u.heap.size + 1, c.id, none⟩ (.bool true)) = Y at *
  go_loopw [42] (fun vi wr => ∃ i : Nat, i ≤ c.n ∧ vi = .int .i64 i ∧ StN wr (u.heap.size) (u.heap.size + 1) i c t ∧ (∀ j, j < i → c.has j = true → okB (c.alo j t) (c.ahi j t) = true) ∧ PN wr b M c ∧ Below u.heap.size u wr) (fun vi _ => c.n - (intOf vi).toNat)
  case atStart => exact ⟨0, Nat.zero_le _, rfl, S0.out, fun j hj => by omega, PN.on B0.out HR.out, B0.out⟩
  case round =>
   clear S0 B0
   obtain ⟨i, hi, rfl, hS, hok, hN, hw⟩ := hrel
   have HS : Hid (StN wr (u.heap.size) (u.heap.size + 1) i c t) := hS
   have HO : Hid (∀ j, j < i → c.has j = true → okB (c.alo j t) (c.ahi j t) = true) := hok
   have HN : Hid (PN wr b M c) := hN
   have HW : Hid (Below u.heap.size u wr) := hw
   have c4 := hN.r.c 4 _ rfl
   have zb2 := hN.lt
   have z1 : u.heap.size + 1 < wr.heap.size := World.block_lt_of_cell? _ _ (hS.h 0 (by omega))
   have z0 : u.heap.size < wr.heap.size := World.block_lt_of_cell? _ _ (hS.a 0 (by omega))
   by_cases hlt : i < c.n
   ·have hl3 : (i : Int) < (c.n : Int) := by omega
    have v4 := hN.look (i := i) (by omega)
    clear hS hok hN hw
    cases hh : c.has i with
    | false =>
     rw [hh] at v4
     go_wp2
     go_roundw
     case rel => exact ⟨i + 1, by omega, by go_num, StN.on (by omega) (rbel_al (Below.refl _ _)) (HS.out.skip hh), fun j hj hj2 => by
      by_cases q : j = i
      ·subst q; rw [hh] at hj2; cases hj2
      ·exact HO.out j (by omega) hj2, PN.on (rbel_al (Below.refl _ _)) HN.out, rbel_al HW.out⟩
     case measure => simp [intOf]; omega
    | true =>
     rw [hh] at v4
     have cA : Hid (∀ w, Below wr.heap.size wr w → Calls Tryz.prog 197 #[.pointer (some ⟨b, 0, none⟩), .agg #[.int .i64 (vL c i), .int .i64 (vH c i), .int .i64 (vA c i)], .int .i64 t] w fun o w' => o = .returned (.tuple #[.agg #[.int .i64 (c.alo i t), .int .i64 (c.ahi i t)], .nilIface]) ∧ Below w.heap.size w w') := fun w hw => wid_any HI.out HB.out hh w ((PN.on hw HN.out).r.c 2 _ rfl)
     have e1 : c.so t i = (c.alo i t, c.ahi i t) := by unfold Nd.so; rw [if_pos hh]
     have e2 : c.ho i = true := by unfold Nd.ho; rw [hh]; rfl
     have E1 : Hid (c.so t i = (c.alo i t, c.ahi i t)) := e1
     have E2 : Hid (c.ho i = true) := e2
     generalize vL c i = vl at *
     generalize vH c i = vh at *
     generalize vA c i = va at *
     cases hB : okB (c.alo i t) (c.ahi i t) with
     | false =>
      have cS := fun w => check_no (c.alo i t) (c.ahi i t) w hB
      have NO : Hid (SpR c t 1) := Or.inr (Or.inl ⟨HB.out, ⟨i, hlt, hh, hB⟩, rfl⟩)
      clear e1 e2 E1 E2 hB
      generalize c.alo i t = al at *
      generalize c.ahi i t = ah at *
      go_wp2_with (first
       | (go_at_call 197; refine (cA.out _ (rbel_al (Below.refl _ _))).mono ?_; rintro o u2 ⟨rfl, hb⟩; have B2 : Hid (Below u.heap.size u u2) := rbel_on hb (rbel_al HW.out); clear hb)
       | (go_at_call 32; refine (cS _).mono ?_; rintro o u3 ⟨rfl, hb⟩; have B3 : Hid (Below u.heap.size u u3) := rbel_on hb (rbel_al B2.out); clear hb))
      exact bodyPost_ret (v := .tuple #[.slice none 0 0, .slice none 0 0, .iface 86 (.int .i64 1)]) (by simp [results, Tryz.results180, go_sem, *]) rfl ⟨⟨1, NO.out, Or.inr ⟨by decide, rfl⟩⟩, B3.out⟩
     | true =>
      have cS := fun w => check_ok (c.alo i t) (c.ahi i t) w hB
      have HBB : Hid (okB (c.alo i t) (c.ahi i t) = true) := hB
      clear e1 e2 hB
      generalize ea : c.alo i t = al at *
      generalize eh : c.ahi i t = ah at *
      have EA : Hid (c.alo i t = al) := ea
      have EH : Hid (c.ahi i t = ah) := eh
      clear ea eh
      go_wp2_with (first
       | (go_at_call 197; refine (cA.out _ (rbel_al (Below.refl _ _))).mono ?_; rintro o u2 ⟨rfl, hb⟩; have B2 : Hid (Below wr.heap.size wr u2) := rbel_on hb (rbel_al (Below.refl _ _)); clear hb)
       | (go_at_call 32; refine (cS _).mono ?_; rintro o u3 ⟨rfl, hb⟩; have B3 : Hid (Below wr.heap.size wr u3) := rbel_on hb (rbel_al B2.out); have RS : Hid (Row u3 u2.heap.size [.int .i64 al, .int .i64 ah]) := Row.on hb (Row.made rfl); have S3 : Hid (StN u3 (u.heap.size) (u.heap.size + 1) i c t) := HS.out.on (by omega) B3.out; have N3 : Hid (PN u3 b M c) := PN.on B3.out HN.out; have r0 := RS.out.c 0 _ rfl; have r1 := RS.out.c 1 _ rfl; have g0 := S3.out.a i hlt; have g1 := S3.out.b i hlt; have g2 := S3.out.h i hlt; have k0 := S3.out.fa (i * 2) (by omega); have k1 := S3.out.fa (i * 2 + 1) (by omega); have k2 := S3.out.fh i hlt; have z3 : u.heap.size + 1 < u3.heap.size := Nat.lt_of_lt_of_le z1 B3.out.size; have z4 : u2.heap.size < u3.heap.size := RS.out.lt; have z5 : u.heap.size < u3.heap.size := Nat.lt_of_lt_of_le z0 B3.out.size; have B2s : wr.heap.size ≤ u2.heap.size := B2.out.size; have q1 : ¬ (u2.heap.size = u.heap.size) := (by omega); have q2 : ¬ (u2.heap.size = u.heap.size + 1) := (by omega); clear hb))
      go_roundw
      case rel =>
       have hs : c.so t i = (al, ah) := E1.out
       have hM := HR.out.ltM
       refine ⟨i + 1, by omega, by go_num, S3.out.put hlt hs E2.out, fun j hj hj2 => ?_, ?_, rbel_put (by omega) (rbel_put (by omega) (rbel_put (by omega) (rbel_on B3.out HW.out)))⟩
       ·by_cases q : j = i
        ·subst q; rw [EA.out, EH.out]; exact HBB.out
        ·exact HO.out j (by omega) hj2
       ·refine PN.on ?_ HR.out
        exact rbel_put (by omega) (rbel_put (by omega) (rbel_put (by omega) (rbel_on B3.out HW.out)))
      case measure => simp [intOf]; omega
   ·have hl3 : ¬ ((i : Int) < (c.n : Int)) := by omega
    have e' : i = c.n := by omega
    have HE : Hid (i = c.n) := e'
    clear hS hok hN hw e'
    go_wp2
    exact bodyPost_ret (v := .tuple #[.slice (some ⟨u.heap.size, 0, none⟩) c.n c.n, .slice (some ⟨u.heap.size + 1, 0, none⟩) c.n c.n, .nilIface]) (by simp [results, Tryz.results180, go_sem, *]) rfl ⟨⟨0, Or.inr (Or.inr ⟨HB.out, fun j hj hj2 => HO.out j (by rw [HE.out]; exact hj) hj2, rfl⟩), Or.inl ⟨rfl, _, _, rfl, HE.out ▸ HS.out, by omega, by omega⟩⟩, HW.out⟩
 ·have a1 : Array.replicate (c.n * 2) (Value.int .i64 0) = (List.replicate (c.n * 2) (Value.int .i64 0)).toArray := by simp
  have a2 : Array.replicate c.n (Value.bool false) = (List.replicate c.n (Value.bool false)).toArray := by simp
  have ra : Hid (Row (((u.alloc (Obj.cells (Array.replicate c.n (Value.bool false)) 4)).alloc (Obj.cells (Array.replicate (c.n * 2) (Value.int IntKind.i64 0)) 34)).drew) (u.heap.size + 1) (List.replicate (c.n * 2) (Value.int .i64 0))) := by show Row _ _ _; rw [a1, a2]; exact Row.dr (Row.made (by simp))
  have rb : Hid (Row (((u.alloc (Obj.cells (Array.replicate c.n (Value.bool false)) 4)).alloc (Obj.cells (Array.replicate (c.n * 2) (Value.int IntKind.i64 0)) 34)).drew) (u.heap.size) (List.replicate c.n (Value.bool false))) := by show Row _ _ _; rw [a1, a2]; exact Row.dr (Row.al (Row.made rfl))
  have BW : Hid (Below u.heap.size u (((u.alloc (Obj.cells (Array.replicate c.n (Value.bool false)) 4)).alloc (Obj.cells (Array.replicate (c.n * 2) (Value.int IntKind.i64 0)) 34)).drew)) := rbel_dr (rbel_al (rbel_al (Below.refl _ _)))
  clear a1 a2 m1 m2
  generalize (((u.alloc (Obj.cells (Array.replicate c.n (Value.bool false)) 4)).alloc (Obj.cells (Array.replicate (c.n * 2) (Value.int IntKind.i64 0)) 34)).drew) = Z at *
  have HZ : Hid (PN Z b M c) := PN.on BW.out HR.out
  have y0 := HZ.out.r.c 0 _ rfl
  have y1 := HZ.out.r.c 1 _ rfl
  have q0 : Z.cell? ⟨u.heap.size, c.id, none⟩ = some (.bool false) := rb.out.c _ _ (by rw [List.getElem?_replicate, if_pos hid])
  have q1 : Z.frozen? ⟨u.heap.size, c.id, none⟩ = false := rb.out.f _ _ (by rw [List.getElem?_replicate, if_pos hid])
  have q2 : u.heap.size < Z.heap.size := World.block_lt_of_cell? _ _ q0
  have zb2 : b < Z.heap.size := HZ.out.lt
  have n1 : ¬ (u.heap.size = b) := by omega
  have n2 : ¬ (b = u.heap.size) := by omega
  have S0 : Hid (StN (Z.setCell ⟨u.heap.size, c.id, none⟩ (.bool true)) (u.heap.size + 1) (u.heap.size) 0 c t) := StN.start (Row.far (by omega) ra.out) (Row.put c.id rb.out) hid (by omega)
  have B0 : Hid (Below u.heap.size u (Z.setCell ⟨u.heap.size, c.id, none⟩ (.bool true))) := rbel_put (by omega) BW.out
  go_wp2
  clear q0 q1 q2 y0 y1 c0 c1 ra rb BW HZ n1 n2 zb2
  generalize (Z.setCell ⟨u.heap.size, c.id, none⟩ (.bool true)) = Y at *
  go_loopw [42] (fun vi wr => ∃ i : Nat, i ≤ c.n ∧ vi = .int .i64 i ∧ StN wr (u.heap.size + 1) (u.heap.size) i c t ∧ (∀ j, j < i → c.has j = true → okB (c.alo j t) (c.ahi j t) = true) ∧ PN wr b M c ∧ Below u.heap.size u wr) (fun vi _ => c.n - (intOf vi).toNat)
  case atStart => exact ⟨0, Nat.zero_le _, rfl, S0.out, fun j hj => by omega, PN.on B0.out HR.out, B0.out⟩
  case round =>
   clear S0 B0
   obtain ⟨i, hi, rfl, hS, hok, hN, hw⟩ := hrel
   have HS : Hid (StN wr (u.heap.size + 1) (u.heap.size) i c t) := hS
   have HO : Hid (∀ j, j < i → c.has j = true → okB (c.alo j t) (c.ahi j t) = true) := hok
   have HN : Hid (PN wr b M c) := hN
   have HW : Hid (Below u.heap.size u wr) := hw
   have c4 := hN.r.c 4 _ rfl
   have zb2 := hN.lt
   have z1 : u.heap.size < wr.heap.size := World.block_lt_of_cell? _ _ (hS.h 0 (by omega))
   have z0 : u.heap.size + 1 < wr.heap.size := World.block_lt_of_cell? _ _ (hS.a 0 (by omega))
   by_cases hlt : i < c.n
   ·have hl3 : (i : Int) < (c.n : Int) := by omega
    have v4 := hN.look (i := i) (by omega)
    clear hS hok hN hw
    cases hh : c.has i with
    | false =>
     rw [hh] at v4
     go_wp2
     go_roundw
     case rel => exact ⟨i + 1, by omega, by go_num, StN.on (by omega) (rbel_al (Below.refl _ _)) (HS.out.skip hh), fun j hj hj2 => by
      by_cases q : j = i
      ·subst q; rw [hh] at hj2; cases hj2
      ·exact HO.out j (by omega) hj2, PN.on (rbel_al (Below.refl _ _)) HN.out, rbel_al HW.out⟩
     case measure => simp [intOf]; omega
    | true =>
     rw [hh] at v4
     have cA : Hid (∀ w, Below wr.heap.size wr w → Calls Tryz.prog 197 #[.pointer (some ⟨b, 0, none⟩), .agg #[.int .i64 (vL c i), .int .i64 (vH c i), .int .i64 (vA c i)], .int .i64 t] w fun o w' => o = .returned (.tuple #[.agg #[.int .i64 (c.alo i t), .int .i64 (c.ahi i t)], .nilIface]) ∧ Below w.heap.size w w') := fun w hw => wid_any HI.out HB.out hh w ((PN.on hw HN.out).r.c 2 _ rfl)
     have e1 : c.so t i = (c.alo i t, c.ahi i t) := by unfold Nd.so; rw [if_pos hh]
     have e2 : c.ho i = true := by unfold Nd.ho; rw [hh]; rfl
     have E1 : Hid (c.so t i = (c.alo i t, c.ahi i t)) := e1
     have E2 : Hid (c.ho i = true) := e2
     generalize vL c i = vl at *
     generalize vH c i = vh at *
     generalize vA c i = va at *
     cases hB : okB (c.alo i t) (c.ahi i t) with
     | false =>
      have cS := fun w => check_no (c.alo i t) (c.ahi i t) w hB
      have NO : Hid (SpR c t 1) := Or.inr (Or.inl ⟨HB.out, ⟨i, hlt, hh, hB⟩, rfl⟩)
      clear e1 e2 E1 E2 hB
      generalize c.alo i t = al at *
      generalize c.ahi i t = ah at *
      go_wp2_with (first
       | (go_at_call 197; refine (cA.out _ (rbel_al (Below.refl _ _))).mono ?_; rintro o u2 ⟨rfl, hb⟩; have B2 : Hid (Below u.heap.size u u2) := rbel_on hb (rbel_al HW.out); clear hb)
       | (go_at_call 32; refine (cS _).mono ?_; rintro o u3 ⟨rfl, hb⟩; have B3 : Hid (Below u.heap.size u u3) := rbel_on hb (rbel_al B2.out); clear hb))
      exact bodyPost_ret (v := .tuple #[.slice none 0 0, .slice none 0 0, .iface 86 (.int .i64 1)]) (by simp [results, Tryz.results180, go_sem, *]) rfl ⟨⟨1, NO.out, Or.inr ⟨by decide, rfl⟩⟩, B3.out⟩
     | true =>
      have cS := fun w => check_ok (c.alo i t) (c.ahi i t) w hB
      have HBB : Hid (okB (c.alo i t) (c.ahi i t) = true) := hB
      clear e1 e2 hB
      generalize ea : c.alo i t = al at *
      generalize eh : c.ahi i t = ah at *
      have EA : Hid (c.alo i t = al) := ea
      have EH : Hid (c.ahi i t = ah) := eh
      clear ea eh
      go_wp2_with (first
       | (go_at_call 197; refine (cA.out _ (rbel_al (Below.refl _ _))).mono ?_; rintro o u2 ⟨rfl, hb⟩; have B2 : Hid (Below wr.heap.size wr u2) := rbel_on hb (rbel_al (Below.refl _ _)); clear hb)
       | (go_at_call 32; refine (cS _).mono ?_; rintro o u3 ⟨rfl, hb⟩; have B3 : Hid (Below wr.heap.size wr u3) := rbel_on hb (rbel_al B2.out); have RS : Hid (Row u3 u2.heap.size [.int .i64 al, .int .i64 ah]) := Row.on hb (Row.made rfl); have S3 : Hid (StN u3 (u.heap.size + 1) (u.heap.size) i c t) := HS.out.on (by omega) B3.out; have N3 : Hid (PN u3 b M c) := PN.on B3.out HN.out; have r0 := RS.out.c 0 _ rfl; have r1 := RS.out.c 1 _ rfl; have g0 := S3.out.a i hlt; have g1 := S3.out.b i hlt; have g2 := S3.out.h i hlt; have k0 := S3.out.fa (i * 2) (by omega); have k1 := S3.out.fa (i * 2 + 1) (by omega); have k2 := S3.out.fh i hlt; have z3 : u.heap.size < u3.heap.size := Nat.lt_of_lt_of_le z1 B3.out.size; have z4 : u2.heap.size < u3.heap.size := RS.out.lt; have z5 : u.heap.size + 1 < u3.heap.size := Nat.lt_of_lt_of_le z0 B3.out.size; have B2s : wr.heap.size ≤ u2.heap.size := B2.out.size; have q1 : ¬ (u2.heap.size = u.heap.size + 1) := (by omega); have q2 : ¬ (u2.heap.size = u.heap.size) := (by omega); clear hb))
      go_roundw
      case rel =>
       have hs : c.so t i = (al, ah) := E1.out
       have hM := HR.out.ltM
       refine ⟨i + 1, by omega, by go_num, S3.out.put hlt hs E2.out, fun j hj hj2 => ?_, ?_, rbel_put (by omega) (rbel_put (by omega) (rbel_put (by omega) (rbel_on B3.out HW.out)))⟩
       ·by_cases q : j = i
        ·subst q; rw [EA.out, EH.out]; exact HBB.out
        ·exact HO.out j (by omega) hj2
       ·refine PN.on ?_ HR.out
        exact rbel_put (by omega) (rbel_put (by omega) (rbel_put (by omega) (rbel_on B3.out HW.out)))
      case measure => simp [intOf]; omega
   ·have hl3 : ¬ ((i : Int) < (c.n : Int)) := by omega
    have e' : i = c.n := by omega
    have HE : Hid (i = c.n) := e'
    clear hS hok hN hw e'
    go_wp2
    exact bodyPost_ret (v := .tuple #[.slice (some ⟨u.heap.size + 1, 0, none⟩) c.n c.n, .slice (some ⟨u.heap.size, 0, none⟩) c.n c.n, .nilIface]) (by simp [results, Tryz.results180, go_sem, *]) rfl ⟨⟨0, Or.inr (Or.inr ⟨HB.out, fun j hj hj2 => HO.out j (by rw [HE.out]; exact hj) hj2, rfl⟩), Or.inl ⟨rfl, _, _, rfl, HE.out ▸ HS.out, by omega, by omega⟩⟩, HW.out⟩
end
end Go.Proofs.YtadkgnbagmnkkakGreatDoor
