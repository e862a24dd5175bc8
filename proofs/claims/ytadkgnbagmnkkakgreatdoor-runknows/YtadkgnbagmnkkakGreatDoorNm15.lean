/- Package node, as it landed: Hear. Package node, as it landed: Spans. -/
import Derived.Test.YtadkgnbagmnkkakGreatDoorNm14
import Derived.Deep.RegionWith
import Derived.Deep.CutRange
import Derived.Deep.CutBlock
import Derived.Test.YtadkgnbagmnkkakGreatDoorNodeSt
import Derived.Test.YtadkgnbagmnkkakGreatDoorNm01
namespace Go.Proofs.YtadkgnbagmnkkakGreatDoor
open Go.ChangeShapes Go.WideShapes Go.ChangeAt Go.RowKit Go.Joins Go.Maps
set_option linter.unusedVariables false
set_option linter.unusedSimpArgs false

section
variable {u : World} {b M : Nat} {c : Nd}
set_option maxRecDepth 100000 in
set_option maxHeartbeats 8000000 in
theorem hear_bk (h : PN u b M c) (hI : c.I) (x y t1 t2 t3 t : Int) (a : Bool) (hb : c.bk t) :
  Calls Tryz.prog 148 #[.pointer (some ⟨b, 0, none⟩), .agg #[.int .i64 x, .int .i64 y, .bool a, .int .i64 t1, .int .i64 t2, .int .i64 t3], .int .i64 t] u fun o w' => o = .returned (.tuple #[.bool false, .iface 86 (.int .i64 8)]) ∧ Below u.heap.size u w' := by
 have HR : Hid (PN u b M c) := h
 have HI : Hid c.I := hI
 have zb := h.lt
 have c0 := h.r.c 0 _ rfl
 have c1 := h.r.c 1 _ rfl
 have HB : Hid (c.bk t) := hb
 clear h hI hb
 go_enter Tryz.func148, Tryz.ntmps148
 go_wp2_with (go_at_call 178; refine (chk_bk (PN.on (rbel_al (Below.refl _ _)) HR.out) HI.out t HB.out).mono ?_; rintro o u1 ⟨rfl, hu⟩; rw [hu]; clear hu)
 go_ret2
 exact ⟨rfl, rbel_al (Below.refl _ _)⟩
set_option maxRecDepth 100000 in
set_option maxHeartbeats 8000000 in
theorem hear_b1 (h : PN u b M c) (hI : c.I) (x y t1 t2 t3 t : Int) (a : Bool) (hb : ¬ c.bk t) (hx : y ≠ c.id) :
  Calls Tryz.prog 148 #[.pointer (some ⟨b, 0, none⟩), .agg #[.int .i64 x, .int .i64 y, .bool a, .int .i64 t1, .int .i64 t2, .int .i64 t3], .int .i64 t] u fun o w' => o = .returned (.tuple #[.bool false, .iface 86 (.int .i64 3)]) ∧ Below u.heap.size u w' := by
 have HR : Hid (PN u b M c) := h
 have HI : Hid c.I := hI
 have zb := h.lt
 have c0 := h.r.c 0 _ rfl
 have c1 := h.r.c 1 _ rfl
 have HB : Hid (¬ c.bk t) := hb
 clear h hI hb
 have d1 : (y == (c.id : Int)) = false := by simp; exact hx
 have d1n : (y != (c.id : Int)) = true := by simp; exact hx
 go_enter Tryz.func148, Tryz.ntmps148
 go_wp2_with (go_at_call 178; refine (chk_no (PN.on (rbel_al (Below.refl _ _)) HR.out) HI.out t HB.out).mono ?_; rintro o u1 ⟨rfl, hu⟩; rw [hu]; clear hu)
 go_quiet (fail)
 go_wp2
 go_ret2
 exact ⟨rfl, by first | exact rbel_drn (rbel_al (Below.refl _ _)) | exact rbel_al (Below.refl _ _)⟩
set_option maxRecDepth 100000 in
set_option maxHeartbeats 8000000 in
theorem hear_b2 (h : PN u b M c) (hI : c.I) (x y t1 t2 t3 t : Int) (a : Bool) (hb : ¬ c.bk t) (h0 : y = c.id) (hx : x = c.id) :
  Calls Tryz.prog 148 #[.pointer (some ⟨b, 0, none⟩), .agg #[.int .i64 x, .int .i64 y, .bool a, .int .i64 t1, .int .i64 t2, .int .i64 t3], .int .i64 t] u fun o w' => o = .returned (.tuple #[.bool false, .iface 86 (.int .i64 3)]) ∧ Below u.heap.size u w' := by
 have HR : Hid (PN u b M c) := h
 have HI : Hid c.I := hI
 have zb := h.lt
 have c0 := h.r.c 0 _ rfl
 have c1 := h.r.c 1 _ rfl
 have HB : Hid (¬ c.bk t) := hb
 clear h hI hb
 subst h0
 subst hx
 go_enter Tryz.func148, Tryz.ntmps148
 go_wp2_with (go_at_call 178; refine (chk_no (PN.on (rbel_al (Below.refl _ _)) HR.out) HI.out t HB.out).mono ?_; rintro o u1 ⟨rfl, hu⟩; rw [hu]; clear hu)
 go_quiet (fail)
 go_wp2
 go_ret2
 exact ⟨rfl, by first | exact rbel_drn (rbel_al (Below.refl _ _)) | exact rbel_al (Below.refl _ _)⟩
set_option maxRecDepth 100000 in
set_option maxHeartbeats 8000000 in
theorem hear_b3 (h : PN u b M c) (hI : c.I) (x y t1 t2 t3 t : Int) (a : Bool) (hb : ¬ c.bk t) (h0 : y = c.id) (h1 : x ≠ c.id) (hx : x < 0) :
  Calls Tryz.prog 148 #[.pointer (some ⟨b, 0, none⟩), .agg #[.int .i64 x, .int .i64 y, .bool a, .int .i64 t1, .int .i64 t2, .int .i64 t3], .int .i64 t] u fun o w' => o = .returned (.tuple #[.bool false, .iface 86 (.int .i64 3)]) ∧ Below u.heap.size u w' := by
 have HR : Hid (PN u b M c) := h
 have HI : Hid c.I := hI
 have zb := h.lt
 have c0 := h.r.c 0 _ rfl
 have c1 := h.r.c 1 _ rfl
 have HB : Hid (¬ c.bk t) := hb
 clear h hI hb
 subst h0
 have d1 : (x == (c.id : Int)) = false := by simp; exact h1
 have d2 : decide (x < 0) = true := decide_eq_true hx
 go_enter Tryz.func148, Tryz.ntmps148
 go_wp2_with (go_at_call 178; refine (chk_no (PN.on (rbel_al (Below.refl _ _)) HR.out) HI.out t HB.out).mono ?_; rintro o u1 ⟨rfl, hu⟩; rw [hu]; clear hu)
 go_quiet (fail)
 go_wp2
 go_ret2
 exact ⟨rfl, by first | exact rbel_drn (rbel_al (Below.refl _ _)) | exact rbel_al (Below.refl _ _)⟩
set_option maxRecDepth 100000 in
set_option maxHeartbeats 8000000 in
theorem hear_b4 (h : PN u b M c) (hI : c.I) (x y t1 t2 t3 t : Int) (a : Bool) (hb : ¬ c.bk t) (h0 : y = c.id) (h1 : x ≠ c.id) (h2 : ¬ x < 0) (hx : (c.n : Int) ≤ x) :
  Calls Tryz.prog 148 #[.pointer (some ⟨b, 0, none⟩), .agg #[.int .i64 x, .int .i64 y, .bool a, .int .i64 t1, .int .i64 t2, .int .i64 t3], .int .i64 t] u fun o w' => o = .returned (.tuple #[.bool false, .iface 86 (.int .i64 3)]) ∧ Below u.heap.size u w' := by
 have HR : Hid (PN u b M c) := h
 have HI : Hid c.I := hI
 have zb := h.lt
 have c0 := h.r.c 0 _ rfl
 have c1 := h.r.c 1 _ rfl
 have HB : Hid (¬ c.bk t) := hb
 clear h hI hb
 subst h0
 have d1 : (x == (c.id : Int)) = false := by simp; exact h1
 have d2 : decide (x < 0) = false := decide_eq_false h2
 have d3 : decide ((c.n : Int) ≤ x) = true := decide_eq_true hx
 go_enter Tryz.func148, Tryz.ntmps148
 go_wp2_with (go_at_call 178; refine (chk_no (PN.on (rbel_al (Below.refl _ _)) HR.out) HI.out t HB.out).mono ?_; rintro o u1 ⟨rfl, hu⟩; rw [hu]; clear hu)
 go_quiet (fail)
 go_wp2
 go_ret2
 exact ⟨rfl, by first | exact rbel_drn (rbel_al (Below.refl _ _)) | exact rbel_al (Below.refl _ _)⟩
set_option maxRecDepth 100000 in
set_option maxHeartbeats 8000000 in
theorem hear_ask (h : PN u b M c) (hI : c.I) (x y t1 t2 t3 t : Int) (hb : ¬ c.bk t) (k : Nat) (ex : x = k) (hk : k < c.n) (hne : k ≠ c.id) (h0 : y = c.id) :
  Calls Tryz.prog 148 #[.pointer (some ⟨b, 0, none⟩), .agg #[.int .i64 x, .int .i64 y, .bool false, .int .i64 t1, .int .i64 t2, .int .i64 t3], .int .i64 t] u fun o w' => o = .returned (.tuple #[.bool false, .nilIface]) ∧ PN w' b M { c with h := t } ∧ Keeps (Fn b M) u w' := by
 have HR : Hid (PN u b M c) := h
 have HI : Hid c.I := hI
 have zb := h.lt
 have c0 := h.r.c 0 _ rfl
 have c1 := h.r.c 1 _ rfl
 have HB : Hid (¬ c.bk t) := hb
 subst h0
 subst ex
 have d1 : ((k : Int) == (c.id : Int)) = false := by simp; omega
 have d2 : decide ((k : Int) < 0) = false := decide_eq_false (by omega)
 have d3 : decide ((c.n : Int) ≤ (k : Int)) = false := decide_eq_false (by omega)
 have HT : Hid (0 ≤ t) := by unfold Nd.bk at hb; show 0 ≤ t; omega
 have c3 := h.r.c 3 _ rfl
 have f3 := h.r.f 3 _ rfl
 have ne1 : ¬ (b = u.heap.size) := by omega
 have ne2 : ¬ (u.heap.size = b) := by omega
 clear h hI hb
 go_enter Tryz.func148, Tryz.ntmps148
 go_wp2_with (go_at_call 178; refine (chk_no (PN.on (rbel_al (Below.refl _ _)) HR.out) HI.out t HB.out).mono ?_; rintro o u1 ⟨rfl, hu⟩; rw [hu]; clear hu)
 go_quiet (fail)
 go_wp2
 go_ret2
 exact ⟨rfl, (PN.late (PN.on (rbel_drn (rbel_al (Below.refl _ _))) HR.out) HT.out).1, Keeps.put (S := Fn b M) (Or.inl rfl) (Keeps.of (rbel_drn (rbel_al (Below.refl _ _))))⟩
set_option maxRecDepth 100000 in
set_option maxHeartbeats 8000000 in
theorem hear_no (h : PN u b M c) (hI : c.I) (x y t1 t2 t3 t : Int) (hb : ¬ c.bk t) (k : Nat) (ex : x = k) (hk : k < c.n) (hne : k ≠ c.id) (h0 : y = c.id) (e : Int) (he : e ≠ 0) (cL : ∀ w : World, Below u.heap.size u w → Calls Tryz.prog 179 #[.pointer (some ⟨b, 0, none⟩), .agg #[.int .i64 x, .int .i64 y, .bool true, .int .i64 t1, .int .i64 t2, .int .i64 t3], .int .i64 t] w fun o w' => o = .returned (.iface 86 (.int .i64 e)) ∧ Below w.heap.size w w') :
  Calls Tryz.prog 148 #[.pointer (some ⟨b, 0, none⟩), .agg #[.int .i64 x, .int .i64 y, .bool true, .int .i64 t1, .int .i64 t2, .int .i64 t3], .int .i64 t] u fun o w' => o = .returned (.tuple #[.bool false, .iface 86 (.int .i64 e)]) ∧ Below u.heap.size u w' := by
 have HR : Hid (PN u b M c) := h
 have HI : Hid c.I := hI
 have zb := h.lt
 have c0 := h.r.c 0 _ rfl
 have c1 := h.r.c 1 _ rfl
 have HB : Hid (¬ c.bk t) := hb
 subst h0
 subst ex
 have d1 : ((k : Int) == (c.id : Int)) = false := by simp; omega
 have d2 : decide ((k : Int) < 0) = false := decide_eq_false (by omega)
 have d3 : decide ((c.n : Int) ≤ (k : Int)) = false := decide_eq_false (by omega)
 have HT : Hid (0 ≤ t) := by unfold Nd.bk at hb; show 0 ≤ t; omega
 clear h hI hb
 go_enter Tryz.func148, Tryz.ntmps148
 go_wp2_with (go_at_call 178; refine (chk_no (PN.on (rbel_al (Below.refl _ _)) HR.out) HI.out t HB.out).mono ?_; rintro o u1 ⟨rfl, hu⟩; rw [hu]; clear hu)
 go_quiet (fail)
 go_wp2_with (go_at_call 179; refine (cL _ (rbel_drn (rbel_al (Below.refl _ _)))).mono ?_; rintro o u2 ⟨rfl, hb⟩; have B2 : Hid (Below u.heap.size u u2) := rbel_on hb (rbel_drn (rbel_al (Below.refl _ _))); clear hb)
 go_ret2
 exact ⟨rfl, B2.out⟩
set_option maxRecDepth 100000 in
set_option maxHeartbeats 8000000 in
theorem hear_yes (h : PN u b M c) (hI : c.I) (x y t1 t2 t3 t : Int) (hb : ¬ c.bk t) (k : Nat) (ex : x = k) (hk : k < c.n) (hne : k ≠ c.id) (h0 : y = c.id) (c2 : Nd) (hid : c2.id = c.id) (cL : ∀ w : World, Below u.heap.size u w → Calls Tryz.prog 179 #[.pointer (some ⟨b, 0, none⟩), .agg #[.int .i64 x, .int .i64 y, .bool true, .int .i64 t1, .int .i64 t2, .int .i64 t3], .int .i64 t] w fun o w' => o = .returned .nilIface ∧ PN w' b M c2 ∧ Keeps (fun j => j = M) w w') :
  Calls Tryz.prog 148 #[.pointer (some ⟨b, 0, none⟩), .agg #[.int .i64 x, .int .i64 y, .bool true, .int .i64 t1, .int .i64 t2, .int .i64 t3], .int .i64 t] u fun o w' => o = .returned (.tuple #[.bool true, .nilIface]) ∧ PN w' b M { c2 with h := t } ∧ Keeps (Fn b M) u w' := by
 have HR : Hid (PN u b M c) := h
 have HI : Hid c.I := hI
 have zb := h.lt
 have c0 := h.r.c 0 _ rfl
 have c1 := h.r.c 1 _ rfl
 have HB : Hid (¬ c.bk t) := hb
 subst h0
 subst ex
 have d1 : ((k : Int) == (c.id : Int)) = false := by simp; omega
 have d2 : decide ((k : Int) < 0) = false := decide_eq_false (by omega)
 have d3 : decide ((c.n : Int) ≤ (k : Int)) = false := decide_eq_false (by omega)
 have HT : Hid (0 ≤ t) := by unfold Nd.bk at hb; show 0 ≤ t; omega
 have zM := h.ltM
 clear h hI hb hid
 go_enter Tryz.func148, Tryz.ntmps148
 go_wp2_with (go_at_call 178; refine (chk_no (PN.on (rbel_al (Below.refl _ _)) HR.out) HI.out t HB.out).mono ?_; rintro o u1 ⟨rfl, hu⟩; rw [hu]; clear hu)
 go_quiet (fail)
 go_wp2_with (go_at_call 179; refine (cL _ (rbel_drn (rbel_al (Below.refl _ _)))).mono ?_; rintro o u2 ⟨rfl, hP, hK⟩; have P2 : Hid (PN u2 b M c2) := hP; have R2 : Hid (Row u2 u.heap.size [.int .i64 (k : Int), .int .i64 (c.id : Int), .bool true, .int .i64 t1, .int .i64 t2, .int .i64 t3]) := Keeps.row hK (by show ¬ (u.heap.size = M); omega) (Row.drn (Row.made rfl)); have K2 : Hid (Keeps (Fn b M) u u2) := ⟨hK.os, hK.tape, hK.output, Nat.le_trans (by simp) hK.size, fun i hi hn => (hK.block i (Nat.lt_of_lt_of_le hi (by simp)) (fun e => hn (Or.inr e))).trans ((rbel_drn (rbel_al (Below.refl _ _)) : Below u.heap.size u ((u.alloc (Obj.cells #[.int .i64 (k : Int), .int .i64 (c.id : Int), .bool true, .int .i64 t1, .int .i64 t2, .int .i64 t3] 113)).drewN nq)).block i hi)⟩; have y3 := hP.r.c 3 _ rfl; have g3 := hP.r.f 3 _ rfl; have x2 := R2.out.c 2 _ rfl; have z1 := hP.lt; have z2 := R2.out.lt; have n1 : ¬ (b = u.heap.size) := (by omega); have n2 : ¬ (u.heap.size = b) := (by omega); clear hP hK)
 go_ret2
 exact ⟨rfl, (PN.late P2.out HT.out).1, Keeps.put (S := Fn b M) (Or.inl rfl) K2.out⟩
end
section
variable {u : World} {b M : Nat} {c : Nd}
set_option maxRecDepth 100000 in
set_option maxHeartbeats 4000000 in
theorem nspans_bk (h : PN u b M c) (hI : c.I) (t : Int) (hb : c.bk t) :
  Calls Tryz.prog 180 #[.pointer (some ⟨b, 0, none⟩), .int .i64 t] u fun o w' => o = .returned (.tuple #[.slice none 0 0, .slice none 0 0, .iface 86 (.int .i64 8)]) ∧ Below u.heap.size u w' := by
 have HR : Hid (PN u b M c) := h
 have HI : Hid c.I := hI
 have HB : Hid (c.bk t) := hb
 clear h hI hb
 go_enter Tryz.func180, Tryz.ntmps180
 go_wp2_with (go_at_call 178; refine (chk_bk HR.out HI.out t HB.out).mono ?_; rintro o u1 ⟨rfl, hu⟩; rw [hu]; clear hu)
 exact bodyPost_ret (v := .tuple #[.slice none 0 0, .slice none 0 0, .iface 86 (.int .i64 8)]) (by simp [results, Tryz.results180, go_sem, *]) rfl ⟨rfl, Below.refl _ _⟩
def SpA (u : World) (b M : Nat) (c : Nd) (t : Int) (o : Ending) (w' : World) : Prop := (∃ e, SpR c t e ∧ ((e = 0 ∧ ∃ s g : Nat, o = .returned (.tuple #[.slice (some ⟨s, 0, none⟩) c.n c.n, .slice (some ⟨g, 0, none⟩) c.n c.n, .nilIface]) ∧ StN w' s g c.n c t ∧ u.heap.size ≤ s ∧ u.heap.size ≤ g) ∨ (e ≠ 0 ∧ o = .returned (.tuple #[.slice none 0 0, .slice none 0 0, .iface 86 (.int .i64 e)])))) ∧ Below u.heap.size u w'
set_option maxRecDepth 100000 in
set_option maxHeartbeats 8000000 in
theorem nspans_go (h : PN u b M c) (hI : c.I) (t : Int) (hb : ¬ c.bk t) :
  Calls Tryz.prog 180 #[.pointer (some ⟨b, 0, none⟩), .int .i64 t] u fun o w' => SpA u b M c t o w' := by
 have HR : Hid (PN u b M c) := h
 have HB : Hid (¬ c.bk t) := hb
 have HI : Hid c.I := hI
 have h6 := hI.n6
 have hid := hI.idn
 have m1 := kmk_spans c.n h6
 have m2 := kmk_bools c.n h6
 have c0 := h.r.c 0 _ rfl
 have c1 := h.r.c 1 _ rfl
 have zb := h.lt
 have hid2 : (c.id : Int) < (c.n : Int) := by omega
 clear h hb hI
 go_enter Tryz.func180, Tryz.ntmps180
 go_wp2_with (go_at_call 178; refine (chk_no HR.out HI.out t HB.out).mono ?_; rintro o u1 ⟨rfl, hu⟩; rw [hu]; clear hu)
 go_region
 ·have a1 : Array.replicate (c.n * 2) (Value.int .i64 0) = (List.replicate (c.n * 2) (Value.int .i64 0)).toArray := by simp
  have a2 : Array.replicate c.n (Value.bool false) = (List.replicate c.n (Value.bool false)).toArray := by simp
  have ra : Hid (Row (((u.alloc (Obj.cells (Array.replicate (c.n * 2) (Value.int IntKind.i64 0)) 34)).alloc (Obj.cells (Array.replicate c.n (Value.bool false)) 4)).drew) (u.heap.size) (List.replicate (c.n * 2) (Value.int .i64 0))) := by show Row _ _ _; rw [a1, a2]; exact Row.dr (Row.al (Row.made rfl))
  have rb : Hid (Row (((u.alloc (Obj.cells (Array.replicate (c.n * 2) (Value.int IntKind.i64 0)) 34)).alloc (Obj.cells (Array.replicate c.n (Value.bool false)) 4)).drew) (u.heap.size + 1) (List.replicate c.n (Value.bool false))) := by show Row _ _ _; rw [a1, a2]; exact Row.dr (Row.made (by simp))
  have BW : Hid (Below u.heap.size u (((u.alloc (Obj.cells (Array.replicate (c.n * 2) (Value.int IntKind.i64 0)) 34)).alloc (Obj.cells (Array.replicate c.n (Value.bool false)) 4)).drew)) := rbel_dr (rbel_al (rbel_al (Below.refl _ _)))
  clear a1 a2 m1 m2
  generalize (((u.alloc (Obj.cells (Array.replicate (c.n * 2) (Value.int IntKind.i64 0)) 34)).alloc (Obj.cells (Array.replicate c.n (Value.bool false)) 4)).drew) = Z at *
  have HZ : Hid (PN Z b M c) := PN.on BW.out HR.out
  have y0 := HZ.out.r.c 0 _ rfl
  have y1 := HZ.out.r.c 1 _ rfl
  have q0 : Z.cell? ⟨u.heap.size + 1, c.id, none⟩ = some (.bool false) := rb.out.c _ _ (by rw [List.getElem?_replicate, if_pos hid])
  have q1 : Z.frozen? ⟨u.heap.size + 1, c.id, none⟩ = false := rb.out.f _ _ (by rw [List.getElem?_replicate, if_pos hid])
  have q2 : u.heap.size + 1 < Z.heap.size := World.block_lt_of_cell? _ _ q0
  have zb2 : b < Z.heap.size := HZ.out.lt
  have n1 : ¬ (u.heap.size + 1 = b) := by omega
  have n2 : ¬ (b = u.heap.size + 1) := by omega
  have S0 : Hid (StN (Z.setCell ⟨u.heap.size + 1, c.id, none⟩ (.bool true)) (u.heap.size) (u.heap.size + 1) 0 c t) := StN.start (Row.far (by omega) ra.out) (Row.put c.id rb.out) hid (by omega)
  have B0 : Hid (Below u.heap.size u (Z.setCell ⟨u.heap.size + 1, c.id, none⟩ (.bool true))) := rbel_put (by omega) BW.out
  go_wp2
  clear q0 q1 q2 y0 y1 c0 c1 ra rb BW HZ n1 n2 zb2
  generalize (Z.setCell ⟨u.heap.size + 1, c.id, none⟩ (.bool true)) = Y at *
  go_loopw [42] (fun vi wr => ∃ i : Nat, i ≤ c.n ∧ vi = .int .i64 i ∧ StN wr (u.heap.size) (u.heap.size + 1) i c t ∧ (∀ j, j < i → c.has j = true → okB (c.alo j t) (c.ahi j t) = true) ∧ PN wr b M c ∧ Below u.heap.size u wr) (fun vi _ => c.n - (intOf vi).toNat)
  case atStart => exact ⟨0, Nat.zero_le _, rfl, S0.out, fun j hj => by omega, PN.on B0.out HR.out, B0.out⟩
  case round =>
   clear S0 B0
   obtain ⟨i, hi, rfl, hS, hok, hN, hw⟩ := hrel
   have HS : Hid (StN wr (u.heap.size) (u.heap.size + 1) i c t) := hS
   have HO : Hid (∀ j, j < i → c.has j = true → okB (c.alo j t) (c.ahi j t) = true) := hok
   have HN : Hid (PN wr b M c) := hN
   have HW : Hid (Below u.heap.size u wr) := hw
   have c4 := hN.r.c 4 _ rfl
   have zb2 := hN.lt
   have z1 : u.heap.size + 1 < wr.heap.size := World.block_lt_of_cell? _ _ (hS.h 0 (by omega))
   have z0 : u.heap.size < wr.heap.size := World.block_lt_of_cell? _ _ (hS.a 0 (by omega))
   by_cases hlt : i < c.n
   ·have hl3 : (i : Int) < (c.n : Int) := by omega
    have v4 := hN.look (i := i) (by omega)
    clear hS hok hN hw
    cases hh : c.has i with
    | false =>
     rw [hh] at v4
     go_wp2
     go_roundw
     case rel => exact ⟨i + 1, by omega, by go_num, StN.on (by omega) (rbel_al (Below.refl _ _)) (HS.out.skip hh), fun j hj hj2 => by
      by_cases q : j = i
      ·subst q; rw [hh] at hj2; cases hj2
      ·exact HO.out j (by omega) hj2, PN.on (rbel_al (Below.refl _ _)) HN.out, rbel_al HW.out⟩
     case measure => simp [intOf]; omega
    | true =>
     rw [hh] at v4
     have cA : Hid (∀ w, Below wr.heap.size wr w → Calls Tryz.prog 197 #[.pointer (some ⟨b, 0, none⟩), .agg #[.int .i64 (vL c i), .int .i64 (vH c i), .int .i64 (vA c i)], .int .i64 t] w fun o w' => o = .returned (.tuple #[.agg #[.int .i64 (c.alo i t), .int .i64 (c.ahi i t)], .nilIface]) ∧ Below w.heap.size w w') := fun w hw => wid_any HI.out HB.out hh w ((PN.on hw HN.out).r.c 2 _ rfl)
     have e1 : c.so t i = (c.alo i t, c.ahi i t) := by unfold Nd.so; rw [if_pos hh]
     have e2 : c.ho i = true := by unfold Nd.ho; rw [hh]; rfl
     have E1 : Hid (c.so t i = (c.alo i t, c.ahi i t)) := e1
     have E2 : Hid (c.ho i = true) := e2
     generalize vL c i = vl at *
     generalize vH c i = vh at *
     generalize vA c i = va at *
     cases hB : okB (c.alo i t) (c.ahi i t) with
     | false =>
      have cS := fun w => check_no (c.alo i t) (c.ahi i t) w hB
      have NO : Hid (SpR c t 1) := Or.inr (Or.inl ⟨HB.out, ⟨i, hlt, hh, hB⟩, rfl⟩)
      clear e1 e2 E1 E2 hB
      generalize c.alo i t = al at *
      generalize c.ahi i t = ah at *
      go_wp2_with (first
       | (go_at_call 197; refine (cA.out _ (rbel_al (Below.refl _ _))).mono ?_; rintro o u2 ⟨rfl, hb⟩; have B2 : Hid (Below u.heap.size u u2) := rbel_on hb (rbel_al HW.out); clear hb)
       | (go_at_call 32; refine (cS _).mono ?_; rintro o u3 ⟨rfl, hb⟩; have B3 : Hid (Below u.heap.size u u3) := rbel_on hb (rbel_al B2.out); clear hb))
      exact bodyPost_ret (v := .tuple #[.slice none 0 0, .slice none 0 0, .iface 86 (.int .i64 1)]) (by simp [results, Tryz.results180, go_sem, *]) rfl ⟨⟨1, NO.out, Or.inr ⟨by decide, rfl⟩⟩, B3.out⟩
     | true =>
      have cS := fun w => check_ok (c.alo i t) (c.ahi i t) w hB
      have HBB : Hid (okB (c.alo i t) (c.ahi i t) = true) := hB
      clear e1 e2 hB
      generalize ea : c.alo i t = al at *
      generalize eh : c.ahi i t = ah at *
      have EA : Hid (c.alo i t = al) := ea
      have EH : Hid (c.ahi i t = ah) := eh
      clear ea eh
      go_wp2_with (first
       | (go_at_call 197; refine (cA.out _ (rbel_al (Below.refl _ _))).mono ?_; rintro o u2 ⟨rfl, hb⟩; have B2 : Hid (Below wr.heap.size wr u2) := rbel_on hb (rbel_al (Below.refl _ _)); clear hb)
       | (go_at_call 32; refine (cS _).mono ?_; rintro o u3 ⟨rfl, hb⟩; have B3 : Hid (Below wr.heap.size wr u3) := rbel_on hb (rbel_al B2.out); have RS : Hid (Row u3 u2.heap.size [.int .i64 al, .int .i64 ah]) := Row.on hb (Row.made rfl); have S3 : Hid (StN u3 (u.heap.size) (u.heap.size + 1) i c t) := HS.out.on (by omega) B3.out; have N3 : Hid (PN u3 b M c) := PN.on B3.out HN.out; have r0 := RS.out.c 0 _ rfl; have r1 := RS.out.c 1 _ rfl; have g0 := S3.out.a i hlt; have g1 := S3.out.b i hlt; have g2 := S3.out.h i hlt; have k0 := S3.out.fa (i * 2) (by omega); have k1 := S3.out.fa (i * 2 + 1) (by omega); have k2 := S3.out.fh i hlt; have z3 : u.heap.size + 1 < u3.heap.size := Nat.lt_of_lt_of_le z1 B3.out.size; have z4 : u2.heap.size < u3.heap.size := RS.out.lt; have z5 : u.heap.size < u3.heap.size := Nat.lt_of_lt_of_le z0 B3.out.size; have B2s : wr.heap.size ≤ u2.heap.size := B2.out.size; have q1 : ¬ (u2.heap.size = u.heap.size) := (by omega); have q2 : ¬ (u2.heap.size = u.heap.size + 1) := (by omega); clear hb))
      go_roundw
      case rel =>
       have hs : c.so t i = (al, ah) := E1.out
       have hM := HR.out.ltM
       refine ⟨i + 1, by omega, by go_num, S3.out.put hlt hs E2.out, fun j hj hj2 => ?_, ?_, rbel_put (by omega) (rbel_put (by omega) (rbel_put (by omega) (rbel_on B3.out HW.out)))⟩
       ·by_cases q : j = i
        ·subst q; rw [EA.out, EH.out]; exact HBB.out
        ·exact HO.out j (by omega) hj2
       ·refine PN.on ?_ HR.out
        exact rbel_put (by omega) (rbel_put (by omega) (rbel_put (by omega) (rbel_on B3.out HW.out)))
      case measure => simp [intOf]; omega
   ·have hl3 : ¬ ((i : Int) < (c.n : Int)) := by omega
    have e' : i = c.n := by omega
    have HE : Hid (i = c.n) := e'
    clear hS hok hN hw e'
    go_wp2
    exact bodyPost_ret (v := .tuple #[.slice (some ⟨u.heap.size, 0, none⟩) c.n c.n, .slice (some ⟨u.heap.size + 1, 0, none⟩) c.n c.n, .nilIface]) (by simp [results, Tryz.results180, go_sem, *]) rfl ⟨⟨0, Or.inr (Or.inr ⟨HB.out, fun j hj hj2 => HO.out j (by rw [HE.out]; exact hj) hj2, rfl⟩), Or.inl ⟨rfl, _, _, rfl, HE.out ▸ HS.out, by omega, by omega⟩⟩, HW.out⟩
 ·have a1 : Array.replicate (c.n * 2) (Value.int .i64 0) = (List.replicate (c.n * 2) (Value.int .i64 0)).toArray := by simp
  have a2 : Array.replicate c.n (Value.bool false) = (List.replicate c.n (Value.bool false)).toArray := by simp
  have ra : Hid (Row (((u.alloc (Obj.cells (Array.replicate c.n (Value.bool false)) 4)).alloc (Obj.cells (Array.replicate (c.n * 2) (Value.int IntKind.i64 0)) 34)).drew) (u.heap.size + 1) (List.replicate (c.n * 2) (Value.int .i64 0))) := by show Row _ _ _; rw [a1, a2]; exact Row.dr (Row.made (by simp))
  have rb : Hid (Row (((u.alloc (Obj.cells (Array.replicate c.n (Value.bool false)) 4)).alloc (Obj.cells (Array.replicate (c.n * 2) (Value.int IntKind.i64 0)) 34)).drew) (u.heap.size) (List.replicate c.n (Value.bool false))) := by show Row _ _ _; rw [a1, a2]; exact Row.dr (Row.al (Row.made rfl))
  have BW : Hid (Below u.heap.size u (((u.alloc (Obj.cells (Array.replicate c.n (Value.bool false)) 4)).alloc (Obj.cells (Array.replicate (c.n * 2) (Value.int IntKind.i64 0)) 34)).drew)) := rbel_dr (rbel_al (rbel_al (Below.refl _ _)))
  clear a1 a2 m1 m2
  generalize (((u.alloc (Obj.cells (Array.replicate c.n (Value.bool false)) 4)).alloc (Obj.cells (Array.replicate (c.n * 2) (Value.int IntKind.i64 0)) 34)).drew) = Z at *
  have HZ : Hid (PN Z b M c) := PN.on BW.out HR.out
  have y0 := HZ.out.r.c 0 _ rfl
  have y1 := HZ.out.r.c 1 _ rfl
  have q0 : Z.cell? ⟨u.heap.size, c.id, none⟩ = some (.bool false) := rb.out.c _ _ (by rw [List.getElem?_replicate, if_pos hid])
  have q1 : Z.frozen? ⟨u.heap.size, c.id, none⟩ = false := rb.out.f _ _ (by rw [List.getElem?_replicate, if_pos hid])
  have q2 : u.heap.size < Z.heap.size := World.block_lt_of_cell? _ _ q0
  have zb2 : b < Z.heap.size := HZ.out.lt
  have n1 : ¬ (u.heap.size = b) := by omega
  have n2 : ¬ (b = u.heap.size) := by omega
  have S0 : Hid (StN (Z.setCell ⟨u.heap.size, c.id, none⟩ (.bool true)) (u.heap.size + 1) (u.heap.size) 0 c t) := StN.start (Row.far (by omega) ra.out) (Row.put c.id rb.out) hid (by omega)
  have B0 : Hid (Below u.heap.size u (Z.setCell ⟨u.heap.size, c.id, none⟩ (.bool true))) := rbel_put (by omega) BW.out
  go_wp2
  clear q0 q1 q2 y0 y1 c0 c1 ra rb BW HZ n1 n2 zb2
  generalize (Z.setCell ⟨u.heap.size, c.id, none⟩ (.bool true)) = Y at *
  go_loopw [42] (fun vi wr => ∃ i : Nat, i ≤ c.n ∧ vi = .int .i64 i ∧ StN wr (u.heap.size + 1) (u.heap.size) i c t ∧ (∀ j, j < i → c.has j = true → okB (c.alo j t) (c.ahi j t) = true) ∧ PN wr b M c ∧ Below u.heap.size u wr) (fun vi _ => c.n - (intOf vi).toNat)
  case atStart => exact ⟨0, Nat.zero_le _, rfl, S0.out, fun j hj => by omega, PN.on B0.out HR.out, B0.out⟩
  case round =>
   clear S0 B0
   obtain ⟨i, hi, rfl, hS, hok, hN, hw⟩ := hrel
   have HS : Hid (StN wr (u.heap.size + 1) (u.heap.size) i c t) := hS
   have HO : Hid (∀ j, j < i → c.has j = true → okB (c.alo j t) (c.ahi j t) = true) := hok
   have HN : Hid (PN wr b M c) := hN
   have HW : Hid (Below u.heap.size u wr) := hw
   have c4 := hN.r.c 4 _ rfl
   have zb2 := hN.lt
   have z1 : u.heap.size < wr.heap.size := World.block_lt_of_cell? _ _ (hS.h 0 (by omega))
   have z0 : u.heap.size + 1 < wr.heap.size := World.block_lt_of_cell? _ _ (hS.a 0 (by omega))
   by_cases hlt : i < c.n
   ·have hl3 : (i : Int) < (c.n : Int) := by omega
    have v4 := hN.look (i := i) (by omega)
    clear hS hok hN hw
    cases hh : c.has i with
    | false =>
     rw [hh] at v4
     go_wp2
     go_roundw
     case rel => exact ⟨i + 1, by omega, by go_num, StN.on (by omega) (rbel_al (Below.refl _ _)) (HS.out.skip hh), fun j hj hj2 => by
      by_cases q : j = i
      ·subst q; rw [hh] at hj2; cases hj2
      ·exact HO.out j (by omega) hj2, PN.on (rbel_al (Below.refl _ _)) HN.out, rbel_al HW.out⟩
     case measure => simp [intOf]; omega
    | true =>
     rw [hh] at v4
     have cA : Hid (∀ w, Below wr.heap.size wr w → Calls Tryz.prog 197 #[.pointer (some ⟨b, 0, none⟩), .agg #[.int .i64 (vL c i), .int .i64 (vH c i), .int .i64 (vA c i)], .int .i64 t] w fun o w' => o = .returned (.tuple #[.agg #[.int .i64 (c.alo i t), .int .i64 (c.ahi i t)], .nilIface]) ∧ Below w.heap.size w w') := fun w hw => wid_any HI.out HB.out hh w ((PN.on hw HN.out).r.c 2 _ rfl)
     have e1 : c.so t i = (c.alo i t, c.ahi i t) := by unfold Nd.so; rw [if_pos hh]
     have e2 : c.ho i = true := by unfold Nd.ho; rw [hh]; rfl
     have E1 : Hid (c.so t i = (c.alo i t, c.ahi i t)) := e1
     have E2 : Hid (c.ho i = true) := e2
     generalize vL c i = vl at *
     generalize vH c i = vh at *
     generalize vA c i = va at *
     cases hB : okB (c.alo i t) (c.ahi i t) with
     | false =>
      have cS := fun w => check_no (c.alo i t) (c.ahi i t) w hB
      have NO : Hid (SpR c t 1) := Or.inr (Or.inl ⟨HB.out, ⟨i, hlt, hh, hB⟩, rfl⟩)
      clear e1 e2 E1 E2 hB
      generalize c.alo i t = al at *
      generalize c.ahi i t = ah at *
      go_wp2_with (first
       | (go_at_call 197; refine (cA.out _ (rbel_al (Below.refl _ _))).mono ?_; rintro o u2 ⟨rfl, hb⟩; have B2 : Hid (Below u.heap.size u u2) := rbel_on hb (rbel_al HW.out); clear hb)
       | (go_at_call 32; refine (cS _).mono ?_; rintro o u3 ⟨rfl, hb⟩; have B3 : Hid (Below u.heap.size u u3) := rbel_on hb (rbel_al B2.out); clear hb))
      exact bodyPost_ret (v := .tuple #[.slice none 0 0, .slice none 0 0, .iface 86 (.int .i64 1)]) (by simp [results, Tryz.results180, go_sem, *]) rfl ⟨⟨1, NO.out, Or.inr ⟨by decide, rfl⟩⟩, B3.out⟩
     | true =>
      have cS := fun w => check_ok (c.alo i t) (c.ahi i t) w hB
      have HBB : Hid (okB (c.alo i t) (c.ahi i t) = true) := hB
      clear e1 e2 hB
      generalize ea : c.alo i t = al at *
      generalize eh : c.ahi i t = ah at *
      have EA : Hid (c.alo i t = al) := ea
      have EH : Hid (c.ahi i t = ah) := eh
      clear ea eh
      go_wp2_with (first
       | (go_at_call 197; refine (cA.out _ (rbel_al (Below.refl _ _))).mono ?_; rintro o u2 ⟨rfl, hb⟩; have B2 : Hid (Below wr.heap.size wr u2) := rbel_on hb (rbel_al (Below.refl _ _)); clear hb)
       | (go_at_call 32; refine (cS _).mono ?_; rintro o u3 ⟨rfl, hb⟩; have B3 : Hid (Below wr.heap.size wr u3) := rbel_on hb (rbel_al B2.out); have RS : Hid (Row u3 u2.heap.size [.int .i64 al, .int .i64 ah]) := Row.on hb (Row.made rfl); have S3 : Hid (StN u3 (u.heap.size + 1) (u.heap.size) i c t) := HS.out.on (by omega) B3.out; have N3 : Hid (PN u3 b M c) := PN.on B3.out HN.out; have r0 := RS.out.c 0 _ rfl; have r1 := RS.out.c 1 _ rfl; have g0 := S3.out.a i hlt; have g1 := S3.out.b i hlt; have g2 := S3.out.h i hlt; have k0 := S3.out.fa (i * 2) (by omega); have k1 := S3.out.fa (i * 2 + 1) (by omega); have k2 := S3.out.fh i hlt; have z3 : u.heap.size < u3.heap.size := Nat.lt_of_lt_of_le z1 B3.out.size; have z4 : u2.heap.size < u3.heap.size := RS.out.lt; have z5 : u.heap.size + 1 < u3.heap.size := Nat.lt_of_lt_of_le z0 B3.out.size; have B2s : wr.heap.size ≤ u2.heap.size := B2.out.size; have q1 : ¬ (u2.heap.size = u.heap.size + 1) := (by omega); have q2 : ¬ (u2.heap.size = u.heap.size) := (by omega); clear hb))
      go_roundw
      case rel =>
       have hs : c.so t i = (al, ah) := E1.out
       have hM := HR.out.ltM
       refine ⟨i + 1, by omega, by go_num, S3.out.put hlt hs E2.out, fun j hj hj2 => ?_, ?_, rbel_put (by omega) (rbel_put (by omega) (rbel_put (by omega) (rbel_on B3.out HW.out)))⟩
       ·by_cases q : j = i
        ·subst q; rw [EA.out, EH.out]; exact HBB.out
        ·exact HO.out j (by omega) hj2
       ·refine PN.on ?_ HR.out
        exact rbel_put (by omega) (rbel_put (by omega) (rbel_put (by omega) (rbel_on B3.out HW.out)))
      case measure => simp [intOf]; omega
   ·have hl3 : ¬ ((i : Int) < (c.n : Int)) := by omega
    have e' : i = c.n := by omega
    have HE : Hid (i = c.n) := e'
    clear hS hok hN hw e'
    go_wp2
    exact bodyPost_ret (v := .tuple #[.slice (some ⟨u.heap.size + 1, 0, none⟩) c.n c.n, .slice (some ⟨u.heap.size, 0, none⟩) c.n c.n, .nilIface]) (by simp [results, Tryz.results180, go_sem, *]) rfl ⟨⟨0, Or.inr (Or.inr ⟨HB.out, fun j hj hj2 => HO.out j (by rw [HE.out]; exact hj) hj2, rfl⟩), Or.inl ⟨rfl, _, _, rfl, HE.out ▸ HS.out, by omega, by omega⟩⟩, HW.out⟩
end
end Go.Proofs.YtadkgnbagmnkkakGreatDoor
