/- What the document's own node (package noonref2) answers of a letter: an answer that says nothing. -/
import Derived.Test.YtnagdjipmpjaaaiGreatDoorNm25
namespace Go.Proofs.YtnagdjipmpjaaaiGreatDoor
open Go.ChangeShapes Go.WideShapes Go.ChangeAt Go.RowKit Go.Joins
set_option linter.unusedVariables false
set_option linter.unusedSimpArgs false

set_option maxRecDepth 100000 in
set_option maxHeartbeats 4000000 in
theorem rhear_off (b : Nat) (c : Nd) (x y t1 t2 t3 t : Int) (u : World) (hR : RN u b c) (hI : c.I) (hb : ¬ c.bk t) (k : Nat) (ex : x = k) (hk : k < c.n) (hne : k ≠ c.id) (h0 : y = c.id) (e : Int) (he : oE t1 t2 t3 t c.p = e) (hz : e ≠ 0) :
    Calls Tryz.prog 32 #[.pointer (some ⟨b, 0, none⟩), .agg #[.int .i64 x, .int .i64 y, .bool true, .int .i64 t1, .int .i64 t2, .int .i64 t3], .int .i64 t] u fun o w' => o = .returned (.tuple #[.bool false, .int .i64 e]) ∧ Below u.heap.size u w' := by
  have HR : Hid (RN u b c) := hR
  have zb := hR.lt
  have c0 := hR.id
  have c1 := hR.n
  have HB : Hid (¬ c.bk t) := hb
  subst h0
  subst ex
  have d1 : ((k : Int) == (c.id : Int)) = false := by simp; omega
  have d2 : decide ((k : Int) < 0) = false := decide_eq_false (by omega)
  have d3 : decide ((c.n : Int) ≤ (k : Int)) = false := decide_eq_false (by omega)
  have c2 := hR.p
  have kk : k < 6 := by have := hI.n6; omega
  have hki : (k : Int) < 6 := by omega
  have hp := hI.p0
  have n6 := hI.n6
  have cO := fun w => roff_no t1 t2 t3 t c.p w (by rw [he]; exact hz)
  rw [he] at cO
  have z1 : (e != 0) = true := by simp [hz]
  have z2 : (e == 0) = false := by simp [hz]
  clear hR hI hb he hz
  go_enter Tryz.func32, Tryz.ntmps32
  go_wp2_with (go_at_call 56; refine (rback_no b c t _ (RN.on (rbel_al (Below.refl _ _)) HR.out) HB.out).mono ?_; rintro o u1 ⟨rfl, hu⟩; rw [hu]; clear hu)
  go_quiet (fail)
  go_wp2
  have BW : Hid (Below u.heap.size u ((u.alloc (Obj.cells #[.int .i64 (k : Int), .int .i64 (c.id : Int), .bool true, .int .i64 t1, .int .i64 t2, .int .i64 t3] 98)).drewN nq)) := rbel_drn (rbel_al (Below.refl _ _))
  have RX : Hid (Row ((u.alloc (Obj.cells #[.int .i64 (k : Int), .int .i64 (c.id : Int), .bool true, .int .i64 t1, .int .i64 t2, .int .i64 t3] 98)).drewN nq) u.heap.size [.int .i64 (k : Int), .int .i64 (c.id : Int), .bool true, .int .i64 t1, .int .i64 t2, .int .i64 t3]) := Row.drn (Row.made rfl)
  clear c0 c1 c2
  generalize ((u.alloc (Obj.cells #[.int .i64 (k : Int), .int .i64 (c.id : Int), .bool true, .int .i64 t1, .int .i64 t2, .int .i64 t3] 98)).drewN nq) = W at *
  have HW : Hid (RN W b c) := RN.on BW.out HR.out
  have lx : u.heap.size < W.heap.size := RX.out.lt
  have lb : b < W.heap.size := by omega
  have x0 := RX.out.c 0 _ rfl
  have x3 := RX.out.c 3 _ rfl
  have x4 := RX.out.c 4 _ rfl
  have x5 := RX.out.c 5 _ rfl
  have c2 := HW.out.p
  have ne1 : ¬ (W.heap.size = u.heap.size) := by omega
  have ne2 : ¬ (u.heap.size = W.heap.size) := by omega
  have ne3 : ¬ (W.heap.size = b) := by omega
  have ne4 : ¬ (b = W.heap.size) := by omega
  go_region_held (fun w' => w'.cell? ⟨u.heap.size, 3, none⟩ = some (.int .i64 t1) ∧ w'.cell? ⟨u.heap.size, 4, none⟩ = some (.int .i64 t2) ∧ w'.cell? ⟨u.heap.size, 5, none⟩ = some (.int .i64 t3) ∧ w'.cell? ⟨b, 2, none⟩ = some (.int .i64 c.p)) (go_keep) (first
    | (go_at_call 57; refine (cO _).mono ?_; rintro o u1 ⟨rfl, hb⟩; first
      | (have RT1 : Hid (Row u1 W.heap.size [.int .i64 0, .int .i64 0]) := Row.on hb (Row.dr (Row.made (W := W) rfl)); have BX1 : Hid (Below u.heap.size u u1) := rbel_on hb (rbel_dr (rbel_al BW.out)); have RX1 : Hid (Row u1 u.heap.size [.int .i64 (k : Int), .int .i64 (c.id : Int), .bool true, .int .i64 t1, .int .i64 t2, .int .i64 t3]) := Row.on hb (Row.dr (Row.al RX.out)); have HN1 : Hid (RN u1 b c) := RN.on BX1.out HR.out; have j0 := RX1.out.c 0 _ rfl; have j3 := RX1.out.c 3 _ rfl; have j4 := RX1.out.c 4 _ rfl; have j5 := RX1.out.c 5 _ rfl; have j2 := HN1.out.p; have lx1 : u.heap.size < u1.heap.size := RX1.out.lt; clear hb; have t0 := RT1.out.c 0 _ rfl; have t1_ := RT1.out.c 1 _ rfl; have g0 := RT1.out.f 0 _ rfl; have g1 := RT1.out.f 1 _ rfl; have lt1 : W.heap.size < u1.heap.size := RT1.out.lt)
      | (have RT1 : Hid (Row u1 W.heap.size [.int .i64 0, .int .i64 0]) := Row.on hb (Row.made (W := W.drew) rfl); have BX1 : Hid (Below u.heap.size u u1) := rbel_on hb (rbel_al (rbel_dr BW.out)); have RX1 : Hid (Row u1 u.heap.size [.int .i64 (k : Int), .int .i64 (c.id : Int), .bool true, .int .i64 t1, .int .i64 t2, .int .i64 t3]) := Row.on hb (Row.al (Row.dr RX.out)); have HN1 : Hid (RN u1 b c) := RN.on BX1.out HR.out; have j0 := RX1.out.c 0 _ rfl; have j3 := RX1.out.c 3 _ rfl; have j4 := RX1.out.c 4 _ rfl; have j5 := RX1.out.c 5 _ rfl; have j2 := HN1.out.p; have lx1 : u.heap.size < u1.heap.size := RX1.out.lt; clear hb; have t0 := RT1.out.c 0 _ rfl; have t1_ := RT1.out.c 1 _ rfl; have g0 := RT1.out.f 0 _ rfl; have g1 := RT1.out.f 1 _ rfl; have lt1 : W.heap.size < u1.heap.size := RT1.out.lt)
      | (have BX1 : Hid (Below u.heap.size u u1) := rbel_on hb (rbel_dr BW.out); have RX1 : Hid (Row u1 u.heap.size [.int .i64 (k : Int), .int .i64 (c.id : Int), .bool true, .int .i64 t1, .int .i64 t2, .int .i64 t3]) := Row.on hb (Row.dr RX.out); have HN1 : Hid (RN u1 b c) := RN.on BX1.out HR.out; have j0 := RX1.out.c 0 _ rfl; have j3 := RX1.out.c 3 _ rfl; have j4 := RX1.out.c 4 _ rfl; have j5 := RX1.out.c 5 _ rfl; have j2 := HN1.out.p; have lx1 : u.heap.size < u1.heap.size := RX1.out.lt; clear hb)))
  all_goals
    go_wp2
    go_ret2
    exact ⟨rfl, by first | exact rbel_al BX1.out | exact rbel_put (by omega) (rbel_put (by omega) BX1.out) | exact BX1.out⟩
end Go.Proofs.YtnagdjipmpjaaaiGreatDoor
