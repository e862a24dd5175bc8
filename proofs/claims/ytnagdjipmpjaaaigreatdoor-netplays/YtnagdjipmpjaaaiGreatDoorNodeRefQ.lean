/- What the document's own node (package noonref2) answers of a letter: an answer of a node of which something was known, and nothing is in both. -/
import Derived.Test.YtnagdjipmpjaaaiGreatDoorNm25
namespace Go.Proofs.YtnagdjipmpjaaaiGreatDoor
open Go.ChangeShapes Go.WideShapes Go.ChangeAt Go.RowKit Go.Joins
set_option linter.unusedVariables false
set_option linter.unusedSimpArgs false

set_option maxRecDepth 100000 in
set_option maxHeartbeats 4000000 in
theorem rhear_clash (b : Nat) (c : Nd) (x_ y_ t1 t2 t3 t : Int) (u : World) (hR : RN u b c) (hI : c.I) (hb : ¬ c.bk t) (k : Nat) (ex : x_ = k) (hk : k < c.n) (hne : k ≠ c.id) (h0 : y_ = c.id) (a1 a2 : Int) (he : oE t1 t2 t3 t c.p = 0) (e1 : t3 - t = a1) (e2 : oH t1 t2 t c.p = a2) (hh : c.has k = true) (x y : Int) (hx : Hid ((a1 < c.alo k t ∧ x = c.alo k t) ∨ (c.alo k t ≤ a1 ∧ x = a1))) (hy : Hid ((c.ahi k t < a2 ∧ y = c.ahi k t) ∨ (a2 ≤ c.ahi k t ∧ y = a2))) (hc : y < x) :
    Calls Tryz.prog 32 #[.pointer (some ⟨b, 0, none⟩), .agg #[.int .i64 x_, .int .i64 y_, .bool true, .int .i64 t1, .int .i64 t2, .int .i64 t3], .int .i64 t] u fun o w' => o = .returned (.tuple #[.bool false, .int .i64 7]) ∧ Below u.heap.size u w' := by
  have HR : Hid (RN u b c) := hR
  have zb := hR.lt
  have c0 := hR.id
  have c1 := hR.n
  have HB : Hid (¬ c.bk t) := hb
  subst h0
  subst ex
  have d1 : ((k : Int) == (c.id : Int)) = false := by simp; omega
  have d2 : decide ((k : Int) < 0) = false := decide_eq_false (by omega)
  have d3 : decide ((c.n : Int) ≤ (k : Int)) = false := decide_eq_false (by omega)
  have c2 := hR.p
  have kk : k < 6 := by have := hI.n6; omega
  have hki : (k : Int) < 6 := by omega
  have hp := hI.p0
  have n6 := hI.n6
  have cO := fun w => roff_ok t1 t2 t3 t c.p w he
  rw [e1, e2] at cO
  clear he e1 e2
  have dc : decide (x ≤ y) = false := decide_eq_false (by omega)
  have cA := fun (w : World) (hw : Below u.heap.size u w) => rnaged b c k t w (RN.on hw HR.out) hI hb hh
  have cM := fun (w : World) => rmeet_any (c.alo k t) (c.ahi k t) a1 a2 x y w hx hy
  clear hR hI hb hx hy
  generalize c.alo k t = al at *
  generalize c.ahi k t = ah at *
  go_enter Tryz.func32, Tryz.ntmps32
  go_wp2_with (go_at_call 56; refine (rback_no b c t _ (RN.on (rbel_al (Below.refl _ _)) HR.out) HB.out).mono ?_; rintro o u1 ⟨rfl, hu⟩; rw [hu]; clear hu)
  go_quiet (fail)
  go_wp2
  have BW : Hid (Below u.heap.size u ((u.alloc (Obj.cells #[.int .i64 (k : Int), .int .i64 (c.id : Int), .bool true, .int .i64 t1, .int .i64 t2, .int .i64 t3] 98)).drewN nq)) := rbel_drn (rbel_al (Below.refl _ _))
  have RX : Hid (Row ((u.alloc (Obj.cells #[.int .i64 (k : Int), .int .i64 (c.id : Int), .bool true, .int .i64 t1, .int .i64 t2, .int .i64 t3] 98)).drewN nq) u.heap.size [.int .i64 (k : Int), .int .i64 (c.id : Int), .bool true, .int .i64 t1, .int .i64 t2, .int .i64 t3]) := Row.drn (Row.made rfl)
  clear c0 c1 c2
  generalize ((u.alloc (Obj.cells #[.int .i64 (k : Int), .int .i64 (c.id : Int), .bool true, .int .i64 t1, .int .i64 t2, .int .i64 t3] 98)).drewN nq) = W at *
  have HW : Hid (RN W b c) := RN.on BW.out HR.out
  have lx : u.heap.size < W.heap.size := RX.out.lt
  have lb : b < W.heap.size := by omega
  have x0 := RX.out.c 0 _ rfl
  have x3 := RX.out.c 3 _ rfl
  have x4 := RX.out.c 4 _ rfl
  have x5 := RX.out.c 5 _ rfl
  have c2 := HW.out.p
  have ne1 : ¬ (W.heap.size = u.heap.size) := by omega
  have ne2 : ¬ (u.heap.size = W.heap.size) := by omega
  have ne3 : ¬ (W.heap.size = b) := by omega
  have ne4 : ¬ (b = W.heap.size) := by omega
  go_region_held (fun w' => w'.cell? ⟨u.heap.size, 3, none⟩ = some (.int .i64 t1) ∧ w'.cell? ⟨u.heap.size, 4, none⟩ = some (.int .i64 t2) ∧ w'.cell? ⟨u.heap.size, 5, none⟩ = some (.int .i64 t3) ∧ w'.cell? ⟨b, 2, none⟩ = some (.int .i64 c.p)) (go_keep) (first
    | (go_at_call 57; refine (cO _).mono ?_; rintro o u1 ⟨rfl, hb⟩; first
      | (have RT1 : Hid (Row u1 W.heap.size [.int .i64 0, .int .i64 0]) := Row.on hb (Row.dr (Row.made (W := W) rfl)); have BX1 : Hid (Below u.heap.size u u1) := rbel_on hb (rbel_dr (rbel_al BW.out)); have RX1 : Hid (Row u1 u.heap.size [.int .i64 (k : Int), .int .i64 (c.id : Int), .bool true, .int .i64 t1, .int .i64 t2, .int .i64 t3]) := Row.on hb (Row.dr (Row.al RX.out)); have HN1 : Hid (RN u1 b c) := RN.on BX1.out HR.out; have j0 := RX1.out.c 0 _ rfl; have j3 := RX1.out.c 3 _ rfl; have j4 := RX1.out.c 4 _ rfl; have j5 := RX1.out.c 5 _ rfl; have j2 := HN1.out.p; have lx1 : u.heap.size < u1.heap.size := RX1.out.lt; clear hb; have t0 := RT1.out.c 0 _ rfl; have t1_ := RT1.out.c 1 _ rfl; have g0 := RT1.out.f 0 _ rfl; have g1 := RT1.out.f 1 _ rfl; have lt1 : W.heap.size < u1.heap.size := RT1.out.lt)
      | (have RT1 : Hid (Row u1 W.heap.size [.int .i64 0, .int .i64 0]) := Row.on hb (Row.made (W := W.drew) rfl); have BX1 : Hid (Below u.heap.size u u1) := rbel_on hb (rbel_al (rbel_dr BW.out)); have RX1 : Hid (Row u1 u.heap.size [.int .i64 (k : Int), .int .i64 (c.id : Int), .bool true, .int .i64 t1, .int .i64 t2, .int .i64 t3]) := Row.on hb (Row.al (Row.dr RX.out)); have HN1 : Hid (RN u1 b c) := RN.on BX1.out HR.out; have j0 := RX1.out.c 0 _ rfl; have j3 := RX1.out.c 3 _ rfl; have j4 := RX1.out.c 4 _ rfl; have j5 := RX1.out.c 5 _ rfl; have j2 := HN1.out.p; have lx1 : u.heap.size < u1.heap.size := RX1.out.lt; clear hb; have t0 := RT1.out.c 0 _ rfl; have t1_ := RT1.out.c 1 _ rfl; have g0 := RT1.out.f 0 _ rfl; have g1 := RT1.out.f 1 _ rfl; have lt1 : W.heap.size < u1.heap.size := RT1.out.lt)
      | (have BX1 : Hid (Below u.heap.size u u1) := rbel_on hb (rbel_dr BW.out); have RX1 : Hid (Row u1 u.heap.size [.int .i64 (k : Int), .int .i64 (c.id : Int), .bool true, .int .i64 t1, .int .i64 t2, .int .i64 t3]) := Row.on hb (Row.dr RX.out); have HN1 : Hid (RN u1 b c) := RN.on BX1.out HR.out; have j0 := RX1.out.c 0 _ rfl; have j3 := RX1.out.c 3 _ rfl; have j4 := RX1.out.c 4 _ rfl; have j5 := RX1.out.c 5 _ rfl; have j2 := HN1.out.p; have lx1 : u.heap.size < u1.heap.size := RX1.out.lt; clear hb)))
  all_goals
    first
      | (have q := RT1.out
         have RT : Hid (Row ((u1.setCell ⟨W.heap.size, 0, none⟩ (.int .i64 a1)).setCell ⟨W.heap.size, 1, none⟩ (.int .i64 a2)) W.heap.size [.int .i64 a1, .int .i64 a2]) := Row.put 1 (Row.put 0 q)
         have BXX : Hid (Below u.heap.size u ((u1.setCell ⟨W.heap.size, 0, none⟩ (.int .i64 a1)).setCell ⟨W.heap.size, 1, none⟩ (.int .i64 a2))) := rbel_put (by omega) (rbel_put (by omega) BX1.out)
         have RXX : Hid (Row ((u1.setCell ⟨W.heap.size, 0, none⟩ (.int .i64 a1)).setCell ⟨W.heap.size, 1, none⟩ (.int .i64 a2)) u.heap.size [.int .i64 (k : Int), .int .i64 (c.id : Int), .bool true, .int .i64 t1, .int .i64 t2, .int .i64 t3]) := Row.far (by omega) (Row.far (by omega) RX1.out)
         have sT : Hid (u.heap.size < W.heap.size) := lx
         clear q RT1 t0 t1_ g0 g1 j0 j3 j4 j5 j2 HN1 RX1 BX1 x0 x3 x4 x5 c2 HW RX BW ne1 ne2 ne3 ne4 lt1 lx1 lx lb
         generalize ((u1.setCell ⟨W.heap.size, 0, none⟩ (.int .i64 a1)).setCell ⟨W.heap.size, 1, none⟩ (.int .i64 a2)) = X at *
         generalize W.heap.size = T at *)
      | (have RT : Hid (Row (u1.alloc (Obj.cells #[.int .i64 a1, .int .i64 a2] 38)) u1.heap.size [.int .i64 a1, .int .i64 a2]) := Row.made rfl
         have BXX : Hid (Below u.heap.size u (u1.alloc (Obj.cells #[.int .i64 a1, .int .i64 a2] 38))) := rbel_al BX1.out
         have RXX : Hid (Row (u1.alloc (Obj.cells #[.int .i64 a1, .int .i64 a2] 38)) u.heap.size [.int .i64 (k : Int), .int .i64 (c.id : Int), .bool true, .int .i64 t1, .int .i64 t2, .int .i64 t3]) := Row.al RX1.out
         have sT : Hid (u.heap.size < u1.heap.size) := lx1
         clear j0 j3 j4 j5 j2 HN1 RX1 BX1 x0 x3 x4 x5 c2 HW RX BW ne1 ne2 ne3 ne4 lx1 lx lb
         generalize (u1.alloc (Obj.cells #[.int .i64 a1, .int .i64 a2] 38)) = X at *
         generalize u1.heap.size = T at *)
    have HX : Hid (RN X b c) := RN.on BXX.out HR.out
    have lb : b < X.heap.size := HX.out.lt
    have lT : T < X.heap.size := RT.out.lt
    have lL : u.heap.size < X.heap.size := RXX.out.lt
    have x0 := RXX.out.c 0 _ rfl
    have v4 := HX.out.has k kk
    rw [hh] at v4
    have v3 := HX.out.h
    have f3 := HX.out.fz 3
    go_wp2
    go_quiet (fail)
    go_wp2
    have HX0 : Hid (RN (X.drewN nq) b c) := RN.on (rbel_drn (Below.refl _ _)) HX.out
    have RT0 : Hid (Row (X.drewN nq) T [.int .i64 a1, .int .i64 a2]) := Row.drn RT.out
    have RL0 : Hid (Row (X.drewN nq) u.heap.size [.int .i64 (k : Int), .int .i64 (c.id : Int), .bool true, .int .i64 t1, .int .i64 t2, .int .i64 t3]) := Row.drn RXX.out
    have BX0 : Hid (Below u.heap.size u (X.drewN nq)) := rbel_drn BXX.out
    have sT' := sT.out
    clear HX RT RXX BXX x0 v4 lb lT lL v3 f3
    generalize X.drewN nq = X0 at *
    have lb : b < X0.heap.size := HX0.out.lt
    have lT : T < X0.heap.size := RT0.out.lt
    have lL : u.heap.size < X0.heap.size := RL0.out.lt
    have x0 := RL0.out.c 0 _ rfl
    have y0 := RT0.out.c 0 _ rfl
    have y1 := RT0.out.c 1 _ rfl
    have n1 : ¬ (X0.heap.size = T) := by omega
    have n2 : ¬ (X0.heap.size = u.heap.size) := by omega
    have n3 : ¬ (T = X0.heap.size) := by omega
    have n4 : ¬ (u.heap.size = X0.heap.size) := by omega
    go_region_held (fun w' => w'.cell? ⟨u.heap.size, 0, none⟩ = some (.int .i64 (k : Int)) ∧ w'.cell? ⟨T, 0, none⟩ = some (.int .i64 a1) ∧ w'.cell? ⟨T, 1, none⟩ = some (.int .i64 a2)) (go_keep) (first
      | (go_at_call 59; refine (cA _ (by first | exact rbel_dr BX0.out | exact rbel_dr (rbel_al BX0.out) | exact rbel_al (rbel_dr BX0.out))).mono ?_; rintro o u2 ⟨rfl, hb⟩; first
      | (have B2 : Hid (Below u.heap.size u u2) := rbel_on hb (rbel_dr (rbel_al BX0.out)); have RL2 : Hid (Row u2 u.heap.size [.int .i64 (k : Int), .int .i64 (c.id : Int), .bool true, .int .i64 t1, .int .i64 t2, .int .i64 t3]) := Row.on hb (Row.dr (Row.al RL0.out)); have RT2 : Hid (Row u2 T [.int .i64 a1, .int .i64 a2]) := Row.on hb (Row.dr (Row.al RT0.out)); have RQ2 : Hid (Row u2 X0.heap.size [.int .i64 0, .int .i64 0]) := Row.on hb (Row.dr (Row.made rfl)); have q20 := RQ2.out.c 0 _ rfl; have q21 := RQ2.out.c 1 _ rfl; have p20 := RQ2.out.f 0 _ rfl; have p21 := RQ2.out.f 1 _ rfl; have lq2 : X0.heap.size < u2.heap.size := RQ2.out.lt; have j20 := RL2.out.c 0 _ rfl; have k20 := RT2.out.c 0 _ rfl; have k21 := RT2.out.c 1 _ rfl; have ll2 : u.heap.size < u2.heap.size := RL2.out.lt; have lt2 : T < u2.heap.size := RT2.out.lt; clear hb)
      | (have B2 : Hid (Below u.heap.size u u2) := rbel_on hb (rbel_al (rbel_dr BX0.out)); have RL2 : Hid (Row u2 u.heap.size [.int .i64 (k : Int), .int .i64 (c.id : Int), .bool true, .int .i64 t1, .int .i64 t2, .int .i64 t3]) := Row.on hb (Row.al (Row.dr RL0.out)); have RT2 : Hid (Row u2 T [.int .i64 a1, .int .i64 a2]) := Row.on hb (Row.al (Row.dr RT0.out)); have RQ2 : Hid (Row u2 X0.heap.size [.int .i64 0, .int .i64 0]) := Row.on hb (Row.made rfl); have q20 := RQ2.out.c 0 _ rfl; have q21 := RQ2.out.c 1 _ rfl; have p20 := RQ2.out.f 0 _ rfl; have p21 := RQ2.out.f 1 _ rfl; have lq2 : X0.heap.size < u2.heap.size := RQ2.out.lt; have j20 := RL2.out.c 0 _ rfl; have k20 := RT2.out.c 0 _ rfl; have k21 := RT2.out.c 1 _ rfl; have ll2 : u.heap.size < u2.heap.size := RL2.out.lt; have lt2 : T < u2.heap.size := RT2.out.lt; clear hb)
      | (have B2 : Hid (Below u.heap.size u u2) := rbel_on hb (rbel_dr BX0.out); have RL2 : Hid (Row u2 u.heap.size [.int .i64 (k : Int), .int .i64 (c.id : Int), .bool true, .int .i64 t1, .int .i64 t2, .int .i64 t3]) := Row.on hb (Row.dr RL0.out); have RT2 : Hid (Row u2 T [.int .i64 a1, .int .i64 a2]) := Row.on hb (Row.dr RT0.out); have j20 := RL2.out.c 0 _ rfl; have k20 := RT2.out.c 0 _ rfl; have k21 := RT2.out.c 1 _ rfl; have ll2 : u.heap.size < u2.heap.size := RL2.out.lt; have lt2 : T < u2.heap.size := RT2.out.lt; clear hb))
      | (go_at_call 58; refine (cM _).mono ?_; rintro o u3 ⟨rfl, hb⟩; have m1 : ¬ (u2.heap.size = T) := (by omega); have m2 : ¬ (u2.heap.size = u.heap.size) := (by omega); first
      | (have B3 : Hid (Below u.heap.size u u3) := rbel_on hb B2.out; have RL3 : Hid (Row u3 u.heap.size [.int .i64 (k : Int), .int .i64 (c.id : Int), .bool true, .int .i64 t1, .int .i64 t2, .int .i64 t3]) := Row.on hb (RL2.out); have RT3 : Hid (Row u3 T [.int .i64 a1, .int .i64 a2]) := Row.on hb (RT2.out); have RQ3 : Hid (Row u3 X0.heap.size [.int .i64 0, .int .i64 0]) := Row.on hb RQ2.out; have q30 := RQ3.out.c 0 _ rfl; have q31 := RQ3.out.c 1 _ rfl; have p30 := RQ3.out.f 0 _ rfl; have p31 := RQ3.out.f 1 _ rfl; have lq3 : X0.heap.size < u3.heap.size := RQ3.out.lt; have j30 := RL3.out.c 0 _ rfl; have k30 := RT3.out.c 0 _ rfl; have k31 := RT3.out.c 1 _ rfl; have ll3 : u.heap.size < u3.heap.size := RL3.out.lt; have lt3 : T < u3.heap.size := RT3.out.lt; clear hb)
      | (have B3 : Hid (Below u.heap.size u u3) := rbel_on hb (rbel_al B2.out); have RL3 : Hid (Row u3 u.heap.size [.int .i64 (k : Int), .int .i64 (c.id : Int), .bool true, .int .i64 t1, .int .i64 t2, .int .i64 t3]) := Row.on hb (Row.al RL2.out); have RT3 : Hid (Row u3 T [.int .i64 a1, .int .i64 a2]) := Row.on hb (Row.al RT2.out); have RQ3 : Hid (Row u3 u2.heap.size [.int .i64 0, .int .i64 0]) := Row.on hb (Row.made rfl); have q30 := RQ3.out.c 0 _ rfl; have q31 := RQ3.out.c 1 _ rfl; have p30 := RQ3.out.f 0 _ rfl; have p31 := RQ3.out.f 1 _ rfl; have lq3 : u2.heap.size < u3.heap.size := RQ3.out.lt; have j30 := RL3.out.c 0 _ rfl; have k30 := RT3.out.c 0 _ rfl; have k31 := RT3.out.c 1 _ rfl; have ll3 : u.heap.size < u3.heap.size := RL3.out.lt; have lt3 : T < u3.heap.size := RT3.out.lt; clear hb)
      | (have B3 : Hid (Below u.heap.size u u3) := rbel_on hb B2.out; have RL3 : Hid (Row u3 u.heap.size [.int .i64 (k : Int), .int .i64 (c.id : Int), .bool true, .int .i64 t1, .int .i64 t2, .int .i64 t3]) := Row.on hb (RL2.out); have RT3 : Hid (Row u3 T [.int .i64 a1, .int .i64 a2]) := Row.on hb (RT2.out); have j30 := RL3.out.c 0 _ rfl; have k30 := RT3.out.c 0 _ rfl; have k31 := RT3.out.c 1 _ rfl; have ll3 : u.heap.size < u3.heap.size := RL3.out.lt; have lt3 : T < u3.heap.size := RT3.out.lt; clear hb)))
    all_goals
      go_wp2
      go_ret2
      exact ⟨rfl, by first | exact rbel_al B3.out | exact rbel_put (by omega) (rbel_put (by omega) B3.out)⟩
end Go.Proofs.YtnagdjipmpjaaaiGreatDoor
