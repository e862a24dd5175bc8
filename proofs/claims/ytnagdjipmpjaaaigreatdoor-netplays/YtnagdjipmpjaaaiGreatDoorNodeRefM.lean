/- What the document's own node (package noonref2) answers of a letter: an answer of a node of which something was known. -/
import Derived.Test.YtnagdjipmpjaaaiGreatDoorNm25
namespace Go.Proofs.YtnagdjipmpjaaaiGreatDoor
open Go.ChangeShapes Go.WideShapes Go.ChangeAt Go.RowKit Go.Joins
set_option linter.unusedVariables false
set_option linter.unusedSimpArgs false

set_option maxRecDepth 100000 in
set_option maxHeartbeats 4000000 in
theorem rhear_meet (b : Nat) (c : Nd) (x_ y_ t1 t2 t3 t : Int) (u : World) (hR : RN u b c) (hI : c.I) (hb : ¬ c.bk t) (k : Nat) (ex : x_ = k) (hk : k < c.n) (hne : k ≠ c.id) (h0 : y_ = c.id) (a1 a2 : Int) (he : oE t1 t2 t3 t c.p = 0) (e1 : t3 - t = a1) (e2 : oH t1 t2 t c.p = a2) (hh : c.has k = true) (x y : Int) (hx : Hid ((a1 < c.alo k t ∧ x = c.alo k t) ∨ (c.alo k t ≤ a1 ∧ x = a1))) (hy : Hid ((c.ahi k t < a2 ∧ y = c.ahi k t) ∨ (a2 ≤ c.ahi k t ∧ y = a2))) (hc : x ≤ y) :
    Calls Tryz.prog 32 #[.pointer (some ⟨b, 0, none⟩), .agg #[.int .i64 x_, .int .i64 y_, .bool true, .int .i64 t1, .int .i64 t2, .int .i64 t3], .int .i64 t] u fun o w' => o = .returned (.tuple #[.bool true, .int .i64 0]) ∧ RN w' b (c.kept k t x y) ∧ Keeps (fun i => i = b) u w' := by
  have HR : Hid (RN u b c) := hR
  have zb := hR.lt
  have c0 := hR.id
  have c1 := hR.n
  have HB : Hid (¬ c.bk t) := hb
  subst h0
  subst ex
  have d1 : ((k : Int) == (c.id : Int)) = false := by simp; omega
  have d2 : decide ((k : Int) < 0) = false := decide_eq_false (by omega)
  have d3 : decide ((c.n : Int) ≤ (k : Int)) = false := decide_eq_false (by omega)
  have c2 := hR.p
  have kk : k < 6 := by have := hI.n6; omega
  have hki : (k : Int) < 6 := by omega
  have hp := hI.p0
  have n6 := hI.n6
  have cO := fun w => roff_ok t1 t2 t3 t c.p w he
  rw [e1, e2] at cO
  clear he e1 e2
  have dc : decide (x ≤ y) = true := decide_eq_true hc
  have cA := fun (w : World) (hw : Below u.heap.size u w) => rnaged b c k t w (RN.on hw HR.out) hI hb hh
  have cM := fun (w : World) => rmeet_any (c.alo k t) (c.ahi k t) a1 a2 x y w hx hy
  clear hR hI hb hx hy
  generalize c.alo k t = al at *
  generalize c.ahi k t = ah at *
  go_enter Tryz.func32, Tryz.ntmps32
  go_wp2_with (go_at_call 56; refine (rback_no b c t _ (RN.on (rbel_al (Below.refl _ _)) HR.out) HB.out).mono ?_; rintro o u1 ⟨rfl, hu⟩; rw [hu]; clear hu)
  go_quiet (fail)
  go_wp2
  have BW : Hid (Below u.heap.size u ((u.alloc (Obj.cells #[.int .i64 (k : Int), .int .i64 (c.id : Int), .bool true, .int .i64 t1, .int .i64 t2, .int .i64 t3] 98)).drewN nq)) := rbel_drn (rbel_al (Below.refl _ _))
  have RX : Hid (Row ((u.alloc (Obj.cells #[.int .i64 (k : Int), .int .i64 (c.id : Int), .bool true, .int .i64 t1, .int .i64 t2, .int .i64 t3] 98)).drewN nq) u.heap.size [.int .i64 (k : Int), .int .i64 (c.id : Int), .bool true, .int .i64 t1, .int .i64 t2, .int .i64 t3]) := Row.drn (Row.made rfl)
  clear c0 c1 c2
  generalize ((u.alloc (Obj.cells #[.int .i64 (k : Int), .int .i64 (c.id : Int), .bool true, .int .i64 t1, .int .i64 t2, .int .i64 t3] 98)).drewN nq) = W at *
  have HW : Hid (RN W b c) := RN.on BW.out HR.out
  have lx : u.heap.size < W.heap.size := RX.out.lt
  have lb : b < W.heap.size := by omega
  have x0 := RX.out.c 0 _ rfl
  have x3 := RX.out.c 3 _ rfl
  have x4 := RX.out.c 4 _ rfl
  have x5 := RX.out.c 5 _ rfl
  have c2 := HW.out.p
  have ne1 : ¬ (W.heap.size = u.heap.size) := by omega
  have ne2 : ¬ (u.heap.size = W.heap.size) := by omega
  have ne3 : ¬ (W.heap.size = b) := by omega
  have ne4 : ¬ (b = W.heap.size) := by omega
  go_region_held (fun w' => w'.cell? ⟨u.heap.size, 3, none⟩ = some (.int .i64 t1) ∧ w'.cell? ⟨u.heap.size, 4, none⟩ = some (.int .i64 t2) ∧ w'.cell? ⟨u.heap.size, 5, none⟩ = some (.int .i64 t3) ∧ w'.cell? ⟨b, 2, none⟩ = some (.int .i64 c.p)) (go_keep) (first
    | (go_at_call 57; refine (cO _).mono ?_; rintro o u1 ⟨rfl, hb⟩; first
      | (have RT1 : Hid (Row u1 W.heap.size [.int .i64 0, .int .i64 0]) := Row.on hb (Row.dr (Row.made (W := W) rfl)); have BX1 : Hid (Below u.heap.size u u1) := rbel_on hb (rbel_dr (rbel_al BW.out)); have RX1 : Hid (Row u1 u.heap.size [.int .i64 (k : Int), .int .i64 (c.id : Int), .bool true, .int .i64 t1, .int .i64 t2, .int .i64 t3]) := Row.on hb (Row.dr (Row.al RX.out)); have HN1 : Hid (RN u1 b c) := RN.on BX1.out HR.out; have j0 := RX1.out.c 0 _ rfl; have j3 := RX1.out.c 3 _ rfl; have j4 := RX1.out.c 4 _ rfl; have j5 := RX1.out.c 5 _ rfl; have j2 := HN1.out.p; have lx1 : u.heap.size < u1.heap.size := RX1.out.lt; clear hb; have t0 := RT1.out.c 0 _ rfl; have t1_ := RT1.out.c 1 _ rfl; have g0 := RT1.out.f 0 _ rfl; have g1 := RT1.out.f 1 _ rfl; have lt1 : W.heap.size < u1.heap.size := RT1.out.lt)
      | (have RT1 : Hid (Row u1 W.heap.size [.int .i64 0, .int .i64 0]) := Row.on hb (Row.made (W := W.drew) rfl); have BX1 : Hid (Below u.heap.size u u1) := rbel_on hb (rbel_al (rbel_dr BW.out)); have RX1 : Hid (Row u1 u.heap.size [.int .i64 (k : Int), .int .i64 (c.id : Int), .bool true, .int .i64 t1, .int .i64 t2, .int .i64 t3]) := Row.on hb (Row.al (Row.dr RX.out)); have HN1 : Hid (RN u1 b c) := RN.on BX1.out HR.out; have j0 := RX1.out.c 0 _ rfl; have j3 := RX1.out.c 3 _ rfl; have j4 := RX1.out.c 4 _ rfl; have j5 := RX1.out.c 5 _ rfl; have j2 := HN1.out.p; have lx1 : u.heap.size < u1.heap.size := RX1.out.lt; clear hb; have t0 := RT1.out.c 0 _ rfl; have t1_ := RT1.out.c 1 _ rfl; have g0 := RT1.out.f 0 _ rfl; have g1 := RT1.out.f 1 _ rfl; have lt1 : W.heap.size < u1.heap.size := RT1.out.lt)
      | (have BX1 : Hid (Below u.heap.size u u1) := rbel_on hb (rbel_dr BW.out); have RX1 : Hid (Row u1 u.heap.size [.int .i64 (k : Int), .int .i64 (c.id : Int), .bool true, .int .i64 t1, .int .i64 t2, .int .i64 t3]) := Row.on hb (Row.dr RX.out); have HN1 : Hid (RN u1 b c) := RN.on BX1.out HR.out; have j0 := RX1.out.c 0 _ rfl; have j3 := RX1.out.c 3 _ rfl; have j4 := RX1.out.c 4 _ rfl; have j5 := RX1.out.c 5 _ rfl; have j2 := HN1.out.p; have lx1 : u.heap.size < u1.heap.size := RX1.out.lt; clear hb)))
  all_goals
    first
      | (have q := RT1.out
         have RT : Hid (Row ((u1.setCell ⟨W.heap.size, 0, none⟩ (.int .i64 a1)).setCell ⟨W.heap.size, 1, none⟩ (.int .i64 a2)) W.heap.size [.int .i64 a1, .int .i64 a2]) := Row.put 1 (Row.put 0 q)
         have BXX : Hid (Below u.heap.size u ((u1.setCell ⟨W.heap.size, 0, none⟩ (.int .i64 a1)).setCell ⟨W.heap.size, 1, none⟩ (.int .i64 a2))) := rbel_put (by omega) (rbel_put (by omega) BX1.out)
         have RXX : Hid (Row ((u1.setCell ⟨W.heap.size, 0, none⟩ (.int .i64 a1)).setCell ⟨W.heap.size, 1, none⟩ (.int .i64 a2)) u.heap.size [.int .i64 (k : Int), .int .i64 (c.id : Int), .bool true, .int .i64 t1, .int .i64 t2, .int .i64 t3]) := Row.far (by omega) (Row.far (by omega) RX1.out)
         have sT : Hid (u.heap.size < W.heap.size) := lx
         clear q RT1 t0 t1_ g0 g1 j0 j3 j4 j5 j2 HN1 RX1 BX1 x0 x3 x4 x5 c2 HW RX BW ne1 ne2 ne3 ne4 lt1 lx1 lx lb
         generalize ((u1.setCell ⟨W.heap.size, 0, none⟩ (.int .i64 a1)).setCell ⟨W.heap.size, 1, none⟩ (.int .i64 a2)) = X at *
         generalize W.heap.size = T at *)
      | (have RT : Hid (Row (u1.alloc (Obj.cells #[.int .i64 a1, .int .i64 a2] 38)) u1.heap.size [.int .i64 a1, .int .i64 a2]) := Row.made rfl
         have BXX : Hid (Below u.heap.size u (u1.alloc (Obj.cells #[.int .i64 a1, .int .i64 a2] 38))) := rbel_al BX1.out
         have RXX : Hid (Row (u1.alloc (Obj.cells #[.int .i64 a1, .int .i64 a2] 38)) u.heap.size [.int .i64 (k : Int), .int .i64 (c.id : Int), .bool true, .int .i64 t1, .int .i64 t2, .int .i64 t3]) := Row.al RX1.out
         have sT : Hid (u.heap.size < u1.heap.size) := lx1
         clear j0 j3 j4 j5 j2 HN1 RX1 BX1 x0 x3 x4 x5 c2 HW RX BW ne1 ne2 ne3 ne4 lx1 lx lb
         generalize (u1.alloc (Obj.cells #[.int .i64 a1, .int .i64 a2] 38)) = X at *
         generalize u1.heap.size = T at *)
    have HX : Hid (RN X b c) := RN.on BXX.out HR.out
    have lb : b < X.heap.size := HX.out.lt
    have lT : T < X.heap.size := RT.out.lt
    have lL : u.heap.size < X.heap.size := RXX.out.lt
    have x0 := RXX.out.c 0 _ rfl
    have v4 := HX.out.has k kk
    rw [hh] at v4
    have v3 := HX.out.h
    have f3 := HX.out.fz 3
    go_wp2
    go_quiet (fail)
    go_wp2
    have HX0 : Hid (RN (X.drewN nq) b c) := RN.on (rbel_drn (Below.refl _ _)) HX.out
    have RT0 : Hid (Row (X.drewN nq) T [.int .i64 a1, .int .i64 a2]) := Row.drn RT.out
    have RL0 : Hid (Row (X.drewN nq) u.heap.size [.int .i64 (k : Int), .int .i64 (c.id : Int), .bool true, .int .i64 t1, .int .i64 t2, .int .i64 t3]) := Row.drn RXX.out
    have BX0 : Hid (Below u.heap.size u (X.drewN nq)) := rbel_drn BXX.out
    have sT' := sT.out
    clear HX RT RXX BXX x0 v4 lb lT lL v3 f3
    generalize X.drewN nq = X0 at *
    have lb : b < X0.heap.size := HX0.out.lt
    have lT : T < X0.heap.size := RT0.out.lt
    have lL : u.heap.size < X0.heap.size := RL0.out.lt
    have x0 := RL0.out.c 0 _ rfl
    have y0 := RT0.out.c 0 _ rfl
    have y1 := RT0.out.c 1 _ rfl
    have n1 : ¬ (X0.heap.size = T) := by omega
    have n2 : ¬ (X0.heap.size = u.heap.size) := by omega
    have n3 : ¬ (T = X0.heap.size) := by omega
    have n4 : ¬ (u.heap.size = X0.heap.size) := by omega
    go_region_held (fun w' => w'.cell? ⟨u.heap.size, 0, none⟩ = some (.int .i64 (k : Int)) ∧ w'.cell? ⟨T, 0, none⟩ = some (.int .i64 a1) ∧ w'.cell? ⟨T, 1, none⟩ = some (.int .i64 a2)) (go_keep) (first
      | (go_at_call 59; refine (cA _ (by first | exact rbel_dr BX0.out | exact rbel_dr (rbel_al BX0.out) | exact rbel_al (rbel_dr BX0.out))).mono ?_; rintro o u2 ⟨rfl, hb⟩; first
      | (have B2 : Hid (Below u.heap.size u u2) := rbel_on hb (rbel_dr (rbel_al BX0.out)); have RL2 : Hid (Row u2 u.heap.size [.int .i64 (k : Int), .int .i64 (c.id : Int), .bool true, .int .i64 t1, .int .i64 t2, .int .i64 t3]) := Row.on hb (Row.dr (Row.al RL0.out)); have RT2 : Hid (Row u2 T [.int .i64 a1, .int .i64 a2]) := Row.on hb (Row.dr (Row.al RT0.out)); have RQ2 : Hid (Row u2 X0.heap.size [.int .i64 0, .int .i64 0]) := Row.on hb (Row.dr (Row.made rfl)); have q20 := RQ2.out.c 0 _ rfl; have q21 := RQ2.out.c 1 _ rfl; have p20 := RQ2.out.f 0 _ rfl; have p21 := RQ2.out.f 1 _ rfl; have lq2 : X0.heap.size < u2.heap.size := RQ2.out.lt; have j20 := RL2.out.c 0 _ rfl; have k20 := RT2.out.c 0 _ rfl; have k21 := RT2.out.c 1 _ rfl; have ll2 : u.heap.size < u2.heap.size := RL2.out.lt; have lt2 : T < u2.heap.size := RT2.out.lt; clear hb)
      | (have B2 : Hid (Below u.heap.size u u2) := rbel_on hb (rbel_al (rbel_dr BX0.out)); have RL2 : Hid (Row u2 u.heap.size [.int .i64 (k : Int), .int .i64 (c.id : Int), .bool true, .int .i64 t1, .int .i64 t2, .int .i64 t3]) := Row.on hb (Row.al (Row.dr RL0.out)); have RT2 : Hid (Row u2 T [.int .i64 a1, .int .i64 a2]) := Row.on hb (Row.al (Row.dr RT0.out)); have RQ2 : Hid (Row u2 X0.heap.size [.int .i64 0, .int .i64 0]) := Row.on hb (Row.made rfl); have q20 := RQ2.out.c 0 _ rfl; have q21 := RQ2.out.c 1 _ rfl; have p20 := RQ2.out.f 0 _ rfl; have p21 := RQ2.out.f 1 _ rfl; have lq2 : X0.heap.size < u2.heap.size := RQ2.out.lt; have j20 := RL2.out.c 0 _ rfl; have k20 := RT2.out.c 0 _ rfl; have k21 := RT2.out.c 1 _ rfl; have ll2 : u.heap.size < u2.heap.size := RL2.out.lt; have lt2 : T < u2.heap.size := RT2.out.lt; clear hb)
      | (have B2 : Hid (Below u.heap.size u u2) := rbel_on hb (rbel_dr BX0.out); have RL2 : Hid (Row u2 u.heap.size [.int .i64 (k : Int), .int .i64 (c.id : Int), .bool true, .int .i64 t1, .int .i64 t2, .int .i64 t3]) := Row.on hb (Row.dr RL0.out); have RT2 : Hid (Row u2 T [.int .i64 a1, .int .i64 a2]) := Row.on hb (Row.dr RT0.out); have j20 := RL2.out.c 0 _ rfl; have k20 := RT2.out.c 0 _ rfl; have k21 := RT2.out.c 1 _ rfl; have ll2 : u.heap.size < u2.heap.size := RL2.out.lt; have lt2 : T < u2.heap.size := RT2.out.lt; clear hb))
      | (go_at_call 58; refine (cM _).mono ?_; rintro o u3 ⟨rfl, hb⟩; have m1 : ¬ (u2.heap.size = T) := (by omega); have m2 : ¬ (u2.heap.size = u.heap.size) := (by omega); first
      | (have B3 : Hid (Below u.heap.size u u3) := rbel_on hb B2.out; have RL3 : Hid (Row u3 u.heap.size [.int .i64 (k : Int), .int .i64 (c.id : Int), .bool true, .int .i64 t1, .int .i64 t2, .int .i64 t3]) := Row.on hb (RL2.out); have RT3 : Hid (Row u3 T [.int .i64 a1, .int .i64 a2]) := Row.on hb (RT2.out); have RQ3 : Hid (Row u3 X0.heap.size [.int .i64 0, .int .i64 0]) := Row.on hb RQ2.out; have q30 := RQ3.out.c 0 _ rfl; have q31 := RQ3.out.c 1 _ rfl; have p30 := RQ3.out.f 0 _ rfl; have p31 := RQ3.out.f 1 _ rfl; have lq3 : X0.heap.size < u3.heap.size := RQ3.out.lt; have j30 := RL3.out.c 0 _ rfl; have k30 := RT3.out.c 0 _ rfl; have k31 := RT3.out.c 1 _ rfl; have ll3 : u.heap.size < u3.heap.size := RL3.out.lt; have lt3 : T < u3.heap.size := RT3.out.lt; clear hb)
      | (have B3 : Hid (Below u.heap.size u u3) := rbel_on hb (rbel_al B2.out); have RL3 : Hid (Row u3 u.heap.size [.int .i64 (k : Int), .int .i64 (c.id : Int), .bool true, .int .i64 t1, .int .i64 t2, .int .i64 t3]) := Row.on hb (Row.al RL2.out); have RT3 : Hid (Row u3 T [.int .i64 a1, .int .i64 a2]) := Row.on hb (Row.al RT2.out); have RQ3 : Hid (Row u3 u2.heap.size [.int .i64 0, .int .i64 0]) := Row.on hb (Row.made rfl); have q30 := RQ3.out.c 0 _ rfl; have q31 := RQ3.out.c 1 _ rfl; have p30 := RQ3.out.f 0 _ rfl; have p31 := RQ3.out.f 1 _ rfl; have lq3 : u2.heap.size < u3.heap.size := RQ3.out.lt; have j30 := RL3.out.c 0 _ rfl; have k30 := RT3.out.c 0 _ rfl; have k31 := RT3.out.c 1 _ rfl; have ll3 : u.heap.size < u3.heap.size := RL3.out.lt; have lt3 : T < u3.heap.size := RT3.out.lt; clear hb)
      | (have B3 : Hid (Below u.heap.size u u3) := rbel_on hb B2.out; have RL3 : Hid (Row u3 u.heap.size [.int .i64 (k : Int), .int .i64 (c.id : Int), .bool true, .int .i64 t1, .int .i64 t2, .int .i64 t3]) := Row.on hb (RL2.out); have RT3 : Hid (Row u3 T [.int .i64 a1, .int .i64 a2]) := Row.on hb (RT2.out); have j30 := RL3.out.c 0 _ rfl; have k30 := RT3.out.c 0 _ rfl; have k31 := RT3.out.c 1 _ rfl; have ll3 : u.heap.size < u3.heap.size := RL3.out.lt; have lt3 : T < u3.heap.size := RT3.out.lt; clear hb)))
    all_goals
      first
        | (have q : Row u3 X0.heap.size [.int .i64 0, .int .i64 0] := RQ3.out
           have R11 : Hid (Row ((u3.setCell ⟨X0.heap.size, 0, none⟩ (.int .i64 x)).setCell ⟨X0.heap.size, 1, none⟩ (.int .i64 y)) X0.heap.size [.int .i64 x, .int .i64 y]) := Row.put 1 (Row.put 0 q)
           have RT4 : Hid (Row ((u3.setCell ⟨X0.heap.size, 0, none⟩ (.int .i64 x)).setCell ⟨X0.heap.size, 1, none⟩ (.int .i64 y)) T [.int .i64 a1, .int .i64 a2]) := Row.far (by omega) (Row.far (by omega) RT3.out)
           have RL4 : Hid (Row ((u3.setCell ⟨X0.heap.size, 0, none⟩ (.int .i64 x)).setCell ⟨X0.heap.size, 1, none⟩ (.int .i64 y)) u.heap.size [.int .i64 (k : Int), .int .i64 (c.id : Int), .bool true, .int .i64 t1, .int .i64 t2, .int .i64 t3]) := Row.far (by omega) (Row.far (by omega) RL3.out)
           have B4 : Hid (Below u.heap.size u ((u3.setCell ⟨X0.heap.size, 0, none⟩ (.int .i64 x)).setCell ⟨X0.heap.size, 1, none⟩ (.int .i64 y))) := rbel_put (by omega) (rbel_put (by omega) B3.out)
           have sQ : Hid (u.heap.size < X0.heap.size ∧ X0.heap.size ≠ T) := ⟨by omega, by omega⟩
           clear n1 n2 n3 n4 x0 y0 y1 lb lT lL HX0 RT0 RL0 BX0 B2 RL2 RT2 j20 k20 k21 ll2 lt2 j30 k30 k31 ll3 lt3 m1 m2 cA cM cO q
           generalize ((u3.setCell ⟨X0.heap.size, 0, none⟩ (.int .i64 x)).setCell ⟨X0.heap.size, 1, none⟩ (.int .i64 y)) = X4 at *
           generalize X0.heap.size = T2 at *)
        | (have q : Row u3 u2.heap.size [.int .i64 0, .int .i64 0] := RQ3.out
           have R11 : Hid (Row ((u3.setCell ⟨u2.heap.size, 0, none⟩ (.int .i64 x)).setCell ⟨u2.heap.size, 1, none⟩ (.int .i64 y)) u2.heap.size [.int .i64 x, .int .i64 y]) := Row.put 1 (Row.put 0 q)
           have RT4 : Hid (Row ((u3.setCell ⟨u2.heap.size, 0, none⟩ (.int .i64 x)).setCell ⟨u2.heap.size, 1, none⟩ (.int .i64 y)) T [.int .i64 a1, .int .i64 a2]) := Row.far (by omega) (Row.far (by omega) RT3.out)
           have RL4 : Hid (Row ((u3.setCell ⟨u2.heap.size, 0, none⟩ (.int .i64 x)).setCell ⟨u2.heap.size, 1, none⟩ (.int .i64 y)) u.heap.size [.int .i64 (k : Int), .int .i64 (c.id : Int), .bool true, .int .i64 t1, .int .i64 t2, .int .i64 t3]) := Row.far (by omega) (Row.far (by omega) RL3.out)
           have B4 : Hid (Below u.heap.size u ((u3.setCell ⟨u2.heap.size, 0, none⟩ (.int .i64 x)).setCell ⟨u2.heap.size, 1, none⟩ (.int .i64 y))) := rbel_put (by omega) (rbel_put (by omega) B3.out)
           have sQ : Hid (u.heap.size < u2.heap.size ∧ u2.heap.size ≠ T) := ⟨by omega, by omega⟩
           clear n1 n2 n3 n4 x0 y0 y1 lb lT lL HX0 RT0 RL0 BX0 B2 RL2 RT2 j20 k20 k21 ll2 lt2 j30 k30 k31 ll3 lt3 m1 m2 cA cM cO q
           generalize ((u3.setCell ⟨u2.heap.size, 0, none⟩ (.int .i64 x)).setCell ⟨u2.heap.size, 1, none⟩ (.int .i64 y)) = X4 at *
           generalize u2.heap.size = T2 at *)
        | (have R11 : Hid (Row (u3.alloc (Obj.cells #[.int .i64 x, .int .i64 y] 38)) u3.heap.size [.int .i64 x, .int .i64 y]) := Row.made rfl
           have RT4 : Hid (Row (u3.alloc (Obj.cells #[.int .i64 x, .int .i64 y] 38)) T [.int .i64 a1, .int .i64 a2]) := Row.al RT3.out
           have RL4 : Hid (Row (u3.alloc (Obj.cells #[.int .i64 x, .int .i64 y] 38)) u.heap.size [.int .i64 (k : Int), .int .i64 (c.id : Int), .bool true, .int .i64 t1, .int .i64 t2, .int .i64 t3]) := Row.al RL3.out
           have B4 : Hid (Below u.heap.size u (u3.alloc (Obj.cells #[.int .i64 x, .int .i64 y] 38))) := rbel_al B3.out
           have sQ : Hid (u.heap.size < u3.heap.size ∧ u3.heap.size ≠ T) := ⟨by omega, by omega⟩
           clear n1 n2 n3 n4 x0 y0 y1 lb lT lL HX0 RT0 RL0 BX0 B2 RL2 RT2 j20 k20 k21 ll2 lt2 j30 k30 k31 ll3 lt3 m1 m2 cA cM cO
           generalize (u3.alloc (Obj.cells #[.int .i64 x, .int .i64 y] 38)) = X4 at *
           generalize u3.heap.size = T2 at *)
      have HX4 : Hid (RN X4 b c) := RN.on B4.out HR.out
      have lb : b < X4.heap.size := HX4.out.lt
      have lT : T < X4.heap.size := RT4.out.lt
      have lT2 : T2 < X4.heap.size := R11.out.lt
      have lL : u.heap.size < X4.heap.size := RL4.out.lt
      have p0 := R11.out.c 0 _ rfl
      have p1 := R11.out.c 1 _ rfl
      have o0 := RT4.out.c 0 _ rfl
      have o1 := RT4.out.c 1 _ rfl
      have g0 := RT4.out.f 0 _ rfl
      have g1 := RT4.out.f 1 _ rfl
      have v3 := HX4.out.h
      have f3 := HX4.out.fz 3
      have nTb : ¬ (T = b) := by omega
      have nbT : ¬ (b = T) := by omega
      go_wp2
      have HX0 : Hid (RN ((X4.setCell ⟨T, 0, none⟩ (.int .i64 x)).setCell ⟨T, 1, none⟩ (.int .i64 y)) b c) := RN.far (by omega) (RN.far (by omega) HX4.out)
      have RT0 : Hid (Row ((X4.setCell ⟨T, 0, none⟩ (.int .i64 x)).setCell ⟨T, 1, none⟩ (.int .i64 y)) T [.int .i64 x, .int .i64 y]) := Row.put 1 (Row.put 0 RT4.out)
      have RL0 : Hid (Row ((X4.setCell ⟨T, 0, none⟩ (.int .i64 x)).setCell ⟨T, 1, none⟩ (.int .i64 y)) u.heap.size [.int .i64 (k : Int), .int .i64 (c.id : Int), .bool true, .int .i64 t1, .int .i64 t2, .int .i64 t3]) := Row.far (by omega) (Row.far (by omega) RL4.out)
      have BX0 : Hid (Below u.heap.size u ((X4.setCell ⟨T, 0, none⟩ (.int .i64 x)).setCell ⟨T, 1, none⟩ (.int .i64 y))) := rbel_put (by omega) (rbel_put (by omega) B4.out)
      clear HX4 RT4 RL4 B4 R11 lb lT lT2 lL p0 p1 o0 o1 g0 g1 v3 f3 nTb nbT sQ
      have HY : Hid (RN (((X4.setCell ⟨T, 0, none⟩ (.int .i64 x)).setCell ⟨T, 1, none⟩ (.int .i64 y)).setCell ⟨b, 3, none⟩ (.int .i64 t)) b { c with h := t }) := RN.late HX0.out
      have RTY : Hid (Row (((X4.setCell ⟨T, 0, none⟩ (.int .i64 x)).setCell ⟨T, 1, none⟩ (.int .i64 y)).setCell ⟨b, 3, none⟩ (.int .i64 t)) T [.int .i64 x, .int .i64 y]) := Row.far (by omega) RT0.out
      have RLY : Hid (Row (((X4.setCell ⟨T, 0, none⟩ (.int .i64 x)).setCell ⟨T, 1, none⟩ (.int .i64 y)).setCell ⟨b, 3, none⟩ (.int .i64 t)) u.heap.size [.int .i64 (k : Int), .int .i64 (c.id : Int), .bool true, .int .i64 t1, .int .i64 t2, .int .i64 t3]) := Row.far (by omega) RL0.out
      have KY : Hid (Keeps (fun i => i = b) u (((X4.setCell ⟨T, 0, none⟩ (.int .i64 x)).setCell ⟨T, 1, none⟩ (.int .i64 y)).setCell ⟨b, 3, none⟩ (.int .i64 t))) := Keeps.put (S := fun i => i = b) rfl (Keeps.of BX0.out)
      clear HX0 RT0 RL0 BX0
      generalize (((X4.setCell ⟨T, 0, none⟩ (.int .i64 x)).setCell ⟨T, 1, none⟩ (.int .i64 y)).setCell ⟨b, 3, none⟩ (.int .i64 t)) = Y at *
      have lb : b < Y.heap.size := HY.out.lt
      have lT : T < Y.heap.size := RTY.out.lt
      have lL : u.heap.size < Y.heap.size := RLY.out.lt
      have x0 := RLY.out.c 0 _ rfl
      have v4 : Y.cell? ⟨b, 4 + k, none⟩ = some (.bool (c.has k)) := HY.out.has k kk
      have f4 := HY.out.fz (4 + k)
      go_region
      all_goals
        go_wp2
        have HZ : Hid (RN ((Y.setCell ⟨b, 4 + k, none⟩ (.bool true)).drew) b { c with h := t, has := updN c.has k true }) := RN.dr (RN.p4 kk HY.out)
        have RTZ : Hid (Row ((Y.setCell ⟨b, 4 + k, none⟩ (.bool true)).drew) T [.int .i64 x, .int .i64 y]) := Row.dr (Row.far (by omega) RTY.out)
        have RLZ : Hid (Row ((Y.setCell ⟨b, 4 + k, none⟩ (.bool true)).drew) u.heap.size [.int .i64 (k : Int), .int .i64 (c.id : Int), .bool true, .int .i64 t1, .int .i64 t2, .int .i64 t3]) := Row.dr (Row.far (by omega) RLY.out)
        have KZ : Hid (Keeps (fun i => i = b) u ((Y.setCell ⟨b, 4 + k, none⟩ (.bool true)).drew)) := Keeps.dr (Keeps.put (S := fun i => i = b) rfl KY.out)
        clear HY RTY RLY KY x0 v4 f4 lb lT lL
        generalize ((Y.setCell ⟨b, 4 + k, none⟩ (.bool true)).drew) = Z at *
        have lb : b < Z.heap.size := HZ.out.lt
        have lT : T < Z.heap.size := RTZ.out.lt
        have lL : u.heap.size < Z.heap.size := RLZ.out.lt
        have x0 := RLZ.out.c 0 _ rfl
        have v10 : Z.cell? ⟨b, 10 + k * 2, none⟩ = some (.int .i64 (c.lo k)) := HZ.out.lo k kk
        have v11 : Z.cell? ⟨b, 10 + k * 2 + 1, none⟩ = some (.int .i64 (c.hi k)) := HZ.out.hi k kk
        have f10 := HZ.out.fz (10 + k * 2)
        have f11 := HZ.out.fz (10 + k * 2 + 1)
        have y0 := RTZ.out.c 0 _ rfl
        have y1 := RTZ.out.c 1 _ rfl
        have nbT : ¬ (b = T) := by omega
        have nTb : ¬ (T = b) := by omega
        go_region
        all_goals
          go_wp2
          have HV : Hid (RN (((Z.setCell ⟨b, 10 + k * 2, none⟩ (.int .i64 x)).setCell ⟨b, 10 + k * 2 + 1, none⟩ (.int .i64 y)).drew) b { c with h := t, has := updN c.has k true, lo := updN c.lo k x, hi := updN c.hi k y }) := RN.dr (RN.p10 kk HZ.out)
          have RTV : Hid (Row (((Z.setCell ⟨b, 10 + k * 2, none⟩ (.int .i64 x)).setCell ⟨b, 10 + k * 2 + 1, none⟩ (.int .i64 y)).drew) T [.int .i64 x, .int .i64 y]) := Row.dr (Row.far (by omega) (Row.far (by omega) RTZ.out))
          have RLV : Hid (Row (((Z.setCell ⟨b, 10 + k * 2, none⟩ (.int .i64 x)).setCell ⟨b, 10 + k * 2 + 1, none⟩ (.int .i64 y)).drew) u.heap.size [.int .i64 (k : Int), .int .i64 (c.id : Int), .bool true, .int .i64 t1, .int .i64 t2, .int .i64 t3]) := Row.dr (Row.far (by omega) (Row.far (by omega) RLZ.out))
          have KV : Hid (Keeps (fun i => i = b) u (((Z.setCell ⟨b, 10 + k * 2, none⟩ (.int .i64 x)).setCell ⟨b, 10 + k * 2 + 1, none⟩ (.int .i64 y)).drew)) := Keeps.dr (Keeps.put (S := fun i => i = b) rfl (Keeps.put (S := fun i => i = b) rfl KZ.out))
          clear HZ RTZ RLZ KZ x0 v10 v11 f10 f11 y0 y1 nbT nTb lb lT lL
          generalize (((Z.setCell ⟨b, 10 + k * 2, none⟩ (.int .i64 x)).setCell ⟨b, 10 + k * 2 + 1, none⟩ (.int .i64 y)).drew) = V at *
          have lb : b < V.heap.size := HV.out.lt
          have lT : T < V.heap.size := RTV.out.lt
          have lL : u.heap.size < V.heap.size := RLV.out.lt
          have x0 := RLV.out.c 0 _ rfl
          have v22 : V.cell? ⟨b, 22 + k, none⟩ = some (.int .i64 (c.at_ k)) := HV.out.at_ k kk
          have f22 := HV.out.fz (22 + k)
          go_region
          all_goals
            go_wp2
            go_ret2
            exact ⟨rfl, RN.dr (RN.p22 kk HV.out), Keeps.dr (Keeps.put (S := fun i => i = b) rfl KV.out)⟩
end Go.Proofs.YtnagdjipmpjaaaiGreatDoor
