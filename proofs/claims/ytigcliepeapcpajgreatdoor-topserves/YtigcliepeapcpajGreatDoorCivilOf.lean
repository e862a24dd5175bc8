/- What civil.Of answers of any number. -/
import Derived.Test.YtigcliepeapcpajGreatDoorNm20
namespace Go.Proofs.YtigcliepeapcpajGreatDoor
open Go.ChangeShapes Go.WideShapes Go.ChangeAt Go.RowKit
set_option linter.unusedVariables false
set_option linter.unusedSimpArgs false

set_option maxHeartbeats 1000000 in
theorem of_low (n : Int) (w : World) (wn : In64 n) (h : n < 0) :
    Calls Tryz.prog 33 #[.int .i64 n] w fun e w' => e = .returned (.tuple #[.agg #[.int .i64 0, .int .i64 0, .int .i64 0], .iface 71 (.int .i64 1)]) ∧ Below w.heap.size w w' := by
  have hd : decide (n < 0) = true := decide_eq_true h
  go_enter Tryz.func33, Tryz.ntmps33
  go_wp2
  go_quiet (fail)
  go_wp2
  exact bodyPost_ret (v := _) (by simp [results, Tryz.results33, go_sem, *]) rfl ⟨rfl, by (repeat (first | assumption | exact Below.refl _ _ | refine Below.alloc ?_ (by first | (simp; done) | (simp; omega) | omega) _ | refine Below.setCell ?_ (by first | (simp; done) | (simp; omega) | omega) _ | apply Below.drew | apply rbel_drn))⟩

set_option maxHeartbeats 1000000 in
theorem of_high (n : Int) (w : World) (wn : In64 n) (h : 84005 < n) :
    Calls Tryz.prog 33 #[.int .i64 n] w fun e w' => e = .returned (.tuple #[.agg #[.int .i64 0, .int .i64 0, .int .i64 0], .iface 71 (.int .i64 1)]) ∧ Below w.heap.size w w' := by
  have hd : decide (n < 0) = false := decide_eq_false (by omega)
  have h2 : decide (84005 < n) = true := decide_eq_true (by omega)
  have cN := fun u => last_any u
  go_enter Tryz.func33, Tryz.ntmps33
  go_wp2
  go_quiet (first | (go_at_call 57; refine Calls.quiet_of_same (cN _)))
  go_wp2
  exact bodyPost_ret (v := _) (by simp [results, Tryz.results33, go_sem, *]) rfl ⟨rfl, by (repeat (first | assumption | exact Below.refl _ _ | refine Below.alloc ?_ (by first | (simp; done) | (simp; omega) | omega) _ | refine Below.setCell ?_ (by first | (simp; done) | (simp; omega) | omega) _ | apply Below.drew | apply rbel_drn))⟩

set_option maxHeartbeats 2000000 in
theorem of_ok (n : Int) (k j : Nat) (w : World) (he : EnvA w) (hk : k < 230) (h1 : yoff k ≤ n) (h2 : n < yoff (k + 1)) (hj : j < 12) (h3 : moff (1970 + k) j ≤ n - yoff k) (h4 : n - yoff k < moff (1970 + k) (j + 1)) :
    Calls Tryz.prog 33 #[.int .i64 n] w fun e w' => e = .returned (.tuple #[.agg #[.int .i64 (1970 + k), .int .i64 (1 + j), .int .i64 (n - yoff k - moff (1970 + k) j + 1)], .nilIface]) ∧ Below w.heap.size w w' := by
  have hmf : ∀ (fn : Go.Fn) (first cap : Array Value) (w : World), (Instr.makeFunc fn first cap).run Tryz.prog w = .ok (.func fn first cap) w := fun _ _ _ _ => rfl
  obtain ⟨a1, a2⟩ := yoff_in k (by omega)
  obtain ⟨b1, b2⟩ := yoff_in (k + 1) (by omega)
  obtain ⟨c1, c2⟩ := moff_in (1970 + k) j (by omega)
  obtain ⟨d1, d2⟩ := moff_in (1970 + k) (j + 1) (by omega)
  have hd : decide (n < 0) = false := decide_eq_false (by omega)
  have hh : decide (84005 < n) = false := decide_eq_false (by omega)
  have cN := fun u => last_any u
  have cY := fun u => newYear_any (1970 + k) u (by omega) (by omega)
  rw [show ((1970 : Int) + k - 1970).toNat = k by omega] at cY
  have cB := fun u (hu : EnvA u) => before_m (1970 + k) (1 + j) u (by omega) (by omega) (by omega) (by omega) hu
  rw [show ((1 : Int) + j - 1).toNat = j by omega] at cB
  have cS := fun B u hB => search_year n k B u hk h1 h2 hB
  have cM := fun B C u hB hC hE => search_month (n - yoff k) (1970 + k) j B C u hj (by omega) (by omega) h3 h4 hB hC hE
  generalize yoff k = a at *
  generalize yoff (k + 1) = b at *
  generalize moff (1970 + k) j = c at *
  generalize moff (1970 + k) (j + 1) = d at *
  have w1 : IntKind.i64.wrap (1970 + (k : Int)) = 1970 + (k : Int) := IntWalk.i64_in _ (by omega)
  have w2 : IntKind.i64.wrap (n - a) = n - a := IntWalk.i64_in _ (by omega)
  have w3 : IntKind.i64.wrap (n - a - c) = n - a - c := IntWalk.i64_in _ (by omega)
  have w4 : IntKind.i64.wrap (n - a - c + 1) = n - a - c + 1 := IntWalk.i64_in _ (by omega)
  have w5 : IntKind.i64.wrap (1 + (j : Int)) = 1 + (j : Int) := IntWalk.i64_in _ (by omega)
  have HE : Hid (EnvA w) := he
  clear he
  have cnt : Mark 0 := .mk _
  go_enter Tryz.func33, Tryz.ntmps33
  go_wp2
  go_quiet (first | (go_at_call 57; refine Calls.quiet_of_same (cN _)))
  go_wp2_with (first | (go_at_call 58; have cq : Mark 0 := cnt; refine (cS w.heap.size _ ((Row.drn (Row.al (Row.made rfl)) : Row _ w.heap.size [.int .i64 n]).c 0 _ rfl)).mono ?_; clear cq cnt; have cnt : Mark 1 := .mk _; rintro e u0 ⟨rfl, hb⟩; have hw : Below w.heap.size w u0 := rbel_on hb (rbel_drn (rbel_al (rbel_al (Below.refl _ _)))); have PN : Row u0 w.heap.size [.int .i64 n] := Row.on hb (Row.drn (Row.al (Row.made rfl))); have PD : Row u0 (w.heap.size + 1) [.int .i64 0, .int .i64 0, .int .i64 0] := Row.on hb (Row.drn (Row.made (by simp))); have cN0 := PN.c 0 _ rfl; have fN0 := PN.f 0 _ rfl; have zN := PN.lt; have zD := PD.lt; clear hb))
  have PN1 : Row (u0.alloc (.cells #[.int .i64 (1970 + (k : Int))] 3)) w.heap.size [.int .i64 n] := Row.al PN
  have PY1 : Row (u0.alloc (.cells #[.int .i64 (1970 + (k : Int))] 3)) u0.heap.size [.int .i64 (1970 + (k : Int))] := Row.made rfl
  have PD1 : Row (u0.alloc (.cells #[.int .i64 (1970 + (k : Int))] 3)) (w.heap.size + 1) [.int .i64 0, .int .i64 0, .int .i64 0] := Row.al PD
  have hw1 : Below w.heap.size w (u0.alloc (.cells #[.int .i64 (1970 + (k : Int))] 3)) := rbel_al hw
  have zY : u0.heap.size < (u0.alloc (.cells #[.int .i64 (1970 + (k : Int))] 3)).heap.size := PY1.lt
  generalize hW : u0.alloc (.cells #[.int .i64 (1970 + (k : Int))] 3) = W1 at *
  clear hW PN PD hw cN0 fN0
  generalize u0.heap.size = Y at *
  have cN1 := PN1.c 0 _ rfl
  have fN1 := PN1.f 0 _ rfl
  have cY1 := PY1.c 0 _ rfl
  have n1 : ¬ (w.heap.size = Y) := by omega
  have n2 : ¬ (Y = w.heap.size) := by omega
  go_region_with (first | (go_at_call 61; refine (cY _).mono ?_; rintro e u1 ⟨rfl, hu⟩; have hw2 : Below w.heap.size w u1 := (by rw [hu]; exact rbel_dr hw1); have PN2 : Row u1 w.heap.size [.int .i64 n] := (by rw [hu]; exact Row.dr PN1); have PY2 : Row u1 Y [.int .i64 (1970 + (k : Int))] := (by rw [hu]; exact Row.dr PY1); have PD2 : Row u1 (w.heap.size + 1) [.int .i64 0, .int .i64 0, .int .i64 0] := (by rw [hu]; exact Row.dr PD1); have cN2 := PN2.c 0 _ rfl; have fN2 := PN2.f 0 _ rfl; have cY2 := PY2.c 0 _ rfl; clear hu))
  all_goals
    have PN3 : Row (u1.setCell ⟨w.heap.size, 0, none⟩ (.int .i64 (n - a))) w.heap.size [.int .i64 (n - a)] := Row.put 0 PN2
    have PY3 : Row (u1.setCell ⟨w.heap.size, 0, none⟩ (.int .i64 (n - a))) Y [.int .i64 (1970 + (k : Int))] := Row.far n1 PY2
    have PD3 : Row (u1.setCell ⟨w.heap.size, 0, none⟩ (.int .i64 (n - a))) (w.heap.size + 1) [.int .i64 0, .int .i64 0, .int .i64 0] := Row.far (by omega) PD2
    have hw3 : Below w.heap.size w (u1.setCell ⟨w.heap.size, 0, none⟩ (.int .i64 (n - a))) := rbel_put (Nat.le_refl _) hw2
    clear PN1 PD1 hw1 PY1 zY cN1 fN1 cY1 hw2 PN2 PY2 PD2 cN2 fN2 cY2
    generalize u1.setCell ⟨w.heap.size, 0, none⟩ (.int .i64 (n - a)) = W3 at *
    have cN3 := PN3.c 0 _ rfl
    have cY3 := PY3.c 0 _ rfl
    go_wp2_with (first | (go_at_call 58; have cq : Mark 1 := cnt; refine (cM w.heap.size Y _ cN3 cY3 (HE.out.below hw3)).mono ?_; clear cq cnt; have cnt : Mark 2 := .mk _; rintro e u2 ⟨rfl, hb⟩; have hw4 : Below w.heap.size w u2 := rbel_on hb hw3; have PN4 := Row.on hb PN3; have PY4 := Row.on hb PY3; have PD4 := Row.on hb PD3; clear hb))
    clear PN3 PY3 PD3 cN3 cY3 hw3
    have cN4 := PN4.c 0 _ rfl
    have cY4 := PY4.c 0 _ rfl
    have cD0 := PD4.c 0 _ rfl
    have cD1 := PD4.c 1 _ rfl
    have cD2 := PD4.c 2 _ rfl
    have fD0 := PD4.f 0 _ rfl
    have fD1 := PD4.f 1 _ rfl
    have fD2 := PD4.f 2 _ rfl
    have n3 : ¬ (w.heap.size + 1 = Y) := by omega
    have n4 : ¬ (Y = w.heap.size + 1) := by omega
    go_region_held (fun w' => w'.cell? ⟨w.heap.size, 0, none⟩ = some (.int .i64 (n - a)) ∧ w'.cell? ⟨Y, 0, none⟩ = some (.int .i64 (1970 + (k : Int)))) (go_keep) (first | (go_at_call 63; refine (cB _ (HE.out.below (rbel_dr hw4))).mono ?_; rintro e u3 ⟨rfl, hu⟩; have hw5 : Below w.heap.size w u3 := (by rw [hu]; exact rbel_dr hw4); have PN5 : Row u3 w.heap.size [.int .i64 (n - a)] := (by rw [hu]; exact Row.dr PN4); have PY5 : Row u3 Y [.int .i64 (1970 + (k : Int))] := (by rw [hu]; exact Row.dr PY4); have PD5 : Row u3 (w.heap.size + 1) [.int .i64 0, .int .i64 0, .int .i64 0] := (by rw [hu]; exact Row.dr PD4); have cN5 := PN5.c 0 _ rfl; have cY5 := PY5.c 0 _ rfl; have g0 := PD5.c 0 _ rfl; have g1 := PD5.c 1 _ rfl; have g2 := PD5.c 2 _ rfl; have f0 := PD5.f 0 _ rfl; have f1 := PD5.f 1 _ rfl; have f2 := PD5.f 2 _ rfl; clear hu))
    all_goals
      go_wp2
      exact bodyPost_ret (v := _) (by simp [results, Tryz.results33, go_sem, *]) rfl ⟨rfl, by (repeat (first | assumption | refine Below.setCell ?_ (by first | (simp; done) | (simp; omega) | omega) _ | apply Below.drew | apply rbel_drn))⟩
end Go.Proofs.YtigcliepeapcpajGreatDoor
