/- What probe.Offset answers of any probe and rate. -/
import Derived.Test.YthejaecljkjliaiGreatDoorNm07
import Derived.WalkKit
import Derived.ProofKit
import Derived.OpenShut
import Derived.Outline
import Derived.IntWalk
import Derived.Deep.RegionWith
import Derived.Deep.RegionHeld
import Derived.WalkLawsBesides
namespace Go.Proofs.YthejaecljkjliaiGreatDoor
open Go.ChangeShapes Go.WideShapes Go.ChangeAt Go.RowKit
set_option linter.unusedVariables false
set_option linter.unusedSimpArgs false

theorem growT_at (n p g : Int) (w : World) (h : rdy n p = true) (hg : Hid (g = (n * 3 * p + 1000000 - 1) / 1000000)) :
    Calls Tryz.prog 72 #[.int .i64 n, .int .i64 3, .int .i64 p] w fun e w' => e = .returned (.tuple #[.int .i64 g, .nilIface]) ∧ Below w.heap.size w w' := by
  rw [hg.out]; exact growT_ok n 3 p w h (by decide) (by decide)
theorem grow_b {n p : Int} (h : rdy n p = true) : 0 ≤ (n * 3 * p + 1000000 - 1) / 1000000 ∧ (n * 3 * p + 1000000 - 1) / 1000000 ≤ 3000000001 := by
  obtain ⟨h1, h2, h3, h4⟩ := rdy_t h
  have e : n * 3 * p = 3 * (n * p) := by rw [Int.mul_comm n 3, Int.mul_assoc]
  have := np_b h1 h2 h3 h4
  rw [e]
  generalize n * p = X at *
  omega

set_option maxHeartbeats 1000000 in
theorem off_p (a b c d p : Int) (w : World) (h : pE a b c d ≠ 0) :
    Calls Tryz.prog 41 #[.agg #[.int .i64 a, .int .i64 b, .int .i64 c, .int .i64 d], .int .i64 p] w fun e w' => e = .returned (.tuple #[.agg #[.int .i64 0, .int .i64 0], .iface 85 (.int .i64 (pE a b c d))]) ∧ Below w.heap.size w w' := by
  have cnt : Mark 0 := .mk _
  go_enter Tryz.func41, Tryz.ntmps41
  go_wp2_with (first | (go_at_call 71; have cq : Mark 0 := cnt; refine (pcheck_no a b c d _ h).mono ?_; clear cq cnt; have cnt : Mark 1 := .mk _; rintro e u0 ⟨rfl, hb⟩; replace hw : Below w.heap.size w u0 := rbel_on hb (rbel_al (rbel_al (Below.refl _ _))); replace PP : Row u0 (w.heap.size) [.int .i64 (a), .int .i64 (b), .int .i64 (c), .int .i64 (d)] := Row.on hb (Row.al (Row.made (by simp))); replace cP0 := PP.c 0 _ rfl; replace cP1 := PP.c 1 _ rfl; replace cP2 := PP.c 2 _ rfl; replace cP3 := PP.c 3 _ rfl; replace zP := PP.lt; replace PR : Row u0 (w.heap.size + 1) [.int .i64 0, .int .i64 0] := Row.on hb (Row.made (by simp)); replace cR0 := PR.c 0 _ rfl; replace cR1 := PR.c 1 _ rfl; replace zR := PR.lt; replace fR0 := PR.f 0 _ rfl; replace fR1 := PR.f 1 _ rfl; clear hb))
  exact bodyPost_ret (v := _) (by simp [results, Tryz.results41, go_sem, *]) rfl ⟨rfl, by (repeat (first | assumption | exact Below.refl _ _ | refine Below.alloc ?_ (by first | (simp; done) | (simp; omega) | omega) _ | refine Below.setCell ?_ (by first | (with_reducible assumption) | (simp; done) | (simp; omega) | omega) _ | apply Below.drew | apply below_drewN | refine below_tr (by assumption) ?_))⟩

set_option maxHeartbeats 1000000 in
theorem off_r (a b c d p : Int) (w : World) (h : pE a b c d = 0) (k : rdy (d - a) p = false) :
    Calls Tryz.prog 41 #[.agg #[.int .i64 a, .int .i64 b, .int .i64 c, .int .i64 d], .int .i64 p] w fun e w' => e = .returned (.tuple #[.agg #[.int .i64 0, .int .i64 0], .iface 85 (.int .i64 (1))]) ∧ Below w.heap.size w w' := by
  have cnt : Mark 0 := .mk _
  have q := pE_zero h
  have qa := tmB_t q.1
  have qb := tmB_t q.2.1
  have qc := tmB_t q.2.2.1
  have qd := tmB_t q.2.2.2.1
  have qx := q.2.2.2.2.1
  have qy := q.2.2.2.2.2
  clear q
  obtain ⟨a1, a2⟩ := qa
  obtain ⟨b1, b2⟩ := qb
  obtain ⟨c1, c2⟩ := qc
  obtain ⟨d1, d2⟩ := qd
  go_enter Tryz.func41, Tryz.ntmps41
  go_wp2_with (first | (go_at_call 71; have cq : Mark 0 := cnt; refine (pcheck_ok a b c d _ h).mono ?_; clear cq cnt; have cnt : Mark 1 := .mk _; rintro e u0 ⟨rfl, hb⟩; replace hw : Below w.heap.size w u0 := rbel_on hb (rbel_al (rbel_al (Below.refl _ _))); replace PP : Row u0 (w.heap.size) [.int .i64 (a), .int .i64 (b), .int .i64 (c), .int .i64 (d)] := Row.on hb (Row.al (Row.made (by simp))); replace cP0 := PP.c 0 _ rfl; replace cP1 := PP.c 1 _ rfl; replace cP2 := PP.c 2 _ rfl; replace cP3 := PP.c 3 _ rfl; replace zP := PP.lt; replace PR : Row u0 (w.heap.size + 1) [.int .i64 0, .int .i64 0] := Row.on hb (Row.made (by simp)); replace cR0 := PR.c 0 _ rfl; replace cR1 := PR.c 1 _ rfl; replace zR := PR.lt; replace fR0 := PR.f 0 _ rfl; replace fR1 := PR.f 1 _ rfl; clear hb) | (go_at_call 72; have cq : Mark 1 := cnt; refine (growT_no (d - a) 3 p _ k).mono ?_; clear cq cnt; have cnt : Mark 2 := .mk _; rintro e u1 ⟨rfl, hb⟩; replace hw : Below w.heap.size w u1 := rbel_on hb (hw); replace PP : Row u1 (w.heap.size) [.int .i64 (a), .int .i64 (b), .int .i64 (c), .int .i64 (d)] := Row.on hb (PP); replace cP0 := PP.c 0 _ rfl; replace cP1 := PP.c 1 _ rfl; replace cP2 := PP.c 2 _ rfl; replace cP3 := PP.c 3 _ rfl; replace zP := PP.lt; replace PR : Row u1 (w.heap.size + 1) [.int .i64 0, .int .i64 0] := Row.on hb (PR); replace cR0 := PR.c 0 _ rfl; replace cR1 := PR.c 1 _ rfl; replace zR := PR.lt; replace fR0 := PR.f 0 _ rfl; replace fR1 := PR.f 1 _ rfl; clear hb))
  exact bodyPost_ret (v := _) (by simp [results, Tryz.results41, go_sem, *]) rfl ⟨rfl, by (repeat (first | assumption | exact Below.refl _ _ | refine Below.alloc ?_ (by first | (simp; done) | (simp; omega) | omega) _ | refine Below.setCell ?_ (by first | (with_reducible assumption) | (simp; done) | (simp; omega) | omega) _ | apply Below.drew | apply below_drewN | refine below_tr (by assumption) ?_))⟩

set_option maxHeartbeats 1000000 in
theorem off_lo (a b c d p : Int) (w : World) (h : pE a b c d = 0) (k : rdy (d - a) p = true) (g : Int) (hg : Hid (g = ((d - a) * 3 * p + 1000000 - 1) / 1000000)) (g1 : 0 ≤ g) (g2 : g ≤ 3000000001) (l : tmB (c - d) = false) :
    Calls Tryz.prog 41 #[.agg #[.int .i64 a, .int .i64 b, .int .i64 c, .int .i64 d], .int .i64 p] w fun e w' => e = .returned (.tuple #[.agg #[.int .i64 0, .int .i64 0], .iface 85 (.int .i64 (1))]) ∧ Below w.heap.size w w' := by
  have cnt : Mark 0 := .mk _
  have q := pE_zero h
  have qa := tmB_t q.1
  have qb := tmB_t q.2.1
  have qc := tmB_t q.2.2.1
  have qd := tmB_t q.2.2.2.1
  have qx := q.2.2.2.2.1
  have qy := q.2.2.2.2.2
  clear q
  obtain ⟨a1, a2⟩ := qa
  obtain ⟨b1, b2⟩ := qb
  obtain ⟨c1, c2⟩ := qc
  obtain ⟨d1, d2⟩ := qd
  go_enter Tryz.func41, Tryz.ntmps41
  go_wp2_with (first | (go_at_call 71; have cq : Mark 0 := cnt; refine (pcheck_ok a b c d _ h).mono ?_; clear cq cnt; have cnt : Mark 1 := .mk _; rintro e u0 ⟨rfl, hb⟩; replace hw : Below w.heap.size w u0 := rbel_on hb (rbel_al (rbel_al (Below.refl _ _))); replace PP : Row u0 (w.heap.size) [.int .i64 (a), .int .i64 (b), .int .i64 (c), .int .i64 (d)] := Row.on hb (Row.al (Row.made (by simp))); replace cP0 := PP.c 0 _ rfl; replace cP1 := PP.c 1 _ rfl; replace cP2 := PP.c 2 _ rfl; replace cP3 := PP.c 3 _ rfl; replace zP := PP.lt; replace PR : Row u0 (w.heap.size + 1) [.int .i64 0, .int .i64 0] := Row.on hb (Row.made (by simp)); replace cR0 := PR.c 0 _ rfl; replace cR1 := PR.c 1 _ rfl; replace zR := PR.lt; replace fR0 := PR.f 0 _ rfl; replace fR1 := PR.f 1 _ rfl; clear hb) | (go_at_call 72; have cq : Mark 1 := cnt; refine (growT_at (d - a) p g _ k hg).mono ?_; clear cq cnt; have cnt : Mark 2 := .mk _; rintro e u1 ⟨rfl, hb⟩; replace hw : Below w.heap.size w u1 := rbel_on hb (hw); replace PP : Row u1 (w.heap.size) [.int .i64 (a), .int .i64 (b), .int .i64 (c), .int .i64 (d)] := Row.on hb (PP); replace cP0 := PP.c 0 _ rfl; replace cP1 := PP.c 1 _ rfl; replace cP2 := PP.c 2 _ rfl; replace cP3 := PP.c 3 _ rfl; replace zP := PP.lt; replace PR : Row u1 (w.heap.size + 1) [.int .i64 0, .int .i64 0] := Row.on hb (PR); replace cR0 := PR.c 0 _ rfl; replace cR1 := PR.c 1 _ rfl; replace zR := PR.lt; replace fR0 := PR.f 0 _ rfl; replace fR1 := PR.f 1 _ rfl; have y1_P_0 : w.heap.size < u1.heap.size := (by omega); have n1_P_0 : ¬ (u1.heap.size = w.heap.size) := (by omega); have m1_P_0 : ¬ (w.heap.size = u1.heap.size) := (by omega); have y1_R_0 : w.heap.size + 1 < u1.heap.size := (by omega); have n1_R_0 : ¬ (u1.heap.size = w.heap.size + 1) := (by omega); have m1_R_0 : ¬ (w.heap.size + 1 = u1.heap.size) := (by omega); clear hb) | (go_at_call 73; have cq : Mark 2 := cnt; refine (isTime_no _ _ l).mono ?_; clear cq cnt; have cnt : Mark 3 := .mk _; rintro e u2 ⟨rfl, hb⟩; replace hw : Below w.heap.size w u2 := rbel_on hb (rbel_al (hw)); replace PP : Row u2 (w.heap.size) [.int .i64 (a), .int .i64 (b), .int .i64 (c), .int .i64 (d)] := Row.on hb (Row.al (PP)); replace cP0 := PP.c 0 _ rfl; replace cP1 := PP.c 1 _ rfl; replace cP2 := PP.c 2 _ rfl; replace cP3 := PP.c 3 _ rfl; replace zP := PP.lt; replace PR : Row u2 (w.heap.size + 1) [.int .i64 0, .int .i64 0] := Row.on hb (Row.al (PR)); replace cR0 := PR.c 0 _ rfl; replace cR1 := PR.c 1 _ rfl; replace zR := PR.lt; replace fR0 := PR.f 0 _ rfl; replace fR1 := PR.f 1 _ rfl; replace PS : Row u2 (u1.heap.size) [.int .i64 (c - d), .int .i64 (b - a + 2 + g)] := Row.on hb (Row.made (by simp)); replace cS0 := PS.c 0 _ rfl; replace cS1 := PS.c 1 _ rfl; replace zS := PS.lt; clear hb))
  exact bodyPost_ret (v := _) (by simp [results, Tryz.results41, go_sem, *]) rfl ⟨rfl, by (repeat (first | assumption | exact Below.refl _ _ | refine Below.alloc ?_ (by first | (simp; done) | (simp; omega) | omega) _ | refine Below.setCell ?_ (by first | (with_reducible assumption) | (simp; done) | (simp; omega) | omega) _ | apply Below.drew | apply below_drewN | refine below_tr (by assumption) ?_))⟩

set_option maxHeartbeats 1000000 in
theorem off_hi (a b c d p : Int) (w : World) (h : pE a b c d = 0) (k : rdy (d - a) p = true) (g : Int) (hg : Hid (g = ((d - a) * 3 * p + 1000000 - 1) / 1000000)) (g1 : 0 ≤ g) (g2 : g ≤ 3000000001) (l : tmB (c - d) = true) (m : tmB (b - a + 2 + g) = false) :
    Calls Tryz.prog 41 #[.agg #[.int .i64 a, .int .i64 b, .int .i64 c, .int .i64 d], .int .i64 p] w fun e w' => e = .returned (.tuple #[.agg #[.int .i64 0, .int .i64 0], .iface 85 (.int .i64 (1))]) ∧ Below w.heap.size w w' := by
  have cnt : Mark 0 := .mk _
  have q := pE_zero h
  have qa := tmB_t q.1
  have qb := tmB_t q.2.1
  have qc := tmB_t q.2.2.1
  have qd := tmB_t q.2.2.2.1
  have qx := q.2.2.2.2.1
  have qy := q.2.2.2.2.2
  clear q
  obtain ⟨a1, a2⟩ := qa
  obtain ⟨b1, b2⟩ := qb
  obtain ⟨c1, c2⟩ := qc
  obtain ⟨d1, d2⟩ := qd
  go_enter Tryz.func41, Tryz.ntmps41
  go_wp2_with (first | (go_at_call 71; have cq : Mark 0 := cnt; refine (pcheck_ok a b c d _ h).mono ?_; clear cq cnt; have cnt : Mark 1 := .mk _; rintro e u0 ⟨rfl, hb⟩; replace hw : Below w.heap.size w u0 := rbel_on hb (rbel_al (rbel_al (Below.refl _ _))); replace PP : Row u0 (w.heap.size) [.int .i64 (a), .int .i64 (b), .int .i64 (c), .int .i64 (d)] := Row.on hb (Row.al (Row.made (by simp))); replace cP0 := PP.c 0 _ rfl; replace cP1 := PP.c 1 _ rfl; replace cP2 := PP.c 2 _ rfl; replace cP3 := PP.c 3 _ rfl; replace zP := PP.lt; replace PR : Row u0 (w.heap.size + 1) [.int .i64 0, .int .i64 0] := Row.on hb (Row.made (by simp)); replace cR0 := PR.c 0 _ rfl; replace cR1 := PR.c 1 _ rfl; replace zR := PR.lt; replace fR0 := PR.f 0 _ rfl; replace fR1 := PR.f 1 _ rfl; clear hb) | (go_at_call 72; have cq : Mark 1 := cnt; refine (growT_at (d - a) p g _ k hg).mono ?_; clear cq cnt; have cnt : Mark 2 := .mk _; rintro e u1 ⟨rfl, hb⟩; replace hw : Below w.heap.size w u1 := rbel_on hb (hw); replace PP : Row u1 (w.heap.size) [.int .i64 (a), .int .i64 (b), .int .i64 (c), .int .i64 (d)] := Row.on hb (PP); replace cP0 := PP.c 0 _ rfl; replace cP1 := PP.c 1 _ rfl; replace cP2 := PP.c 2 _ rfl; replace cP3 := PP.c 3 _ rfl; replace zP := PP.lt; replace PR : Row u1 (w.heap.size + 1) [.int .i64 0, .int .i64 0] := Row.on hb (PR); replace cR0 := PR.c 0 _ rfl; replace cR1 := PR.c 1 _ rfl; replace zR := PR.lt; replace fR0 := PR.f 0 _ rfl; replace fR1 := PR.f 1 _ rfl; have y1_P_0 : w.heap.size < u1.heap.size := (by omega); have n1_P_0 : ¬ (u1.heap.size = w.heap.size) := (by omega); have m1_P_0 : ¬ (w.heap.size = u1.heap.size) := (by omega); have y1_R_0 : w.heap.size + 1 < u1.heap.size := (by omega); have n1_R_0 : ¬ (u1.heap.size = w.heap.size + 1) := (by omega); have m1_R_0 : ¬ (w.heap.size + 1 = u1.heap.size) := (by omega); clear hb) | (go_at_call 73; have cq : Mark 2 := cnt; refine (isTime_yes _ _ l).mono ?_; clear cq cnt; have cnt : Mark 3 := .mk _; rintro e u2 ⟨rfl, hb⟩; replace hw : Below w.heap.size w u2 := rbel_on hb (rbel_al (hw)); replace PP : Row u2 (w.heap.size) [.int .i64 (a), .int .i64 (b), .int .i64 (c), .int .i64 (d)] := Row.on hb (Row.al (PP)); replace cP0 := PP.c 0 _ rfl; replace cP1 := PP.c 1 _ rfl; replace cP2 := PP.c 2 _ rfl; replace cP3 := PP.c 3 _ rfl; replace zP := PP.lt; replace PR : Row u2 (w.heap.size + 1) [.int .i64 0, .int .i64 0] := Row.on hb (Row.al (PR)); replace cR0 := PR.c 0 _ rfl; replace cR1 := PR.c 1 _ rfl; replace zR := PR.lt; replace fR0 := PR.f 0 _ rfl; replace fR1 := PR.f 1 _ rfl; replace PS : Row u2 (u1.heap.size) [.int .i64 (c - d), .int .i64 (b - a + 2 + g)] := Row.on hb (Row.made (by simp)); replace cS0 := PS.c 0 _ rfl; replace cS1 := PS.c 1 _ rfl; replace zS := PS.lt; clear hb) | (go_at_call 73; have cq : Mark 3 := cnt; refine (isTime_no _ _ m).mono ?_; clear cq cnt; have cnt : Mark 4 := .mk _; rintro e u3 ⟨rfl, hb⟩; replace hw : Below w.heap.size w u3 := rbel_on hb (hw); replace PP : Row u3 (w.heap.size) [.int .i64 (a), .int .i64 (b), .int .i64 (c), .int .i64 (d)] := Row.on hb (PP); replace cP0 := PP.c 0 _ rfl; replace cP1 := PP.c 1 _ rfl; replace cP2 := PP.c 2 _ rfl; replace cP3 := PP.c 3 _ rfl; replace zP := PP.lt; replace PR : Row u3 (w.heap.size + 1) [.int .i64 0, .int .i64 0] := Row.on hb (PR); replace cR0 := PR.c 0 _ rfl; replace cR1 := PR.c 1 _ rfl; replace zR := PR.lt; replace fR0 := PR.f 0 _ rfl; replace fR1 := PR.f 1 _ rfl; replace PS : Row u3 (u1.heap.size) [.int .i64 (c - d), .int .i64 (b - a + 2 + g)] := Row.on hb (PS); replace cS0 := PS.c 0 _ rfl; replace cS1 := PS.c 1 _ rfl; replace zS := PS.lt; clear hb))
  exact bodyPost_ret (v := _) (by simp [results, Tryz.results41, go_sem, *]) rfl ⟨rfl, by (repeat (first | assumption | exact Below.refl _ _ | refine Below.alloc ?_ (by first | (simp; done) | (simp; omega) | omega) _ | refine Below.setCell ?_ (by first | (with_reducible assumption) | (simp; done) | (simp; omega) | omega) _ | apply Below.drew | apply below_drewN | refine below_tr (by assumption) ?_))⟩

set_option maxHeartbeats 2000000 in
theorem off_xJ (a b c d p : Int) (w : World) (h : pE a b c d = 0) (k : rdy (d - a) p = true) (g : Int) (hg : Hid (g = ((d - a) * 3 * p + 1000000 - 1) / 1000000)) (g1 : 0 ≤ g) (g2 : g ≤ 3000000001) (l : tmB (c - d) = true) (m : tmB (b - a + 2 + g) = true) (E : Value) (H : ((b - a + 2 + g < c - d) ∧ E = (.tuple #[.agg #[.int .i64 0, .int .i64 0], .iface 85 (.int .i64 (7))])) ∨ ((c - d ≤ b - a + 2 + g) ∧ E = (.tuple #[.agg #[.int .i64 (c - d), .int .i64 (b - a + 2 + g)], .nilIface]))) :
    Calls Tryz.prog 41 #[.agg #[.int .i64 a, .int .i64 b, .int .i64 c, .int .i64 d], .int .i64 p] w fun e w' => e = .returned E ∧ Below w.heap.size w w' := by
  rcases H with ⟨n, rfl⟩ | ⟨n, rfl⟩
  all_goals
    have cnt : Mark 0 := .mk _
    have q := pE_zero h
    have qa := tmB_t q.1
    have qb := tmB_t q.2.1
    have qc := tmB_t q.2.2.1
    have qd := tmB_t q.2.2.2.1
    have qx := q.2.2.2.2.1
    have qy := q.2.2.2.2.2
    clear q
    obtain ⟨a1, a2⟩ := qa
    obtain ⟨b1, b2⟩ := qb
    obtain ⟨c1, c2⟩ := qc
    obtain ⟨d1, d2⟩ := qd
    go_enter Tryz.func41, Tryz.ntmps41
    go_wp2_with (first | (go_at_call 71; have cq : Mark 0 := cnt; refine (pcheck_ok a b c d _ h).mono ?_; clear cq cnt; have cnt : Mark 1 := .mk _; rintro e u0 ⟨rfl, hb⟩; replace hw : Below w.heap.size w u0 := rbel_on hb (rbel_al (rbel_al (Below.refl _ _))); replace PP : Row u0 (w.heap.size) [.int .i64 (a), .int .i64 (b), .int .i64 (c), .int .i64 (d)] := Row.on hb (Row.al (Row.made (by simp))); replace cP0 := PP.c 0 _ rfl; replace cP1 := PP.c 1 _ rfl; replace cP2 := PP.c 2 _ rfl; replace cP3 := PP.c 3 _ rfl; replace zP := PP.lt; replace PR : Row u0 (w.heap.size + 1) [.int .i64 0, .int .i64 0] := Row.on hb (Row.made (by simp)); replace cR0 := PR.c 0 _ rfl; replace cR1 := PR.c 1 _ rfl; replace zR := PR.lt; replace fR0 := PR.f 0 _ rfl; replace fR1 := PR.f 1 _ rfl; clear hb) | (go_at_call 72; have cq : Mark 1 := cnt; refine (growT_at (d - a) p g _ k hg).mono ?_; clear cq cnt; have cnt : Mark 2 := .mk _; rintro e u1 ⟨rfl, hb⟩; replace hw : Below w.heap.size w u1 := rbel_on hb (hw); replace PP : Row u1 (w.heap.size) [.int .i64 (a), .int .i64 (b), .int .i64 (c), .int .i64 (d)] := Row.on hb (PP); replace cP0 := PP.c 0 _ rfl; replace cP1 := PP.c 1 _ rfl; replace cP2 := PP.c 2 _ rfl; replace cP3 := PP.c 3 _ rfl; replace zP := PP.lt; replace PR : Row u1 (w.heap.size + 1) [.int .i64 0, .int .i64 0] := Row.on hb (PR); replace cR0 := PR.c 0 _ rfl; replace cR1 := PR.c 1 _ rfl; replace zR := PR.lt; replace fR0 := PR.f 0 _ rfl; replace fR1 := PR.f 1 _ rfl; have y1_P_0 : w.heap.size < u1.heap.size := (by omega); have n1_P_0 : ¬ (u1.heap.size = w.heap.size) := (by omega); have m1_P_0 : ¬ (w.heap.size = u1.heap.size) := (by omega); have y1_R_0 : w.heap.size + 1 < u1.heap.size := (by omega); have n1_R_0 : ¬ (u1.heap.size = w.heap.size + 1) := (by omega); have m1_R_0 : ¬ (w.heap.size + 1 = u1.heap.size) := (by omega); clear hb) | (go_at_call 73; have cq : Mark 2 := cnt; refine (isTime_yes _ _ l).mono ?_; clear cq cnt; have cnt : Mark 3 := .mk _; rintro e u2 ⟨rfl, hb⟩; replace hw : Below w.heap.size w u2 := rbel_on hb (rbel_al (hw)); replace PP : Row u2 (w.heap.size) [.int .i64 (a), .int .i64 (b), .int .i64 (c), .int .i64 (d)] := Row.on hb (Row.al (PP)); replace cP0 := PP.c 0 _ rfl; replace cP1 := PP.c 1 _ rfl; replace cP2 := PP.c 2 _ rfl; replace cP3 := PP.c 3 _ rfl; replace zP := PP.lt; replace PR : Row u2 (w.heap.size + 1) [.int .i64 0, .int .i64 0] := Row.on hb (Row.al (PR)); replace cR0 := PR.c 0 _ rfl; replace cR1 := PR.c 1 _ rfl; replace zR := PR.lt; replace fR0 := PR.f 0 _ rfl; replace fR1 := PR.f 1 _ rfl; replace PS : Row u2 (u1.heap.size) [.int .i64 (c - d), .int .i64 (b - a + 2 + g)] := Row.on hb (Row.made (by simp)); replace cS0 := PS.c 0 _ rfl; replace cS1 := PS.c 1 _ rfl; replace zS := PS.lt; clear hb) | (go_at_call 73; have cq : Mark 3 := cnt; refine (isTime_yes _ _ m).mono ?_; clear cq cnt; have cnt : Mark 4 := .mk _; rintro e u3 ⟨rfl, hb⟩; replace hw : Below w.heap.size w u3 := rbel_on hb (hw); replace PP : Row u3 (w.heap.size) [.int .i64 (a), .int .i64 (b), .int .i64 (c), .int .i64 (d)] := Row.on hb (PP); replace cP0 := PP.c 0 _ rfl; replace cP1 := PP.c 1 _ rfl; replace cP2 := PP.c 2 _ rfl; replace cP3 := PP.c 3 _ rfl; replace zP := PP.lt; replace PR : Row u3 (w.heap.size + 1) [.int .i64 0, .int .i64 0] := Row.on hb (PR); replace cR0 := PR.c 0 _ rfl; replace cR1 := PR.c 1 _ rfl; replace zR := PR.lt; replace fR0 := PR.f 0 _ rfl; replace fR1 := PR.f 1 _ rfl; replace PS : Row u3 (u1.heap.size) [.int .i64 (c - d), .int .i64 (b - a + 2 + g)] := Row.on hb (PS); replace cS0 := PS.c 0 _ rfl; replace cS1 := PS.c 1 _ rfl; replace zS := PS.lt; clear hb))
    exact bodyPost_ret (v := _) (by simp [results, Tryz.results41, go_sem, *]) rfl ⟨rfl, by (repeat (first | assumption | exact Below.refl _ _ | refine Below.alloc ?_ (by first | (simp; done) | (simp; omega) | omega) _ | refine Below.setCell ?_ (by first | (with_reducible assumption) | (simp; done) | (simp; omega) | omega) _ | apply Below.drew | apply below_drewN | refine below_tr (by assumption) ?_))⟩
theorem off_x (a b c d p : Int) (w : World) (h : pE a b c d = 0) (k : rdy (d - a) p = true) (g : Int) (hg : Hid (g = ((d - a) * 3 * p + 1000000 - 1) / 1000000)) (g1 : 0 ≤ g) (g2 : g ≤ 3000000001) (l : tmB (c - d) = true) (m : tmB (b - a + 2 + g) = true) (n : b - a + 2 + g < c - d) : Calls Tryz.prog 41 #[.agg #[.int .i64 a, .int .i64 b, .int .i64 c, .int .i64 d], .int .i64 p] w fun e w' => e = .returned (.tuple #[.agg #[.int .i64 0, .int .i64 0], .iface 85 (.int .i64 (7))]) ∧ Below w.heap.size w w' := off_xJ a b c d p w h k g hg g1 g2 l m (.tuple #[.agg #[.int .i64 0, .int .i64 0], .iface 85 (.int .i64 (7))]) (Or.inl ⟨n, rfl⟩)
theorem off_y (a b c d p : Int) (w : World) (h : pE a b c d = 0) (k : rdy (d - a) p = true) (g : Int) (hg : Hid (g = ((d - a) * 3 * p + 1000000 - 1) / 1000000)) (g1 : 0 ≤ g) (g2 : g ≤ 3000000001) (l : tmB (c - d) = true) (m : tmB (b - a + 2 + g) = true) (n : c - d ≤ b - a + 2 + g) : Calls Tryz.prog 41 #[.agg #[.int .i64 a, .int .i64 b, .int .i64 c, .int .i64 d], .int .i64 p] w fun e w' => e = .returned (.tuple #[.agg #[.int .i64 (c - d), .int .i64 (b - a + 2 + g)], .nilIface]) ∧ Below w.heap.size w w' := off_xJ a b c d p w h k g hg g1 g2 l m (.tuple #[.agg #[.int .i64 (c - d), .int .i64 (b - a + 2 + g)], .nilIface]) (Or.inr (⟨n, rfl⟩))
theorem off_ok (a b c d p : Int) (w : World) (h : oE a b c d p = 0) :
    Calls Tryz.prog 41 #[.agg #[.int .i64 a, .int .i64 b, .int .i64 c, .int .i64 d], .int .i64 p] w fun e w' => e = .returned (.tuple #[.agg #[.int .i64 (c - d), .int .i64 (oH a b d p)], .nilIface]) ∧ Below w.heap.size w w' := by
  obtain ⟨h1, h2, h3, h4, h5⟩ := oE_zero h
  have g := grow_b h2
  exact off_y a b c d p w h1 h2 _ rfl g.1 g.2 h3 h4 h5

theorem off_no (a b c d p : Int) (w : World) (h : oE a b c d p ≠ 0) :
    Calls Tryz.prog 41 #[.agg #[.int .i64 a, .int .i64 b, .int .i64 c, .int .i64 d], .int .i64 p] w fun e w' => e = .returned (.tuple #[.agg #[.int .i64 0, .int .i64 0], .iface 85 (.int .i64 (oE a b c d p))]) ∧ Below w.heap.size w w' := by
  by_cases h1 : pE a b c d = 0
  · cases h2 : rdy (d - a) p with
    | false => rw [oE_rdy h1 h2]; exact off_r a b c d p w h1 h2
    | true =>
    have g := grow_b h2
    cases h3 : tmB (c - d) with
    | false => rw [oE_lo h1 h2 h3]; exact off_lo a b c d p w h1 h2 _ rfl g.1 g.2 h3
    | true =>
    cases h4 : tmB (oH a b d p) with
    | false => rw [oE_hi h1 h2 h4]; exact off_hi a b c d p w h1 h2 _ rfl g.1 g.2 h3 h4
    | true =>
    by_cases h5 : oH a b d p < c - d
    · rw [oE_clash h1 h2 h3 h4 h5]; exact off_x a b c d p w h1 h2 _ rfl g.1 g.2 h3 h4 h5
    · exact absurd (oE_fine h1 h2 h3 h4 (by omega)) h
  · rw [oE_p h1]; exact off_p a b c d p w h1

end Go.Proofs.YthejaecljkjliaiGreatDoor
