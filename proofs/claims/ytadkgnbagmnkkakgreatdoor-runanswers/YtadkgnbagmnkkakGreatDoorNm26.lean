/- What the document's own reckoning (package noonref1) answers of a label as text: LabelText. What the document's own reckoning (package noonref1) answers of a probe: Time, Probe, Slack, Offset. -/
import Derived.Test.YtadkgnbagmnkkakGreatDoorNm25
import Derived.Test.YtadkgnbagmnkkakGreatDoorNm04
import Derived.Test.YtadkgnbagmnkkakGreatDoorNm01
import Derived.Test.YtadkgnbagmnkkakGreatDoorNm20
import Derived.WalkKit
import Derived.ProofKit
import Derived.OpenShut
import Derived.Outline
import Derived.IntWalk
import Derived.Deep.RegionWith
import Derived.Deep.RegionHeld
import Derived.Below
import Derived.WalkLawsBesides
import Derived.Lib.SmallJoins
namespace Go.Proofs.YtadkgnbagmnkkakGreatDoor
open Go.ChangeShapes Go.WideShapes Go.ChangeAt Go.RowKit Go.Joins
set_option linter.unusedVariables false
set_option linter.unusedSimpArgs false

set_option maxHeartbeats 2000000 in
theorem rltext_any (y m d h i s : Int) (w : World) (ok : okD y m d = true) (oh : okH h i s = true) :
  Calls Tryz.prog 28 #[lbl y m d h i s] w fun e w' => e = .returned (.string (ltext y m d h i s)) ∧ Below w.heap.size w w' := by
 obtain ⟨a1, a2, a3, a4, a5, a6⟩ := okH_t oh
 have cD := fun u => rtext_any y m d u ok
 have c1 := fun u => rpad2 h u (by omega) (by omega)
 have c2 := fun u => rpad2 i u (by omega) (by omega)
 have c3 := fun u => rpad2 s u (by omega) (by omega)
 have E : Hid (dtext y m d ++ ⟨#[84]⟩ ++ ⟨(d2 h).toArray⟩ ++ ⟨#[58]⟩ ++ ⟨(d2 i).toArray⟩ ++ ⟨#[58]⟩ ++ ⟨(d2 s).toArray⟩ = ltext y m d h i s) := by
  show _ = _
  apply ByteArray.ext
  apply Array.toList_inj.1
  simp only [ByteArray.data_append, Array.toList_append]
  simp [dtext, ltext]
 have z0 : (dtext y m d).size = 10 := rfl
 have z1 : (⟨(d2 h).toArray⟩ : ByteArray).size = 2 := rfl
 have z2 : (⟨(d2 i).toArray⟩ : ByteArray).size = 2 := rfl
 have z3 : (⟨(d2 s).toArray⟩ : ByteArray).size = 2 := rfl
 generalize dtext y m d = t0 at *
 generalize (⟨(d2 h).toArray⟩ : ByteArray) = t1 at *
 generalize (⟨(d2 i).toArray⟩ : ByteArray) = t2 at *
 generalize (⟨(d2 s).toArray⟩ : ByteArray) = t3 at *
 have mk : Mark 0 := .mk _
 clear ok oh a1 a2 a3 a4 a5 a6
 go_enter Tryz.func28, Tryz.ntmps28
 go_wp2_with (first | (go_at_call 51; refine (cD _).mono ?_; rintro e u0 ⟨rfl, hb⟩; have hw : Below w.heap.size w u0 := rbel_on hb (rbel_al (Below.refl _ _)); have P : Row u0 w.heap.size [.int .i64 y, .int .i64 m, .int .i64 d, .int .i64 h, .int .i64 i, .int .i64 s] := Row.on hb (Row.made rfl); have q3 := P.c 3 _ rfl; have q4 := P.c 4 _ rfl; have q5 := P.c 5 _ rfl; clear hb) | (go_at_call 52; have cq : Mark 0 := mk; refine (c1 _).mono ?_; clear cq mk; have mk : Mark 1 := .mk _; rintro e u ⟨rfl, hu⟩; rw [hu]; clear hu) | (go_at_call 52; have cq : Mark 1 := mk; refine (c2 _).mono ?_; clear cq mk; have mk : Mark 2 := .mk _; rintro e u ⟨rfl, hu⟩; rw [hu]; clear hu) | (go_at_call 52; have cq : Mark 2 := mk; refine (c3 _).mono ?_; clear cq mk; have mk : Mark 3 := .mk _; rintro e u ⟨rfl, hu⟩; rw [hu]; clear hu))
 go_ret
 exact ⟨str_is E.out, hw⟩
set_option maxHeartbeats 16000000
theorem nt_bR {n t p : Int} (h1 : 0 ≤ n) (h2 : n ≤ 1000000000000) (h5 : 0 ≤ t) (h6 : t ≤ 1000) (h3 : 0 ≤ p) (h4 : p ≤ 1000) : 0 ≤ n * t ∧ n * t ≤ 1000000000000000 ∧ 0 ≤ n * t * p ∧ n * t * p ≤ 1000000000000000000 := by
 obtain ⟨a, b⟩ := np_b h1 h2 h5 h6
 exact ⟨a, b, mul_low a h3, Int.le_trans (mul_high a h3 b h4) (by decide)⟩
theorem grow_bR {n p : Int} (h : rdy n p = true) : 0 ≤ (n * 3 * p + 1000000 - 1) / 1000000 ∧ (n * 3 * p + 1000000 - 1) / 1000000 ≤ 3000000001 := by
 obtain ⟨h1, h2, h3, h4⟩ := rdy_t h
 have e : n * 3 * p = 3 * (n * p) := by rw [Int.mul_comm n 3, Int.mul_assoc]
 have := np_b h1 h2 h3 h4
 rw [e]
 generalize n * p = X at *
 omega
theorem rtime_yes (n : Int) (w : World) (h1 : -1000000000000 ≤ n) (h2 : n ≤ 1000000000000) :
  Calls Tryz.prog 80 #[.int .i64 n] w fun e w' => e = .returned (.bool true) ∧ w' = w := by
 go_enter Tryz.func80, Tryz.ntmps80
 go_wp2
 go_ret
 exact ⟨rfl, rfl⟩

theorem rtime_low (n : Int) (w : World) (h : decide (-1000000000000 ≤ n) = false) :
  Calls Tryz.prog 80 #[.int .i64 n] w fun e w' => e = .returned (.bool false) ∧ w' = w := by
 go_enter Tryz.func80, Tryz.ntmps80
 go_wp2
 go_ret
 exact ⟨rfl, rfl⟩

theorem rtime_high (n : Int) (w : World) (h1 : -1000000000000 ≤ n) (h2 : decide (n ≤ 1000000000000) = false) :
  Calls Tryz.prog 80 #[.int .i64 n] w fun e w' => e = .returned (.bool false) ∧ w' = w := by
 go_enter Tryz.func80, Tryz.ntmps80
 go_wp2
 go_ret
 exact ⟨rfl, rfl⟩

theorem rtime_same (n : Int) (w : World) :
  Calls Tryz.prog 80 #[.int .i64 n] w fun e w' => e = .returned (.bool (tmB n)) ∧ w' = w := by
 cases h : tmB n with
 | true => exact rtime_yes n w (tmB_t h).1 (tmB_t h).2
 | false =>
  by_cases h1 : -1000000000000 ≤ n
  ·exact rtime_high n w h1 (decide_eq_false (by have := tmB_f h; omega))
  ·exact rtime_low n w (decide_eq_false h1)
theorem rtime_is (n : Int) (w : World) :
  Calls Tryz.prog 80 #[.int .i64 n] w fun e w' => e = .returned (.bool (tmB n)) ∧ Below w.heap.size w w' := by
 refine (rtime_same n w).mono ?_
 rintro e w' ⟨rfl, rfl⟩
 exact ⟨rfl, Below.refl _ _⟩

theorem rprobe_aJ (a b c d : Int) (w : World) (E : Int) (H : ((tmB a = false) ∧ E = (1)) ∨ ((tmB a = true) ∧ (tmB b = false) ∧ E = (1)) ∨ ((tmB a = true) ∧ (tmB b = true) ∧ (tmB c = false) ∧ E = (1)) ∨ ((tmB a = true) ∧ (tmB b = true) ∧ (tmB c = true) ∧ (tmB d = false) ∧ E = (1)) ∨ ((tmB a = true) ∧ (tmB b = true) ∧ (tmB c = true) ∧ (tmB d = true) ∧ (d < a) ∧ E = (3)) ∨ ((tmB a = true) ∧ (tmB b = true) ∧ (tmB c = true) ∧ (tmB d = true) ∧ (a ≤ d) ∧ (c < b) ∧ E = (3)) ∨ ((tmB a = true) ∧ (tmB b = true) ∧ (tmB c = true) ∧ (tmB d = true) ∧ (a ≤ d) ∧ (b ≤ c) ∧ E = (0))) :
  Calls Tryz.prog 103 #[.agg #[.int .i64 a, .int .i64 b, .int .i64 c, .int .i64 d]] w fun e w' => e = .returned (.int .i64 E) ∧ Below w.heap.size w w' := by
 rcases H with ⟨h0, rfl⟩ | ⟨h0, h1, rfl⟩ | ⟨h0, h1, h2, rfl⟩ | ⟨h0, h1, h2, h3, rfl⟩ | ⟨h0, h1, h2, h3, h4, rfl⟩ | ⟨h0, h1, h2, h3, h4, h5, rfl⟩ | ⟨h0, h1, h2, h3, h4, h5, rfl⟩
 all_goals
  have cnt : Mark 0 := .mk _
  go_enter Tryz.func103, Tryz.ntmps103
  go_wp2_with (first | (go_at_call 80; have cq : Mark 0 := cnt; refine (rtime_is _ _).mono ?_; clear cq cnt; have cnt : Mark 1 := .mk _; rintro e u0 ⟨rfl, hb⟩; replace hw : Below w.heap.size w u0 := rbel_on hb (rbel_al (Below.refl _ _)); replace PP : Row u0 (w.heap.size) [.int .i64 (a), .int .i64 (b), .int .i64 (c), .int .i64 (d)] := Row.on hb (Row.made (by simp)); replace cP0 := PP.c 0 _ rfl; replace cP1 := PP.c 1 _ rfl; replace cP2 := PP.c 2 _ rfl; replace cP3 := PP.c 3 _ rfl; replace zP := PP.lt; clear hb) | (go_at_call 80; have cq : Mark 1 := cnt; refine (rtime_is _ _).mono ?_; clear cq cnt; have cnt : Mark 2 := .mk _; rintro e u1 ⟨rfl, hb⟩; replace hw : Below w.heap.size w u1 := rbel_on hb (hw); replace PP : Row u1 (w.heap.size) [.int .i64 (a), .int .i64 (b), .int .i64 (c), .int .i64 (d)] := Row.on hb (PP); replace cP0 := PP.c 0 _ rfl; replace cP1 := PP.c 1 _ rfl; replace cP2 := PP.c 2 _ rfl; replace cP3 := PP.c 3 _ rfl; replace zP := PP.lt; clear hb) | (go_at_call 80; have cq : Mark 2 := cnt; refine (rtime_is _ _).mono ?_; clear cq cnt; have cnt : Mark 3 := .mk _; rintro e u2 ⟨rfl, hb⟩; replace hw : Below w.heap.size w u2 := rbel_on hb (hw); replace PP : Row u2 (w.heap.size) [.int .i64 (a), .int .i64 (b), .int .i64 (c), .int .i64 (d)] := Row.on hb (PP); replace cP0 := PP.c 0 _ rfl; replace cP1 := PP.c 1 _ rfl; replace cP2 := PP.c 2 _ rfl; replace cP3 := PP.c 3 _ rfl; replace zP := PP.lt; clear hb) | (go_at_call 80; have cq : Mark 3 := cnt; refine (rtime_is _ _).mono ?_; clear cq cnt; have cnt : Mark 4 := .mk _; rintro e u3 ⟨rfl, hb⟩; replace hw : Below w.heap.size w u3 := rbel_on hb (hw); replace PP : Row u3 (w.heap.size) [.int .i64 (a), .int .i64 (b), .int .i64 (c), .int .i64 (d)] := Row.on hb (PP); replace cP0 := PP.c 0 _ rfl; replace cP1 := PP.c 1 _ rfl; replace cP2 := PP.c 2 _ rfl; replace cP3 := PP.c 3 _ rfl; replace zP := PP.lt; clear hb))
  go_ret
  exact ⟨rfl, hw⟩
theorem rprobe_a (a b c d : Int) (w : World) (h0 : tmB a = false) : Calls Tryz.prog 103 #[.agg #[.int .i64 a, .int .i64 b, .int .i64 c, .int .i64 d]] w fun e w' => e = .returned (.int .i64 (1)) ∧ Below w.heap.size w w' := rprobe_aJ a b c d w (1) (Or.inl ⟨h0, rfl⟩)
theorem rprobe_b (a b c d : Int) (w : World) (h0 : tmB a = true) (h1 : tmB b = false) : Calls Tryz.prog 103 #[.agg #[.int .i64 a, .int .i64 b, .int .i64 c, .int .i64 d]] w fun e w' => e = .returned (.int .i64 (1)) ∧ Below w.heap.size w w' := rprobe_aJ a b c d w (1) (Or.inr (Or.inl ⟨h0, h1, rfl⟩))
theorem rprobe_c (a b c d : Int) (w : World) (h0 : tmB a = true) (h1 : tmB b = true) (h2 : tmB c = false) : Calls Tryz.prog 103 #[.agg #[.int .i64 a, .int .i64 b, .int .i64 c, .int .i64 d]] w fun e w' => e = .returned (.int .i64 (1)) ∧ Below w.heap.size w w' := rprobe_aJ a b c d w (1) (Or.inr (Or.inr (Or.inl ⟨h0, h1, h2, rfl⟩)))
theorem rprobe_d (a b c d : Int) (w : World) (h0 : tmB a = true) (h1 : tmB b = true) (h2 : tmB c = true) (h3 : tmB d = false) : Calls Tryz.prog 103 #[.agg #[.int .i64 a, .int .i64 b, .int .i64 c, .int .i64 d]] w fun e w' => e = .returned (.int .i64 (1)) ∧ Below w.heap.size w w' := rprobe_aJ a b c d w (1) (Or.inr (Or.inr (Or.inr (Or.inl ⟨h0, h1, h2, h3, rfl⟩))))
theorem rprobe_x (a b c d : Int) (w : World) (h0 : tmB a = true) (h1 : tmB b = true) (h2 : tmB c = true) (h3 : tmB d = true) (h4 : d < a) : Calls Tryz.prog 103 #[.agg #[.int .i64 a, .int .i64 b, .int .i64 c, .int .i64 d]] w fun e w' => e = .returned (.int .i64 (3)) ∧ Below w.heap.size w w' := rprobe_aJ a b c d w (3) (Or.inr (Or.inr (Or.inr (Or.inr (Or.inl ⟨h0, h1, h2, h3, h4, rfl⟩)))))
theorem rprobe_y (a b c d : Int) (w : World) (h0 : tmB a = true) (h1 : tmB b = true) (h2 : tmB c = true) (h3 : tmB d = true) (h4 : a ≤ d) (h5 : c < b) : Calls Tryz.prog 103 #[.agg #[.int .i64 a, .int .i64 b, .int .i64 c, .int .i64 d]] w fun e w' => e = .returned (.int .i64 (3)) ∧ Below w.heap.size w w' := rprobe_aJ a b c d w (3) (Or.inr (Or.inr (Or.inr (Or.inr (Or.inr (Or.inl ⟨h0, h1, h2, h3, h4, h5, rfl⟩))))))
theorem rprobe_z (a b c d : Int) (w : World) (h0 : tmB a = true) (h1 : tmB b = true) (h2 : tmB c = true) (h3 : tmB d = true) (h4 : a ≤ d) (h5 : b ≤ c) : Calls Tryz.prog 103 #[.agg #[.int .i64 a, .int .i64 b, .int .i64 c, .int .i64 d]] w fun e w' => e = .returned (.int .i64 (0)) ∧ Below w.heap.size w w' := rprobe_aJ a b c d w (0) (Or.inr (Or.inr (Or.inr (Or.inr (Or.inr (Or.inr (⟨h0, h1, h2, h3, h4, h5, rfl⟩)))))))
theorem rprobe_is (a b c d : Int) (w : World) :
  Calls Tryz.prog 103 #[.agg #[.int .i64 a, .int .i64 b, .int .i64 c, .int .i64 d]] w fun e w' => e = .returned (.int .i64 (pE a b c d)) ∧ Below w.heap.size w w' := by
 by_cases h : pE a b c d = 0
 ·rw [h]
  obtain ⟨h0, h1, h2, h3, h4, h5⟩ := pE_zero h
  exact rprobe_z a b c d w h0 h1 h2 h3 h4 h5
 rcases pE_some h with ⟨e, k⟩ | ⟨e, h0, h1, h2, h3, k⟩
 ·rw [e]
  cases h0 : tmB a with
  | false => exact rprobe_a a b c d w h0
  | true =>
  cases h1 : tmB b with
  | false => exact rprobe_b a b c d w h0 h1
  | true =>
  cases h2 : tmB c with
  | false => exact rprobe_c a b c d w h0 h1 h2
  | true =>
  cases h3 : tmB d with
  | false => exact rprobe_d a b c d w h0 h1 h2 h3
  | true => simp [h0, h1, h2, h3] at k
 ·rw [e]
  by_cases h4 : d < a
  ·exact rprobe_x a b c d w h0 h1 h2 h3 h4
  ·exact rprobe_y a b c d w h0 h1 h2 h3 (by omega) (by omega)

theorem rslack (n p g : Int) (w : World) (h : rdy n p = true) (hg : Hid (g = (n * 3 * p + 1000000 - 1) / 1000000)) (g1 : 0 ≤ g) (g2 : g ≤ 3000000001) :
  Calls Tryz.prog 104 #[.int .i64 n, .int .i64 p] w fun e w' => e = .returned (.int .i64 (2 + g)) ∧ w' = w := by
 have q := rdy_t h
 obtain ⟨h1, h2, h3, h4⟩ := q
 have nb := nt_bR (t := 3) h1 h2 (by decide) (by decide) h3 h4
 obtain ⟨b1, b2, b3, b4⟩ := nb
 have cU : ∀ u, Calls Tryz.prog 138 #[.int .i64 (n * 3 * p), .int .i64 1000000] u fun e w' => e = .returned (.int .i64 g) ∧ w' = u := by
  intro u
  rw [hg.out]
  exact rup_same (n * 3 * p) 1000000 u b3 (by omega) (by decide) (by decide)
 clear hg
 go_enter Tryz.func104, Tryz.ntmps104
 go_wp2_with (go_at_call 138; refine (cU _).mono ?_; rintro e u ⟨rfl, rfl⟩)
 go_ret
 exact ⟨rfl, rfl⟩

theorem roff_p (a b c d p : Int) (w : World) (h : pE a b c d ≠ 0) :
  Calls Tryz.prog 75 #[.agg #[.int .i64 a, .int .i64 b, .int .i64 c, .int .i64 d], .int .i64 p] w fun e w' => e = .returned (.tuple #[.agg #[.int .i64 0, .int .i64 0], .int .i64 (pE a b c d)]) ∧ Below w.heap.size w w' := by
 have cP : ∀ u, Calls Tryz.prog 103 #[.agg #[.int .i64 a, .int .i64 b, .int .i64 c, .int .i64 d]] u fun e w' => e = .returned (.int .i64 (pE a b c d)) ∧ Below u.heap.size u w' := fun u => rprobe_is a b c d u
 have hne : (pE a b c d == 0) = false := by simpa using h
 clear h
 have cnt : Mark 0 := .mk _
 go_enter Tryz.func75, Tryz.ntmps75
 go_wp2_with (first | (go_at_call 103; have cq : Mark 0 := cnt; refine (cP _).mono ?_; clear cq cnt; have cnt : Mark 1 := .mk _; rintro e u0 ⟨rfl, hb⟩; replace hw : Below w.heap.size w u0 := rbel_on hb (rbel_al (rbel_al (Below.refl _ _))); replace PP : Row u0 (w.heap.size) [.int .i64 (a), .int .i64 (b), .int .i64 (c), .int .i64 (d)] := Row.on hb (Row.al (Row.made (by simp))); replace cP0 := PP.c 0 _ rfl; replace cP1 := PP.c 1 _ rfl; replace cP2 := PP.c 2 _ rfl; replace cP3 := PP.c 3 _ rfl; replace zP := PP.lt; replace PR : Row u0 (w.heap.size + 1) [.int .i64 0, .int .i64 0] := Row.on hb (Row.made (by simp)); replace cR0 := PR.c 0 _ rfl; replace cR1 := PR.c 1 _ rfl; replace zR := PR.lt; replace fR0 := PR.f 0 _ rfl; replace fR1 := PR.f 1 _ rfl; clear hb))
 exact bodyPost_ret (v := _) (by simp [results, Tryz.results75, go_sem, *]) rfl ⟨rfl, by (repeat (first | assumption | exact Below.refl _ _ | refine Below.alloc ?_ (by first | (simp; done) | (simp; omega) | omega) _ | refine Below.setCell ?_ (by first | (with_reducible assumption) | (simp; done) | (simp; omega) | omega) _ | apply Below.drew | apply below_drewN | refine below_tr (by assumption) ?_))⟩

theorem roff_r1J (a b c d p : Int) (w : World) (h : pE a b c d = 0) (H : ((p < 0)) ∨ ((decide (p < 0) = false) ∧ (decide (1000 < p) = true)) ∨ ((decide (p < 0) = false) ∧ (decide (1000 < p) = false) ∧ (decide (1000000000000 < d - a) = true))) :
  Calls Tryz.prog 75 #[.agg #[.int .i64 a, .int .i64 b, .int .i64 c, .int .i64 d], .int .i64 p] w fun e w' => e = .returned (.tuple #[.agg #[.int .i64 0, .int .i64 0], .int .i64 (1)]) ∧ Below w.heap.size w w' := by
 rcases H with k | ⟨k0, k⟩ | ⟨k0, k1, k⟩
 all_goals
  have cP : ∀ u, Calls Tryz.prog 103 #[.agg #[.int .i64 a, .int .i64 b, .int .i64 c, .int .i64 d]] u fun e w' => e = .returned (.int .i64 0) ∧ Below u.heap.size u w' := fun u => by rw [← h]; exact rprobe_is a b c d u
  have q := pE_zero h
  have qa := tmB_t q.1
  have qb := tmB_t q.2.1
  have qc := tmB_t q.2.2.1
  have qd := tmB_t q.2.2.2.1
  have qx := q.2.2.2.2.1
  have qy := q.2.2.2.2.2
  clear q h
  obtain ⟨a1, a2⟩ := qa
  obtain ⟨b1, b2⟩ := qb
  obtain ⟨c1, c2⟩ := qc
  obtain ⟨d1, d2⟩ := qd
  have cnt : Mark 0 := .mk _
  go_enter Tryz.func75, Tryz.ntmps75
  go_wp2_with (first | (go_at_call 103; have cq : Mark 0 := cnt; refine (cP _).mono ?_; clear cq cnt; have cnt : Mark 1 := .mk _; rintro e u0 ⟨rfl, hb⟩; replace hw : Below w.heap.size w u0 := rbel_on hb (rbel_al (rbel_al (Below.refl _ _))); replace PP : Row u0 (w.heap.size) [.int .i64 (a), .int .i64 (b), .int .i64 (c), .int .i64 (d)] := Row.on hb (Row.al (Row.made (by simp))); replace cP0 := PP.c 0 _ rfl; replace cP1 := PP.c 1 _ rfl; replace cP2 := PP.c 2 _ rfl; replace cP3 := PP.c 3 _ rfl; replace zP := PP.lt; replace PR : Row u0 (w.heap.size + 1) [.int .i64 0, .int .i64 0] := Row.on hb (Row.made (by simp)); replace cR0 := PR.c 0 _ rfl; replace cR1 := PR.c 1 _ rfl; replace zR := PR.lt; replace fR0 := PR.f 0 _ rfl; replace fR1 := PR.f 1 _ rfl; clear hb))
  exact bodyPost_ret (v := _) (by simp [results, Tryz.results75, go_sem, *]) rfl ⟨rfl, by (repeat (first | assumption | exact Below.refl _ _ | refine Below.alloc ?_ (by first | (simp; done) | (simp; omega) | omega) _ | refine Below.setCell ?_ (by first | (with_reducible assumption) | (simp; done) | (simp; omega) | omega) _ | apply Below.drew | apply below_drewN | refine below_tr (by assumption) ?_))⟩
theorem roff_r1 (a b c d p : Int) (w : World) (h : pE a b c d = 0) (k : p < 0) : Calls Tryz.prog 75 #[.agg #[.int .i64 a, .int .i64 b, .int .i64 c, .int .i64 d], .int .i64 p] w fun e w' => e = .returned (.tuple #[.agg #[.int .i64 0, .int .i64 0], .int .i64 (1)]) ∧ Below w.heap.size w w' := roff_r1J a b c d p w h (Or.inl k)
theorem roff_r2 (a b c d p : Int) (w : World) (h : pE a b c d = 0) (k0 : decide (p < 0) = false) (k : decide (1000 < p) = true) : Calls Tryz.prog 75 #[.agg #[.int .i64 a, .int .i64 b, .int .i64 c, .int .i64 d], .int .i64 p] w fun e w' => e = .returned (.tuple #[.agg #[.int .i64 0, .int .i64 0], .int .i64 (1)]) ∧ Below w.heap.size w w' := roff_r1J a b c d p w h (Or.inr (Or.inl ⟨k0, k⟩))
theorem roff_r3 (a b c d p : Int) (w : World) (h : pE a b c d = 0) (k0 : decide (p < 0) = false) (k1 : decide (1000 < p) = false) (k : decide (1000000000000 < d - a) = true) : Calls Tryz.prog 75 #[.agg #[.int .i64 a, .int .i64 b, .int .i64 c, .int .i64 d], .int .i64 p] w fun e w' => e = .returned (.tuple #[.agg #[.int .i64 0, .int .i64 0], .int .i64 (1)]) ∧ Below w.heap.size w w' := roff_r1J a b c d p w h (Or.inr (Or.inr (⟨k0, k1, k⟩)))
theorem roff_loJ (a b c d p : Int) (w : World) (h : pE a b c d = 0) (k : rdy (d - a) p = true) (g : Int) (hg : Hid (g = ((d - a) * 3 * p + 1000000 - 1) / 1000000)) (g1 : 0 ≤ g) (g2 : g ≤ 3000000001) (E : Value) (H : ((tmB (c - d) = false) ∧ E = (.tuple #[.agg #[.int .i64 0, .int .i64 0], .int .i64 (1)])) ∨ ((tmB (c - d) = true) ∧ (tmB (b - a + (2 + g)) = false) ∧ E = (.tuple #[.agg #[.int .i64 0, .int .i64 0], .int .i64 (1)])) ∨ ((tmB (c - d) = true) ∧ (tmB (b - a + (2 + g)) = true) ∧ (b - a + (2 + g) < c - d) ∧ E = (.tuple #[.agg #[.int .i64 0, .int .i64 0], .int .i64 (7)])) ∨ ((tmB (c - d) = true) ∧ (tmB (b - a + (2 + g)) = true) ∧ (c - d ≤ b - a + (2 + g)) ∧ E = (.tuple #[.agg #[.int .i64 (c - d), .int .i64 (b - a + (2 + g))], .int .i64 (0)]))) :
  Calls Tryz.prog 75 #[.agg #[.int .i64 a, .int .i64 b, .int .i64 c, .int .i64 d], .int .i64 p] w fun e w' => e = .returned E ∧ Below w.heap.size w w' := by
 rcases H with ⟨l, rfl⟩ | ⟨l, m, rfl⟩ | ⟨l, m, n, rfl⟩ | ⟨l, m, n, rfl⟩
 all_goals
  have cP : ∀ u, Calls Tryz.prog 103 #[.agg #[.int .i64 a, .int .i64 b, .int .i64 c, .int .i64 d]] u fun e w' => e = .returned (.int .i64 0) ∧ Below u.heap.size u w' := fun u => by rw [← h]; exact rprobe_is a b c d u
  have q := pE_zero h
  have qa := tmB_t q.1
  have qb := tmB_t q.2.1
  have qc := tmB_t q.2.2.1
  have qd := tmB_t q.2.2.2.1
  have qx := q.2.2.2.2.1
  have qy := q.2.2.2.2.2
  clear q h
  obtain ⟨a1, a2⟩ := qa
  obtain ⟨b1, b2⟩ := qb
  obtain ⟨c1, c2⟩ := qc
  obtain ⟨d1, d2⟩ := qd
  have cS : ∀ u, Calls Tryz.prog 104 #[.int .i64 (d - a), .int .i64 p] u fun e w' => e = .returned (.int .i64 (2 + g)) ∧ w' = u := fun u => rslack (d - a) p g u k hg g1 g2
  clear hg
  obtain ⟨n1, n2, n3, n4⟩ := rdy_t k
  have o1 : decide (p < 0) = false := decide_eq_false (by omega)
  have o2 : decide (1000 < p) = false := decide_eq_false (by omega)
  have o3 : decide (1000000000000 < d - a) = false := decide_eq_false (by omega)
  have cnt : Mark 0 := .mk _
  go_enter Tryz.func75, Tryz.ntmps75
  go_wp2_with (first | (go_at_call 103; have cq : Mark 0 := cnt; refine (cP _).mono ?_; clear cq cnt; have cnt : Mark 1 := .mk _; rintro e u0 ⟨rfl, hb⟩; replace hw : Below w.heap.size w u0 := rbel_on hb (rbel_al (rbel_al (Below.refl _ _))); replace PP : Row u0 (w.heap.size) [.int .i64 (a), .int .i64 (b), .int .i64 (c), .int .i64 (d)] := Row.on hb (Row.al (Row.made (by simp))); replace cP0 := PP.c 0 _ rfl; replace cP1 := PP.c 1 _ rfl; replace cP2 := PP.c 2 _ rfl; replace cP3 := PP.c 3 _ rfl; replace zP := PP.lt; replace PR : Row u0 (w.heap.size + 1) [.int .i64 0, .int .i64 0] := Row.on hb (Row.made (by simp)); replace cR0 := PR.c 0 _ rfl; replace cR1 := PR.c 1 _ rfl; replace zR := PR.lt; replace fR0 := PR.f 0 _ rfl; replace fR1 := PR.f 1 _ rfl; clear hb))
  have e1 : IntKind.i64.wrap (c - d) = c - d := IntWalk.i64_in _ (by omega)
  have e2 : IntKind.i64.wrap (b - a) = b - a := IntWalk.i64_in _ (by omega)
  have e3 : IntKind.i64.wrap (d - a) = d - a := IntWalk.i64_in _ (by omega)
  have e4 : IntKind.i64.wrap (b - a + (2 + g)) = b - a + (2 + g) := IntWalk.i64_in _ (by omega)
  have qA := fun x y : Value => (Row.al (cs := #[x, y]) (t := 34) PP).c 0 _ rfl
  have qB := fun x y : Value => (Row.al (cs := #[x, y]) (t := 34) PP).c 1 _ rfl
  have qC := fun x y : Value => (Row.al (cs := #[x, y]) (t := 34) PP).c 2 _ rfl
  have qD := fun x y : Value => (Row.al (cs := #[x, y]) (t := 34) PP).c 3 _ rfl
  go_region_held (fun w' => w'.cell? ⟨w.heap.size, 0, none⟩ = some (.int .i64 a) ∧ w'.cell? ⟨w.heap.size, 1, none⟩ = some (.int .i64 b) ∧ w'.cell? ⟨w.heap.size, 2, none⟩ = some (.int .i64 c) ∧ w'.cell? ⟨w.heap.size, 3, none⟩ = some (.int .i64 d)) (go_keep) (first | (go_at_call 104; refine (cS _).mono ?_; rintro e u ⟨rfl, rfl⟩))
  clear e1 e2 e3 e4 qA qB qC qD
  all_goals
   go_wp2_with (first | (go_at_call 80; have cq : Mark 1 := cnt; refine (rtime_is _ _).mono ?_; clear cq cnt; have cnt : Mark 2 := .mk _; rintro e u1 ⟨rfl, hb⟩; replace hw : Below w.heap.size w u1 := rbel_on hb (rbel_dr (rbel_al (hw))); replace PP : Row u1 (w.heap.size) [.int .i64 (a), .int .i64 (b), .int .i64 (c), .int .i64 (d)] := Row.on hb (Row.dr (Row.al (PP))); replace cP0 := PP.c 0 _ rfl; replace cP1 := PP.c 1 _ rfl; replace cP2 := PP.c 2 _ rfl; replace cP3 := PP.c 3 _ rfl; replace zP := PP.lt; replace PR : Row u1 (w.heap.size + 1) [.int .i64 0, .int .i64 0] := Row.on hb (Row.dr (Row.al (PR))); replace cR0 := PR.c 0 _ rfl; replace cR1 := PR.c 1 _ rfl; replace zR := PR.lt; replace fR0 := PR.f 0 _ rfl; replace fR1 := PR.f 1 _ rfl; replace PS : Row u1 (u0.heap.size) [.int .i64 (c - d), .int .i64 (b - a + (2 + g))] := Row.on hb (Row.dr (Row.made (by simp))); replace cS0 := PS.c 0 _ rfl; replace cS1 := PS.c 1 _ rfl; replace zS := PS.lt; clear hb) | (go_at_call 80; have cq : Mark 2 := cnt; refine (rtime_is _ _).mono ?_; clear cq cnt; have cnt : Mark 3 := .mk _; rintro e u2 ⟨rfl, hb⟩; replace hw : Below w.heap.size w u2 := rbel_on hb (hw); replace PP : Row u2 (w.heap.size) [.int .i64 (a), .int .i64 (b), .int .i64 (c), .int .i64 (d)] := Row.on hb (PP); replace cP0 := PP.c 0 _ rfl; replace cP1 := PP.c 1 _ rfl; replace cP2 := PP.c 2 _ rfl; replace cP3 := PP.c 3 _ rfl; replace zP := PP.lt; replace PR : Row u2 (w.heap.size + 1) [.int .i64 0, .int .i64 0] := Row.on hb (PR); replace cR0 := PR.c 0 _ rfl; replace cR1 := PR.c 1 _ rfl; replace zR := PR.lt; replace fR0 := PR.f 0 _ rfl; replace fR1 := PR.f 1 _ rfl; replace PS : Row u2 (u0.heap.size) [.int .i64 (c - d), .int .i64 (b - a + (2 + g))] := Row.on hb (PS); replace cS0 := PS.c 0 _ rfl; replace cS1 := PS.c 1 _ rfl; replace zS := PS.lt; clear hb))
   exact bodyPost_ret (v := _) (by simp [results, Tryz.results75, go_sem, *]) rfl ⟨rfl, by (repeat (first | assumption | exact Below.refl _ _ | refine Below.alloc ?_ (by first | (simp; done) | (simp; omega) | omega) _ | refine Below.setCell ?_ (by first | (with_reducible assumption) | (simp; done) | (simp; omega) | omega) _ | apply Below.drew | apply below_drewN | refine below_tr (by assumption) ?_))⟩
theorem roff_lo (a b c d p : Int) (w : World) (h : pE a b c d = 0) (k : rdy (d - a) p = true) (g : Int) (hg : Hid (g = ((d - a) * 3 * p + 1000000 - 1) / 1000000)) (g1 : 0 ≤ g) (g2 : g ≤ 3000000001) (l : tmB (c - d) = false) : Calls Tryz.prog 75 #[.agg #[.int .i64 a, .int .i64 b, .int .i64 c, .int .i64 d], .int .i64 p] w fun e w' => e = .returned (.tuple #[.agg #[.int .i64 0, .int .i64 0], .int .i64 (1)]) ∧ Below w.heap.size w w' := roff_loJ a b c d p w h k g hg g1 g2 (.tuple #[.agg #[.int .i64 0, .int .i64 0], .int .i64 (1)]) (Or.inl ⟨l, rfl⟩)
theorem roff_hi (a b c d p : Int) (w : World) (h : pE a b c d = 0) (k : rdy (d - a) p = true) (g : Int) (hg : Hid (g = ((d - a) * 3 * p + 1000000 - 1) / 1000000)) (g1 : 0 ≤ g) (g2 : g ≤ 3000000001) (l : tmB (c - d) = true) (m : tmB (b - a + (2 + g)) = false) : Calls Tryz.prog 75 #[.agg #[.int .i64 a, .int .i64 b, .int .i64 c, .int .i64 d], .int .i64 p] w fun e w' => e = .returned (.tuple #[.agg #[.int .i64 0, .int .i64 0], .int .i64 (1)]) ∧ Below w.heap.size w w' := roff_loJ a b c d p w h k g hg g1 g2 (.tuple #[.agg #[.int .i64 0, .int .i64 0], .int .i64 (1)]) (Or.inr (Or.inl ⟨l, m, rfl⟩))
theorem roff_x (a b c d p : Int) (w : World) (h : pE a b c d = 0) (k : rdy (d - a) p = true) (g : Int) (hg : Hid (g = ((d - a) * 3 * p + 1000000 - 1) / 1000000)) (g1 : 0 ≤ g) (g2 : g ≤ 3000000001) (l : tmB (c - d) = true) (m : tmB (b - a + (2 + g)) = true) (n : b - a + (2 + g) < c - d) : Calls Tryz.prog 75 #[.agg #[.int .i64 a, .int .i64 b, .int .i64 c, .int .i64 d], .int .i64 p] w fun e w' => e = .returned (.tuple #[.agg #[.int .i64 0, .int .i64 0], .int .i64 (7)]) ∧ Below w.heap.size w w' := roff_loJ a b c d p w h k g hg g1 g2 (.tuple #[.agg #[.int .i64 0, .int .i64 0], .int .i64 (7)]) (Or.inr (Or.inr (Or.inl ⟨l, m, n, rfl⟩)))
theorem roff_y (a b c d p : Int) (w : World) (h : pE a b c d = 0) (k : rdy (d - a) p = true) (g : Int) (hg : Hid (g = ((d - a) * 3 * p + 1000000 - 1) / 1000000)) (g1 : 0 ≤ g) (g2 : g ≤ 3000000001) (l : tmB (c - d) = true) (m : tmB (b - a + (2 + g)) = true) (n : c - d ≤ b - a + (2 + g)) : Calls Tryz.prog 75 #[.agg #[.int .i64 a, .int .i64 b, .int .i64 c, .int .i64 d], .int .i64 p] w fun e w' => e = .returned (.tuple #[.agg #[.int .i64 (c - d), .int .i64 (b - a + (2 + g))], .int .i64 (0)]) ∧ Below w.heap.size w w' := roff_loJ a b c d p w h k g hg g1 g2 (.tuple #[.agg #[.int .i64 (c - d), .int .i64 (b - a + (2 + g))], .int .i64 (0)]) (Or.inr (Or.inr (Or.inr (⟨l, m, n, rfl⟩))))
theorem oH_at (a b d p : Int) : oH a b d p = b - a + (2 + ((d - a) * 3 * p + 1000000 - 1) / 1000000) := by unfold oH; omega
theorem roff_ok (a b c d p : Int) (w : World) (h : oE a b c d p = 0) :
  Calls Tryz.prog 75 #[.agg #[.int .i64 a, .int .i64 b, .int .i64 c, .int .i64 d], .int .i64 p] w fun e w' => e = .returned (.tuple #[.agg #[.int .i64 (c - d), .int .i64 (oH a b d p)], .int .i64 0]) ∧ Below w.heap.size w w' := by
 obtain ⟨h1, h2, h3, h4, h5⟩ := oE_zero h
 have g := grow_bR h2
 rw [oH_at] at h4 h5 ⊢
 exact roff_y a b c d p w h1 h2 _ rfl g.1 g.2 h3 h4 h5

theorem roff_no (a b c d p : Int) (w : World) (h : oE a b c d p ≠ 0) :
  Calls Tryz.prog 75 #[.agg #[.int .i64 a, .int .i64 b, .int .i64 c, .int .i64 d], .int .i64 p] w fun e w' => e = .returned (.tuple #[.agg #[.int .i64 0, .int .i64 0], .int .i64 (oE a b c d p)]) ∧ Below w.heap.size w w' := by
 by_cases h1 : pE a b c d = 0
 ·have q := (pE_zero h1).2.2.2.2.1
  cases h2 : rdy (d - a) p with
  | false =>
   rw [oE_rdy h1 h2]
   have k := rdy_f h2
   by_cases k1 : p < 0
   ·exact roff_r1 a b c d p w h1 k1
   ·by_cases k2 : 1000 < p
    ·exact roff_r2 a b c d p w h1 (decide_eq_false k1) (decide_eq_true k2)
    ·exact roff_r3 a b c d p w h1 (decide_eq_false k1) (decide_eq_false k2) (decide_eq_true (by omega))
  | true =>
  have g := grow_bR h2
  cases h3 : tmB (c - d) with
  | false => rw [oE_lo h1 h2 h3]; exact roff_lo a b c d p w h1 h2 _ rfl g.1 g.2 h3
  | true =>
  cases h4 : tmB (oH a b d p) with
  | false => rw [oE_hi h1 h2 h4]; rw [oH_at] at h4; exact roff_hi a b c d p w h1 h2 _ rfl g.1 g.2 h3 h4
  | true =>
  by_cases h5 : oH a b d p < c - d
  ·rw [oE_clash h1 h2 h3 h4 h5]; rw [oH_at] at h4 h5; exact roff_x a b c d p w h1 h2 _ rfl g.1 g.2 h3 h4 h5
  ·exact absurd (oE_fine h1 h2 h3 h4 (by omega)) h
 ·rw [oE_p h1]; exact roff_p a b c d p w h1

end Go.Proofs.YtadkgnbagmnkkakGreatDoor
