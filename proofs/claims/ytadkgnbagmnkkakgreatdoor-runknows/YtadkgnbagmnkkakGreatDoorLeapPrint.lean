/- What leap.Print answers. -/
import Derived.Test.YtadkgnbagmnkkakGreatDoorNm23
import Derived.Test.YtadkgnbagmnkkakGreatDoorCivilPrint
namespace Go.Proofs.YtadkgnbagmnkkakGreatDoor
open Go.ChangeShapes Go.WideShapes Go.ChangeAt Go.RowKit
set_option linter.unusedVariables false
set_option linter.unusedSimpArgs false

theorem lpr_ok {y m d : Int} (h : okD y m d = true) (u : World) (he : EnvA u) (ht : EnvT u) : Calls Tryz.prog 131 #[.agg #[.int .i64 y, .int .i64 m, .int .i64 d]] u fun e w' => e = .returned (.tuple #[.string (dtext y m d), .nilIface]) ∧ Below u.heap.size u w' := by
 obtain ⟨a, b, c⟩ := ok64 h
 have k := print_any y m d u a b c he ht
 rwa [if_pos h, eD_ok h, errc_zero] at k
set_option maxHeartbeats 2000000 in
theorem lprint_date (y m d h i s : Int) (w : World) (he : EnvA w) (ht : EnvT w) (wy : In64 y) (wm : In64 m) (wd : In64 d) (o : okD y m d = false) :
  Calls Tryz.prog 96 #[lbl y m d h i s] w fun r w' => r = .returned (.tuple #[.string ⟨#[]⟩, .iface 86 (.int .i64 1)]) ∧ Below w.heap.size w w' := by
 have bel : Below w.heap.size w (w.alloc (.cells #[.int .i64 y, .int .i64 m, .int .i64 d, .int .i64 h, .int .i64 i, .int .i64 s] 81)) := rbel_al (Below.refl _ _)
 have cP := fun u (hu : Below w.heap.size w u) => print_any y m d u wy wm wd (he.below hu) (ht.below hu)
 rw [eD_no o, errc_not (by decide), if_neg (by rw [o]; decide)] at cP
 clear he ht
 go_enter Tryz.func96, Tryz.ntmps96
 go_wp2_with (go_at_call 131; refine (cP _ bel).mono ?_; rintro r u ⟨rfl, hb⟩; have hw : Below w.heap.size w u := rbel_on hb bel; have P0 : Row u w.heap.size [.int .i64 y, .int .i64 m, .int .i64 d, .int .i64 h, .int .i64 i, .int .i64 s] := Row.on hb (Row.made rfl); have c0 := P0.c 0 _ rfl; have c1 := P0.c 1 _ rfl; have c2 := P0.c 2 _ rfl; have c3 := P0.c 3 _ rfl; have c4 := P0.c 4 _ rfl; have c5 := P0.c 5 _ rfl; clear hb)
 go_ret2
 exact ⟨rfl, hw⟩
set_option maxHeartbeats 2000000 in
theorem lprint_hands (y m d h i s : Int) (w : World) (he : EnvA w) (ht : EnvT w) (hN : EnvN w) (o : okD y m d = true) (o2 : okH h i s = false) :
  Calls Tryz.prog 96 #[lbl y m d h i s] w fun r w' => r = .returned (.tuple #[.string ⟨#[]⟩, .iface 86 (.int .i64 1)]) ∧ Below w.heap.size w w' := by
 have bel : Below w.heap.size w (w.alloc (.cells #[.int .i64 y, .int .i64 m, .int .i64 d, .int .i64 h, .int .i64 i, .int .i64 s] 81)) := rbel_al (Below.refl _ _)
 have cP := fun u (hu : Below w.heap.size w u) => lpr_ok o u (he.below hu) (ht.below hu)
 have cK := fun u (hu : Below w.heap.size w u) => hands_any y m d h i s u (hN.below hu)
 rw [eH_no o2, errc_not (by decide)] at cK
 generalize dtext y m d = T at *
 clear he ht
 go_enter Tryz.func96, Tryz.ntmps96
 go_wp2_with (first | (go_at_call 131; refine (cP _ bel).mono ?_; rintro r u ⟨rfl, hb⟩; have hw : Below w.heap.size w u := rbel_on hb bel; have P0 : Row u w.heap.size [.int .i64 y, .int .i64 m, .int .i64 d, .int .i64 h, .int .i64 i, .int .i64 s] := Row.on hb (Row.made rfl); have c0 := P0.c 0 _ rfl; have c1 := P0.c 1 _ rfl; have c2 := P0.c 2 _ rfl; have c3 := P0.c 3 _ rfl; have c4 := P0.c 4 _ rfl; have c5 := P0.c 5 _ rfl; clear hb) | (go_at_call 132; refine (cK _ hw).mono ?_; rintro r u1 ⟨rfl, hb⟩; have hw1 : Below w.heap.size w u1 := rbel_on hb hw; have P1 : Row u1 w.heap.size [.int .i64 y, .int .i64 m, .int .i64 d, .int .i64 h, .int .i64 i, .int .i64 s] := Row.on hb P0; have k0 := P1.c 0 _ rfl; have k1 := P1.c 1 _ rfl; have k2 := P1.c 2 _ rfl; have k3 := P1.c 3 _ rfl; have k4 := P1.c 4 _ rfl; have k5 := P1.c 5 _ rfl; clear hb))
 go_ret2
 exact ⟨rfl, hw1⟩
theorem lret {a b : ByteArray} {v : Value} (h : a = b) : Ending.returned (.tuple #[.string a, v]) = .returned (.tuple #[.string b, v]) := by rw [h]
set_option maxRecDepth 100000 in
set_option maxHeartbeats 8000000 in
theorem lprint_ok (y m d h i s : Int) (w : World) (he : EnvA w) (ht : EnvT w) (hN : EnvN w) (o : okD y m d = true) (o2 : okH h i s = true) :
  Calls Tryz.prog 96 #[lbl y m d h i s] w fun r w' => r = .returned (.tuple #[.string (ltext y m d h i s), .nilIface]) ∧ Below w.heap.size w w' := by
 have bel : Below w.heap.size w (w.alloc (.cells #[.int .i64 y, .int .i64 m, .int .i64 d, .int .i64 h, .int .i64 i, .int .i64 s] 81)) := rbel_al (Below.refl _ _)
 have cP := fun u (hu : Below w.heap.size w u) => lpr_ok o u (he.below hu) (ht.below hu)
 have cK := fun u (hu : Below w.heap.size w u) => hands_any y m d h i s u (hN.below hu)
 rw [eH_ok o2, errc_zero] at cK
 obtain ⟨a1, a2, a3, a4, a5, a6⟩ := okH_t o2
 have cH := fun u hu => two_any h u (by omega) (by omega) hu
 have cI := fun u hu => two_any i u (by omega) (by omega) hu
 have cS := fun u hu => two_any s u (by omega) (by omega) hu
 have E : Hid (dtext y m d ++ ⟨#[84]⟩ ++ ⟨(d2 h).toArray⟩ ++ ⟨#[58]⟩ ++ ⟨(d2 i).toArray⟩ ++ ⟨#[58]⟩ ++ ⟨(d2 s).toArray⟩ = ltext y m d h i s) := by
  show _ = _
  unfold dtext ltext
  rw [show (⟨#[84]⟩ : ByteArray) = ⟨[84].toArray⟩ from rfl, show (⟨#[58]⟩ : ByteArray) = ⟨[58].toArray⟩ from rfl, app_is, app_is, app_is, app_is, app_is, app_is]
 have s0 : (dtext y m d).size = 10 := rfl
 have s1 : (⟨(d2 h).toArray⟩ : ByteArray).size = 2 := rfl
 have s2 : (⟨(d2 i).toArray⟩ : ByteArray).size = 2 := rfl
 have s3 : (⟨(d2 s).toArray⟩ : ByteArray).size = 2 := rfl
 generalize (⟨(d2 h).toArray⟩ : ByteArray) = th at *
 generalize (⟨(d2 i).toArray⟩ : ByteArray) = ti at *
 generalize (⟨(d2 s).toArray⟩ : ByteArray) = ts at *
 generalize dtext y m d = T at *
 have HT : Hid (EnvT w) := ht
 clear he ht o o2 a1 a2 a3 a4 a5 a6
 have cnt : Mark 0 := .mk _
 go_enter Tryz.func96, Tryz.ntmps96
 go_wp2_with (first | (go_at_call 131; refine (cP _ bel).mono ?_; rintro r u ⟨rfl, hb⟩; have hw : Below w.heap.size w u := rbel_on hb bel; have P0 : Row u w.heap.size [.int .i64 y, .int .i64 m, .int .i64 d, .int .i64 h, .int .i64 i, .int .i64 s] := Row.on hb (Row.made rfl); have c0 := P0.c 0 _ rfl; have c1 := P0.c 1 _ rfl; have c2 := P0.c 2 _ rfl; have c3 := P0.c 3 _ rfl; have c4 := P0.c 4 _ rfl; have c5 := P0.c 5 _ rfl; clear hb) | (go_at_call 132; refine (cK _ hw).mono ?_; rintro r u1 ⟨rfl, hb⟩; have hw1 : Below w.heap.size w u1 := rbel_on hb hw; have P1 : Row u1 w.heap.size [.int .i64 y, .int .i64 m, .int .i64 d, .int .i64 h, .int .i64 i, .int .i64 s] := Row.on hb P0; have k0 := P1.c 0 _ rfl; have k1 := P1.c 1 _ rfl; have k2 := P1.c 2 _ rfl; have k3 := P1.c 3 _ rfl; have k4 := P1.c 4 _ rfl; have k5 := P1.c 5 _ rfl; clear hb))
 clear P0 cP cK c0 c1 c2 c3 c4 c5
 go_region_held (fun w' => w'.cell? ⟨w.heap.size, 3, none⟩ = some (.int .i64 h) ∧ w'.cell? ⟨w.heap.size, 4, none⟩ = some (.int .i64 i) ∧ w'.cell? ⟨w.heap.size, 5, none⟩ = some (.int .i64 s)) (go_keep) (first
  | (go_at_call 133; have cq : Mark 0 := cnt; refine (cH _ (HT.out.below (rbel_dr hw1))).mono ?_; clear cq cnt; have cnt : Mark 1 := .mk _; rintro r u2 ⟨rfl, hb⟩; have hw2 : Below w.heap.size w u2 := rbel_on hb (rbel_dr hw1); have Q0 : Row u2 w.heap.size [.int .i64 y, .int .i64 m, .int .i64 d, .int .i64 h, .int .i64 i, .int .i64 s] := Row.on hb (Row.dr P1); have q0_3 := Q0.c 3 _ rfl; have q0_4 := Q0.c 4 _ rfl; have q0_5 := Q0.c 5 _ rfl; clear hb)
  | (go_at_call 133; have cq : Mark 1 := cnt; refine (cI _ (HT.out.below hw2)).mono ?_; clear cq cnt; have cnt : Mark 2 := .mk _; rintro r u3 ⟨rfl, hb⟩; have hw3 : Below w.heap.size w u3 := rbel_on hb hw2; have Q1 : Row u3 w.heap.size [.int .i64 y, .int .i64 m, .int .i64 d, .int .i64 h, .int .i64 i, .int .i64 s] := Row.on hb Q0; have q1_3 := Q1.c 3 _ rfl; have q1_4 := Q1.c 4 _ rfl; have q1_5 := Q1.c 5 _ rfl; clear hb)
  | (go_at_call 133; have cq : Mark 2 := cnt; refine (cS _ (HT.out.below hw3)).mono ?_; clear cq cnt; have cnt : Mark 3 := .mk _; rintro r u4 ⟨rfl, hb⟩; have hw4 : Below w.heap.size w u4 := rbel_on hb hw3; have Q2 : Row u4 w.heap.size [.int .i64 y, .int .i64 m, .int .i64 d, .int .i64 h, .int .i64 i, .int .i64 s] := Row.on hb Q1; have q2_3 := Q2.c 3 _ rfl; have q2_4 := Q2.c 4 _ rfl; have q2_5 := Q2.c 5 _ rfl; clear hb))
 all_goals
  go_wp2
  go_ret2
  exact ⟨lret E.out, hw4⟩
theorem lprint_any (y m d h i s : Int) (w : World) (he : EnvA w) (ht : EnvT w) (hN : EnvN w) (wy : In64 y) (wm : In64 m) (wd : In64 d) :
  Calls Tryz.prog 96 #[lbl y m d h i s] w fun r w' => r = .returned (.tuple #[.string (if (okD y m d && okH h i s) = true then ltext y m d h i s else ⟨#[]⟩), errc (if (okD y m d && okH h i s) = true then 0 else 1)]) ∧ Below w.heap.size w w' := by
 cases o : okD y m d with
 | false =>
  rw [Bool.false_and, if_neg (by decide), if_neg (by decide), errc_not (by decide)]
  exact lprint_date y m d h i s w he ht wy wm wd o
 | true =>
  rw [Bool.true_and]
  cases o2 : okH h i s with
  | false =>
   rw [if_neg (by decide), if_neg (by decide), errc_not (by decide)]
   exact lprint_hands y m d h i s w he ht hN o o2
  | true =>
   rw [if_pos rfl, if_pos rfl, errc_zero]
   exact lprint_ok y m d h i s w he ht hN o o2
end Go.Proofs.YtadkgnbagmnkkakGreatDoor
