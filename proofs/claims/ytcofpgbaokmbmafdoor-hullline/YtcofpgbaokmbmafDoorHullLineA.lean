/- The ways through the law HullLine. -/
import Derived.Test.YtcofpgbaokmbmafDoorHullPts
import Derived.Test.YtcofpgbaokmbmafDoorHullOwn
import Derived.Test.YtcofpgbaokmbmafDoorHullLine0
import Derived.Test.YtcofpgbaokmbmafDoorHullDefC
import Derived.Test.YtcofpgbaokmbmafDoorTold
namespace Go.Proofs.YtcofpgbaokmbmafDoor.hullLine
open Go.ChangeShapes Go.WideShapes Go.ChangeAt Go.RowKit Go.Joins Go.Proofs.YtcofpgbaokmbmafDoor.told
set_option linter.unusedVariables false
set_option linter.unusedSimpArgs false

theorem error_c (f : Int) (w : World) (he : EnvE w) : Calls Tryd.prog 6 #[errc f, .int .i64 f] w fun e w' => e = .returned (.bool true) ∧ Below w.heap.size w w' := error_same f w he
set_option maxRecDepth 100000 in
set_option maxHeartbeats 4000000 in
theorem wrong (n s t : Int) (w : World) (he : EnvE w) (O : HlO w) (h : n < 2 ∨ 60 < n ∨ s < -1000 ∨ 1000 < s) :
    Calls Tryd.prog 4 #[.int .i64 n, .int .i64 s, .int .i64 t] w fun o w' => o = .returned (.bool true) ∧ Below w.heap.size w w' := by
  have z0 : PtE 0 (fun _ => (0, 0)) 0 := Or.inr (Or.inr ⟨by omega, fun i hi => by omega, rfl⟩)
  have cO := O.over none 0 0 (fun _ => (0, 0)) 0 0 5 w (Below.refl _ _) ⟨by omega, Or.inl rfl⟩ (by decide) (Or.inr (Or.inl ⟨z0, rfl, rfl, rfl⟩))
  have cR := fun u (h : EnvE u) => error_c 5 u h
  have HE : Hid (EnvE w) := he
  clear he O z0
  generalize errc 5 = E5 at *
  have cases4 : (decide (n < 2) = true) ∨ (decide (n < 2) = false ∧ decide (60 < n) = true) ∨ (decide (n < 2) = false ∧ decide (60 < n) = false ∧ decide (s < -1000) = true) ∨ (decide (n < 2) = false ∧ decide (60 < n) = false ∧ decide (s < -1000) = false ∧ decide (1000 < s) = true) := by
    by_cases c1 : n < 2
    · exact Or.inl (decide_eq_true c1)
    · by_cases c2 : 60 < n
      · exact Or.inr (Or.inl ⟨decide_eq_false c1, decide_eq_true c2⟩)
      · by_cases c3 : s < -1000
        · exact Or.inr (Or.inr (Or.inl ⟨decide_eq_false c1, decide_eq_false c2, decide_eq_true c3⟩))
        · exact Or.inr (Or.inr (Or.inr ⟨decide_eq_false c1, decide_eq_false c2, decide_eq_false c3, decide_eq_true (by omega)⟩))
  clear h
  rcases cases4 with d1 | ⟨d1, d2⟩ | ⟨d1, d2, d3⟩ | ⟨d1, d2, d3, d4⟩
  all_goals
    go_enter Tryd.func4, Tryd.ntmps4
    go_wp2_with (first | (go_at_call 14; refine cO.mono ?_; rintro e u0 ⟨rfl, hb⟩; have HB : Hid (Below w.heap.size w u0) := hb; clear hb) | (go_at_call 6; refine (cR _ (HE.out.below HB.out)).mono ?_; rintro e u1 ⟨rfl, hb⟩; have HB1 : Hid _ := hb; clear hb))
    go_ret
    exact ⟨rfl, rbel_on HB1.out HB.out⟩
set_option maxRecDepth 100000 in
set_option maxHeartbeats 8000000 in
theorem good (n : Nat) (s t : Int) (w : World) (he : EnvE w) (B : HlU w) (O : HlO w) (h2 : 2 ≤ n) (h60 : n ≤ 60) (s1 : -1000 ≤ s) (s2 : s ≤ 1000) (ht : In64 t) :
    Calls Tryd.prog 4 #[.int .i64 n, .int .i64 s, .int .i64 t] w fun o w' => o = .returned (.bool true) ∧ Below w.heap.size w w' := by
  have HE : Hid (EnvE w) := he
  have HB : Hid (HlU w) := B
  have HO : Hid (HlO w) := O
  have HT : Hid (In64 t) := ht
  have e1 : decide ((n : Int) < 2) = false := decide_eq_false (by omega)
  have e2 : decide (60 < (n : Int)) = false := decide_eq_false (by omega)
  have e3 : decide (s < -1000) = false := decide_eq_false (by omega)
  have e4 : decide (1000 < s) = false := decide_eq_false (by omega)
  obtain ⟨i0, hi0, hz0, hz1, hz2⟩ := info_parts infoPoint
  clear he B O ht
  go_enter Tryd.func4, Tryd.ntmps4
  go_wp2
  go_loopw [9, 10] (fun v vi wr => ∃ i : Nat, i ≤ n ∧ vi = .int .i64 i ∧ wr.ownsRow w.heap.size 33 2 v i (pcs (lst (lineP s) i)) ∧ Below w.heap.size w wr) (fun _ i _ => n - (intOf i).toNat)
  case atStart => exact ⟨0, Nat.zero_le _, rfl, World.ownsRow_nil _ _ _ _, Below.refl _ _⟩
  case round =>
    obtain ⟨i, hi, rfl, hown, hw⟩ := hrel
    have zz := hw.size
    have HW : Hid (Below w.heap.size w wr) := hw
    by_cases hlt : i < n
    · have hl3 : (i : Int) < n := by omega
      have m1 := mul_in (u := s) (v := (i : Int)) (by omega) (by omega) (by omega) (by omega)
      obtain ⟨M, hM⟩ : ∃ M, M = s * (i : Int) := ⟨_, rfl⟩
      have wm : IntKind.i64.wrap (s * (i : Int)) = M := by rw [hM]; exact IntWalk.i64_in _ (by omega)
      have HL : Hid (pcs (lst (lineP s) (i + 1)) = pcs (lst (lineP s) i) ++ [.int .i64 i, .int .i64 M]) := by show pcs _ = _; rw [lst_snoc, pcs_app, hM]; rfl
      have HOb : Hid (∀ j, u9.ownBlock = some j → w.heap.size ≤ j) := fun j hj => (hown.lt j hj).1
      clear hw m1 hM HB HO HT
      go_wp2_with (at_builtin; refine wpList_append_own _ rfl _ _ 22 rfl w.heap.size 33 i0 (.agg #[.int .i64 0, .int .i64 0]) 2 16 Tryd.underlying22 hi0 hz0 hz1 hz2 rfl (by decide) _ _ _ rfl (hown.alloc _) ⟨wr.heap.size, 0, none⟩ 1 1 [.int .i64 i, .int .i64 M] rfl rfl ?d1 ?d2 ?d3 ?d4 ?d5 ?_)
      case d1 =>
        intro j u hj
        rw [Addr.add_lit, World.cell?_alloc_at _ _ _ _ (by simp)]
        simpa using hj
      case d2 =>
        intro u hu
        simp at hu
        rcases hu with rfl | rfl <;> rfl
      case d3 => unfold maxLen; omega
      case d4 => omega
      case d5 => simp; omega
      intro v' w1 hown' hgrow _
      have hown1 : Hid (w1.ownsRow w.heap.size 33 2 v' (i + 1) (pcs (lst (lineP s) (i + 1)))) := by
        show w1.ownsRow w.heap.size 33 2 v' (i + 1) (pcs (lst (lineP s) (i + 1)))
        rw [HL.out]
        exact hown'
      have hw1 : Hid (Below w.heap.size w w1) := (rbel_al HW.out).grown hgrow (by simp; omega) HOb.out
      clear hown' hgrow hown HOb HW HL
      go_wp2
      go_roundw
      case rel => exact ⟨i + 1, by omega, by go_num, hown1.out, hw1.out⟩
      case measure => simp [intOf]; omega
    · have hl3 : ¬ ((i : Int) < n) := by omega
      obtain rfl : i = n := by omega
      obtain ⟨a, cap, rfl, hH, hg⟩ := own_points hown (by rw [lst_len]) (by omega)
      replace hH : PHanded wr a i (lineP s) := hH.same (fun j hj => rowL_lst _ i j hj)
      have hE : PtE i (lineP s) 0 := Or.inr (Or.inr ⟨h60, line_ok s i h60 s1 s2, rfl⟩)
      have cU : Calls Tryd.prog 10 #[.slice a i cap] wr fun o w' => ∃ ca cc c, o = .returned (.tuple #[.slice ca 2 cc, .nilIface]) ∧ PHanded w' ca 2 c ∧ c 0 = lineP s 0 ∧ c 1 = lineP s (i - 1) ∧ Below wr.heap.size wr w' := (HB.out.upper a i cap (lineP s) 0 wr HW.out hH hE).mono (by
        rintro o w' ⟨ca, k, cc, c, rfl, hp, _, hk, hb⟩
        have e := (hk rfl).one (line_up s i h2)
        have ek : k = 2 := by have := congrArg List.length e; rw [lst_len] at this; simpa using this
        subst ek
        have c0 := lst_at c 2 0 (by omega)
        have c1 := lst_at c 2 1 (by omega)
        rw [e] at c0 c1
        rw [errc_zero]
        exact ⟨ca, cc, c, rfl, hp, (Option.some.inj c0).symm, (Option.some.inj c1).symm, hb⟩)
      obtain ⟨g, ga, hPl⟩ : ∃ g, a = some ⟨g, 0, none⟩ ∧ Pls wr g 0 i (lineP s) := by
        rcases hg with e | ⟨g, e, _⟩
        · omega
        · rcases hH.2 with e' | ⟨b, off, e', hp⟩
          · omega
          · rw [e] at e'
            simp at e'
            obtain ⟨rfl, rfl⟩ := e'
            exact ⟨g, e, hp⟩
      subst ga
      have HPl : Hid (Pls wr g 0 i (lineP s)) := hPl
      have wk : IntKind.i64.wrap ((i : Int) - 1) = ((i - 1 : Nat) : Int) := by rw [show (i : Int) - 1 = ((i - 1 : Nat) : Int) by omega]; exact IntWalk.i64_in _ (by omega)
      have hk3 : ((i - 1 : Nat) : Int) < (i : Nat) := by omega
      have hk4 : (0 : Int) < (i : Nat) := by omega
      clear hown hw hg hPl
      by_cases hr : 0 ≤ t ∧ t < i
      · obtain ⟨T, rfl⟩ : ∃ T : Nat, t = T := ⟨t.toNat, by omega⟩
        have hW : Within (lst (lineP s) i) T := (line_within s i T (by omega)).2 hr
        have cO := fun u (hu : Below wr.heap.size wr u) => HO.out.over (some ⟨g, 0, none⟩) i cap (lineP s) T (s * T) 0 u (rbel_on hu HW.out) (hH.on hu) HT.out (Or.inr (Or.inr (Or.inr ⟨hE, hW, line_over s i T (by omega), rfl⟩)))
        have cN := fun u (hu : Below wr.heap.size wr u) => HO.out.under (some ⟨g, 0, none⟩) i cap (lineP s) T (s * T) 0 u (rbel_on hu HW.out) (hH.on hu) HT.out (Or.inr (Or.inr (Or.inr ⟨hE, hW, line_under s i T (by omega), rfl⟩)))
        rw [errc_zero] at cO cN
        have m1 := mul_in (u := s) (v := (T : Int)) (by omega) (by omega) (by omega) (by omega)
        obtain ⟨M, hM⟩ : ∃ M, M = s * (T : Int) := ⟨_, rfl⟩
        have wm : IntKind.i64.wrap (s * (T : Int)) = M := by rw [hM]; exact IntWalk.i64_in _ (by omega)
        rw [← hM] at cO cN
        have d1 : decide ((T : Int) < 0) = false := decide_eq_false (by omega)
        have d2 : decide ((i : Int) ≤ T) = false := decide_eq_false (by omega)
        clear HB HO HT hH hE hW hM m1
        go_wp2_with (first | (go_at_call 10; refine cU.mono ?_; rintro e u0 ⟨ca, cc, c, rfl, hp, hc0, hc1, hb⟩; obtain ⟨gc, oc, rfl, hP2⟩ : ∃ gc oc : Nat, ca = some ⟨gc, oc, none⟩ ∧ Pls u0 gc oc 2 c := (by rcases hp.2 with e' | ⟨b, off, e', h⟩; omega; exact ⟨b, off, e', h⟩); obtain ⟨q00, q01⟩ := hP2 0 (by omega); obtain ⟨q10, q11⟩ := hP2 1 (by omega); rw [hc0] at q00 q01; rw [hc1] at q10 q11; obtain ⟨l00, l01⟩ := (HPl.out.on hb) 0 (by omega); obtain ⟨l10, l11⟩ := (HPl.out.on hb) (i - 1) (by omega); have HB0 : Hid (Below wr.heap.size wr u0) := hb; clear hb hp hP2 hc0 hc1; generalize (lineP s 0).1 = X0 at *; generalize (lineP s 0).2 = Y0 at *; generalize (lineP s (i - 1)).1 = X1 at *; generalize (lineP s (i - 1)).2 = Y1 at *; simp only [Nat.zero_mul, Nat.one_mul, Nat.add_zero, Nat.zero_add] at q00 q01 q10 q11 l00 l01 l10 l11; have q11' : u0.cell? ⟨gc, oc + 3, none⟩ = some (.int .i64 Y1) := q11))
        go_quiet (fail)
        go_wp2_with (first
          | (go_at_call 14; refine (cO _ (rbel_drn HB0.out)).mono ?_; rintro e u1 ⟨rfl, hb⟩; have HB1 : Hid (Below wr.heap.size wr u1) := rbel_on hb (rbel_drn HB0.out); clear hb)
          | (go_at_call 15; refine (cN _ HB1.out).mono ?_; rintro e u2 ⟨rfl, hb⟩; have HB2 : Hid (Below wr.heap.size wr u2) := rbel_on hb HB1.out; clear hb))
        go_ret
        exact ⟨rfl, rbel_on HB2.out HW.out⟩
      · have hW : ¬ Within (lst (lineP s) i) t := fun h => hr ((line_within s i t (by omega)).1 h)
        have cO := fun u (hu : Below wr.heap.size wr u) => HO.out.over (some ⟨g, 0, none⟩) i cap (lineP s) t 0 1 u (rbel_on hu HW.out) (hH.on hu) HT.out (Or.inr (Or.inr (Or.inl ⟨hE, by omega, hW, rfl, rfl⟩)))
        have cN := fun u (hu : Below wr.heap.size wr u) => HO.out.under (some ⟨g, 0, none⟩) i cap (lineP s) t 0 1 u (rbel_on hu HW.out) (hH.on hu) HT.out (Or.inr (Or.inr (Or.inl ⟨hE, by omega, hW, rfl, rfl⟩)))
        have cR := fun u (h : EnvE u) => error_c 1 u h
        have hc : (decide (t < 0) = true) ∨ (decide (t < 0) = false ∧ decide ((i : Int) ≤ t) = true) := by
          by_cases c : t < 0
          · exact Or.inl (decide_eq_true c)
          · exact Or.inr ⟨decide_eq_false c, decide_eq_true (by omega)⟩
        clear HB HO HT hH hE hW hr
        generalize errc 1 = E1 at *
        rcases hc with d1 | ⟨d1, d2⟩
        all_goals
          go_wp2_with (first | (go_at_call 10; refine cU.mono ?_; rintro e u0 ⟨ca, cc, c, rfl, hp, hc0, hc1, hb⟩; obtain ⟨gc, oc, rfl, hP2⟩ : ∃ gc oc : Nat, ca = some ⟨gc, oc, none⟩ ∧ Pls u0 gc oc 2 c := (by rcases hp.2 with e' | ⟨b, off, e', h⟩; omega; exact ⟨b, off, e', h⟩); obtain ⟨q00, q01⟩ := hP2 0 (by omega); obtain ⟨q10, q11⟩ := hP2 1 (by omega); rw [hc0] at q00 q01; rw [hc1] at q10 q11; obtain ⟨l00, l01⟩ := (HPl.out.on hb) 0 (by omega); obtain ⟨l10, l11⟩ := (HPl.out.on hb) (i - 1) (by omega); have HB0 : Hid (Below wr.heap.size wr u0) := hb; clear hb hp hP2 hc0 hc1; generalize (lineP s 0).1 = X0 at *; generalize (lineP s 0).2 = Y0 at *; generalize (lineP s (i - 1)).1 = X1 at *; generalize (lineP s (i - 1)).2 = Y1 at *; simp only [Nat.zero_mul, Nat.one_mul, Nat.add_zero, Nat.zero_add] at q00 q01 q10 q11 l00 l01 l10 l11; have q11' : u0.cell? ⟨gc, oc + 3, none⟩ = some (.int .i64 Y1) := q11))
          go_quiet (fail)
          go_wp2_with (first
            | (go_at_call 14; refine (cO _ (rbel_drn HB0.out)).mono ?_; rintro e u1 ⟨rfl, hb⟩; have HB1 : Hid (Below wr.heap.size wr u1) := rbel_on hb (rbel_drn HB0.out); clear hb)
            | (go_at_call 15; refine (cN _ HB1.out).mono ?_; rintro e u2 ⟨rfl, hb⟩; have HB2 : Hid (Below wr.heap.size wr u2) := rbel_on hb HB1.out; clear hb)
            | (go_at_call 6; refine (cR _ (HE.out.below (rbel_on HB2.out HW.out))).mono ?_; rintro e u3 ⟨rfl, hb⟩; have HB3 : Hid (Below wr.heap.size wr u3) := rbel_on hb HB2.out; clear hb))
          go_ret
          exact ⟨rfl, rbel_on HB3.out HW.out⟩
theorem all_ways (n s t : Int) (w : World) (he : EnvE w) (B : HlU w) (O : HlO w) (ht : In64 t) :
    Calls Tryd.prog 4 #[.int .i64 n, .int .i64 s, .int .i64 t] w fun o w' => o = .returned (.bool true) ∧ Below w.heap.size w w' := by
  by_cases h : n < 2 ∨ 60 < n ∨ s < -1000 ∨ 1000 < s
  · exact wrong n s t w he O h
  · obtain ⟨m, rfl⟩ : ∃ m : Nat, n = m := ⟨n.toNat, by omega⟩
    exact good m s t w he B O (by omega) (by omega) (by omega) (by omega) ht
end Go.Proofs.YtcofpgbaokmbmafDoor.hullLine
