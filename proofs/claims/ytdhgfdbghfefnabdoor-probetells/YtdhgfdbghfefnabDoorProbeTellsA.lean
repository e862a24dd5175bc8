/- The way through the law ProbeTells: the one probe has no fault, and there are probes, forty at most. -/
import Derived.Test.YtdhgfdbghfefnabDoorProbeTellsP
import Derived.Lib.SmallJoins
import Derived.Deep.RegionWith
import Derived.Deep.RegionHeld
import Derived.WalkKit
import Derived.ProofKit
import Derived.OpenShut
import Derived.Outline
import Derived.Below
import Derived.IntWalk
import Derived.WalkLawsBesides
namespace Go.Proofs.YtdhgfdbghfefnabDoor.probeTells
open Go.ChangeShapes Go.WideShapes Go.ChangeAt Go.RowKit Go.Joins Go.Proofs.YtdhgfdbghfefnabDoor.told
set_option linter.unusedVariables false
set_option linter.unusedSimpArgs false

set_option maxRecDepth 100000 in
set_option maxHeartbeats 8000000 in
theorem gZ (a b c d p e0 rd slo shi f bi xl xh er : Int) (b0 off n cap m : Nat) (q : Nat → P4) (w : World)  (cP : ∀ u, Calls Tryd.prog 8 #[.agg #[.int .i64 a, .int .i64 b, .int .i64 c, .int .i64 d]] u fun e w' => e = .returned (.int .i64 (0)) ∧ Below u.heap.size u w')
    (cC : ∀ u, Calls Tryd.prog 9 #[.agg #[.int .i64 a, .int .i64 b, .int .i64 c, .int .i64 d]] u fun e w' => e = .returned (errv (0)) ∧ Below u.heap.size u w')
    (cN : ∀ u, Calls Tryd.prog 10 #[.agg #[.int .i64 a, .int .i64 b, .int .i64 c, .int .i64 d]] u fun e w' => e = .returned (.tuple #[.int .i64 (rd), errv (0)]) ∧ Below u.heap.size u w')
    (cR : ∀ u, Calls Tryd.prog 11 #[.agg #[.int .i64 a, .int .i64 b, .int .i64 c, .int .i64 d], .int .i64 p] u fun e w' => e = .returned (.tuple #[.agg #[.int .i64 slo, .int .i64 shi], .int .i64 f]) ∧ Below u.heap.size u w')
    (cO : ∀ u, Calls Tryd.prog 12 #[.agg #[.int .i64 a, .int .i64 b, .int .i64 c, .int .i64 d], .int .i64 p] u fun e w' => e = .returned (.tuple #[.agg #[.int .i64 slo, .int .i64 shi], errv f]) ∧ Below u.heap.size u w')
    (a1 : -1000000000000 ≤ a) (a2 : a ≤ 1000000000000) (b1 : -1000000000000 ≤ b) (b2 : b ≤ 1000000000000) (c1 : -1000000000000 ≤ c) (c2 : c ≤ 1000000000000) (d1 : -1000000000000 ≤ d) (d2 : d ≤ 1000000000000) (hrd : d - a - c + b = rd) (hg : Hid (EnvE w)) (cB : ∀ u, Below w.heap.size w u → Calls Tryd.prog 13 #[.slice (some ⟨b0, off, none⟩) n cap, .int .i64 p] u fun e w' => e = .returned (.tuple #[.int .i64 bi, .agg #[.int .i64 xl, .int .i64 xh], errv er]) ∧ Below u.heap.size u w') 
    (h0 : 0 < n) (h40 : n ≤ 40) (hP : Prs w b0 off n q) (hmn : m ≤ n) (hgood : ∀ i, i < m → (q i).e p = 0)
    (hR : Hid ((m = n ∧ bi = bst q p n ∧ xl = blo q p n ∧ xh = bhi q p n ∧ er = 0) ∨ (m < n ∧ (q m).e p ≠ 0 ∧ bi = 0 ∧ xl = 0 ∧ xh = 0 ∧ er = (q m).e p))) :
    Calls Tryd.prog 4 #[.agg #[.int .i64 a, .int .i64 b, .int .i64 c, .int .i64 d], .int .i64 p, .slice (some ⟨b0, off, none⟩) n cap] w fun e w' => e = .returned (.bool true) ∧ Below w.heap.size w w' := by
  have hbl : b0 < w.heap.size := World.block_lt_of_cell? _ _ (hP 0 h0).1
  have hc0 : ((n : Int) == 0) = false := by simp; omega
  have HP : Hid (Prs w b0 off n q) := hP
  have HG : Hid (∀ i, i < m → (q i).e p = 0) := hgood
  clear hP hgood
  have cnt : Mark 0 := .mk _
  go_enter Tryd.func4, Tryd.ntmps4
  go_wp2_with (first | (go_at_call 8; have cq : Mark 0 := cnt; refine (cP _).mono ?_; clear cq cnt; have cnt : Mark 1 := .mk _; rintro e u0 ⟨rfl, hb⟩; replace hw : Below w.heap.size w u0 := rbel_on hb (rbel_al (Below.refl _ _)); replace PP : Row u0 (w.heap.size) [.int .i64 (a), .int .i64 (b), .int .i64 (c), .int .i64 (d)] := Row.on hb (Row.made (by simp)); replace cP0 := PP.c 0 _ rfl; replace cP1 := PP.c 1 _ rfl; replace cP2 := PP.c 2 _ rfl; replace cP3 := PP.c 3 _ rfl; replace zP := PP.lt; clear hb) | (go_at_call 9; have cq : Mark 1 := cnt; refine (cC _).mono ?_; clear cq cnt; have cnt : Mark 2 := .mk _; rintro e u1 ⟨rfl, hb⟩; replace hw : Below w.heap.size w u1 := rbel_on hb (hw); replace PP : Row u1 (w.heap.size) [.int .i64 (a), .int .i64 (b), .int .i64 (c), .int .i64 (d)] := Row.on hb (PP); replace cP0 := PP.c 0 _ rfl; replace cP1 := PP.c 1 _ rfl; replace cP2 := PP.c 2 _ rfl; replace cP3 := PP.c 3 _ rfl; replace zP := PP.lt; clear hb) | (go_at_call 7; have cq : Mark 2 := cnt; refine (error_same (0) _ (hg.out.below (hw))).mono ?_; clear cq cnt; have cnt : Mark 3 := .mk _; rintro e u2 ⟨rfl, hb⟩; replace hw : Below w.heap.size w u2 := rbel_on hb (hw); replace PP : Row u2 (w.heap.size) [.int .i64 (a), .int .i64 (b), .int .i64 (c), .int .i64 (d)] := Row.on hb (PP); replace cP0 := PP.c 0 _ rfl; replace cP1 := PP.c 1 _ rfl; replace cP2 := PP.c 2 _ rfl; replace cP3 := PP.c 3 _ rfl; replace zP := PP.lt; clear hb) | (go_at_call 10; have cq : Mark 3 := cnt; refine (cN _).mono ?_; clear cq cnt; have cnt : Mark 4 := .mk _; rintro e u3 ⟨rfl, hb⟩; replace hw : Below w.heap.size w u3 := rbel_on hb (hw); replace PP : Row u3 (w.heap.size) [.int .i64 (a), .int .i64 (b), .int .i64 (c), .int .i64 (d)] := Row.on hb (PP); replace cP0 := PP.c 0 _ rfl; replace cP1 := PP.c 1 _ rfl; replace cP2 := PP.c 2 _ rfl; replace cP3 := PP.c 3 _ rfl; replace zP := PP.lt; clear hb) | (go_at_call 7; have cq : Mark 4 := cnt; refine (error_same (0) _ (hg.out.below (hw))).mono ?_; clear cq cnt; have cnt : Mark 5 := .mk _; rintro e u4 ⟨rfl, hb⟩; replace hw : Below w.heap.size w u4 := rbel_on hb (hw); replace PP : Row u4 (w.heap.size) [.int .i64 (a), .int .i64 (b), .int .i64 (c), .int .i64 (d)] := Row.on hb (PP); replace cP0 := PP.c 0 _ rfl; replace cP1 := PP.c 1 _ rfl; replace cP2 := PP.c 2 _ rfl; replace cP3 := PP.c 3 _ rfl; replace zP := PP.lt; clear hb) | (go_at_call 11; have cq : Mark 5 := cnt; refine (cR _).mono ?_; clear cq cnt; have cnt : Mark 6 := .mk _; rintro e u5 ⟨rfl, hb⟩; replace hw : Below w.heap.size w u5 := rbel_on hb (hw); replace PP : Row u5 (w.heap.size) [.int .i64 (a), .int .i64 (b), .int .i64 (c), .int .i64 (d)] := Row.on hb (PP); replace cP0 := PP.c 0 _ rfl; replace cP1 := PP.c 1 _ rfl; replace cP2 := PP.c 2 _ rfl; replace cP3 := PP.c 3 _ rfl; replace zP := PP.lt; have y5_P_0 : w.heap.size < u5.heap.size := (by omega); have n5_P_0 : ¬ (u5.heap.size = w.heap.size) := (by omega); have m5_P_0 : ¬ (w.heap.size = u5.heap.size) := (by omega); clear hb) | (go_at_call 12; have cq : Mark 6 := cnt; refine (cO _).mono ?_; clear cq cnt; have cnt : Mark 7 := .mk _; rintro e u6 ⟨rfl, hb⟩; replace hw : Below w.heap.size w u6 := rbel_on hb (rbel_al (hw)); replace PP : Row u6 (w.heap.size) [.int .i64 (a), .int .i64 (b), .int .i64 (c), .int .i64 (d)] := Row.on hb (Row.al (PP)); replace cP0 := PP.c 0 _ rfl; replace cP1 := PP.c 1 _ rfl; replace cP2 := PP.c 2 _ rfl; replace cP3 := PP.c 3 _ rfl; replace zP := PP.lt; replace PS : Row u6 (u5.heap.size) [.int .i64 (slo), .int .i64 (shi)] := Row.on hb (Row.made (by simp)); replace cS0 := PS.c 0 _ rfl; replace cS1 := PS.c 1 _ rfl; replace zS := PS.lt; have y6_P_0 : w.heap.size < u6.heap.size := (by omega); have n6_P_0 : ¬ (u6.heap.size = w.heap.size) := (by omega); have m6_P_0 : ¬ (w.heap.size = u6.heap.size) := (by omega); have y6_S_0 : u5.heap.size < u6.heap.size := (by omega); have n6_S_0 : ¬ (u6.heap.size = u5.heap.size) := (by omega); have m6_S_0 : ¬ (u5.heap.size = u6.heap.size) := (by omega); clear hb) | (go_at_call 7; have cq : Mark 7 := cnt; refine (error_same (f) _ (hg.out.below (rbel_al (hw)))).mono ?_; clear cq cnt; have cnt : Mark 8 := .mk _; rintro e u7 ⟨rfl, hb⟩; replace hw : Below w.heap.size w u7 := rbel_on hb (rbel_al (hw)); replace PP : Row u7 (w.heap.size) [.int .i64 (a), .int .i64 (b), .int .i64 (c), .int .i64 (d)] := Row.on hb (Row.al (PP)); replace cP0 := PP.c 0 _ rfl; replace cP1 := PP.c 1 _ rfl; replace cP2 := PP.c 2 _ rfl; replace cP3 := PP.c 3 _ rfl; replace zP := PP.lt; replace PS : Row u7 (u5.heap.size) [.int .i64 (slo), .int .i64 (shi)] := Row.on hb (Row.al (PS)); replace cS0 := PS.c 0 _ rfl; replace cS1 := PS.c 1 _ rfl; replace zS := PS.lt; replace PX : Row u7 (u6.heap.size) [.int .i64 (slo), .int .i64 (shi)] := Row.on hb (Row.made (by simp)); replace cX0 := PX.c 0 _ rfl; replace cX1 := PX.c 1 _ rfl; replace zX := PX.lt; have y7_P_0 : w.heap.size < u7.heap.size := (by omega); have n7_P_0 : ¬ (u7.heap.size = w.heap.size) := (by omega); have m7_P_0 : ¬ (w.heap.size = u7.heap.size) := (by omega); have y7_S_0 : u5.heap.size < u7.heap.size := (by omega); have n7_S_0 : ¬ (u7.heap.size = u5.heap.size) := (by omega); have m7_S_0 : ¬ (u5.heap.size = u7.heap.size) := (by omega); have y7_X_0 : u6.heap.size < u7.heap.size := (by omega); have n7_X_0 : ¬ (u7.heap.size = u6.heap.size) := (by omega); have m7_X_0 : ¬ (u6.heap.size = u7.heap.size) := (by omega); clear hb))
  go_loopw [7, 16, 18] (fun e s i wr => ∃ k k1 : Nat, ∃ ev : Int, k ≤ m ∧ e = .int .i64 ev ∧ s = .int .i64 (bst q p k) ∧ i = .int .i64 k1 ∧ ((ev = 0 ∧ k1 = k) ∨ (m < n ∧ ev ≠ 0 ∧ ev = (q m).e p ∧ k1 = m + 1)) ∧ Row wr u7.heap.size [.int .i64 (blo q p k), .int .i64 (bhi q p k)] ∧ Below w.heap.size w wr)
    (fun _ _ i _ => n - (intOf i).toNat)
  case atStart => exact ⟨0, 0, 0, Nat.zero_le _, rfl, rfl, rfl, Or.inl ⟨rfl, rfl⟩, Row.made (by simp), rbel_al (hw)⟩
  case round =>
    obtain ⟨k, k1, ev, hkm, rfl, rfl, rfl, hev, PL, hw⟩ := hrel
    have zw : w.heap.size < u7.heap.size := by omega
    replace cnt : Mark 20 := .mk _
    clear cP cC cN cR cO
    replace cL0 := PL.c 0 _ rfl; replace cL1 := PL.c 1 _ rfl; replace zL := PL.lt; replace fL0 := PL.f 0 _ rfl; replace fL1 := PL.f 1 _ rfl
    rcases hev with ⟨rfl, rfl⟩ | ⟨hml, hne, rfl, rfl⟩
    rotate_left
    · have hnb : ((q m).e p == 0) = false := by simpa using hne
      have hX : bi = 0 ∧ xl = 0 ∧ xh = 0 ∧ er = (q m).e p := by
        rcases hR.out with ⟨e, _⟩ | ⟨_, _, h⟩
        · omega
        · exact h
      obtain ⟨rfl, rfl, rfl, rfl⟩ := hX
      clear hR hne HP HG
      by_cases hlt : m + 1 < n
      · have hd : decide (m + 1 < n) = true := decide_eq_true hlt
        go_wp2_with (first | (go_at_call 13; have cq : Mark 20 := cnt; refine (cB _ (rbel_put (by omega) (rbel_put (by omega) (hw)))).mono ?_; clear cq cnt; have cnt : Mark 21 := .mk _; rintro e u20 ⟨rfl, hb⟩; replace hw : Below w.heap.size w u20 := rbel_on hb (rbel_put (by omega) (rbel_put (by omega) (hw))); replace PL : Row u20 (u7.heap.size) [.int .i64 (0), .int .i64 (0)] := Row.on hb (Row.put 1 (Row.put 0 (PL))); replace cL0 := PL.c 0 _ rfl; replace cL1 := PL.c 1 _ rfl; replace zL := PL.lt; replace fL0 := PL.f 0 _ rfl; replace fL1 := PL.f 1 _ rfl; have y20_L_0 : u7.heap.size < u20.heap.size := (by omega); have n20_L_0 : ¬ (u20.heap.size = u7.heap.size) := (by omega); have m20_L_0 : ¬ (u7.heap.size = u20.heap.size) := (by omega); clear hb) | (go_at_call 7; have cq : Mark 21 := cnt; refine (error_same ((q m).e p) _ (hg.out.below (rbel_al (hw)))).mono ?_; clear cq cnt; have cnt : Mark 22 := .mk _; rintro e u21 ⟨rfl, hb⟩; replace hw : Below w.heap.size w u21 := rbel_on hb (rbel_al (hw)); replace PL : Row u21 (u7.heap.size) [.int .i64 (0), .int .i64 (0)] := Row.on hb (Row.al (PL)); replace cL0 := PL.c 0 _ rfl; replace cL1 := PL.c 1 _ rfl; replace zL := PL.lt; replace fL0 := PL.f 0 _ rfl; replace fL1 := PL.f 1 _ rfl; replace PY : Row u21 (u20.heap.size) [.int .i64 (0), .int .i64 (0)] := Row.on hb (Row.made (by simp)); replace cY0 := PY.c 0 _ rfl; replace cY1 := PY.c 1 _ rfl; replace zY := PY.lt; clear hb))
        go_ret
        exact ⟨rfl, hw⟩
      · have hd : decide (m + 1 < n) = false := decide_eq_false hlt
        go_wp2_with (first | (go_at_call 13; have cq : Mark 20 := cnt; refine (cB _ (rbel_put (by omega) (rbel_put (by omega) (hw)))).mono ?_; clear cq cnt; have cnt : Mark 21 := .mk _; rintro e u20 ⟨rfl, hb⟩; replace hw : Below w.heap.size w u20 := rbel_on hb (rbel_put (by omega) (rbel_put (by omega) (hw))); replace PL : Row u20 (u7.heap.size) [.int .i64 (0), .int .i64 (0)] := Row.on hb (Row.put 1 (Row.put 0 (PL))); replace cL0 := PL.c 0 _ rfl; replace cL1 := PL.c 1 _ rfl; replace zL := PL.lt; replace fL0 := PL.f 0 _ rfl; replace fL1 := PL.f 1 _ rfl; have y20_L_0 : u7.heap.size < u20.heap.size := (by omega); have n20_L_0 : ¬ (u20.heap.size = u7.heap.size) := (by omega); have m20_L_0 : ¬ (u7.heap.size = u20.heap.size) := (by omega); clear hb) | (go_at_call 7; have cq : Mark 21 := cnt; refine (error_same ((q m).e p) _ (hg.out.below (rbel_al (hw)))).mono ?_; clear cq cnt; have cnt : Mark 22 := .mk _; rintro e u21 ⟨rfl, hb⟩; replace hw : Below w.heap.size w u21 := rbel_on hb (rbel_al (hw)); replace PL : Row u21 (u7.heap.size) [.int .i64 (0), .int .i64 (0)] := Row.on hb (Row.al (PL)); replace cL0 := PL.c 0 _ rfl; replace cL1 := PL.c 1 _ rfl; replace zL := PL.lt; replace fL0 := PL.f 0 _ rfl; replace fL1 := PL.f 1 _ rfl; replace PY : Row u21 (u20.heap.size) [.int .i64 (0), .int .i64 (0)] := Row.on hb (Row.made (by simp)); replace cY0 := PY.c 0 _ rfl; replace cY1 := PY.c 1 _ rfl; replace zY := PY.lt; clear hb))
        go_ret
        exact ⟨rfl, hw⟩
    by_cases hlt : k1 < n
    rotate_left
    · have hkn : k1 = n := by omega
      subst hkn
      have hX : bi = bst q p k1 ∧ xl = blo q p k1 ∧ xh = bhi q p k1 ∧ er = 0 := by
        rcases hR.out with ⟨_, h⟩ | ⟨e, _⟩
        · exact h
        · omega
      obtain ⟨rfl, rfl, rfl, rfl⟩ := hX
      clear hR HP HG
      go_wp2_with (first | (go_at_call 13; have cq : Mark 20 := cnt; refine (cB _ (hw)).mono ?_; clear cq cnt; have cnt : Mark 21 := .mk _; rintro e u20 ⟨rfl, hb⟩; replace hw : Below w.heap.size w u20 := rbel_on hb (hw); replace PL : Row u20 (u7.heap.size) [.int .i64 (blo q p k1), .int .i64 (bhi q p k1)] := Row.on hb (PL); replace cL0 := PL.c 0 _ rfl; replace cL1 := PL.c 1 _ rfl; replace zL := PL.lt; replace fL0 := PL.f 0 _ rfl; replace fL1 := PL.f 1 _ rfl; have y20_L_0 : u7.heap.size < u20.heap.size := (by omega); have n20_L_0 : ¬ (u20.heap.size = u7.heap.size) := (by omega); have m20_L_0 : ¬ (u7.heap.size = u20.heap.size) := (by omega); clear hb) | (go_at_call 7; have cq : Mark 21 := cnt; refine (error_same (0) _ (hg.out.below (rbel_al (hw)))).mono ?_; clear cq cnt; have cnt : Mark 22 := .mk _; rintro e u21 ⟨rfl, hb⟩; replace hw : Below w.heap.size w u21 := rbel_on hb (rbel_al (hw)); replace PL : Row u21 (u7.heap.size) [.int .i64 (blo q p k1), .int .i64 (bhi q p k1)] := Row.on hb (Row.al (PL)); replace cL0 := PL.c 0 _ rfl; replace cL1 := PL.c 1 _ rfl; replace zL := PL.lt; replace fL0 := PL.f 0 _ rfl; replace fL1 := PL.f 1 _ rfl; replace PY : Row u21 (u20.heap.size) [.int .i64 (blo q p k1), .int .i64 (bhi q p k1)] := Row.on hb (Row.made (by simp)); replace cY0 := PY.c 0 _ rfl; replace cY1 := PY.c 1 _ rfl; replace zY := PY.lt; clear hb))
      go_ret
      exact ⟨rfl, hw⟩
    · obtain ⟨x0, x1, x2, x3⟩ := (HP.out.on hw) k1 hlt
      clear HP
      have hd : decide (k1 < n) = true := decide_eq_true hlt
      by_cases hk0 : (q k1).e p = 0
      · have km : k1 < m := by
          rcases hR.out with ⟨e, _⟩ | ⟨l, ne, _⟩
          · omega
          · exact Nat.lt_of_le_of_ne hkm (fun e => ne (e ▸ hk0))
        have bq := w_bound hk0
        obtain ⟨r1, r2, r3⟩ := bq
        by_cases k0 : k1 = 0
        · have T : Hid (bst q p (k1 + 1) = k1 ∧ blo q p (k1 + 1) = (q k1).lo ∧ bhi q p (k1 + 1) = (q k1).hi p) := take3 q p k1 (Or.inl k0)
          have kc : ((k1 : Int) == 0) = true := by simpa using k0
          clear k0
          go_wp2_with (first | (go_at_call 11; have cq : Mark 20 := cnt; refine (roff_q_ok (q k1) p _ hk0).mono ?_; clear cq cnt; have cnt : Mark 21 := .mk _; rintro e u20 ⟨rfl, hb⟩; replace hw : Below w.heap.size w u20 := rbel_on hb (hw); replace PL : Row u20 (u7.heap.size) [.int .i64 (blo q p k1), .int .i64 (bhi q p k1)] := Row.on hb (PL); replace cL0 := PL.c 0 _ rfl; replace cL1 := PL.c 1 _ rfl; replace zL := PL.lt; replace fL0 := PL.f 0 _ rfl; replace fL1 := PL.f 1 _ rfl; have y20 : u7.heap.size < u20.heap.size := zL; have n20 : ¬ (u7.heap.size = u20.heap.size) := (by omega); have m20 : ¬ (u20.heap.size = u7.heap.size) := (by omega); clear hb))
          go_roundw
          case rel =>
            obtain ⟨t1, t2, t3⟩ := T.out
            exact ⟨k1 + 1, k1 + 1, 0, km, rfl, by rw [t1], by go_num, Or.inl ⟨rfl, rfl⟩, by rw [t2, t3]; exact Row.al (Row.put 1 (Row.put 0 (PL))), rbel_al (rbel_put (by omega) (rbel_put (by omega) (hw)))⟩
          case measure => simp [intOf]; omega
        · have kc : ((k1 : Int) == 0) = false := by simpa using k0
          have kb := bst_lt q p k1 (by omega)
          have bb := w_bound (HG.out (bst q p k1) (by omega))
          have eb : blo q p k1 = (q (bst q p k1)).lo := if_neg k0
          have eh : bhi q p k1 = (q (bst q p k1)).hi p := if_neg k0
          have EL : Hid (blo q p k1 = (q (bst q p k1)).lo ∧ bhi q p k1 = (q (bst q p k1)).hi p) := ⟨eb, eh⟩
          rw [← eb, ← eh] at bb
          clear eb eh
          obtain ⟨v1, v2, v3⟩ := bb
          by_cases kl : (q k1).hi p - (q k1).lo < bhi q p k1 - blo q p k1
          · have T : Hid (bst q p (k1 + 1) = k1 ∧ blo q p (k1 + 1) = (q k1).lo ∧ bhi q p (k1 + 1) = (q k1).hi p) := take3 q p k1 (Or.inr (by have := EL.out; unfold P4.w; omega))
            have kd : decide ((q k1).hi p - (q k1).lo < bhi q p k1 - blo q p k1) = true := decide_eq_true kl
            clear k0
            go_wp2_with (first | (go_at_call 11; have cq : Mark 20 := cnt; refine (roff_q_ok (q k1) p _ hk0).mono ?_; clear cq cnt; have cnt : Mark 21 := .mk _; rintro e u20 ⟨rfl, hb⟩; replace hw : Below w.heap.size w u20 := rbel_on hb (hw); replace PL : Row u20 (u7.heap.size) [.int .i64 (blo q p k1), .int .i64 (bhi q p k1)] := Row.on hb (PL); replace cL0 := PL.c 0 _ rfl; replace cL1 := PL.c 1 _ rfl; replace zL := PL.lt; replace fL0 := PL.f 0 _ rfl; replace fL1 := PL.f 1 _ rfl; have y20 : u7.heap.size < u20.heap.size := zL; have n20 : ¬ (u7.heap.size = u20.heap.size) := (by omega); have m20 : ¬ (u20.heap.size = u7.heap.size) := (by omega); clear hb))
            go_roundw
            case rel =>
              obtain ⟨t1, t2, t3⟩ := T.out
              exact ⟨k1 + 1, k1 + 1, 0, km, rfl, by rw [t1], by go_num, Or.inl ⟨rfl, rfl⟩, by rw [t2, t3]; exact Row.al (Row.put 1 (Row.put 0 (PL))), rbel_al (rbel_put (by omega) (rbel_put (by omega) (hw)))⟩
            case measure => simp [intOf]; omega
          · have T : Hid (bst q p (k1 + 1) = bst q p k1 ∧ blo q p (k1 + 1) = blo q p k1 ∧ bhi q p (k1 + 1) = bhi q p k1) := stay3 q p k1 k0 (by have := EL.out; unfold P4.w; omega)
            have kd : decide ((q k1).hi p - (q k1).lo < bhi q p k1 - blo q p k1) = false := decide_eq_false kl
            clear k0
            go_wp2_with (first | (go_at_call 11; have cq : Mark 20 := cnt; refine (roff_q_ok (q k1) p _ hk0).mono ?_; clear cq cnt; have cnt : Mark 21 := .mk _; rintro e u20 ⟨rfl, hb⟩; replace hw : Below w.heap.size w u20 := rbel_on hb (hw); replace PL : Row u20 (u7.heap.size) [.int .i64 (blo q p k1), .int .i64 (bhi q p k1)] := Row.on hb (PL); replace cL0 := PL.c 0 _ rfl; replace cL1 := PL.c 1 _ rfl; replace zL := PL.lt; replace fL0 := PL.f 0 _ rfl; replace fL1 := PL.f 1 _ rfl; have y20 : u7.heap.size < u20.heap.size := zL; have n20 : ¬ (u7.heap.size = u20.heap.size) := (by omega); have m20 : ¬ (u20.heap.size = u7.heap.size) := (by omega); clear hb))
            go_roundw
            case rel =>
              obtain ⟨t1, t2, t3⟩ := T.out
              exact ⟨k1 + 1, k1 + 1, 0, km, rfl, by rw [t1], by go_num, Or.inl ⟨rfl, rfl⟩, by rw [t2, t3]; exact Row.al (PL), rbel_al (hw)⟩
            case measure => simp [intOf]; omega
      · have KM : Hid (k1 = m) := by
          rcases Nat.lt_or_ge k1 m with h | h
          · exact absurd (HG.out k1 h) hk0
          · exact Nat.le_antisymm hkm h
        have hnb : ((q k1).e p == 0) = false := by simpa using hk0
        have HN : Hid ((q k1).e p ≠ 0) := hk0
        clear hk0
        go_wp2_with (first | (go_at_call 11; have cq : Mark 20 := cnt; refine (roff_q_no (q k1) p _ HN.out).mono ?_; clear cq cnt; have cnt : Mark 21 := .mk _; rintro e u20 ⟨rfl, hb⟩; replace hw : Below w.heap.size w u20 := rbel_on hb (hw); replace PL : Row u20 (u7.heap.size) [.int .i64 (blo q p k1), .int .i64 (bhi q p k1)] := Row.on hb (PL); replace cL0 := PL.c 0 _ rfl; replace cL1 := PL.c 1 _ rfl; replace zL := PL.lt; replace fL0 := PL.f 0 _ rfl; replace fL1 := PL.f 1 _ rfl; have y20 : u7.heap.size < u20.heap.size := zL; have n20 : ¬ (u7.heap.size = u20.heap.size) := (by omega); have m20 : ¬ (u20.heap.size = u7.heap.size) := (by omega); clear hb))
        go_roundw
        case rel =>
          have km := KM.out
          exact ⟨k1, k1 + 1, (q k1).e p, hkm, rfl, rfl, by go_num, Or.inr ⟨by omega, HN.out, by rw [← km], by omega⟩, Row.al (PL), rbel_al (hw)⟩
        case measure => simp [intOf]; omega

end Go.Proofs.YtdhgfdbghfefnabDoor.probeTells
