/- The ways through the law LoopsAround. -/
import Derived.Test.YtiebojccnaelbaeDoorLoopsMath
import Derived.Test.YtiebojccnaelbaeDoorBoundsRow
import Derived.Test.YtiebojccnaelbaeDoorTold
import Derived.Deep.CutRange
import Derived.BigRegion
import Derived.IntWalk
import Derived.Deep.QuietTactic
import Derived.BigQuiet
import Derived.Lib.SmallJoins
namespace Go.Proofs.YtiebojccnaelbaeDoor.loopsAround
open Go.ChangeShapes Go.WideShapes Go.ChangeAt Go.RowKit Go.Joins Go.Proofs.YtiebojccnaelbaeDoor.told
set_option linter.unusedVariables false
set_option linter.unusedSimpArgs false

theorem own_edges_cap {w : World} {base k : Nat} {v : Value} {q : Nat → Eg} (h : w.ownsRow base 43 4 v k (ecs q k)) (hk : k ≤ 9223372036854775807) : ∃ a cap, v = .slice a k cap ∧ EHanded w a k q ∧ k ≤ cap ∧ cap ≤ 9223372036854775807 := by
  obtain ⟨a, cap, e, hE⟩ := own_edges h hk
  refine ⟨a, cap, e, hE, ?_⟩
  rcases h.2 with ⟨e', _⟩ | ⟨g, cap', cur, e', _, hg, h1, h2, hcs, htk⟩
  · rw [e] at e'
    simp at e'
    omega
  · rw [e] at e'
    simp at e'
    unfold maxLen at h2
    omega
theorem error_c (f : Int) (w : World) (he : EnvE w) : Calls Tryd.prog 9 #[errc f, .int .i64 f] w fun e w' => e = .returned (.bool true) ∧ Below w.heap.size w w' := error_same f w he
set_option maxRecDepth 100000 in
set_option maxHeartbeats 4000000 in
theorem wrong (n more : Int) (w : World) (he : EnvE w) (B : Ls w) (h : n < 3 ∨ 6 < n ∨ more < -1000 ∨ 1000 < more) :
    Calls Tryd.prog 5 #[.int .i64 n, .int .i64 more] w fun e w' => e = .returned (.bool true) ∧ Below w.heap.size w w' := by
  have cF := B.fault 1 none 0 0 (fun _ => ⟨0, 0, 0, 0⟩) 0 5 w (Below.refl _ _) ⟨by omega, Or.inl rfl⟩ (Nat.le_refl _) (by omega) (by decide) (Or.inr (Or.inl ⟨by decide, arc_none, rfl, rfl⟩))
  have cS := fun u h => error_c 5 u h
  have HE : Hid (EnvE w) := he
  clear he B
  generalize errc 5 = E5 at *
  by_cases d1 : n < 3
  · have e1 : decide (n < 3) = true := decide_eq_true d1
    clear h
    go_enter Tryd.func5, Tryd.ntmps5
    go_wp2_with (first | (go_at_call 11; refine cF.mono ?_; rintro e u0 ⟨rfl, hb⟩; have HB : Hid (Below w.heap.size w u0) := hb; clear hb) | (go_at_call 9; refine (cS _ (HE.out.below HB.out)).mono ?_; rintro e u1 ⟨rfl, hb⟩; have HB1 : Hid _ := hb; clear hb))
    go_ret
    exact ⟨rfl, rbel_on HB1.out HB.out⟩
  · have e1 : decide (n < 3) = false := decide_eq_false d1
    by_cases d2 : 6 < n
    · have e2 : decide (6 < n) = true := decide_eq_true d2
      clear h
      go_enter Tryd.func5, Tryd.ntmps5
      go_wp2_with (first | (go_at_call 11; refine cF.mono ?_; rintro e u0 ⟨rfl, hb⟩; have HB : Hid (Below w.heap.size w u0) := hb; clear hb) | (go_at_call 9; refine (cS _ (HE.out.below HB.out)).mono ?_; rintro e u1 ⟨rfl, hb⟩; have HB1 : Hid _ := hb; clear hb))
      go_ret
      exact ⟨rfl, rbel_on HB1.out HB.out⟩
    · have e2 : decide (6 < n) = false := decide_eq_false d2
      by_cases d3 : more < -1000
      · have e3 : decide (more < -1000) = true := decide_eq_true d3
        clear h
        go_enter Tryd.func5, Tryd.ntmps5
        go_wp2_with (first | (go_at_call 11; refine cF.mono ?_; rintro e u0 ⟨rfl, hb⟩; have HB : Hid (Below w.heap.size w u0) := hb; clear hb) | (go_at_call 9; refine (cS _ (HE.out.below HB.out)).mono ?_; rintro e u1 ⟨rfl, hb⟩; have HB1 : Hid _ := hb; clear hb))
        go_ret
        exact ⟨rfl, rbel_on HB1.out HB.out⟩
      · have e3 : decide (more < -1000) = false := decide_eq_false d3
        have d4 : 1000 < more := by omega
        have e4 : decide (1000 < more) = true := decide_eq_true d4
        clear h
        go_enter Tryd.func5, Tryd.ntmps5
        go_wp2_with (first | (go_at_call 11; refine cF.mono ?_; rintro e u0 ⟨rfl, hb⟩; have HB : Hid (Below w.heap.size w u0) := hb; clear hb) | (go_at_call 9; refine (cS _ (HE.out.below HB.out)).mono ?_; rintro e u1 ⟨rfl, hb⟩; have HB1 : Hid _ := hb; clear hb))
        go_ret
        exact ⟨rfl, rbel_on HB1.out HB.out⟩
set_option maxRecDepth 100000 in
set_option maxHeartbeats 8000000 in
theorem good (n : Nat) (more : Int) (w : World) (he : EnvE w) (B : Ls w) (h3 : 3 ≤ n) (h6 : n ≤ 6) (l1 : -1000 ≤ more) (l2 : more ≤ 1000) :
    Calls Tryd.prog 5 #[.int .i64 n, .int .i64 more] w fun e w' => e = .returned (.bool true) ∧ Below w.heap.size w w' := by
  have e0 := ring_egs (more := more) h3 h6 l1 l2
  have iz : In64 (n : Int) := in64_small (by omega) (by omega)
  have HE : Hid (EnvE w) := he
  have HB : Hid (Ls w) := B
  have H0 : Hid (eE n (ring n more) n = 0) := e0
  have e1 : decide ((n : Int) < 3) = false := decide_eq_false (by omega)
  have e2 : decide (6 < (n : Int)) = false := decide_eq_false (by omega)
  have e3 : decide (more < -1000) = false := decide_eq_false (by omega)
  have e4 : decide (1000 < more) = false := decide_eq_false (by omega)
  obtain ⟨i0, hi0, hz0, hz1, hz2⟩ := info_parts infoEdge
  clear he B e0
  go_enter Tryd.func5, Tryd.ntmps5
  go_wp2
  go_loopw [7, 8] (fun v i wr => ∃ k : Nat, k ≤ n ∧ i = .int .i64 k ∧ wr.ownsRow w.heap.size 43 4 v k (ecs (ring n more) k) ∧ Below w.heap.size w wr) (fun _ i _ => n - (intOf i).toNat)
  case atStart => exact ⟨0, Nat.zero_le _, rfl, World.ownsRow_nil _ _ _ _, Below.refl _ _⟩
  case round =>
    obtain ⟨k, hk, rfl, hown, hw⟩ := hrel
    have zz := hw.size
    by_cases hlt : k < n
    · have hl3 : (k : Int) < n := by omega
      have hn1 := mod_next k n hlt
      obtain ⟨j2, ej⟩ : ∃ j2, j2 = (k + 1) % n := ⟨_, rfl⟩
      have hj2 : j2 < n := by rw [ej]; exact Nat.mod_lt _ (by omega)
      rw [← ej] at hn1
      have wk : IntKind.i64.wrap ((k : Int) + 1) = (k : Int) + 1 := IntWalk.i64_in _ (by omega)
      have wj : IntKind.i64.wrap (j2 : Int) = (j2 : Int) := IntWalk.i64_in _ (by omega)
      have EJ : Hid (j2 = (k + 1) % n) := ej
      have HO : Hid (∀ j, u7.ownBlock = some j → w.heap.size ≤ j) := fun j hj => (hown.lt j hj).1
      have HW : Hid (Below w.heap.size w wr) := hw
      clear hw ej HB H0 HE
      go_wp2_with (at_builtin; refine wpList_append_own _ rfl _ _ 22 rfl w.heap.size 43 i0 (.agg #[.int .i64 0, .int .i64 0, .int .i64 0, .int .i64 0]) 4 32 Tryd.underlying22 hi0 hz0 hz1 hz2 rfl (by decide) _ _ _ rfl (hown.alloc _) ⟨wr.heap.size, 0, none⟩ 1 1 [.int .i64 k, .int .i64 j2, .int .i64 more, .int .i64 more] rfl rfl ?c1 ?c2 ?c3 ?c4 ?c5 ?_)
      case c1 =>
        intro j u hj
        rw [Addr.add_lit, World.cell?_alloc_at _ _ _ _ (by simp)]
        simpa using hj
      case c2 =>
        intro u hu
        simp at hu
        rcases hu with rfl | rfl | rfl | rfl <;> rfl
      case c3 => unfold maxLen; omega
      case c4 => omega
      case c5 => simp; omega
      intro v' w1 hown' hgrow _
      have hown1 : Hid (w1.ownsRow w.heap.size 43 4 v' (k + 1) (ecs (ring n more) (k + 1))) := by
        show w1.ownsRow w.heap.size 43 4 v' (k + 1) (ecs (ring n more) k ++ [.int .i64 k, .int .i64 (((k + 1) % n : Nat) : Int), .int .i64 more, .int .i64 more])
        rw [← EJ.out]
        exact hown'
      have hw1 : Hid (Below w.heap.size w w1) := (rbel_al HW.out).grown hgrow (by simp; omega) HO.out
      clear hown' hgrow hown HO HW
      go_wp2
      go_roundw
      case rel => exact ⟨k + 1, by omega, by go_num, hown1.out, hw1.out⟩
      case measure => simp [intOf]; omega
    · have hl3 : ¬ ((k : Int) < n) := by omega
      obtain rfl : k = n := by omega
      obtain ⟨a, cap, rfl, hH, kc, cm⟩ := own_edges_cap hown (by omega)
      have HW : Hid (Below w.heap.size w wr) := hw
      have HH : Hid (EHanded wr a k (ring k more)) := hH
      clear hown hH hw
      by_cases m0 : more = 0
      · subst m0
        have cF := HB.out.fault k a k cap (ring k 0) 0 5 wr HW.out HH.out kc cm iz (Or.inr (Or.inl ⟨H0.out, by rw [Int.toNat_natCast]; exact ring_zero, rfl, rfl⟩))
        have cX := fun u (hu : Below wr.heap.size wr u) => HB.out.find k a k cap (ring k 0) 5 u (rbel_on hu HW.out) (HH.out.on hu) iz (Or.inr (Or.inl ⟨H0.out, by rw [Int.toNat_natCast]; exact ring_zero, rfl⟩))
        have cS := fun u h => error_c 5 u h
        clear HB H0
        generalize errc 5 = E5 at *
        have cnt : Mark 0 := .mk _
        as_aux_lemma =>
          go_wp2_with (first
            | (go_at_call 11; refine cF.mono ?_; rintro e u0 ⟨rfl, hb⟩; have HB0 : Hid (Below wr.heap.size wr u0) := hb; have HW0 : Hid (Below w.heap.size w u0) := rbel_on hb HW.out; clear hb)
            | (go_at_call 12; refine (cX _ HB0.out).mono ?_; rintro e u1 ⟨lx, kx, cx, sx, rfl, _, _, hb⟩; have HW1 : Hid (Below w.heap.size w u1) := rbel_on hb HW0.out; clear hb)
            | (go_at_call 9; have cq : Mark 0 := cnt; refine (cS _ (HE.out.below HW1.out)).mono ?_; clear cq cnt; have cnt : Mark 1 := .mk _; rintro e u2 ⟨rfl, hb⟩; have HW2 : Hid (Below w.heap.size w u2) := rbel_on hb HW1.out; clear hb)
            | (go_at_call 9; have cq : Mark 1 := cnt; refine (cS _ (HE.out.below HW2.out)).mono ?_; clear cq cnt; have cnt : Mark 2 := .mk _; rintro e u3 ⟨rfl, hb⟩; have HW3 : Hid (Below w.heap.size w u3) := rbel_on hb HW2.out; clear hb))
          go_ret
          exact ⟨rfl, HW3.out⟩
      · have mb : (more == 0) = false := by simpa using m0
        have ng : Neg (Arc (ring k more) k) k := ring_neg h3 m0
        have nl : ¬ Neg (Arc (ring k more) (k - 1)) k := ring_less h3
        have cF := HB.out.fault k a k cap (ring k more) ((k - 1 : Nat) : Int) 0 wr HW.out HH.out kc cm iz (Or.inr (Or.inr ⟨H0.out, rfl, k - 1, by omega, rfl, by rw [Int.toNat_natCast, show k - 1 + 1 = k by omega]; exact ng, by rw [Int.toNat_natCast]; exact nl⟩))
        have cX := fun u (hu : Below wr.heap.size wr u) => HB.out.find k a k cap (ring k more) 0 u (rbel_on hu HW.out) (HH.out.on hu) iz (Or.inr (Or.inr ⟨H0.out, by rw [Int.toNat_natCast]; exact ng, rfl⟩))
        have cR : Hid (∀ u lx cx sx r, Below wr.heap.size wr u → NHanded u lx k sx → RoomA k (ring k more) k k sx r 0 → Calls Tryd.prog 8 #[.int .i64 k, .slice a k cap, .slice lx k cx] u fun o w' => o = .returned (.tuple #[.int .i64 r, .nilIface]) ∧ Below u.heap.size u w') := fun u lx cx sx r hu hn hr => by
          have := HB.out.room k a k cap (ring k more) lx k cx sx r 0 u (rbel_on hu HW.out) (HH.out.on hu) hn iz hr
          rwa [errc_zero] at this
        rw [errc_zero] at cF cX
        have w1 : IntKind.i64.wrap ((k : Int) - 1) = ((k - 1 : Nat) : Int) := by rw [show (k : Int) - 1 = ((k - 1 : Nat) : Int) by omega]; exact IntWalk.i64_in _ (by omega)
        clear HB ng nl m0
        as_aux_lemma =>
          go_wp2_with (first
            | (go_at_call 11; refine cF.mono ?_; rintro e u0 ⟨rfl, hb⟩; have HB0 : Hid (Below wr.heap.size wr u0) := hb; have HW0 : Hid (Below w.heap.size w u0) := rbel_on hb HW.out; clear hb)
            | (go_at_call 12; refine (cX _ HB0.out).mono ?_; rintro e u1 ⟨lx, kx, cx, sx, rfl, hn, hr, hb⟩; obtain ⟨hk, r, hr, lt⟩ := hr (by trivial); obtain rfl : kx = k := (by rcases hr with ⟨g, _⟩ | ⟨_, g⟩; exact absurd H0.out g; exact ring_len (by omega) g lt (by rw [Int.toNat_natCast] at hk; exact hk)); have cR1 := cR.out u1 lx cx sx r (rbel_on hb HB0.out) hn hr; have HW1 : Hid (Below w.heap.size w u1) := rbel_on hb HW0.out; have dr : decide (r < 0) = true := decide_eq_true lt; clear hb hn hr lt cR hk)
            | (go_at_call 8; refine cR1.mono ?_; rintro e u2 ⟨rfl, hb⟩; have HW2 : Hid (Below w.heap.size w u2) := rbel_on hb HW1.out; clear hb))
          go_ret
          exact ⟨rfl, HW2.out⟩
theorem all_ways (n more : Int) (w : World) (he : EnvE w) (B : Ls w) :
    Calls Tryd.prog 5 #[.int .i64 n, .int .i64 more] w fun e w' => e = .returned (.bool true) ∧ Below w.heap.size w w' := by
  by_cases h : n < 3 ∨ 6 < n ∨ more < -1000 ∨ 1000 < more
  · exact wrong n more w he B h
  · obtain ⟨m, rfl⟩ : ∃ m : Nat, n = m := ⟨n.toNat, by omega⟩
    exact good m more w he B (by omega) (by omega) (by omega) (by omega)
end Go.Proofs.YtiebojccnaelbaeDoor.loopsAround
