/- The ways through the law OrderHolds. -/
import Derived.Test.YtbghpjmjhhjcgagDoorOrdDefS
import Derived.Test.YtbghpjmjhhjcgagDoorOrdDefF
import Derived.Test.YtbghpjmjhhjcgagDoorSpanHasAny
import Derived.Test.YtbghpjmjhhjcgagDoorTold
import Derived.Lib.SmallJoins
import Derived.BigQuiet
import Derived.Deep.QuietTactic
import Derived.Deep.RegionWith
import Derived.Deep.RegionHeld
import Derived.Deep.CutRange
import Derived.Deep.CutBlock
import Derived.IntWalk
namespace Go.Proofs.YtbghpjmjhhjcgagDoor.orderHolds
open Go.ChangeShapes Go.WideShapes Go.ChangeAt Go.RowKit Go.Joins Go.Proofs.YtbghpjmjhhjcgagDoor.told
set_option linter.unusedVariables false
set_option linter.unusedSimpArgs false

theorem error_c (f : Int) (w : World) (he : EnvE w) : Calls Tryd.prog 10 #[errc f, .int .i64 f] w fun e w' => e = .returned (.bool true) ∧ Below w.heap.size w w' := error_same f w he
/-- The law's own two events. -/
def evO (i : Nat) : Ev := if i = 0 then ⟨1, 5, 9⟩ else ⟨2, 1, 3⟩
theorem evO_ok : EvE 2 evO 0 := Or.inr (Or.inr ⟨by decide, fun j hj => by
  have : j = 0 ∨ j = 1 := by omega
  rcases this with rfl | rfl
  · exact ⟨by decide, fun k hk => by omega⟩
  · refine ⟨by decide, fun k hk => ?_⟩
    have : k = 0 := by omega
    subst this
    decide, rfl⟩)
def ordO (b : Bool) (i : Nat) : Int := if (i = 0) = (b = true) then 1 else 0
theorem ordO_each (b : Bool) : EachP 2 (ordO b) 2 := ⟨rfl, fun i hi => by
  have : i = 0 ∨ i = 1 := by omega
  cases b
  all_goals
    rcases this with rfl | rfl
    · exact ⟨by decide, by decide, fun k hk => by omega⟩
    · refine ⟨by decide, by decide, fun k hk => ?_⟩
      have : k = 0 := by omega
      subst this
      decide⟩
theorem ordO_could (b : Bool) : b = true ↔ CouldP evO (ordO b) 2 := by
  cases b
  · constructor
    · intro h; cases h
    · intro h
      have := h 1 (by decide)
      revert this
      decide
  · constructor
    · intro _ i hi
      have : i = 0 ∨ i = 1 := by omega
      rcases this with rfl | rfl
      · decide
      · decide
    · intro _; rfl
theorem evO_row {W : World} {B : Nat} (r : Row W B [.int .i64 1, .int .i64 5, .int .i64 9, .int .i64 2, .int .i64 1, .int .i64 3]) : VHanded W (some ⟨B, 0, none⟩) 2 evO := ⟨by omega, Or.inr ⟨B, 0, rfl, fun i hi => by
  have : i = 0 ∨ i = 1 := by omega
  rcases this with rfl | rfl
  · exact ⟨r.c 0 _ rfl, r.c 1 _ rfl, r.c 2 _ rfl⟩
  · exact ⟨r.c 3 _ rfl, r.c 4 _ rfl, r.c 5 _ rfl⟩⟩⟩
theorem ordO_row {W : World} {B : Nat} {b : Bool} (r : Row W B [.int .i64 (ordO b 0), .int .i64 (ordO b 1)]) : NHanded W (some ⟨B, 0, none⟩) 2 (ordO b) := ⟨by omega, Or.inr ⟨B, 0, rfl, fun i hi => by
  have : i = 0 ∨ i = 1 := by omega
  rcases this with rfl | rfl
  · exact r.c 0 _ rfl
  · exact r.c 1 _ rfl⟩⟩
theorem lit_in (x : Int) (h : -9223372036854775808 ≤ x ∧ x ≤ 9223372036854775807) : (Lit.int .i64 x).wf = true := by
  simp [Lit.wf, IntKind.min, IntKind.max, IntKind.signed, IntKind.bits]
  omega
/-- None of those gone over stands behind one that he is surely ahead of. -/
def pwB (f : Nat → Ev) (o : Nat → Int) (i k : Nat) : Prop := ∀ x y, y < x → (x < i ∨ (x = i ∧ y < k)) → sur f (o x).toNat (o y).toNat = false
theorem pwB_step {f : Nat → Ev} {o : Nat → Int} {i k : Nat} (hk : k < i) : pwB f o i (k + 1) ↔ pwB f o i k ∧ sur f (o i).toNat (o k).toNat = false := by
  constructor
  · intro h
    exact ⟨fun x y a b => h x y a (by omega), h i k hk (by omega)⟩
  · rintro ⟨h, g⟩ x y a b
    by_cases q : x = i ∧ y = k
    · rw [q.1, q.2]; exact g
    · exact h x y a (by omega)
theorem pwB_next {f : Nat → Ev} {o : Nat → Int} {i : Nat} : pwB f o i i ↔ pwB f o (i + 1) 0 := ⟨fun h x y a b => h x y a (by omega), fun h x y a b => h x y a (by omega)⟩
section
variable (a : Option Addr) (n cap : Nat) (f : Nat → Ev) (oa : Option Addr) (m oc : Nat) (o : Nat → Int) (w : World)
set_option maxRecDepth 100000 in
set_option maxHeartbeats 40000000 in
theorem all_ways (he : EnvE w) (S : OdS w) (F : OdF w) (hH : VHanded w a n f) (hIw : IdW n f) (hcp : Hid (n ≤ cap)) (hO : NHanded w oa m o) (hoc : Hid (m ≤ oc)) :
    Calls Tryd.prog 6 #[.slice a n cap, .slice oa m oc] w fun r w' => r = .returned (.bool true) ∧ Below w.heap.size w w' := by
  have HEnv : Hid (EnvE w) := he
  have HV : Hid (∀ u, Below w.heap.size w u → VHanded u a n f) := fun u hu => hH.on hu
  have HNo : Hid (∀ u, Below w.heap.size w u → NHanded u oa m o) := fun u hu => hO.on hu
  have nn : n ≤ 9223372036854775807 := hH.1
  have mm : m ≤ 9223372036854775807 := hO.1
  have cO : Hid (∀ u B1 B2 (b : Bool), Below w.heap.size w u → Row u B1 [.int .i64 1, .int .i64 5, .int .i64 9, .int .i64 2, .int .i64 1, .int .i64 3] → Row u B2 [.int .i64 (ordO b 0), .int .i64 (ordO b 1)] → Calls Tryd.prog 22 #[.slice (some ⟨B1, 0, none⟩) 2 2, .slice (some ⟨B2, 0, none⟩) 2 2] u fun r w' => r = .returned (.tuple #[.bool b, .nilIface]) ∧ Below u.heap.size u w') := fun u B1 B2 b hu r1 r2 => S.could (some ⟨B1, 0, none⟩) 2 2 evO (some ⟨B2, 0, none⟩) 2 2 (ordO b) 0 b u hu (evO_row r1) (Nat.le_refl _) (ordO_row r2) (Nat.le_refl _) (Or.inr (Or.inr ⟨evO_ok, ordO_each b, rfl⟩)) (fun h => absurd rfl h) (fun _ => ordO_could b)
  have cT := fun u B1 B2 hu r1 (r2 : Row u B2 [.int .i64 1, .int .i64 0]) => cO.out u B1 B2 true hu r1 r2
  have cF := fun u B1 B2 hu r1 (r2 : Row u B2 [.int .i64 0, .int .i64 1]) => cO.out u B1 B2 false hu r1 r2
  obtain ⟨e, hE⟩ := evE_some n f
  obtain ⟨e2, hE2⟩ : ∃ e2, OrE n f o m e2 := by
    by_cases z : e = 0
    · subst z
      by_cases q : EachP n o m
      · exact ⟨0, Or.inr (Or.inr ⟨hE, q, rfl⟩)⟩
      · exact ⟨3, Or.inr (Or.inl ⟨hE, q, rfl⟩)⟩
    · exact ⟨e, Or.inl ⟨hE, z⟩⟩
  obtain ⟨cb, hcb⟩ : ∃ cb : Bool, (e2 ≠ 0 → cb = false) ∧ (e2 = 0 → (cb = true ↔ CouldP f o m)) := by
    by_cases z : e2 = 0
    · by_cases q : CouldP f o m
      · exact ⟨true, fun h => absurd z h, fun _ => ⟨fun _ => q, fun _ => rfl⟩⟩
      · exact ⟨false, fun _ => rfl, fun _ => ⟨fun h => (by cases h), fun h => absurd h q⟩⟩
    · exact ⟨false, fun _ => rfl, fun h => absurd h z⟩
  have cC : Hid (∀ u, Below w.heap.size w u → Calls Tryd.prog 22 #[.slice a n cap, .slice oa m oc] u fun r w' => r = .returned (.tuple #[.bool cb, errc e2]) ∧ Below u.heap.size u w') := fun u hu => S.could a n cap f oa m oc o e2 cb u hu (HV.out u hu) hcp.out (HNo.out u hu) hoc.out hE2 hcb.1 hcb.2
  have HB0 : Hid (Below w.heap.size w (w.alloc (.cells #[.int .i64 1, .int .i64 5, .int .i64 9, .int .i64 2, .int .i64 1, .int .i64 3] 46))) := rbel_al (Below.refl _ _)
  have RB0 : Hid (Row (w.alloc (.cells #[.int .i64 1, .int .i64 5, .int .i64 9, .int .i64 2, .int .i64 1, .int .i64 3] 46)) w.heap.size [.int .i64 1, .int .i64 5, .int .i64 9, .int .i64 2, .int .i64 1, .int .i64 3]) := Row.made (vs := [.int .i64 1, .int .i64 5, .int .i64 9, .int .i64 2, .int .i64 1, .int .i64 3]) rfl
  have cnt : Mark 0 := .mk _
  have cErr := fun u (h : Below w.heap.size w u) => error_c 5 u (he.below h)
  clear he hH hO cO
  go_enter Tryd.func6, Tryd.ntmps6
  go_upto_region 6 with (first
    | (go_at_call 22; have cq : Mark 0 := cnt; refine (cT _ _ _ (rbel_al HB0.out) (Row.al RB0.out) (Row.made (vs := [.int .i64 1, .int .i64 0]) (by simp))).mono ?_; clear cq cnt; have cnt : Mark 1 := .mk _; rintro r u0 ⟨rfl, hb⟩; have HW0 : Hid (Below w.heap.size w u0) := rbel_on hb (rbel_al HB0.out); have R0 : Hid (Row u0 w.heap.size [.int .i64 1, .int .i64 5, .int .i64 9, .int .i64 2, .int .i64 1, .int .i64 3]) := Row.on hb (Row.al RB0.out); clear hb)
    | (go_at_call 22; have cq : Mark 1 := cnt; refine (cF _ _ _ (rbel_al HW0.out) (Row.al R0.out) (Row.made (vs := [.int .i64 0, .int .i64 1]) (by simp))).mono ?_; clear cq cnt; have cnt : Mark 2 := .mk _; rintro r u1 ⟨rfl, hb⟩; have HW1 : Hid (Below w.heap.size w u1) := rbel_on hb (rbel_al HW0.out); clear hb))
  clear HB0 RB0 HW0 R0 cT cF
  by_cases z : e2 = 0
  case neg =>
    have q := errc_not z
    have HE2 : Hid (e2 ≠ 0) := z
    rw [q] at cC
    clear S F HV HNo hE hE2 hcb q z cErr
    go_wp2_with (go_at_call 22; refine (cC.out _ HW1.out).mono ?_; rintro r u2 ⟨rfl, hb⟩; have HW2 : Hid (Below w.heap.size w u2) := rbel_on hb HW1.out; clear hb)
    go_ret
    exact ⟨rfl, HW2.out⟩
  subst z
  obtain ⟨hz, hq⟩ : EvE n f 0 ∧ EachP n o m := by
    rcases hE2 with ⟨_, h⟩ | ⟨_, _, h⟩ | ⟨h1, h2, _⟩
    · exact absurd rfl h
    · cases h
    · exact ⟨h1, h2⟩
  obtain rfl := hq.1
  obtain ⟨n12, hok⟩ := hz.zero
  have HQ : Hid (∀ i, i < m → 0 ≤ o i ∧ o i < m ∧ ∀ k, k < i → o k ≠ o i) := hq.2
  have HRk : Hid (RkI f m (rkO f m)) := rkO_is hok
  have HOk : Hid (∀ j, j < m → okB (f j).lo (f j).hi = true) := fun j hj => (hok j hj).1
  have HCb : Hid (cb = true ↔ CouldP f o m) := hcb.2 rfl
  have HCi : Hid (CouldP f o m ↔ pwB f o m 0) := by
    have c := could_iff (f := f) (o := o) (m := m) (fun i hi => (okB_t (hok (o i).toNat (by have := hq.2 i hi; omega)).1).1)
    refine c.trans ⟨fun h x y a b => h x y (by omega) a, fun h i k hi hk => h i k hk (by omega)⟩
  rw [errc_zero] at cC
  have cRa : Hid (∀ u, Below w.heap.size w u → Calls Tryd.prog 27 #[.slice a m cap] u fun r w' => ∃ ta tc, r = .returned (.tuple #[.slice ta m tc, .nilIface]) ∧ NHanded w' ta m (rkO f m) ∧ Below u.heap.size u w') := fun u hu => (F.ranks a m cap f 0 u hu (HV.out u hu) hcp.out hIw hz).mono (by
    rintro r w' ⟨ta, kk, tc, t, rfl, hN, _, h2, hb⟩
    obtain ⟨q1, q2⟩ := h2 rfl
    subst q1
    rw [errc_zero]
    exact ⟨ta, tc, rfl, ⟨hN.1, hN.2.imp id (fun ⟨b, off, e, s⟩ => ⟨b, off, e, fun j hj => by rw [← q2 j hj]; exact s j hj⟩)⟩, hb⟩)
  have cSu : Hid (∀ u (x y : Int), 0 ≤ x → x < m → 0 ≤ y → y < m → Below w.heap.size w u → Calls Tryd.prog 19 #[.slice a m cap, .int .i64 x, .int .i64 y] u fun r w' => r = .returned (.tuple #[.bool (sur f x.toNat y.toNat), .nilIface]) ∧ Below u.heap.size u w') := fun u x y x0 x1 y0 y1 hu => by
    have h := S.surely a m cap f x y 0 (sur f x.toNat y.toNat) u hu (HV.out u hu) hcp.out (by show (Lit.int .i64 x).wf = true; exact lit_in x (by omega)) (by show (Lit.int .i64 y).wf = true; exact lit_in y (by omega)) (Or.inr (Or.inr ⟨hz, ⟨x0, x1, y0, y1⟩, rfl, rfl⟩))
    rw [errc_zero] at h
    exact h
  have cTi : Hid (∀ u, Below w.heap.size w u → (cb = true → Calls Tryd.prog 23 #[.slice a m cap, .slice oa m oc] u fun r w' => ∃ ta tc, r = .returned (.tuple #[.slice ta m tc, .nilIface]) ∧ NHanded w' ta m (tmO f o) ∧ Below u.heap.size u w') ∧ (cb = false → Calls Tryd.prog 23 #[.slice a m cap, .slice oa m oc] u fun r w' => ∃ ta tc, r = .returned (.tuple #[.slice ta 0 tc, errc 5]) ∧ Below u.heap.size u w')) := fun u hu => by
    have orE : OrE m f o m 0 := Or.inr (Or.inr ⟨hz, hq, rfl⟩)
    constructor
    · intro hc
      refine (S.times a m cap f oa m oc o 0 u hu (HV.out u hu) hcp.out (HNo.out u hu) hoc.out (Or.inr (Or.inr ⟨orE, HCb.out.1 hc, rfl⟩))).mono ?_
      rintro r w' ⟨ta, kk, tc, t, rfl, hN, _, h2, hb⟩
      obtain ⟨q1, q2⟩ := h2 rfl
      subst q1
      rw [errc_zero]
      exact ⟨ta, tc, rfl, ⟨hN.1, hN.2.imp id (fun ⟨b, off, e, s⟩ => ⟨b, off, e, fun j hj => by rw [← q2 j hj]; exact s j hj⟩)⟩, hb⟩
    · intro hc
      refine (S.times a m cap f oa m oc o 5 u hu (HV.out u hu) hcp.out (HNo.out u hu) hoc.out (Or.inr (Or.inl ⟨orE, (fun q => by rw [HCb.out.2 q] at hc; cases hc), rfl⟩))).mono ?_
      rintro r w' ⟨ta, kk, tc, t, rfl, hN, h1, _, hb⟩
      obtain rfl := h1 (by decide)
      exact ⟨ta, tc, rfl, hb⟩
  clear S F hE hE2 hcb hz hq hok
  go_wp2_with (first
    | (go_at_call 22; refine (cC.out _ HW1.out).mono ?_; rintro r u2 ⟨rfl, hb⟩; have HW2 : Hid (Below w.heap.size w u2) := rbel_on hb HW1.out; clear hb)
    | (go_at_call 27; refine (cRa.out _ HW2.out).mono ?_; rintro r u3 ⟨ra, rc, rfl, hR, hb⟩; have HR3 : Hid (NHanded u3 ra m (rkO f m)) := hR; have HW3 : Hid (Below w.heap.size w u3) := rbel_on hb HW2.out; clear hb hR))
  clear HW1 HW2 cC cRa
  go_loopw [14, 15, 16, 17, 18] (fun vw vi vk vl ve wr => ∃ (i : Nat) (b : Bool), i ≤ m ∧ vi = .int .i64 i ∧ vw = .bool b ∧ (b = true ↔ pwB f o i 0) ∧ NHanded wr ra m (rkO f m) ∧ Below w.heap.size w wr) (fun _ i _ _ _ _ => m - (intOf i).toNat)
  case atStart => exact ⟨0, true, Nat.zero_le _, rfl, rfl, ⟨fun _ x y a b => by omega, fun _ => rfl⟩, HR3.out, HW3.out⟩
  case round =>
    clear HR3 HW3
    obtain ⟨i, b, hi, rfl, rfl, hb, hR, hw⟩ := hrel
    have HW : Hid (Below w.heap.size w wr) := hw
    have HR : Hid (NHanded wr ra m (rkO f m)) := hR
    have HBp : Hid (b = true ↔ pwB f o i 0) := hb
    clear hb hR
    by_cases hlt : i < m
    · have hl3 : (i : Int) < m := by omega
      obtain ⟨ob, oo, rfl, hP⟩ : ∃ ob oo : Nat, oa = some ⟨ob, oo, none⟩ ∧ Nrd wr ob oo m o := by
        rcases (HNo.out wr hw).2 with e | h
        · omega
        · exact h
      have x0 := hP i hlt
      obtain ⟨q1, q2, _⟩ := HQ.out i hlt
      have d1 : decide (o i < 0) = false := decide_eq_false (by omega)
      have d2 : ¬ ((m : Int) ≤ o i) := by omega
      have HI : Hid (0 ≤ o i ∧ o i < m) := ⟨q1, q2⟩
      clear hP hw q1 q2
      go_wp2
      clear x0 d1 d2
      go_loopw [14, 16, 17, 18] (fun vw vk vl ve wr => ∃ (k : Nat) (b : Bool), k ≤ i ∧ vk = .int .i64 k ∧ vw = .bool b ∧ (b = true ↔ pwB f o i k) ∧ NHanded wr ra m (rkO f m) ∧ Below w.heap.size w wr) (fun _ k _ _ _ => i - (intOf k).toNat)
      case atStart => exact ⟨0, b, Nat.zero_le _, rfl, rfl, HBp.out, HR.out, HW.out⟩
      case round =>
        clear HBp HR HW
        obtain ⟨k, b', hk, rfl, rfl, hb, hR, hw⟩ := hrel
        have HW : Hid (Below w.heap.size w wr) := hw
        have HR : Hid (NHanded wr ra m (rkO f m)) := hR
        have HBp : Hid (b' = true ↔ pwB f o i k) := hb
        clear hb hR
        by_cases hki : k < i
        · have hl4 : (k : Int) < i := by omega
          have hl5 : (k : Int) < m := by omega
          have hl6 : k < m := by omega
          have hP : Nrd wr ob oo m o := by
            rcases (HNo.out wr hw).2 with e | ⟨b2, o2, e, h⟩
            · omega
            · injection e with e
              injection e with e1 e2
              subst e1
              subst e2
              exact h
          have x0 := hP i hlt
          have y0 := hP k hl6
          have zb : ob < wr.heap.size := World.block_lt_of_cell? _ _ x0
          obtain ⟨p1, p2, _⟩ := HQ.out k hl6
          obtain ⟨lb, hlb⟩ : ∃ lb, lb = sur f (o i).toNat (o k).toNat := ⟨_, rfl⟩
          have HLb : Hid (lb = sur f (o i).toNat (o k).toNat) := hlb
          have cS := fun u hu => cSu.out u (o i) (o k) HI.out.1 HI.out.2 p1 p2 hu
          rw [← hlb] at cS
          clear hP hw hlb p1 p2
          go_upto_region 21 with (fail)
          go_cut [17, 18] from 111 to 123 (fun vl ve w' => vl = .bool lb ∧ ve = .nilIface ∧ NHanded w' ra m (rkO f m) ∧ Below w.heap.size w w')
          case first =>
            clear HLb HBp HQ HRk HOk HCb HCi cSu cTi HI HV HNo cErr HEnv
            generalize o i = oi at *
            generalize o k = ok at *
            go_region_with (go_at_call 19; refine (cS _ (rbel_dr HW.out)).mono ?_; rintro r x1 ⟨rfl, hb⟩; have HX : Hid (Below w.heap.size w x1) := rbel_on hb (rbel_dr HW.out); have HR1 : Hid (NHanded x1 ra m (rkO f m)) := (HR.out.on (rbel_dr (Below.refl _ _))).on hb; clear hb)
            all_goals
              go_wp2
              go_meet
              case rel => exact ⟨rfl, rfl, HR1.out, HX.out⟩
          case rest =>
            obtain ⟨rfl, rfl, hR, hwc⟩ := hcut
            have HR1 : Hid (NHanded wc ra m (rkO f m)) := hR
            have HX : Hid (Below w.heap.size w wc) := hwc
            have HN : Hid ((b' && !lb) = true ↔ pwB f o i (k + 1)) := by
              show (b' && !lb) = true ↔ pwB f o i (k + 1)
              rw [pwB_step hki, ← HBp.out, ← HLb.out]
              cases b' <;> cases lb <;> simp
            clear hR hwc HR HW HBp HLb cS x0 y0 zb
            cases b'
            · go_wp2
              go_roundw
              case rel => exact ⟨k + 1, false, by omega, by go_num, rfl, by simpa using HN.out, HR1.out, HX.out⟩
              case measure => simp [intOf]; omega
            · go_wp2
              go_roundw
              case rel => exact ⟨k + 1, !lb, by omega, by go_num, rfl, by simpa using HN.out, HR1.out, HX.out⟩
              case measure => simp [intOf]; omega
        · have hl4 : ¬ ((k : Int) < i) := by omega
          have ki : i = k := by omega
          have HN : Hid (b' = true ↔ pwB f o (i + 1) 0) := by
            show b' = true ↔ pwB f o (i + 1) 0
            rw [HBp.out, ← pwB_next, ← ki]
          clear hw HBp
          go_wp2
          go_roundw
          case rel => exact ⟨i + 1, b', by omega, by go_num, rfl, HN.out, HR.out, HW.out⟩
          case measure => simp [intOf]; omega
    · have hl3 : ¬ ((i : Int) < m) := by omega
      have e' : m = i := by omega
      have eb : b = cb := by
        have h := HBp.out
        rw [← e', ← HCi.out, ← HCb.out] at h
        exact Bool.eq_iff_iff.2 h
      subst eb
      clear hw HBp HCi e'
      go_wp2
      go_loopw [19, 20, 21, 22] (fun vi vk vf ve wr => ∃ i : Nat, i ≤ m ∧ vi = .int .i64 i ∧ NHanded wr ra m (rkO f m) ∧ Below w.heap.size w wr) (fun i _ _ _ _ => m - (intOf i).toNat)
      case atStart => exact ⟨0, Nat.zero_le _, rfl, HR.out, HW.out⟩
      case round =>
        clear HR HW hi hl3 hlt
        obtain ⟨j, hj, rfl, hR, hw⟩ := hrel
        have HW : Hid (Below w.heap.size w wr) := hw
        have HR : Hid (NHanded wr ra m (rkO f m)) := hR
        clear hR hw
        by_cases hlt : j < m
        · have hl3 : (j : Int) < m := by omega
          go_wp2
          go_loopw [20, 21, 22] (fun vk vf ve wr => ∃ k : Nat, k ≤ m ∧ vk = .int .i64 k ∧ NHanded wr ra m (rkO f m) ∧ Below w.heap.size w wr) (fun k _ _ _ => m - (intOf k).toNat)
          case atStart => exact ⟨0, Nat.zero_le _, rfl, HR.out, HW.out⟩
          case round =>
            clear HR HW
            obtain ⟨k, hk, rfl, hR, hw⟩ := hrel
            have HW : Hid (Below w.heap.size w wr) := hw
            have HR : Hid (NHanded wr ra m (rkO f m)) := hR
            clear hR
            by_cases hkm : k < m
            · have hl4 : (k : Int) < m := by omega
              have cS := cSu.out wr j k (by omega) (by omega) (by omega) (by omega) hw
              rw [Int.toNat_natCast, Int.toNat_natCast] at cS
              obtain ⟨lb, hlb⟩ : ∃ lb, lb = sur f j k := ⟨_, rfl⟩
              rw [← hlb] at cS
              have HL : Hid (lb = true → rkO f m j < rkO f m k) := fun h => (HRk.out k hkm).2.1 j hlt (by rw [← hlb]; exact h)
              clear hw hlb
              go_upto_region 32 with (go_at_call 19; refine cS.mono ?_; rintro r x1 ⟨rfl, hb⟩; have HX : Hid (Below w.heap.size w x1) := rbel_on hb HW.out; have HR1 : Hid (NHanded x1 ra m (rkO f m)) := HR.out.on hb; clear hb)
              clear HR HW cS
              obtain ⟨rb, ro, rfl, hP⟩ : ∃ rb ro : Nat, ra = some ⟨rb, ro, none⟩ ∧ Nrd x1 rb ro m (rkO f m) := by
                rcases HR1.out.2 with e | h
                · omega
                · exact h
              have x0 := hP j hlt
              have y0 := hP k hkm
              have zb : rb < x1.heap.size := World.block_lt_of_cell? _ _ x0
              cases lb with
              | true =>
                have lt := HL.out rfl
                have d1 : decide (rkO f m k ≤ rkO f m j) = false := decide_eq_false (by omega)
                clear hP HL lt HCb HRk HOk cSu cTi HV HNo cErr HEnv
                generalize rkO f m j = rj at *
                generalize rkO f m k = rk at *
                go_quiet (fail)
                go_wp2
                go_roundw
                case rel => exact ⟨k + 1, by omega, by go_num, HR1.out, rbel_drn HX.out⟩
                case measure => simp [intOf]; omega
              | false =>
                clear hP HL HCb HRk HOk cSu cTi HV HNo cErr HEnv x0 y0
                go_quiet (fail)
                go_wp2
                go_roundw
                case rel => exact ⟨k + 1, by omega, by go_num, HR1.out, rbel_drn HX.out⟩
                case measure => simp [intOf]; omega
            · have hl4 : ¬ ((k : Int) < m) := by omega
              clear hw
              go_wp2
              go_roundw
              case rel => exact ⟨j + 1, by omega, by go_num, HR.out, HW.out⟩
              case measure => simp [intOf]; omega
        · have hl3 : ¬ ((j : Int) < m) := by omega
          obtain ⟨c1, c2⟩ := cTi.out wr HW.out
          clear HRk cSu cTi HR
          cases b with
          | false =>
            have c3 := c2 rfl
            clear c1 c2 HOk HCb HV HNo
            generalize errc 5 = e5 at *
            go_wp2_with (first
              | (go_at_call 23; refine c3.mono ?_; rintro r x1 ⟨ta, tc, rfl, hb⟩; have HX : Hid (Below w.heap.size w x1) := rbel_on hb HW.out; clear hb)
              | (go_at_call 10; refine (cErr _ HX.out).mono ?_; rintro r x2 ⟨rfl, hb⟩; have HX2 : Hid (Below w.heap.size w x2) := rbel_on hb HX.out; clear hb))
            go_ret
            exact ⟨rfl, HX2.out⟩
          | true =>
            have c3 := c1 rfl
            have HC : Hid (CouldP f o m) := HCb.out.1 rfl
            clear c1 c2 HCb cErr
            go_wp2_with (go_at_call 23; refine c3.mono ?_; rintro r x1 ⟨ta, tc, rfl, hT, hb⟩; have HT1 : Hid (NHanded x1 ta m (tmO f o)) := hT; have HX : Hid (Below w.heap.size w x1) := rbel_on hb HW.out; clear hb hT)
            clear c3 HW
            go_loopw [24, 25, 26] (fun vi vn ve wr => ∃ i : Nat, i ≤ m ∧ vi = .int .i64 i ∧ NHanded wr ta m (tmO f o) ∧ Below w.heap.size w wr) (fun i _ _ _ => m - (intOf i).toNat)
            case atStart => exact ⟨0, Nat.zero_le _, rfl, HT1.out, HX.out⟩
            case round =>
              clear HT1 HX hl3 hlt hj
              obtain ⟨q, hq, rfl, hT, hw⟩ := hrel
              have HW : Hid (Below w.heap.size w wr) := hw
              have HT : Hid (NHanded wr ta m (tmO f o)) := hT
              by_cases hlt : q < m
              · have hl3 : (q : Int) < m := by omega
                obtain ⟨tb, tt, rfl, hTr⟩ : ∃ tb tt : Nat, ta = some ⟨tb, tt, none⟩ ∧ Nrd wr tb tt m (tmO f o) := by
                  rcases hT.2 with e | h
                  · omega
                  · exact h
                obtain ⟨ob, oo, rfl, hP⟩ : ∃ ob oo : Nat, oa = some ⟨ob, oo, none⟩ ∧ Nrd wr ob oo m o := by
                  rcases (HNo.out wr hw).2 with e | h
                  · omega
                  · exact h
                obtain ⟨lb, lo, rfl, hL⟩ : ∃ lb lo : Nat, a = some ⟨lb, lo, none⟩ ∧ Evs wr lb lo m f := by
                  rcases (HV.out wr hw).2 with e | h
                  · omega
                  · exact h
                obtain ⟨p1, p2, _⟩ := HQ.out q hlt
                obtain ⟨P, hPe⟩ : ∃ P : Nat, P = (o q).toNat := ⟨_, rfl⟩
                have eP : o q = (P : Int) := by omega
                have y0 := hP q hlt
                rw [eP] at y0
                have pl : (P : Int) < m := by omega
                have pl' : P < m := by omega
                obtain ⟨_, x1, x2⟩ := hL P pl'
                have t0 := hTr q hlt
                have zb : lb < wr.heap.size := World.block_lt_of_cell? _ _ x1
                have zo : ob < wr.heap.size := World.block_lt_of_cell? _ _ y0
                have zt : tb < wr.heap.size := World.block_lt_of_cell? _ _ t0
                have le : tmO f o q ≤ (f P).hi := by rw [hPe]; exact HC.out q hlt
                have ge : (f P).lo ≤ tmO f o q := by rw [hPe]; exact tmO_ge f o (Nat.le_refl q)
                have cH := fun u => has_any (f P).lo (f P).hi (tmO f o q) true u (HOk.out P pl') (decide_eq_true ⟨ge, le⟩)
                have HMo : Hid (0 < q → tmO f o (q - 1) ≤ tmO f o q) := fun q0 => by
                  obtain ⟨q', rfl⟩ : ∃ q', q = q' + 1 := ⟨q - 1, by omega⟩
                  show tmO f o q' ≤ max (tmO f o q') _
                  omega
                clear hT hw hTr hP hL eP hPe p1 p2 le ge
                go_upto_region 44 with (fail)
                go_cut [25, 26] from 194 to 209 (fun vn ve w' => vn = .bool true ∧ ve = .nilIface ∧ NHanded w' (some ⟨tb, tt, none⟩) m (tmO f o) ∧ Below w.heap.size w w')
                case first =>
                  clear HMo HC HQ HOk HV HNo HEnv
                  generalize tmO f o q = tv at *
                  generalize (f P).lo = pl1 at *
                  generalize (f P).hi = ph1 at *
                  go_region_with (go_at_call 16; refine (cH _).mono ?_; rintro r x1 ⟨rfl, hb⟩; have HX : Hid (Below w.heap.size w x1) := rbel_on hb (rbel_dr HW.out); have HT1 : Hid (NHanded x1 (some ⟨tb, tt, none⟩) m (tmO f o)) := (HT.out.on (rbel_dr (Below.refl _ _))).on hb; clear hb)
                  all_goals
                    go_wp2
                    go_meet
                    case rel => exact ⟨rfl, rfl, HT1.out, HX.out⟩
                case rest =>
                  obtain ⟨rfl, rfl, hT, hwc⟩ := hcut
                  have HX : Hid (Below w.heap.size w wc) := hwc
                  have HT1 : Hid (NHanded wc (some ⟨tb, tt, none⟩) m (tmO f o)) := hT
                  obtain ⟨hTr⟩ : Nonempty (PLift (Nrd wc tb tt m (tmO f o))) := by
                    rcases hT.2 with e | ⟨b2, o2, e, h⟩
                    · omega
                    · injection e with e
                      injection e with e1 e2
                      subst e1
                      subst e2
                      exact ⟨⟨h⟩⟩
                  have hTr := hTr.down
                  clear cH y0 x1 x2 t0 zb zo zt HW HT hT hwc
                  go_upto_region 45 with (fail)
                  by_cases q0 : 0 < q
                  · obtain ⟨J, hJ⟩ : ∃ J, J = q - 1 := ⟨_, rfl⟩
                    have w1 : IntKind.i64.wrap ((q : Int) - 1) = (J : Int) := by rw [show (q : Int) - 1 = (J : Int) by omega]; exact IntWalk.i64_in _ (by omega)
                    have d0 : decide (0 < q) = true := decide_eq_true q0
                    have t1 := hTr q hlt
                    have t2 := hTr J (by omega)
                    have zt : tb < wc.heap.size := World.block_lt_of_cell? _ _ t1
                    have jl : (J : Int) < m := by omega
                    have mo := HMo.out q0
                    rw [← hJ] at mo
                    have d1 : decide (tmO f o q < tmO f o J) = false := decide_eq_false (by omega)
                    clear hTr HMo HC HQ HOk HV HNo HEnv hJ mo
                    generalize tmO f o q = tv at *
                    generalize tmO f o J = tj at *
                    go_quiet (fail)
                    go_wp2
                    go_roundw
                    case rel => exact ⟨q + 1, by omega, by go_num, HT1.out, rbel_drn HX.out⟩
                    case measure => simp [intOf]; omega
                  · have d0 : decide ((0 : Int) < (q : Int)) = false := decide_eq_false (by omega)
                    clear hTr HMo HC HQ HOk HV HNo HEnv
                    go_quiet (fail)
                    go_wp2
                    go_roundw
                    case rel => exact ⟨q + 1, by omega, by go_num, HT1.out, rbel_drn HX.out⟩
                    case measure => simp [intOf]; omega
              · have hl3 : ¬ ((q : Int) < m) := by omega
                clear hT hw
                go_wp2
                go_ret
                exact ⟨rfl, HW.out⟩
end
end Go.Proofs.YtbghpjmjhhjcgagDoor.orderHolds
