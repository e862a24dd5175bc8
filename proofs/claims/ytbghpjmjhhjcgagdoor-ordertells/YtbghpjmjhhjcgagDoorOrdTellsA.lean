/- The ways through the law OrderTells. -/
import Derived.Test.YtbghpjmjhhjcgagDoorOrdRefT
import Derived.Test.YtbghpjmjhhjcgagDoorOrdRefR
import Derived.Test.YtbghpjmjhhjcgagDoorOrdRefM
import Derived.Test.YtbghpjmjhhjcgagDoorOrdDefS
import Derived.Test.YtbghpjmjhhjcgagDoorOrdDefF
import Derived.Test.YtbghpjmjhhjcgagDoorOrdDefC
import Derived.Test.YtbghpjmjhhjcgagDoorSameInts
import Derived.Test.YtbghpjmjhhjcgagDoorToldGr
namespace Go.Proofs.YtbghpjmjhhjcgagDoor.orderTells
open Go.ChangeShapes Go.WideShapes Go.ChangeAt Go.RowKit Go.Joins Go.Proofs.YtbghpjmjhhjcgagDoor.told
set_option linter.unusedVariables false
set_option linter.unusedSimpArgs false

theorem error_c (f : Int) (w : World) (he : EnvE w) : Calls Tryd.prog 10 #[errc f, .int .i64 f] w fun e w' => e = .returned (.bool true) ∧ Below w.heap.size w w' := error_same f w he
theorem own_onT {W u : World} {base n size : Nat} {e : TypeId} {v : Value} {xs : List Value} (hb : Below W.heap.size W u) (h : W.ownsRow base e size v n xs) : u.ownsRow base e size v n xs := by
  refine ⟨h.1, ?_⟩
  rcases h.2 with h' | ⟨g, cap, cur, h1, h2, h3, h4⟩
  · exact Or.inl h'
  · refine Or.inr ⟨g, cap, cur, h1, h2, (hb.block g ?_).trans h3, h4⟩
    rcases Nat.lt_or_ge g W.heap.size with hlt | hge
    · exact hlt
    · rw [Array.getElem?_eq_none hge] at h3; cases h3
/-- Which two are asked for, and what is told of them. -/
def SuE (n : Nat) (f : Nat → Ev) (i k e : Int) (b : Bool) : Prop := (EvE n f e ∧ e ≠ 0 ∧ b = false) ∨ (EvE n f 0 ∧ (i < 0 ∨ (n : Int) ≤ i ∨ k < 0 ∨ (n : Int) ≤ k) ∧ e = 1 ∧ b = false) ∨ (EvE n f 0 ∧ (0 ≤ i ∧ i < n ∧ 0 ≤ k ∧ k < n) ∧ e = 0 ∧ b = sur f i.toNat k.toNat)
theorem suE_some {n : Nat} {f : Nat → Ev} {e : Int} (h : EvE n f e) (i k : Int) : ∃ e1 b, SuE n f i k e1 b := by
  by_cases e0 : e = 0
  · subst e0
    by_cases c : 0 ≤ i ∧ i < n ∧ 0 ≤ k ∧ k < n
    · exact ⟨0, _, Or.inr (Or.inr ⟨h, c, rfl, rfl⟩)⟩
    · exact ⟨1, false, Or.inr (Or.inl ⟨h, by omega, rfl, rfl⟩)⟩
  · exact ⟨e, false, Or.inl ⟨h, e0, rfl⟩⟩
/-- What is told of an order: its error, whether it could be so, how many times there are, and their error. -/
def OcE (n : Nat) (f : Nat → Ev) (o : Nat → Int) (m : Nat) (e2 : Int) (cb : Bool) (tl : Nat) (e3 : Int) : Prop :=
  (OrE n f o m e2 ∧ e2 ≠ 0 ∧ cb = false ∧ tl = 0 ∧ e3 = e2) ∨ (OrE n f o m 0 ∧ ¬ CouldP f o m ∧ e2 = 0 ∧ cb = false ∧ tl = 0 ∧ e3 = 5) ∨ (OrE n f o m 0 ∧ CouldP f o m ∧ e2 = 0 ∧ cb = true ∧ tl = m ∧ e3 = 0)
theorem ocE_some {n : Nat} {f : Nat → Ev} {e : Int} (h : EvE n f e) (o : Nat → Int) (m : Nat) : ∃ e2 cb tl e3, OcE n f o m e2 cb tl e3 := by
  by_cases e0 : e = 0
  · subst e0
    by_cases q : EachP n o m
    · by_cases c : CouldP f o m
      · exact ⟨0, true, m, 0, Or.inr (Or.inr ⟨Or.inr (Or.inr ⟨h, q, rfl⟩), c, rfl, rfl, rfl, rfl⟩)⟩
      · exact ⟨0, false, 0, 5, Or.inr (Or.inl ⟨Or.inr (Or.inr ⟨h, q, rfl⟩), c, rfl, rfl, rfl, rfl⟩)⟩
    · exact ⟨3, false, 0, 3, Or.inl ⟨Or.inr (Or.inl ⟨h, q, rfl⟩), by decide, rfl, rfl, rfl⟩⟩
  · exact ⟨e, false, 0, e, Or.inl ⟨Or.inl ⟨h, e0⟩, e0, rfl, rfl, rfl⟩⟩
theorem OcE.order {n : Nat} {f : Nat → Ev} {o : Nat → Int} {m : Nat} {e2 e3 : Int} {cb : Bool} {tl : Nat} (h : OcE n f o m e2 cb tl e3) : OrE n f o m e2 ∧ (e2 ≠ 0 → cb = false) ∧ (e2 = 0 → (cb = true ↔ CouldP f o m)) := by
  rcases h with ⟨a, b, c, _⟩ | ⟨a, b, rfl, rfl, _⟩ | ⟨a, b, rfl, rfl, _⟩
  · exact ⟨a, fun _ => c, fun e => absurd e b⟩
  · exact ⟨a, fun e => absurd rfl e, fun _ => ⟨fun e => (by cases e), fun e => absurd e b⟩⟩
  · exact ⟨a, fun e => absurd rfl e, fun _ => ⟨fun _ => b, fun _ => rfl⟩⟩
theorem OcE.times {n : Nat} {f : Nat → Ev} {o : Nat → Int} {m : Nat} {e2 e3 : Int} {cb : Bool} {tl : Nat} (h : OcE n f o m e2 cb tl e3) : ((OrE n f o m e3 ∧ e3 ≠ 0) ∨ (OrE n f o m 0 ∧ ¬ CouldP f o m ∧ e3 = 5) ∨ (OrE n f o m 0 ∧ CouldP f o m ∧ e3 = 0)) ∧ (e3 ≠ 0 → tl = 0) ∧ (e3 = 0 → tl = m) := by
  rcases h with ⟨a, b, _, d, rfl⟩ | ⟨a, b, _, _, d, rfl⟩ | ⟨a, b, _, _, d, rfl⟩
  · exact ⟨Or.inl ⟨a, b⟩, fun _ => d, fun e => absurd e b⟩
  · exact ⟨Or.inr (Or.inl ⟨a, b, rfl⟩), fun _ => d, fun e => (by cases e)⟩
  · exact ⟨Or.inr (Or.inr ⟨a, b, rfl⟩), fun e => absurd rfl e, fun _ => d⟩
section
variable (a : Option Addr) (n cap : Nat) (f : Nat → Ev) (i k : Int) (oa : Option Addr) (m oc : Nat) (o : Nat → Int) (w : World)
set_option maxRecDepth 100000 in
set_option maxHeartbeats 2000000 in
theorem all_ways (he : EnvE w) (S : OdS w) (F : OdF w) (C : OdC w) (hH : VHanded w a n f) (hIw : IdW n f) (hcp : Hid (n ≤ cap)) (hO : NHanded w oa m o) (hoc : Hid (m ≤ oc)) (hi : In64 i) (hk : In64 k) :
    Calls Tryd.prog 5 #[.slice a n cap, .int .i64 i, .int .i64 k, .slice oa m oc] w fun r w' => r = .returned (.bool true) ∧ Below w.heap.size w w' := by
  obtain ⟨e, hE⟩ := evE_some n f
  obtain ⟨e1, sb, hS⟩ := suE_some hE i k
  obtain ⟨e2, cb, tl, e3, hC⟩ := ocE_some hE o m
  have HEnv : Hid (EnvE w) := he
  have HV : Hid (∀ u, Below w.heap.size w u → VHanded u a n f) := fun u hu => hH.on hu
  have HNo : Hid (∀ u, Below w.heap.size w u → NHanded u oa m o) := fun u hu => hO.on hu
  have HE : Hid (EvE n f e) := hE
  have HS : Hid (SuE n f i k e1 sb) := hS
  have HC : Hid (OcE n f o m e2 cb tl e3) := hC
  have nn : n ≤ 9223372036854775807 := hH.1
  have cE := fun u hu => revents_any a n cap f e u (HV.out u hu) hE
  have cK := fun u hu => C.check a n cap f e u hu (HV.out u hu) hcp.out hE
  have cR := fun e u (h : EnvE u) => error_c e u h
  have cSu : Hid (∀ u, Below w.heap.size w u → Calls Tryd.prog 19 #[.slice a n cap, .int .i64 i, .int .i64 k] u fun r w' => r = .returned (.tuple #[.bool sb, errc e1]) ∧ Below u.heap.size u w') := fun u hu => S.surely a n cap f i k e1 sb u hu (HV.out u hu) hcp.out hi hk hS
  have cCo : Hid (∀ u, Below w.heap.size w u → Calls Tryd.prog 22 #[.slice a n cap, .slice oa m oc] u fun r w' => r = .returned (.tuple #[.bool cb, errc e2]) ∧ Below u.heap.size u w') := fun u hu => S.could a n cap f oa m oc o e2 cb u hu (HV.out u hu) hcp.out (HNo.out u hu) hoc.out hC.order.1 hC.order.2.1 hC.order.2.2
  have cTi : Hid (∀ u, Below w.heap.size w u → Calls Tryd.prog 23 #[.slice a n cap, .slice oa m oc] u fun r w' => ∃ ta tc, r = .returned (.tuple #[.slice ta tl tc, errc e3]) ∧ NHanded w' ta tl (tmO f o) ∧ Below u.heap.size u w') := fun u hu => (S.times a n cap f oa m oc o e3 u hu (HV.out u hu) hcp.out (HNo.out u hu) hoc.out hC.times.1).mono (by
    rintro r w' ⟨ta, kk, tc, t, rfl, hN, h1, h2, hb⟩
    by_cases z : e3 = 0
    · obtain ⟨q1, q2⟩ := h2 z
      have q3 := hC.times.2.2 z
      subst q1
      rw [q3]
      exact ⟨ta, tc, rfl, ⟨hN.1, hN.2.imp id (fun ⟨b, off, e, s⟩ => ⟨b, off, e, fun j hj => by rw [← q2 j hj]; exact s j hj⟩)⟩, hb⟩
    · obtain rfl := h1 z
      rw [hC.times.2.1 z]
      exact ⟨ta, tc, rfl, ⟨by omega, Or.inl rfl⟩, hb⟩)
  obtain ⟨rl, hrl⟩ : ∃ rl, rl = if e = 0 then n else 0 := ⟨_, rfl⟩
  have HRl : Hid (rl = if e = 0 then n else 0) := hrl
  have cRa : Hid (∀ u, Below w.heap.size w u → Calls Tryd.prog 27 #[.slice a n cap] u fun r w' => ∃ ta tc, r = .returned (.tuple #[.slice ta rl tc, errc e]) ∧ NHanded w' ta rl (rkO f n) ∧ Below u.heap.size u w') := fun u hu => (F.ranks a n cap f e u hu (HV.out u hu) hcp.out hIw hE).mono (by
    rintro r w' ⟨ta, kk, tc, t, rfl, hN, h1, h2, hb⟩
    by_cases z : e = 0
    · obtain ⟨q1, q2⟩ := h2 z
      subst q1
      rw [hrl, if_pos z]
      exact ⟨ta, tc, rfl, ⟨hN.1, hN.2.imp id (fun ⟨b, off, e, s⟩ => ⟨b, off, e, fun j hj => by rw [← q2 j hj]; exact s j hj⟩)⟩, hb⟩
    · obtain rfl := h1 z
      rw [hrl, if_neg z]
      exact ⟨ta, tc, rfl, ⟨by omega, Or.inl rfl⟩, hb⟩)
  obtain ⟨wy, hwy⟩ : ∃ wy, wy = if e = 0 then ((mny f n : Nat) : Int) else 0 := ⟨_, rfl⟩
  have HWy : Hid (wy = if e = 0 then ((mny f n : Nat) : Int) else 0) := hwy
  have cMa : Hid (∀ u, Below w.heap.size w u → Calls Tryd.prog 28 #[.slice a n cap] u fun r w' => r = .returned (.tuple #[.int .i64 wy, errc e]) ∧ Below u.heap.size u w') := fun u hu => by
    have h := F.many a n cap f e u hu (HV.out u hu) hcp.out hE
    rw [← hwy] at h
    exact h
  obtain ⟨i0, hi0, hz0, hz1, hz2⟩ := info_parts infoInt
  have HCR : Hid (∀ e u, EnvE u → Calls Tryd.prog 10 #[errc e, .int .i64 e] u fun r w' => r = .returned (.bool true) ∧ Below u.heap.size u w') := cR
  clear he S F C hH hO hE hS hC hrl hwy cR
  go_enter Tryd.func5, Tryd.ntmps5
  go_upto_region 4 with (first
    | (go_at_call 17; refine (cE _ (Below.refl _ _)).mono ?_; rintro r u0 ⟨rfl, hb⟩; have HW0 : Hid (Below w.heap.size w u0) := hb; clear hb)
    | (go_at_call 18; refine (cK _ HW0.out).mono ?_; rintro r u1 ⟨rfl, hb⟩; have HW1 : Hid (Below w.heap.size w u1) := rbel_on hb HW0.out; clear hb)
    | (go_at_call 10; refine (HCR.out _ _ (HEnv.out.below HW1.out)).mono ?_; rintro r u2 ⟨rfl, hb⟩; have HW2 : Hid (Below w.heap.size w u2) := rbel_on hb HW1.out; clear hb))
  clear HW0 HW1 cE cK
  obtain ⟨b1, hb1⟩ : ∃ b1, b1 = (e == 0 && e1 != 0) := ⟨_, rfl⟩
  have HB1 : Hid (b1 = (e == 0 && e1 != 0)) := hb1
  clear hb1
  go_cut [59] from 38 to 59 (fun v w' => v = .bool b1 ∧ u2 = w')
  case first =>
    rcases HS.out with ⟨h1, h2, _⟩ | ⟨h1, h2, h3, _⟩ | ⟨h1, h2, h3, _⟩
    · obtain rfl := HE.out.one h1
      have d0 : ¬ (e = 0) := h2
      have d1 : (e == 0) = false := by simpa using h2
      clear HEnv HV HNo HE HS HC cSu cCo cTi HRl cRa HWy cMa HCR h1 h2
      go_wp2
      go_meet
      case rel => exact ⟨by rw [HB1.out, d1]; rfl, rfl⟩
    · obtain rfl := HE.out.one h1
      subst h3
      clear HEnv HV HNo HE HS HC cSu cCo cTi HRl cRa HWy cMa HCR h1
      by_cases c1 : i < 0
      · have q1 : decide (i < 0) = true := decide_eq_true c1
        clear h2
        go_wp2
        go_meet
        case rel => exact ⟨by rw [HB1.out]; rfl, rfl⟩
      have q1 : decide (i < 0) = false := decide_eq_false c1
      by_cases c2 : (n : Int) ≤ i
      · have q2 : decide ((n : Int) ≤ i) = true := decide_eq_true c2
        clear h2
        go_wp2
        go_meet
        case rel => exact ⟨by rw [HB1.out]; rfl, rfl⟩
      have q2 : decide ((n : Int) ≤ i) = false := decide_eq_false c2
      by_cases c3 : k < 0
      · have q3 : decide (k < 0) = true := decide_eq_true c3
        clear h2
        go_wp2
        go_meet
        case rel => exact ⟨by rw [HB1.out]; rfl, rfl⟩
      have q3 : decide (k < 0) = false := decide_eq_false c3
      have c4 : (n : Int) ≤ k := by omega
      have q4 : decide ((n : Int) ≤ k) = true := decide_eq_true c4
      clear h2
      go_wp2
      go_meet
      case rel => exact ⟨by rw [HB1.out]; rfl, rfl⟩
    · obtain rfl := HE.out.one h1
      subst h3
      obtain ⟨g1, g2, g3, g4⟩ := h2
      have c1 : ¬ (i < 0) := by omega
      have c2 : ¬ ((n : Int) ≤ i) := by omega
      have c3 : ¬ (k < 0) := by omega
      have c4 : ¬ ((n : Int) ≤ k) := by omega
      have q1 : decide (i < 0) = false := decide_eq_false c1
      have q2 : decide ((n : Int) ≤ i) = false := decide_eq_false c2
      have q3 : decide (k < 0) = false := decide_eq_false c3
      have q4 : decide ((n : Int) ≤ k) = false := decide_eq_false c4
      clear HEnv HV HNo HE HS HC cSu cCo cTi HRl cRa HWy cMa HCR h1 g1 g2 g3 g4
      go_wp2
      go_meet
      case rel => exact ⟨by rw [HB1.out]; rfl, rfl⟩
  case rest =>
    obtain ⟨rfl, rfl⟩ := hcut
    go_upto_if 59 with (fail)
    go_cut [11] from 60 to 60 (fun v w' => v = .int .i64 e1 ∧ u2 = w')
    case first =>
      have HV1 : Hid ((b1 = true ∧ e1 = 1) ∨ (b1 = false ∧ e1 = e)) := by
        rcases HS.out with ⟨h1, h2, _⟩ | ⟨h1, h2, h3, _⟩ | ⟨h1, h2, h3, _⟩
        · obtain rfl := HE.out.one h1
          have d1 : (e == 0) = false := by simpa using h2
          exact Or.inr ⟨by rw [HB1.out, d1]; rfl, rfl⟩
        · obtain rfl := HE.out.one h1
          subst h3
          exact Or.inl ⟨by rw [HB1.out]; rfl, rfl⟩
        · obtain rfl := HE.out.one h1
          subst h3
          exact Or.inr ⟨by rw [HB1.out]; rfl, rfl⟩
      clear HEnv HV HNo HE HS HC cSu cCo cTi HRl cRa HWy cMa HCR HB1
      rcases HV1.out with ⟨rfl, rfl⟩ | ⟨rfl, rfl⟩
      · go_wp2
        go_meet
        case rel => exact ⟨rfl, rfl⟩
      · go_wp2
        go_meet
        case rel => exact ⟨rfl, rfl⟩
    case rest =>
      obtain ⟨rfl, rfl⟩ := hcut
      clear HB1
      go_upto_region 7 with (go_at_call 19; refine (cSu.out _ HW2.out).mono ?_; rintro r u3 ⟨rfl, hb⟩; have HW3 : Hid (Below w.heap.size w u3) := rbel_on hb HW2.out; clear hb)
      clear HW2 cSu
      have mixed : Tryd.prog.follows .mixedOrders = true := by kernel_rfl
      have gR : ∀ m' os, Calls Tryd.prog 10 #[errc e1, .int .i64 e1] (Go.Sort.grow (u3.drewN m') os) fun r w' => r = .returned (.bool true) ∧ Grw (Go.Sort.grow (u3.drewN m') os) w' := fun m' os => error_same_g e1 _ (HEnv.out.below (rbel_on (Grw.below ⟨m', os, rfl⟩) HW3.out))
      go_cut [14] from 67 to 90 (fun v w' => v = .bool true ∧ Below w.heap.size w w')
      case first =>
        rcases HS.out with ⟨h1, h2, h3⟩ | ⟨h1, h2, h3, h4⟩ | ⟨h1, h2, h3, h4⟩
        · subst h3
          have d1 : (e1 == 0) = false := by simpa using h2
          have d2 : decide (e1 = 0) = false := decide_eq_false h2
          clear HV HNo HE HS HC cCo cTi HRl cRa HWy cMa HCR h1 h2
          generalize errc e1 = er at *
          refine wp_region_quiet_grown (by assumption) (by kernel_rfl) ?_
          repeat (go_big_quiet_step (first | (go_at_call 10; refine Calls.grown_of (gR _ _))))
          refine wpQuiet_nil ?_
          intro _ hw'
          obtain ⟨⟨nq, osq⟩, hw''⟩ := hw'
          subst hw''
          go_wp2
          go_meet
          case rel => exact ⟨rfl, rbel_on (Grw.below ⟨nq, osq, rfl⟩) HW3.out⟩
        · subst h3
          subst h4
          clear HV HNo HE HS HC cCo cTi HRl cRa HWy cMa HCR h1 h2
          generalize errc 1 = er at *
          refine wp_region_quiet_grown (by assumption) (by kernel_rfl) ?_
          repeat (go_big_quiet_step (first | (go_at_call 10; refine Calls.grown_of (gR _ _))))
          refine wpQuiet_nil ?_
          intro _ hw'
          obtain ⟨⟨nq, osq⟩, hw''⟩ := hw'
          subst hw''
          go_wp2
          go_meet
          case rel => exact ⟨rfl, rbel_on (Grw.below ⟨nq, osq, rfl⟩) HW3.out⟩
        · subst h3
          obtain ⟨g1, g2, g3, g4⟩ := h2
          obtain ⟨I, hI⟩ : ∃ I : Nat, i = (I : Int) := ⟨i.toNat, by omega⟩
          obtain ⟨K, hK⟩ : ∃ K : Nat, k = (K : Int) := ⟨k.toNat, by omega⟩
          subst hI
          subst hK
          rw [Int.toNat_natCast, Int.toNat_natCast] at h4
          have nI : I < n := by omega
          have nK : K < n := by omega
          obtain ⟨b, off, rfl, hP⟩ : ∃ b off : Nat, a = some ⟨b, off, none⟩ ∧ Evs u3 b off n f := by
            rcases (HV.out u3 HW3.out).2 with e | h
            · omega
            · exact h
          have hs : sb = decide ((f I).hi < (f K).lo) := h4
          have x9 := cell_grown (World.block_lt_of_cell? _ _ (hP I nI).2.2) (hP I nI).2.2
          have y9 := cell_grown (World.block_lt_of_cell? _ _ (hP K nK).2.1) (hP K nK).2.1
          clear HV HNo HE HS HC cCo cTi HRl cRa HWy cMa HCR h1 h4 hP g1 g3
          subst hs
          generalize errc 0 = er at *
          refine wp_region_quiet_grown (by assumption) (by kernel_rfl) ?_
          repeat (go_big_quiet_step (first | (go_at_call 10; refine Calls.grown_of (gR _ _))))
          refine wpQuiet_nil ?_
          intro _ hw'
          obtain ⟨⟨nq, osq⟩, hw''⟩ := hw'
          subst hw''
          go_wp2
          go_meet
          case rel => exact ⟨by simp, rbel_on (Grw.below ⟨nq, osq, rfl⟩) HW3.out⟩
      case rest =>
        obtain ⟨rfl, hwc⟩ := hcut
        have HW5 : Hid (Below w.heap.size w wc) := hwc
        clear hwc HW3 gR HS
        obtain ⟨eb, heb⟩ : ∃ eb : Bool, eb = true ↔ (e = 0 ∧ EachP n o m) := by
          by_cases q : e = 0 ∧ EachP n o m
          · exact ⟨true, by simp [q]⟩
          · exact ⟨false, by simp [q]⟩
        have HEb : Hid (eb = true ↔ (e = 0 ∧ EachP n o m)) := heb
        have HO2 : Hid ((e ≠ 0 ∧ eb = false ∧ e2 = e) ∨ (e = 0 ∧ eb = false ∧ e2 = 3) ∨ (e = 0 ∧ eb = true ∧ e2 = 0)) := by
          have h := HC.out.order.1
          rcases h with ⟨h1, h2⟩ | ⟨h1, h2, h3⟩ | ⟨h1, h2, h3⟩
          · obtain rfl := HE.out.one h1
            refine Or.inl ⟨h2, ?_, rfl⟩
            cases eb with
            | false => rfl
            | true => exact absurd (heb.1 rfl).1 h2
          · obtain rfl := HE.out.one h1
            refine Or.inr (Or.inl ⟨rfl, ?_, h3⟩)
            cases eb with
            | false => rfl
            | true => exact absurd (heb.1 rfl).2 h2
          · obtain rfl := HE.out.one h1
            exact Or.inr (Or.inr ⟨rfl, heb.2 ⟨rfl, h2⟩, h3⟩)
        clear heb
        go_upto_region 9 with (fail)
        go_cut [15] from 92 to 99 (fun v w' => v = .bool eb ∧ Below w.heap.size w w')
        case first =>
          by_cases z : e = 0
          · have n12 : n ≤ 12 := (EvE.zero (by have := HE.out; rw [z] at this; exact this)).1
            have cEa : Hid (∀ u, Below w.heap.size w u → Calls Tryd.prog 20 #[.int .i64 n, .slice oa m oc] u fun r w' => r = .returned (.bool eb) ∧ Below u.heap.size u w') := fun u hu => (reach_ex n oa m oc o u n12 (HNo.out u hu)).mono (by
              rintro r w' ⟨b, rfl, hb, hw⟩
              have : b = eb := by
                rw [Bool.eq_iff_iff, hb, HEb.out]
                exact ⟨fun q => ⟨z, q⟩, fun q => q.2⟩
              rw [this]
              exact ⟨rfl, hw⟩)
            subst z
            clear HV HNo HE HC cCo cTi HRl cRa HWy cMa HCR HEb HO2
            go_wp2_with (go_at_call 20; refine (cEa.out _ HW5.out).mono ?_; rintro r u6 ⟨rfl, hb⟩; have HW6 : Hid (Below w.heap.size w u6) := rbel_on hb HW5.out; clear hb)
            go_meet
            case rel => exact ⟨rfl, HW6.out⟩
          · have d1 : (e == 0) = false := by simpa using z
            have HF : Hid (eb = false) := by
              cases h : eb with
              | false => rfl
              | true => exact absurd (HEb.out.1 h).1 z
            clear HV HNo HE HC cCo cTi HRl cRa HWy cMa HCR HEb HO2
            go_wp2
            go_meet
            case rel => exact ⟨by rw [HF.out], HW5.out⟩
        case rest =>
          obtain ⟨rfl, hwc⟩ := hcut
          have HW6 : Hid (Below w.heap.size w wc) := hwc
          clear hwc HW5 HEb
          obtain ⟨b3, hb3⟩ : ∃ b3, b3 = (e == 0 && !eb) := ⟨_, rfl⟩
          have HB3 : Hid (b3 = (e == 0 && !eb)) := hb3
          clear hb3
          go_upto_region 10 with (fail)
          go_cut [105] from 100 to 105 (fun v w' => v = .bool b3 ∧ wc = w')
          case first =>
            rcases HO2.out with ⟨z, rfl, _⟩ | ⟨rfl, rfl, _⟩ | ⟨rfl, rfl, _⟩
            · have d1 : (e == 0) = false := by simpa using z
              clear HV HNo HE HC cCo cTi HRl cRa HWy cMa HCR HO2
              go_wp2
              go_meet
              case rel => exact ⟨by rw [HB3.out, d1]; rfl, rfl⟩
            · clear HV HNo HE HC cCo cTi HRl cRa HWy cMa HCR HO2
              go_wp2
              go_meet
              case rel => exact ⟨by rw [HB3.out]; rfl, rfl⟩
            · clear HV HNo HE HC cCo cTi HRl cRa HWy cMa HCR HO2
              go_wp2
              go_meet
              case rel => exact ⟨by rw [HB3.out]; rfl, rfl⟩
          case rest =>
            obtain ⟨rfl, rfl⟩ := hcut
            go_upto_if 105 with (fail)
            go_cut [11] from 105 to 105 (fun v w' => v = .int .i64 e2 ∧ wc = w')
            case first =>
              have HV2 : Hid ((b3 = true ∧ e2 = 3) ∨ (b3 = false ∧ e2 = e)) := by
                rcases HO2.out with ⟨z, q1, q2⟩ | ⟨z, q1, q2⟩ | ⟨z, q1, q2⟩
                · have d1 : (e == 0) = false := by simpa using z
                  exact Or.inr ⟨by rw [HB3.out, d1]; rfl, q2⟩
                · exact Or.inl ⟨by rw [HB3.out, z, q1]; rfl, q2⟩
                · exact Or.inr ⟨by rw [HB3.out, z, q1]; rfl, by rw [q2, z]⟩
              clear HV HNo HE HC cCo cTi HRl cRa HWy cMa HCR HO2 HB3
              rcases HV2.out with ⟨rfl, rfl⟩ | ⟨rfl, rfl⟩
              · go_wp2
                go_meet
                case rel => exact ⟨rfl, rfl⟩
              · go_wp2
                go_meet
                case rel => exact ⟨rfl, rfl⟩
            case rest =>
              obtain ⟨rfl, rfl⟩ := hcut
              clear HB3
              -- the document's own times
              go_upto_if 107 with (fail)
              go_cut [16, 17] from 108 to 113 (fun v vb w' => ∃ ta tc, v = .slice ta tl tc ∧ vb = .bool cb ∧ NHanded w' ta tl (tmO f o) ∧ Below w.heap.size w w')
              case first =>
                have HT3 : Hid ((e2 ≠ 0 ∧ cb = false ∧ tl = 0) ∨ (e2 = 0 ∧ EvE n f 0 ∧ EachP n o m ∧ ((¬ CouldP f o m ∧ cb = false ∧ tl = 0) ∨ (CouldP f o m ∧ cb = true ∧ tl = m)))) := by
                  have zz : ∀ x, OrE n f o m x → x = 0 → EvE n f 0 ∧ EachP n o m := fun x h z => by
                    rcases h with ⟨_, h⟩ | ⟨_, _, h⟩ | ⟨h1, h2, _⟩
                    · exact absurd z h
                    · rw [h] at z; cases z
                    · exact ⟨h1, h2⟩
                  rcases HC.out with ⟨a, b, c, d, _⟩ | ⟨a, b, c, d, q, _⟩ | ⟨a, b, c, d, q, _⟩
                  · exact Or.inl ⟨b, c, d⟩
                  · obtain ⟨h1, h2⟩ := zz 0 a rfl
                    exact Or.inr ⟨c, h1, h2, Or.inl ⟨b, d, q⟩⟩
                  · obtain ⟨h1, h2⟩ := zz 0 a rfl
                    exact Or.inr ⟨c, h1, h2, Or.inr ⟨b, d, q⟩⟩
                rcases HT3.out with ⟨z, rfl, rfl⟩ | ⟨rfl, hz, hq, hr⟩
                · have d1 : (e2 == 0) = false := by simpa using z
                  have d2 : ¬ (e2 = 0) := z
                  clear HV HNo HE HC cCo cTi HRl cRa HWy cMa HCR HO2 HT3
                  go_wp2
                  go_meet
                  case rel => exact ⟨none, 0, rfl, rfl, ⟨by omega, Or.inl rfl⟩, HW6.out⟩
                · obtain rfl := hq.1
                  have cTm : Hid (∀ u, Below w.heap.size w u → Calls Tryd.prog 21 #[.slice a m cap, .slice oa m oc] u fun r w' => ∃ ta tc, r = .returned (.tuple #[.slice ta tl tc, .bool cb]) ∧ NHanded w' ta tl (tmO f o) ∧ Below u.heap.size u w') := fun u hu => (rtimes_any a m cap f oa oc o u hz.zero.1 (HV.out u hu) (HNo.out u hu) hq).mono (by
                    rintro r w' (⟨a', c', rfl, h1, h2, h3⟩ | ⟨rfl, h1, h3⟩)
                    · rcases hr with ⟨g, _⟩ | ⟨_, g1, g2⟩
                      · exact absurd h1 g
                      · rw [g1, g2]
                        exact ⟨a', c', rfl, h2, h3⟩
                    · rcases hr with ⟨_, g1, g2⟩ | ⟨g, _⟩
                      · rw [g1, g2]
                        exact ⟨none, 0, rfl, ⟨by omega, Or.inl rfl⟩, h3⟩
                      · exact absurd g h1)
                  clear HV HNo HE HC cCo cTi HRl cRa HWy cMa HCR HO2 HT3 hz hq hr
                  go_wp2_with (go_at_call 21; refine (cTm.out _ HW6.out).mono ?_; rintro r u7 ⟨ta, tc, rfl, hN, hb⟩; have HN7 : Hid (NHanded u7 ta tl (tmO f o)) := hN; have HW7 : Hid (Below w.heap.size w u7) := rbel_on hb HW6.out; clear hb hN)
                  go_meet
                  case rel => exact ⟨ta, tc, rfl, rfl, HN7.out, HW7.out⟩
              case rest =>
                obtain ⟨ta, tc, rfl, rfl, hN, hwc⟩ := hcut
                have HW7 : Hid (Below w.heap.size w wc) := hwc
                have HN7 : Hid (NHanded wc ta tl (tmO f o)) := hN
                clear hwc hN HW6
                go_upto_region 18 with (first
                  | (go_at_call 22; refine (cCo.out _ HW7.out).mono ?_; rintro r u8 ⟨rfl, hb⟩; have HN8 : Hid (NHanded u8 ta tl (tmO f o)) := HN7.out.on hb; have HW8 : Hid (Below w.heap.size w u8) := rbel_on hb HW7.out; clear hb)
                  | (go_at_call 10; refine (HCR.out _ _ (HEnv.out.below HW8.out)).mono ?_; rintro r u9 ⟨rfl, hb⟩; have HN9 : Hid (NHanded u9 ta tl (tmO f o)) := HN8.out.on hb; have HW9 : Hid (Below w.heap.size w u9) := rbel_on hb HW8.out; clear hb))
                clear HW7 HN7 HW8 HN8 cCo
                obtain ⟨b5, hb5⟩ : ∃ b5, b5 = (e2 == 0 && !cb) := ⟨_, rfl⟩
                have HB5 : Hid (b5 = (e2 == 0 && !cb)) := hb5
                have HT5 : Hid ((e2 ≠ 0 ∧ tl = 0 ∧ e3 = e2) ∨ (e2 = 0 ∧ cb = false ∧ tl = 0 ∧ e3 = 5) ∨ (e2 = 0 ∧ cb = true ∧ e3 = 0)) := by
                  rcases HC.out with ⟨a, b, c, d, q⟩ | ⟨a, b, c, d, q, r⟩ | ⟨a, b, c, d, q, r⟩
                  · exact Or.inl ⟨b, d, q⟩
                  · exact Or.inr (Or.inl ⟨c, d, q, r⟩)
                  · exact Or.inr (Or.inr ⟨c, d, r⟩)
                clear hb5
                go_cut [133] from 128 to 133 (fun v w' => v = .bool b5 ∧ u9 = w')
                case first =>
                  clear HV HNo HE HC cTi HRl cRa HWy cMa HCR HO2
                  rcases HT5.out with ⟨z, _⟩ | ⟨rfl, rfl, _⟩ | ⟨rfl, rfl, _⟩
                  · have d1 : (e2 == 0) = false := by simpa using z
                    clear HT5
                    go_wp2
                    go_meet
                    case rel => exact ⟨by rw [HB5.out, d1]; rfl, rfl⟩
                  · clear HT5
                    go_wp2
                    go_meet
                    case rel => exact ⟨by rw [HB5.out]; rfl, rfl⟩
                  · clear HT5
                    go_wp2
                    go_meet
                    case rel => exact ⟨by rw [HB5.out]; rfl, rfl⟩
                case rest =>
                  obtain ⟨rfl, rfl⟩ := hcut
                  go_upto_if 133 with (fail)
                  go_cut [11, 16] from 133 to 133 (fun v vt w' => v = .int .i64 e3 ∧ (∃ ta tc, vt = .slice ta tl tc ∧ NHanded w' ta tl (tmO f o)) ∧ u9 = w')
                  case first =>
                    have HV3 : Hid ((b5 = true ∧ tl = 0 ∧ e3 = 5) ∨ (b5 = false ∧ e3 = e2)) := by
                      rcases HT5.out with ⟨z, _, q⟩ | ⟨z, q1, q2, q3⟩ | ⟨z, q1, q2⟩
                      · have d1 : (e2 == 0) = false := by simpa using z
                        exact Or.inr ⟨by rw [HB5.out, d1]; rfl, q⟩
                      · exact Or.inl ⟨by rw [HB5.out, z, q1]; rfl, q2, q3⟩
                      · exact Or.inr ⟨by rw [HB5.out, z, q1]; rfl, by rw [q2, z]⟩
                    clear HV HNo HE HC cTi HRl cRa HWy cMa HCR HO2 HT5 HB5
                    rcases HV3.out with ⟨rfl, rfl, rfl⟩ | ⟨rfl, rfl⟩
                    · go_wp2
                      go_meet
                      case rel => exact ⟨rfl, ⟨none, 0, rfl, by omega, Or.inl rfl⟩, rfl⟩
                    · go_wp2
                      go_meet
                      case rel => exact ⟨rfl, ⟨ta, tc, rfl, HN9.out⟩, rfl⟩
                  case rest =>
                    obtain ⟨rfl, ⟨ta', tc', rfl, hN⟩, rfl⟩ := hcut
                    have HN : Hid (NHanded u9 ta' tl (tmO f o)) := hN
                    clear hN HN9 HB5 HT5 HO2
                    go_upto_region 24 with (first
                      | (go_at_call 23; refine (cTi.out _ HW9.out).mono ?_; rintro r v1 ⟨tb, td, rfl, hp, hb⟩; have HA1 : Hid (NHanded v1 tb tl (tmO f o)) := hp; have HN1 : Hid (NHanded v1 ta' tl (tmO f o)) := HN.out.on hb; have HV1 : Hid (Below w.heap.size w v1) := rbel_on hb HW9.out; clear hb hp)
                      | (go_at_call 10; refine (HCR.out _ _ (HEnv.out.below HV1.out)).mono ?_; rintro r v2 ⟨rfl, hb⟩; have HA2 : Hid (NHanded v2 tb tl (tmO f o)) := HA1.out.on hb; have HN2 : Hid (NHanded v2 ta' tl (tmO f o)) := HN1.out.on hb; have HV2 : Hid (Below w.heap.size w v2) := rbel_on hb HV1.out; clear hb)
                      | (go_at_call 24; refine (same_ints tb ta' tl td tc' (tmO f o) v2 HA2.out HN2.out).mono ?_; rintro r v3 ⟨rfl, hb⟩; have HV3 : Hid (Below w.heap.size w v3) := rbel_on hb HV2.out; clear hb))
                    clear HN HW9 HA1 HN1 HV1 HA2 HN2 HV2 cTi HC
                    go_upto_block 0 with (fail)
                    go_cut [22, 24, 25] from 146 to 162 (fun vr vj vn w' => ∃ ra rc, vr = .slice ra rl rc ∧ NHanded w' ra rl (rkO f n) ∧ Below w.heap.size w w')
                    case first =>
                      by_cases z : e = 0
                      · subst z
                        obtain ⟨n12, hok⟩ := HE.out.zero
                        have eR : rl = n := by rw [HRl.out, if_pos rfl]
                        subst eR
                        have cRk : Hid (∀ u (j : Nat), j < rl → Below w.heap.size w u → Calls Tryd.prog 25 #[.slice a rl cap, .int .i64 j] u fun r w' => r = .returned (.int .i64 (rkO f rl j)) ∧ Below u.heap.size u w') := fun u j hj hu => rrank_any a rl cap j f u n12 hok hj (HV.out u hu)
                        have zz := HV3.out.size
                        clear HV HNo HE HRl cRa HWy cMa HCR hok
                        go_wp2
                        go_loopw [22, 24, 25] (fun v vj vn wr => ∃ j : Nat, j ≤ rl ∧ vj = .int .i64 j ∧ wr.ownsRow w.heap.size 3 1 v j (ics (lsI (rkO f rl) j)) ∧ Below w.heap.size w wr) (fun _ j _ _ => rl - (intOf j).toNat)
                        case atStart => exact ⟨0, Nat.zero_le _, rfl, World.ownsRow_nil _ _ _ _, HV3.out⟩
                        case round =>
                          obtain ⟨j, hj, rfl, hown, hw⟩ := hrel
                          have HW : Hid (Below w.heap.size w wr) := hw
                          have zw := hw.size
                          by_cases hlt : j < rl
                          · have hl3 : (j : Int) < rl := by omega
                            have dl : decide ((j : Int) < rl) = true := decide_eq_true hl3
                            have cK := cRk.out wr j hlt hw
                            have HIc : Hid (ics (lsI (rkO f rl) (j + 1)) = ics (lsI (rkO f rl) j) ++ [.int .i64 (rkO f rl j)]) := by show ics _ = _; rw [lsI_snoc]; simp [ics]
                            have HB : Hid (∀ q, u22.ownBlock = some q → w.heap.size ≤ q) := fun q hq => (hown.lt q hq).1
                            have HN' : Hid (wr.ownsRow w.heap.size 3 1 u22 j (ics (lsI (rkO f rl) j))) := hown
                            clear hown hw cRk
                            generalize rkO f rl j = rv at *
                            generalize ics (lsI (rkO f rl) j) = xs at *
                            go_wp2_with (first
                              | (go_at_call 25; refine cK.mono ?_; rintro r x1 ⟨rfl, hb⟩; have HX1 : Hid (Below w.heap.size w x1) := rbel_on hb HW.out; have HN1 : Hid (x1.ownsRow w.heap.size 3 1 u22 j xs) := (own_onT hb HN'.out); have zx := HX1.out.size; clear hb)
                              | (at_builtin; refine wpList_append_own _ rfl _ _ 41 rfl w.heap.size 3 i0 (.int .i64 0) 1 8 Tryd.underlying41 hi0 hz0 hz1 hz2 rfl (by decide) _ _ _ rfl (HN1.out.alloc _) ⟨x1.heap.size, 0, none⟩ 1 1 [.int .i64 rv] rfl rfl (fun q u hq => by rw [Addr.add_lit]; exact (Row.made (W := x1) (vs := [.int .i64 rv]) rfl).c _ _ (by simpa using hq)) (fun u hu => by simp at hu; rw [hu]; rfl) (by unfold maxLen; omega) (by omega) (by simp; omega) ?_))
                            intro v' x2 hown' hgrow _
                            have HO1 : Hid (x2.ownsRow w.heap.size 3 1 v' (j + 1) (ics (lsI (rkO f rl) (j + 1)))) := by
                              show x2.ownsRow w.heap.size 3 1 v' (j + 1) (ics (lsI (rkO f rl) (j + 1)))
                              rw [HIc.out]
                              exact hown'
                            have HX2 : Hid (Below w.heap.size w x2) := (rbel_al HX1.out).grown hgrow (by simp; omega) HB.out
                            clear hown' hgrow HN' HN1 HB HIc HX1
                            go_wp2
                            go_roundw
                            case rel => exact ⟨j + 1, by omega, by go_num, HO1.out, HX2.out⟩
                            case measure => simp [intOf]; omega
                          · have hl3 : ¬ ((j : Int) < rl) := by omega
                            have dl : decide ((j : Int) < rl) = false := decide_eq_false hl3
                            have e' : rl = j := by omega
                            subst e'
                            obtain ⟨ra, rc, rfl, hR⟩ := own_intsO hown (by omega)
                            have HR : Hid (NHanded wr ra rl (rkO f rl)) := hR
                            clear hown hw hR cRk
                            go_wp2
                            go_meet
                            case rel => exact ⟨ra, rc, rfl, HR.out, HW.out⟩
                      · have eR : rl = 0 := by rw [HRl.out, if_neg z]
                        subst eR
                        have d1 : (e == 0) = false := by simpa using z
                        clear HV HNo HE HRl cRa HWy cMa HCR
                        by_cases n0 : (0 : Int) < n
                        · have dl : decide ((0 : Int) < n) = true := decide_eq_true n0
                          go_wp2
                          refine wp_loop_rounds 1 ?_
                          rw [rounds_succ]
                          go_wp2
                          go_meet
                          case rel => exact ⟨none, 0, rfl, ⟨by omega, Or.inl rfl⟩, HV3.out⟩
                        · have dl : decide ((0 : Int) < n) = false := decide_eq_false n0
                          go_wp2
                          refine wp_loop_rounds 1 ?_
                          rw [rounds_succ]
                          go_wp2
                          go_meet
                          case rel => exact ⟨none, 0, rfl, ⟨by omega, Or.inl rfl⟩, HV3.out⟩
                    case rest =>
                      obtain ⟨ra, rc, rfl, hR, hwc⟩ := hcut
                      have HR0 : Hid (NHanded wc ra rl (rkO f n)) := hR
                      have HW0 : Hid (Below w.heap.size w wc) := hwc
                      clear hR hwc HV3
                      go_upto_if 164 with (fail)
                      go_cut [23] from 165 to 166 (fun v w' => v = .int .i64 wy ∧ NHanded w' ra rl (rkO f n) ∧ Below w.heap.size w w')
                      case first =>
                        by_cases z : e = 0
                        · subst z
                          obtain ⟨n12, hok⟩ := HE.out.zero
                          have eW : wy = ((mny f n : Nat) : Int) := by rw [HWy.out, if_pos rfl]
                          have cW : Hid (∀ u, Below w.heap.size w u → Calls Tryd.prog 26 #[.slice a n cap] u fun r w' => r = .returned (.int .i64 wy) ∧ Below u.heap.size u w') := fun u hu => by rw [eW]; exact rways_any a n cap f u n12 hok (HV.out u hu)
                          clear HV HNo HE HRl cRa HWy cMa HCR hok eW
                          go_wp2_with (go_at_call 26; refine (cW.out _ HW0.out).mono ?_; rintro r x1 ⟨rfl, hb⟩; have HR1 : Hid (NHanded x1 ra rl (rkO f n)) := HR0.out.on hb; have HX1 : Hid (Below w.heap.size w x1) := rbel_on hb HW0.out; clear hb)
                          go_meet
                          case rel => exact ⟨rfl, HR1.out, HX1.out⟩
                        · have eW : wy = 0 := by rw [HWy.out, if_neg z]
                          subst eW
                          have d1 : (e == 0) = false := by simpa using z
                          have d2 : ¬ (e = 0) := z
                          clear HV HNo HE HRl cRa HWy cMa HCR
                          go_wp2
                          go_meet
                          case rel => exact ⟨rfl, HR0.out, HW0.out⟩
                      case rest =>
                        obtain ⟨rfl, hR, hwc⟩ := hcut
                        have HR1 : Hid (NHanded wc ra rl (rkO f n)) := hR
                        have HX0 : Hid (Below w.heap.size w wc) := hwc
                        clear hR hwc HR0 HW0 HV HNo HE HRl HWy
                        have cnt : Mark 0 := .mk _
                        go_wp2_with (first
                          | (go_at_call 27; refine (cRa.out _ HX0.out).mono ?_; rintro r v1 ⟨tb, td, rfl, hp, hb⟩; have HA1 : Hid (NHanded v1 tb rl (rkO f n)) := hp; have HR2 : Hid (NHanded v1 ra rl (rkO f n)) := HR1.out.on hb; have HX1 : Hid (Below w.heap.size w v1) := rbel_on hb HX0.out; clear hb hp)
                          | (go_at_call 10; have cq : Mark 0 := cnt; refine (HCR.out _ _ (HEnv.out.below HX1.out)).mono ?_; clear cq cnt; have cnt : Mark 1 := .mk _; rintro r v2 ⟨rfl, hb⟩; have HA2 : Hid (NHanded v2 tb rl (rkO f n)) := HA1.out.on hb; have HR3 : Hid (NHanded v2 ra rl (rkO f n)) := HR2.out.on hb; have HX2 : Hid (Below w.heap.size w v2) := rbel_on hb HX1.out; clear hb)
                          | (go_at_call 24; refine (same_ints tb ra rl td rc (rkO f n) v2 HA2.out HR3.out).mono ?_; rintro r v3 ⟨rfl, hb⟩; have HX3 : Hid (Below w.heap.size w v3) := rbel_on hb HX2.out; clear hb)
                          | (go_at_call 28; refine (cMa.out _ HX3.out).mono ?_; rintro r v4 ⟨rfl, hb⟩; have HX4 : Hid (Below w.heap.size w v4) := rbel_on hb HX3.out; clear hb)
                          | (go_at_call 10; have cq : Mark 1 := cnt; refine (HCR.out _ _ (HEnv.out.below HX4.out)).mono ?_; clear cq cnt; rintro r v5 ⟨rfl, hb⟩; have HX5 : Hid (Below w.heap.size w v5) := rbel_on hb HX4.out; clear hb))
                        go_ret
                        exact ⟨rfl, HX5.out⟩
end
end Go.Proofs.YtbghpjmjhhjcgagDoor.orderTells
