/- The ways through the law LoopsProve. -/
import Derived.Test.YtiebojccnaelbaeDoorLoopsMath
import Derived.Test.YtiebojccnaelbaeDoorTold
import Derived.Deep.CutRange
import Derived.BigRegion
import Derived.IntWalk
import Derived.Deep.QuietTactic
import Derived.BigQuiet
import Derived.Lib.SmallJoins
namespace Go.Proofs.YtiebojccnaelbaeDoor.loopsProve
open Go.ChangeShapes Go.WideShapes Go.ChangeAt Go.RowKit Go.Joins Go.Proofs.YtiebojccnaelbaeDoor.told
set_option linter.unusedVariables false
set_option linter.unusedSimpArgs false

/-- What package bounds must answer here, behind a world w0. -/
structure BdF (w0 : World) : Prop where
  fits : ∀ (z : Int) (a : Option Addr) (m cap : Nat) (q : Nat → Eg) (ca : Option Addr) (k cc : Nat) (c : Nat → Int) (b : Bool) (e : Int) (u : World), Below w0.heap.size w0 u → EHanded u a m q → NHanded u ca k c → In64 z → FitA z q m k c b e → Calls Tryd.prog 14 #[.int .i64 z, .slice a m cap, .slice ca k cc] u fun r w' => r = .returned (.tuple #[.bool b, errc e]) ∧ Below u.heap.size u w'
  all : ∀ (z : Int) (a : Option Addr) (m cap : Nat) (q : Nat → Eg) (e : Int) (T : Tb) (u : World), Below w0.heap.size w0 u → EHanded u a m q → In64 z → AllE z q m e T → Calls Tryd.prog 13 #[.int .i64 z, .slice a m cap] u fun r w' => ∃ s h, r = .returned (.tuple #[s, h, errc e]) ∧ (e = 0 → STab w' s h z.toNat T) ∧ Below u.heap.size u w'
theorem errc_two (e : Int) : (e = 0 ∧ errc e = .nilIface) ∨ (e ≠ 0 ∧ errc e = .iface 57 (.int .i64 e)) := by
  by_cases h : e = 0
  · subst h; exact Or.inl ⟨rfl, errc_zero⟩
  · exact Or.inr ⟨h, errc_not h⟩
theorem error_dec (e f : Int) (w : World) (he : EnvE w) : Calls Tryd.prog 9 #[errc e, .int .i64 f] w fun o w' => o = .returned (.bool (decide (e = f))) ∧ Below w.heap.size w w' := by
  have H : Hid (EnvE w) := he
  clear he
  rcases errc_two e with ⟨z, n⟩ | ⟨z, n⟩
  · rw [n]
    subst z
    by_cases h : (0 : Int) = f
    · rw [decide_eq_true h]
      have h' : ((0 : Int) == f) = true := by simpa using h
      go_enter Tryd.func9, Tryd.ntmps9
      go_wp2_with (go_at_call 19; refine (told_nil _).mono ?_; rintro e u ⟨rfl, hb⟩)
      go_ret
      exact ⟨by simp [h'], hb⟩
    · rw [decide_eq_false h]
      have h' : ((0 : Int) == f) = false := by simpa using h
      go_enter Tryd.func9, Tryd.ntmps9
      go_wp2_with (go_at_call 19; refine (told_nil _).mono ?_; rintro e u ⟨rfl, hb⟩)
      go_ret
      exact ⟨by simp [h'], hb⟩
  · rw [n]
    clear n z
    by_cases h : e = f
    · subst h
      rw [decide_eq_true rfl]
      exact error_errno e w H.out
    · rw [decide_eq_false h]
      have h' : (e == f) = false := by simpa using h
      go_enter Tryd.func9, Tryd.ntmps9
      go_wp2_with (go_at_call 19; refine (told_errno e _ H.out).mono ?_; rintro e u ⟨rfl, hb⟩)
      go_ret
      exact ⟨by simp [h'], hb⟩
/-- Two edges that cannot be. -/
def one (i : Nat) : Eg := if i = 0 then ⟨0, 1, 5, 6⟩ else ⟨0, 1, 1, 2⟩
theorem one_neg : Neg (Arc one 2) 2 := by
  have a1 : Arc one 2 0 1 2 := ⟨1, by omega, Or.inl ⟨rfl, rfl, rfl⟩⟩
  have a2 : Arc one 2 1 0 (-5) := ⟨0, by omega, Or.inr ⟨rfl, rfl, rfl⟩⟩
  exact ⟨2, 0, _, by omega, ((Wk.nil 0).snoc a1).snoc a2, by decide⟩
abbrev oneCells : List Value := [.int .i64 0, .int .i64 1, .int .i64 5, .int .i64 6, .int .i64 0, .int .i64 1, .int .i64 1, .int .i64 2]
theorem one_esp {u : World} {b : Nat} (r : Row u b oneCells) : EHanded u (some ⟨b, 0, none⟩) 2 one := by
  refine ⟨by omega, Or.inr ⟨b, 0, rfl, fun i hi => ?_⟩⟩
  have hi' : i = 0 ∨ i = 1 := by omega
  rcases hi' with rfl | rfl
  · exact ⟨r.c 0 _ rfl, r.c 1 _ rfl, r.c 2 _ rfl, r.c 3 _ rfl⟩
  · exact ⟨r.c 4 _ rfl, r.c 5 _ rfl, r.c 6 _ rfl, r.c 7 _ rfl⟩
theorem fit_each {q : Nat → Eg} {m n : Nat} {c : Nat → Int} (hE : Egs n q m) (h : fitB q c m = true) : ∀ u v x, Arc q m u v x → c v - c u ≤ x := by
  have each : ∀ m', m' ≤ m → fitB q c m' = true → ∀ j, j < m' → (q j).lo ≤ c (q j).b.toNat - c (q j).a.toNat ∧ c (q j).b.toNat - c (q j).a.toNat ≤ (q j).hi := by
    intro m'
    induction m' with
    | zero => intro _ _ j hj; omega
    | succ k ih =>
      intro hk hf j hj
      simp only [fitB, Bool.and_eq_true, decide_eq_true_eq] at hf
      by_cases e : j = k
      · subst e; exact hf.2
      · exact ih (by omega) hf.1 j (by omega)
  rintro u v x ⟨j, hj, ⟨h1, h2, rfl⟩ | ⟨h1, h2, rfl⟩⟩
  · have := each m (Nat.le_refl _) h j hj
    rw [← h1, ← h2, Int.toNat_natCast, Int.toNat_natCast] at this
    omega
  · have := each m (Nat.le_refl _) h j hj
    rw [← h1, ← h2, Int.toNat_natCast, Int.toNat_natCast] at this
    omega
/-- With a loop that has no room no clocks fit. -/
theorem room_unfit {z : Int} {q : Nat → Eg} {m k kk : Nat} {s c : Nat → Int} {r : Int} (h : RoomA z q m k s r 0) (lt : r < 0) (f : FitA z q m kk c true 0) : False := by
  rcases h with ⟨g, _, e⟩ | ⟨h0, h⟩
  · exact g e.symm
  · have hE := eE_zero h0
    obtain ⟨n, rfl⟩ : ∃ n : Nat, z = n := ⟨z.toNat, by have := hE.n1; omega⟩
    have ng := rm_neg hE h lt
    rcases f with ⟨_, e, _⟩ | ⟨_, _, e, _⟩ | ⟨_, _, _, e, _⟩ | ⟨_, hk, _, e, _⟩
    · cases e
    · cases e
    · cases e
    · exact ng.unfit (fit_each hE e.symm)
/-- All's error, by Find's. -/
theorem all_find {z : Int} {q : Nat → Eg} {m : Nat} {e ae : Int} {T : Tb} (f : FindE z q m e) (h : AllE z q m ae T) : (e = 0 → ae = 7) ∧ (e = 5 → ae ≠ 7 ∨ eE z q m = 5) := by
  rcases f with ⟨g, rfl⟩ | ⟨g, nn, rfl⟩ | ⟨g, nn, rfl⟩
  · exact ⟨fun e => absurd e g, fun e => Or.inr e⟩
  · refine ⟨fun e => (by cases e), fun _ => Or.inl ?_⟩
    rcases h with ⟨g', _⟩ | ⟨_, ⟨g', _⟩ | ⟨_, _, ⟨_, rfl⟩ | ⟨_, rfl⟩⟩⟩
    · exact absurd g g'
    · exact absurd g' nn
    · decide
    · decide
  · refine ⟨fun _ => ?_, fun e => (by cases e)⟩
    rcases h with ⟨g', _⟩ | ⟨_, ⟨_, rfl⟩ | ⟨g', _⟩⟩
    · exact absurd g g'
    · rfl
    · exact absurd nn g'
theorem all_some (z : Int) (q : Nat → Eg) (m : Nat) : ∃ ae T, AllE z q m ae T := by
  by_cases h : eE z q m = 0
  · obtain ⟨n, rfl⟩ : ∃ n : Nat, z = n := ⟨z.toNat, by have := (eE_zero h).n1; omega⟩
    obtain ⟨f, T, hA⟩ := allA_some (eE_zero h)
    exact ⟨f, T, Or.inr ⟨h, by rw [Int.toNat_natCast]; exact hA⟩⟩
  · exact ⟨_, tb0, Or.inl ⟨h, rfl⟩⟩
set_option maxRecDepth 100000 in
set_option maxHeartbeats 8000000 in
theorem ways (z : Int) (a : Option Addr) (m cap : Nat) (q : Nat → Eg) (la : Option Addr) (k lc : Nat) (s : Nat → Int) (ca : Option Addr) (kk cc : Nat) (c : Nat → Int) (e ae r e3 fe : Int) (fb : Bool) (w : World) (he : EnvE w) (B : Ls w) (hH : EHanded w a m q) (wz : In64 z)
    (hX : FindE z q m e) (h0 : e = 0 → ae = 7) (h5 : e = 5 → ae ≠ 7)
    (cA : ∀ u, Below w.heap.size w u → Calls Tryd.prog 13 #[.int .i64 z, .slice a m cap] u fun o w' => ∃ s h, o = .returned (.tuple #[s, h, errc ae]) ∧ Below u.heap.size u w')
    (cR : ∀ u, Below w.heap.size w u → Calls Tryd.prog 8 #[.int .i64 z, .slice a m cap, .slice la k lc] u fun o w' => o = .returned (.tuple #[.int .i64 r, errc e3]) ∧ Below u.heap.size u w')
    (cF : ∀ u, Below w.heap.size w u → Calls Tryd.prog 14 #[.int .i64 z, .slice a m cap, .slice ca kk cc] u fun o w' => o = .returned (.tuple #[.bool fb, errc fe]) ∧ Below u.heap.size u w')
    (hL : e3 ≠ 0 ∨ (e3 = 0 ∧ fe ≠ 0) ∨ (e3 = 0 ∧ fe = 0 ∧ 0 ≤ r) ∨ (e3 = 0 ∧ fe = 0 ∧ r < 0 ∧ fb = false)) :
    Calls Tryd.prog 4 #[.int .i64 z, .slice a m cap, .slice la k lc, .slice ca kk cc] w fun e w' => e = .returned (.bool true) ∧ Below w.heap.size w w' := by
  have hU : Below w.heap.size w (w.alloc (.cells #[.int .i64 0, .int .i64 1, .int .i64 5, .int .i64 6, .int .i64 0, .int .i64 1, .int .i64 1, .int .i64 2] 43)) := rbel_al (Below.refl _ _)
  have rU : Row (w.alloc (.cells #[.int .i64 0, .int .i64 1, .int .i64 5, .int .i64 6, .int .i64 0, .int .i64 1, .int .i64 1, .int .i64 2] 43)) w.heap.size oneCells := Row.made rfl
  have o0 : eE 2 one 2 = 0 := by decide
  have c0 := B.find 2 (some ⟨w.heap.size, 0, none⟩) 2 2 one 0 _ hU (one_esp rU) (by decide) (Or.inr (Or.inr ⟨o0, one_neg, rfl⟩))
  rw [errc_zero] at c0
  have HU : Hid (Below w.heap.size w (w.alloc (.cells #[.int .i64 0, .int .i64 1, .int .i64 5, .int .i64 6, .int .i64 0, .int .i64 1, .int .i64 1, .int .i64 2] 43))) := hU
  have RU : Hid (Row (w.alloc (.cells #[.int .i64 0, .int .i64 1, .int .i64 5, .int .i64 6, .int .i64 0, .int .i64 1, .int .i64 1, .int .i64 2] 43)) w.heap.size oneCells) := rU
  have c1 : Hid (∀ u la0 k0 lc0 s0 r0, Below w.heap.size w u → Row u w.heap.size oneCells → NHanded u la0 k0 s0 → RoomA 2 one 2 k0 s0 r0 0 → Calls Tryd.prog 8 #[.int .i64 2, .slice (some ⟨w.heap.size, 0, none⟩) 2 2, .slice la0 k0 lc0] u fun o w' => o = .returned (.tuple #[.int .i64 r0, .nilIface]) ∧ Below u.heap.size u w') := fun u la0 k0 lc0 s0 r0 hu ru hn hr => by
    have := B.room 2 (some ⟨w.heap.size, 0, none⟩) 2 2 one la0 k0 lc0 s0 r0 0 u hu (one_esp ru) hn (by decide) hr
    rwa [errc_zero] at this
  have cX := fun u (hu : Below w.heap.size w u) => B.find z a m cap q e u hu (hH.on hu) wz hX
  have c2 : Hid (∀ u la0 k0 lc0 s0 r0, Below w.heap.size w u → NHanded u la0 k0 s0 → RoomA z q m k0 s0 r0 0 → Calls Tryd.prog 8 #[.int .i64 z, .slice a m cap, .slice la0 k0 lc0] u fun o w' => o = .returned (.tuple #[.int .i64 r0, .nilIface]) ∧ Below u.heap.size u w') := fun u la0 k0 lc0 s0 r0 hu hn hr => by
    have := B.room z a m cap q la0 k0 lc0 s0 r0 0 u hu (hH.on hu) hn wz hr
    rwa [errc_zero] at this
  obtain ⟨EV, hEV⟩ : ∃ EV, EV = errc e := ⟨_, rfl⟩
  have HEV : Hid (EV = errc e) := hEV
  rw [← hEV] at cX
  have HE : Hid (EnvE w) := he
  have HL : Hid _ := hL
  have H0 : Hid (e = 0 → ae = 7) := h0
  have H5 : Hid (e = 5 → ae ≠ 7) := h5
  have cS := fun e f u (h : EnvE u) => error_dec e f u h
  clear hU rU B hH hX h0 h5 he hL o0 hEV
  have cnt : Mark 0 := .mk _
  go_enter Tryd.func4, Tryd.ntmps4
  go_upto_region 7 with (first
    | (go_at_call 12; have cq : Mark 0 := cnt; refine c0.mono ?_; clear cq cnt; have cnt : Mark 1 := .mk _; rintro e' u0 ⟨la0, k0, lc0, s0, rfl, hn, hr, hb⟩; obtain ⟨_, r0, hr0, lt0⟩ := hr rfl; have hw0 : Below w.heap.size w u0 := rbel_on hb HU.out; have cc1 := c1.out u0 la0 k0 lc0 s0 r0 hw0 (Row.on hb RU.out) hn hr0; have HW0 : Hid (Below w.heap.size w u0) := hw0; have dl0 : decide (0 ≤ r0) = false := decide_eq_false (by omega); clear hb hn hr hr0 lt0 hw0 c1)
    | (go_at_call 8; refine cc1.mono ?_; rintro e' u1 ⟨rfl, hb⟩; have HW1 : Hid (Below w.heap.size w u1) := rbel_on hb HW0.out; clear hb cc1)
    | (go_at_call 12; have cq : Mark 1 := cnt; refine (cX _ HW1.out).mono ?_; clear cq cnt; have cnt : Mark 2 := .mk _; rintro e' u2 ⟨la2, k2, lc2, s2, rfl, hn, hr, hb⟩; have HN2 : Hid (NHanded u2 la2 k2 s2) := hn; have HR2 : Hid (e = 0 → k2 ≤ z.toNat ∧ ∃ r, RoomA z q m k2 s2 r 0 ∧ r < 0) := hr; have HW2 : Hid (Below w.heap.size w u2) := rbel_on hb HW1.out; clear hb hn hr))
  clear c0 cX HU RU HW0 HW1
  go_cut [62] from 61 to 62 (fun v w' => v = .bool (decide (e = 0)) ∧ w' = u2)
  case first =>
    as_aux_lemma =>
      have two := errc_two e
      rw [← HEV.out] at two
      clear HEV
      rcases two with ⟨z1, rfl⟩ | ⟨z1, rfl⟩
      · have E : Hid (decide (e = 0) = true) := decide_eq_true z1
        clear z1
        go_wp2
        go_meet
        case rel => exact ⟨by rw [E.out], rfl⟩
      · have E : Hid (decide (e = 0) = false) := decide_eq_false z1
        clear z1
        go_wp2
        go_meet
        case rel => exact ⟨by rw [E.out], rfl⟩
  case rest =>
    obtain ⟨rfl, rfl⟩ := hcut
    go_upto_if 62 with (fail)
    go_cut [] from 16 to 131 (fun w' => Below w.heap.size w w')
    case first =>
      as_aux_lemma =>
        by_cases e0 : e = 0
        · subst e0
          obtain ⟨_, r2, hr2, lt2⟩ := HR2.out rfl
          have a7 := H0.out rfl
          subst a7
          have cc2 := c2.out _ la2 k2 lc2 s2 r2 HW2.out HN2.out hr2
          have d2 : decide (0 ≤ r2) = false := decide_eq_false (by omega)
          have cS7 := fun u h => cS 7 7 u h
          rw [decide_eq_true rfl] at cS7
          rw [decide_eq_true rfl]
          clear hr2 lt2 cS c2 HR2 HN2
          go_wp2_with (first
            | (go_at_call 8; refine cc2.mono ?_; rintro e' u3 ⟨rfl, hb⟩; have HW3 : Hid (Below w.heap.size w u3) := rbel_on hb HW2.out; clear hb)
            | (go_at_call 13; refine (cA _ HW3.out).mono ?_; rintro e' u4 ⟨s4, h4, rfl, hb⟩; have HW4 : Hid (Below w.heap.size w u4) := rbel_on hb HW3.out; clear hb)
            | (go_at_call 9; refine (cS7 _ (HE.out.below HW4.out)).mono ?_; rintro e' u5 ⟨rfl, hb⟩; have HW5 : Hid (Below w.heap.size w u5) := rbel_on hb HW4.out; clear hb))
          go_meet
          case rel => exact HW5.out
        · have cS5 := fun u h => cS e 5 u h
          rw [← HEV.out] at cS5
          have cS7 := fun u h => cS ae 7 u h
          have nn : (decide (e = 5) && decide (ae = 7)) = false := by
            by_cases h : e = 5
            · rw [decide_eq_false (H5.out h), Bool.and_false]
            · rw [decide_eq_false h, Bool.false_and]
          rw [decide_eq_false e0]
          generalize decide (e = 5) = b5 at *
          generalize decide (ae = 7) = b7 at *
          clear c2 HR2 HN2 cS
          have cnt : Mark 0 := .mk _
          cases b5
          all_goals
            (try simp only [Bool.true_and] at nn)
            (try subst nn)
            go_wp2_with (first
              | (go_at_call 9; have cq : Mark 0 := cnt; refine (cS5 _ (HE.out.below HW2.out)).mono ?_; clear cq cnt; have cnt : Mark 1 := .mk _; rintro e' u3 ⟨rfl, hb⟩; have HW3 : Hid (Below w.heap.size w u3) := rbel_on hb HW2.out; clear hb)
              | (go_at_call 13; refine (cA _ HW3.out).mono ?_; rintro e' u4 ⟨s4, h4, rfl, hb⟩; have HW4 : Hid (Below w.heap.size w u4) := rbel_on hb HW3.out; clear hb)
              | (go_at_call 9; have cq : Mark 1 := cnt; refine (cS7 _ (HE.out.below HW4.out)).mono ?_; clear cq cnt; have cnt : Mark 2 := .mk _; rintro e' u5 ⟨rfl, hb⟩; have HW5 : Hid (Below w.heap.size w u5) := rbel_on hb HW4.out; clear hb))
            go_meet
            case rel => exact HW5.out
    case rest =>
      have HW : Hid (Below w.heap.size w wc) := hcut
      clear hcut HW2 HN2 HR2 c2 cA cS H0 H5
      as_aux_lemma =>
        rcases errc_two e3 with ⟨z3, n3⟩ | ⟨z3, n3⟩
        · rw [n3] at cR
          rcases errc_two fe with ⟨z4, n4⟩ | ⟨z4, n4⟩
          · rw [n4] at cF
            by_cases r0' : 0 ≤ r
            · have d1 : decide (0 ≤ r) = true := decide_eq_true r0'
              go_wp2_with (first
                | (go_at_call 8; refine (cR _ HW.out).mono ?_; rintro e' u6 ⟨rfl, hb⟩; have HW6 : Hid (Below w.heap.size w u6) := rbel_on hb HW.out; clear hb)
                | (go_at_call 14; refine (cF _ HW6.out).mono ?_; rintro e' u7 ⟨rfl, hb⟩; have HW7 : Hid (Below w.heap.size w u7) := rbel_on hb HW6.out; clear hb))
              go_ret
              exact ⟨rfl, HW7.out⟩
            · have d1 : decide (0 ≤ r) = false := decide_eq_false r0'
              have fbf : fb = false := by
                rcases HL.out with h | ⟨_, h⟩ | ⟨_, _, h⟩ | ⟨_, _, _, h⟩
                · exact absurd z3 h
                · exact absurd z4 h
                · exact absurd h r0'
                · exact h
              subst fbf
              go_wp2_with (first
                | (go_at_call 8; refine (cR _ HW.out).mono ?_; rintro e' u6 ⟨rfl, hb⟩; have HW6 : Hid (Below w.heap.size w u6) := rbel_on hb HW.out; clear hb)
                | (go_at_call 14; refine (cF _ HW6.out).mono ?_; rintro e' u7 ⟨rfl, hb⟩; have HW7 : Hid (Below w.heap.size w u7) := rbel_on hb HW6.out; clear hb))
              go_ret
              exact ⟨rfl, HW7.out⟩
          · rw [n4] at cF
            go_wp2_with (first
              | (go_at_call 8; refine (cR _ HW.out).mono ?_; rintro e' u6 ⟨rfl, hb⟩; have HW6 : Hid (Below w.heap.size w u6) := rbel_on hb HW.out; clear hb)
              | (go_at_call 14; refine (cF _ HW6.out).mono ?_; rintro e' u7 ⟨rfl, hb⟩; have HW7 : Hid (Below w.heap.size w u7) := rbel_on hb HW6.out; clear hb))
            go_ret
            exact ⟨rfl, HW7.out⟩
        · rw [n3] at cR
          generalize errc fe = FE at *
          go_wp2_with (first
            | (go_at_call 8; refine (cR _ HW.out).mono ?_; rintro e' u6 ⟨rfl, hb⟩; have HW6 : Hid (Below w.heap.size w u6) := rbel_on hb HW.out; clear hb)
            | (go_at_call 14; refine (cF _ HW6.out).mono ?_; rintro e' u7 ⟨rfl, hb⟩; have HW7 : Hid (Below w.heap.size w u7) := rbel_on hb HW6.out; clear hb))
          go_ret
          exact ⟨rfl, HW7.out⟩
theorem eE_five (z : Int) (q : Nat → Eg) (m : Nat) : eE z q m ≠ 5 := by
  have h1 : ∀ i, eEr z q i ≠ 5 := fun i => by
    unfold eEr
    split
    · decide
    · split
      · decide
      · split <;> decide
  have h2 : ∀ m, eFr z q m ≠ 5 := fun m => by
    induction m with
    | zero => simp [eFr]
    | succ m ih =>
      simp only [eFr]
      split
      · exact h1 m
      · exact ih
  unfold eE
  split
  · decide
  · split
    · decide
    · exact h2 m
theorem all_ways (z : Int) (a : Option Addr) (m cap : Nat) (q : Nat → Eg) (la : Option Addr) (k lc : Nat) (s : Nat → Int) (ca : Option Addr) (kk cc : Nat) (c : Nat → Int) (w : World) (he : EnvE w) (B : Ls w) (F : BdF w) (hH : EHanded w a m q) (hL : NHanded w la k s) (hC : NHanded w ca kk c) (wz : In64 z) :
    Calls Tryd.prog 4 #[.int .i64 z, .slice a m cap, .slice la k lc, .slice ca kk cc] w fun e w' => e = .returned (.bool true) ∧ Below w.heap.size w w' := by
  obtain ⟨e, hX⟩ := findE_some z q m
  obtain ⟨ae, T, hA⟩ := all_some z q m
  obtain ⟨r, e3, hR⟩ := roomA_some z q m k s
  obtain ⟨fb, fe, hF⟩ := fitA_some z q m kk c
  obtain ⟨f1, f2⟩ := all_find hX hA
  refine ways z a m cap q la k lc s ca kk cc c e ae r e3 fe fb w he B hH wz hX f1 (fun h => (f2 h).resolve_right (eE_five z q m))
    (fun u hu => (F.all z a m cap q ae T u hu (hH.on hu) wz hA).mono (by rintro o w' ⟨s, h, h1, _, h2⟩; exact ⟨s, h, h1, h2⟩))
    (fun u hu => B.room z a m cap q la k lc s r e3 u hu (hH.on hu) (hL.on hu) wz hR) (fun u hu => F.fits z a m cap q ca kk cc c fb fe u hu (hH.on hu) (hC.on hu) wz hF) ?_
  by_cases h3 : e3 = 0
  · by_cases h4 : fe = 0
    · by_cases h5 : 0 ≤ r
      · exact Or.inr (Or.inr (Or.inl ⟨h3, h4, h5⟩))
      · refine Or.inr (Or.inr (Or.inr ⟨h3, h4, by omega, ?_⟩))
        subst h3 h4
        cases fb with
        | false => rfl
        | true => exact absurd hF (fun f => room_unfit hR (by omega) f)
    · exact Or.inr (Or.inl ⟨h3, h4⟩)
  · exact Or.inl h3
end Go.Proofs.YtiebojccnaelbaeDoor.loopsProve
