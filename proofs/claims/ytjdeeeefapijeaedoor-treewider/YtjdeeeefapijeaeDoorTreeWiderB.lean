/- The ways through the law TreeWider, step by step. -/
import Derived.Test.YtjdeeeefapijeaeDoorTreeWiderA
namespace Go.Proofs.YtjdeeeefapijeaeDoor.treeWider
open Go.ChangeShapes Go.WideShapes Go.ChangeAt Go.RowKit Go.Joins Go.Proofs.YtjdeeeefapijeaeDoor.told
set_option linter.unusedVariables false
set_option linter.unusedSimpArgs false

theorem one_esp {u : World} {b : Nat} (r : Row u b [.int .i64 1, .int .i64 0, .int .i64 5, .int .i64 6]) : EHanded u (some ⟨b, 0, none⟩) 1 one := by
  refine ⟨by omega, Or.inr ⟨b, 0, rfl, fun i hi => ?_⟩⟩
  obtain rfl : i = 0 := by omega
  exact ⟨r.c 0 _ rfl, r.c 1 _ rfl, r.c 2 _ rfl, r.c 3 _ rfl⟩
theorem nz_s {u : World} {a : Option Addr} {n : Nat} {f : Nat → Int × Int} (h : SHanded u a n f) (hn : n ≠ 0) : ∃ b off : Nat, a = some ⟨b, off, none⟩ ∧ Sls u b off n f := h.2.resolve_left hn
theorem nz_b {u : World} {a : Option Addr} {n : Nat} {f : Nat → Bool} (h : BHanded u a n f) (hn : n ≠ 0) : ∃ b off : Nat, a = some ⟨b, off, none⟩ ∧ Bls u b off n f := h.2.resolve_left hn
theorem fit_k {n : Nat} {q : Nat → Eg} {m k : Nat} {c : Nat → Int} (f : FitA n q m k c true 0) : k = n ∧ ∀ i, i < n → -1000000000000 ≤ c i ∧ c i ≤ 1000000000000 := by
  rcases f with ⟨_, e, _⟩ | ⟨_, _, e, _⟩ | ⟨_, _, _, e, _⟩ | ⟨_, hk, hb, _, _⟩
  · cases e
  · cases e
  · cases e
  · refine ⟨by omega, fun i hi => ?_⟩
    apply Classical.byContradiction
    intro no
    exact hb ⟨i, by omega, by omega⟩
set_option maxRecDepth 100000 in
set_option maxHeartbeats 4000000 in
theorem bad (z : Int) (a : Option Addr) (m cap : Nat) (q : Nat → Eg) (root : Int) (ca : Option Addr) (k cc : Nat) (e : Int) (w : World) (S : TsS w) (hH : EHanded w a m q) (wz : In64 z) (wr : In64 root) (hE : SpE z q m root e) (e0 : e ≠ 0) :
    Calls Tryd.prog 7 #[.int .i64 z, .slice a m cap, .int .i64 root, .slice ca k cc] w fun e w' => e = .returned (.bool true) ∧ Below w.heap.size w w' := by
  have hU : Below w.heap.size w (w.alloc (.cells #[.int .i64 1, .int .i64 0, .int .i64 5, .int .i64 6] 43)) := rbel_al (Below.refl _ _)
  have rU : Row (w.alloc (.cells #[.int .i64 1, .int .i64 0, .int .i64 5, .int .i64 6] 43)) w.heap.size [.int .i64 1, .int .i64 0, .int .i64 5, .int .i64 6] := Row.made rfl
  have c0 := S.spans 2 (some ⟨w.heap.size, 0, none⟩) 1 1 one 0 0 _ hU (one_esp rU) (by decide) (by decide) (Or.inr (Or.inr ⟨one_e0, by decide, Or.inr ⟨one_far, rfl⟩⟩))
  rw [errc_zero] at c0
  have HU : Hid (Below w.heap.size w (w.alloc (.cells #[.int .i64 1, .int .i64 0, .int .i64 5, .int .i64 6] 43))) := hU
  clear hU rU
  have cX := fun u (hu : Below w.heap.size w u) => S.spans z a m cap q root e u hu (hH.on hu) wz wr hE
  rw [errc_not e0] at cX
  clear S hH hE e0
  have cnt : Mark 0 := .mk _
  go_enter Tryd.func7, Tryd.ntmps7
  go_wp2_with (first
    | (go_at_call 22; have cq : Mark 0 := cnt; refine c0.mono ?_; clear cq cnt; have cnt : Mark 1 := .mk _; rintro e' u0 ⟨la0, k0, lc0, s0, ha0, k1, hc0, g0, rfl, hs, hg0, _, hz, hb⟩; obtain ⟨ek, ek1, hv⟩ := hz (by trivial); obtain rfl : k0 = 2 := ek; obtain rfl : k1 = 2 := ek1; obtain ⟨sb, so, rfl, hS⟩ := nz_s hs (by decide); obtain ⟨gb, go, rfl, hG⟩ := nz_b hg0 (by decide); have f1 := hS 1 (by decide); have f2 := hG 1 (by decide); rw [(hv 1 (by decide)).1, show teT one 1 (2 : Int).toNat (0 : Int).toNat 1 = (-6, -5) from one_te] at f1; rw [(hv 1 (by decide)).2, show inT one 1 (2 : Int).toNat (0 : Int).toNat 1 = true from one_in] at f2; obtain ⟨f1a, f1b⟩ := f1; have HW0 : Hid (Below w.heap.size w u0) := rbel_on hb HU.out; clear hb hz hv hs hg0 hS hG)
    | (go_at_call 22; have cq : Mark 1 := cnt; refine (cX _ HW0.out).mono ?_; clear cq cnt; rintro e' u1 ⟨la1, k1, lc1, s1, ha1, k2, hc1, g1, rfl, _, _, _, _, hb⟩; have HW1 : Hid (Below w.heap.size w u1) := rbel_on hb HW0.out; clear hb))
  go_ret
  exact ⟨rfl, HW1.out⟩
set_option maxRecDepth 100000 in
set_option maxHeartbeats 8000000 in
theorem good (n : Nat) (a : Option Addr) (m cap : Nat) (q : Nat → Eg) (r : Nat) (ca : Option Addr) (k cc : Nat) (c : Nat → Int) (fb : Bool) (fe : Int) (w : World) (he : EnvE w) (S : TsS w) (B : Bd w) (hH : EHanded w a m q) (hK : NHanded w ca k c) (wz : In64 n) (wr : In64 (r : Int)) (h0 : eE n q m = 0) (hr : r < n) (nf : ¬ FarT q m n r) (hF : FitA n q m k c fb fe) :
    Calls Tryd.prog 7 #[.int .i64 n, .slice a m cap, .int .i64 r, .slice ca k cc] w fun e w' => e = .returned (.bool true) ∧ Below w.heap.size w w' := by
  have hU : Below w.heap.size w (w.alloc (.cells #[.int .i64 1, .int .i64 0, .int .i64 5, .int .i64 6] 43)) := rbel_al (Below.refl _ _)
  have rU : Row (w.alloc (.cells #[.int .i64 1, .int .i64 0, .int .i64 5, .int .i64 6] 43)) w.heap.size [.int .i64 1, .int .i64 0, .int .i64 5, .int .i64 6] := Row.made rfl
  have c0 := S.spans 2 (some ⟨w.heap.size, 0, none⟩) 1 1 one 0 0 _ hU (one_esp rU) (by decide) (by decide) (Or.inr (Or.inr ⟨one_e0, by decide, Or.inr ⟨one_far, rfl⟩⟩))
  rw [errc_zero] at c0
  have HU : Hid (Below w.heap.size w (w.alloc (.cells #[.int .i64 1, .int .i64 0, .int .i64 5, .int .i64 6] 43))) := hU
  clear hU rU
  have cX := fun u (hu : Below w.heap.size w u) => S.spans n a m cap q r 0 u hu (hH.on hu) wz wr (Or.inr (Or.inr ⟨h0, by omega, Or.inr ⟨by rw [Int.toNat_natCast, Int.toNat_natCast]; exact nf, rfl⟩⟩))
  rw [errc_zero] at cX
  have cF := fun u (hu : Below w.heap.size w u) => B.fits n a m cap q ca k cc c fb fe u hu (hH.on hu) (hK.on hu) wz hF
  obtain ⟨FE, hFE⟩ : ∃ FE, FE = errc fe := ⟨_, rfl⟩
  rw [← hFE] at cF
  have n1 : 1 ≤ n := by omega
  have n6 : n ≤ 6 := by have := (eE_zero h0).n6; omega
  obtain ⟨bb, hbb, hfit⟩ : ∃ bb : Bool, ((FE = .nilIface ∧ fb = true ∧ bb = true ∧ k = n) ∨ (FE = .nilIface ∧ fb = false ∧ bb = false) ∨ ((∃ v, FE = .iface 72 v) ∧ bb = false)) ∧ (bb = true → FitA n q m k c true 0) := by
    by_cases f0 : fe = 0
    · subst f0
      rw [errc_zero] at hFE
      cases fb with
      | true => exact ⟨true, Or.inl ⟨hFE, rfl, rfl, by
          rcases hF with ⟨_, e, _⟩ | ⟨_, _, e, _⟩ | ⟨_, _, _, e, _⟩ | ⟨_, hk, _, _, _⟩
          · cases e
          · cases e
          · cases e
          · omega⟩, fun _ => hF⟩
      | false => exact ⟨false, Or.inr (Or.inl ⟨hFE, rfl, rfl⟩), fun h => by cases h⟩
    · rw [errc_not f0] at hFE
      exact ⟨false, Or.inr (Or.inr ⟨⟨_, hFE⟩, rfl⟩), fun h => by cases h⟩
  have HBB : Hid _ := hbb
  have HFT : Hid (bb = true → FitA n q m k c true 0) := hfit
  have HE : Hid (EnvE w) := he
  have HB : Hid (Bd w) := B
  have HH : Hid (EHanded w a m q) := hH
  have HK : Hid (NHanded w ca k c) := hK
  have H0 : Hid (eE n q m = 0) := h0
  have NF : Hid (¬ FarT q m n r) := nf
  have WZ : Hid (In64 (n : Int)) := wz
  have WR : Hid (In64 (r : Int)) := wr
  have hr3 : (r : Int) < n := by omega
  clear S B hH hK hF he h0 nf wz wr hFE hbb hfit
  have cnt : Mark 0 := .mk _
  go_enter Tryd.func7, Tryd.ntmps7
  go_upto_region 11 with (first
    | (go_at_call 22; have cq : Mark 0 := cnt; refine c0.mono ?_; clear cq cnt; have cnt : Mark 1 := .mk _; rintro e' u0 ⟨la0, k0, lc0, s0, ha0, k1, hc0, g0, rfl, hs, hg0, _, hz, hb⟩; obtain ⟨ek, ek1, hv⟩ := hz (by trivial); obtain rfl : k0 = 2 := ek; obtain rfl : k1 = 2 := ek1; obtain ⟨sb, so, rfl, hS⟩ := nz_s hs (by decide); obtain ⟨gb, go, rfl, hG⟩ := nz_b hg0 (by decide); have f1 := hS 1 (by decide); have f2 := hG 1 (by decide); rw [(hv 1 (by decide)).1, show teT one 1 (2 : Int).toNat (0 : Int).toNat 1 = (-6, -5) from one_te] at f1; rw [(hv 1 (by decide)).2, show inT one 1 (2 : Int).toNat (0 : Int).toNat 1 = true from one_in] at f2; obtain ⟨f1a, f1b⟩ := f1; have HW0 : Hid (Below w.heap.size w u0) := rbel_on hb HU.out; clear hb hz hv hs hg0 hS hG)
    | (go_at_call 22; have cq : Mark 1 := cnt; refine (cX _ HW0.out).mono ?_; clear cq cnt; rintro e' u1 ⟨la1, k1, lc1, s1, ha1, k2, hc1, g1, rfl, hs, hg1, _, hz, hb⟩; obtain ⟨ek, ek1, hv⟩ := hz (by trivial); rw [Int.toNat_natCast] at ek ek1; have ek2 := ek.symm; have ek3 := ek1.symm; clear ek ek1; subst ek2; subst ek3; obtain ⟨sb1, so1, rfl, hS⟩ := nz_s hs (by omega); obtain ⟨gb1, go1, rfl, hG⟩ := nz_b hg1 (by omega); have HS1 : Hid (Sls u1 sb1 so1 n (teT q m n r)) := (fun i hi => by have := hS i hi; rw [(hv i hi).1, Int.toNat_natCast, Int.toNat_natCast] at this; exact this); have HG1 : Hid (Bls u1 gb1 go1 n (inT q m n r)) := (fun i hi => by have := hG i hi; rw [(hv i hi).2, Int.toNat_natCast, Int.toNat_natCast] at this; exact this); have HW1 : Hid (Below w.heap.size w u1) := rbel_on hb HW0.out; clear hb hz hv hs hg1 hS hG)
    | (go_at_call 17; refine (cF _ HW1.out).mono ?_; rintro e' u2 ⟨rfl, hb⟩; have HU2 : Hid (Below u1.heap.size u1 u2) := hb; clear hb))
  go_cut [18] from 93 to 112 (fun v w' => v = .bool bb ∧ w' = u2)
  case first =>
    as_aux_lemma =>
      have y1 : decide ((0 : Int) ≤ (r : Int)) = true := decide_eq_true (by omega)
      have y2 : decide ((r : Int) < n) = true := decide_eq_true (by omega)
      rcases HBB.out with ⟨rfl, rfl, rfl, hk⟩ | ⟨rfl, rfl, rfl⟩ | ⟨⟨v, rfl⟩, rfl⟩
      · have kb : ((k : Int) == (n : Int)) = true := beq_iff_eq.2 (by omega)
        clear hk
        go_wp2
        go_meet
        case rel => exact ⟨rfl, rfl⟩
      · go_wp2
        go_meet
        case rel => exact ⟨rfl, rfl⟩
      · go_wp2
        go_meet
        case rel => exact ⟨rfl, rfl⟩
  case rest =>
    obtain ⟨rfl, rfl⟩ := hcut
    clear HBB cF cX c0 HU HW0 f1a f1b f2
    go_wp2
    go_loopw [19] (fun vi wr => ∃ i : Nat, i ≤ n ∧ vi = .int .i64 i ∧ Below u1.heap.size u1 wr) (fun i _ => n - (intOf i).toNat)
    case atStart => exact ⟨0, Nat.zero_le _, rfl, HU2.out⟩
    case round =>
      clear HU2
      obtain ⟨i, hi, rfl, hw⟩ := hrel
      have HWr : Hid (Below u1.heap.size u1 wr) := hw
      by_cases hlt : i < n
      · have hl3 : (i : Int) < n := by omega
        obtain ⟨lo, hi', be, hB⟩ := bet_some n q m r i
        have hww : Below w.heap.size w wr := rbel_on hw HW1.out
        have cB := HB.out.between n a m cap q r i lo hi' be wr hww (HH.out.on hww) WZ.out WR.out (in64_small (by omega) (by omega)) hB
        have cS := fun u h => error_dec be 5 u h
        obtain ⟨EV, hEV⟩ : ∃ EV, EV = errc be := ⟨_, rfl⟩
        rw [← hEV] at cB cS
        obtain ⟨x0, x1⟩ := HS1.out i hlt
        have x2 := HG1.out i hlt
        have l0 := World.block_lt_of_cell? _ _ x0
        have l2 := World.block_lt_of_cell? _ _ x2
        have HWw : Hid (Below w.heap.size w wr) := hww
        clear hw hww
        have ARMS : True := trivial
        by_cases b5 : be = 5
        · subst b5
          rw [errc_not (by decide)] at hEV
          subst hEV
          rw [decide_eq_true rfl] at cS
          have inf : inT q m n r i = false := bet_five hr hlt hB H0.out
          rw [inf] at x2
          generalize teT q m n r i = te at *
          cases bb
          all_goals
            clear hB inf
            go_wp2_with (first
          | (go_at_call 25; refine cB.mono ?_; rintro e' u3 ⟨rfl, hb⟩; have HW3 : Hid (Below u1.heap.size u1 u3) := rbel_on hb HWr.out; have HV3 : Hid (Below w.heap.size w u3) := rbel_on hb HWw.out; clear hb)
          | (go_at_call 12; refine (cS _ (HE.out.below (rbel_al HV3.out))).mono ?_; rintro e' u4 ⟨rfl, hb⟩; have HW4 : Hid (Below u1.heap.size u1 u4) := rbel_on hb (rbel_al HW3.out); have rx := Row.on hb (Row.made (W := u3) (vs := [.int .i64 lo, .int .i64 hi']) rfl); have rx0 := rx.c 0 _ rfl; have rx1 := rx.c 1 _ rfl; have y0 : u4.cell? ⟨sb1, so1 + i * 2, none⟩ = some (.int .i64 (te).1) := (by rw [HW4.out.cell (p := ⟨sb1, so1 + i * 2, none⟩) l0]; exact x0); have y1 : u4.cell? ⟨sb1, so1 + i * 2 + 1, none⟩ = some (.int .i64 (te).2) := (by rw [HW4.out.cell (p := ⟨sb1, so1 + i * 2 + 1, none⟩) l0]; exact x1); have y2 : u4.cell? ⟨gb1, go1 + i, none⟩ = some (.bool false) := (by rw [HW4.out.cell (p := ⟨gb1, go1 + i, none⟩) l2]; exact x2); clear hb))
            go_quiet (fail)
            go_wp2
            go_roundw
            case rel => exact ⟨i + 1, by omega, by go_num, rbel_drn HW4.out⟩
            case measure => simp [intOf]; omega
        · by_cases b0 : be = 0
          · subst b0
            rw [errc_zero] at hEV
            subst hEV
            rw [decide_eq_false b5] at cS
            obtain ⟨inf, t1, t2⟩ := bet_in hr hlt hB H0.out
            have tok := te_ok NF.out inf
            have tf := fun (h : bb = true) => te_fit hr inf (HFT.out h)
            rw [inf] at x2
            have e1 : decide (lo < (teT q m n r i).1) = false := decide_eq_false (by omega)
            have e2 : decide ((teT q m n r i).2 < hi') = false := decide_eq_false (by omega)
            cases bb with
            | false =>
              generalize (teT q m n r i).1 = tl at *
              generalize (teT q m n r i).2 = th at *
              clear hB inf t1 t2 tok tf b5
              as_aux_lemma =>
                go_wp2_with (first
          | (go_at_call 25; refine cB.mono ?_; rintro e' u3 ⟨rfl, hb⟩; have HW3 : Hid (Below u1.heap.size u1 u3) := rbel_on hb HWr.out; have HV3 : Hid (Below w.heap.size w u3) := rbel_on hb HWw.out; clear hb)
          | (go_at_call 12; refine (cS _ (HE.out.below (rbel_al HV3.out))).mono ?_; rintro e' u4 ⟨rfl, hb⟩; have HW4 : Hid (Below u1.heap.size u1 u4) := rbel_on hb (rbel_al HW3.out); have rx := Row.on hb (Row.made (W := u3) (vs := [.int .i64 lo, .int .i64 hi']) rfl); have rx0 := rx.c 0 _ rfl; have rx1 := rx.c 1 _ rfl; have y0 : u4.cell? ⟨sb1, so1 + i * 2, none⟩ = some (.int .i64 tl) := (by rw [HW4.out.cell (p := ⟨sb1, so1 + i * 2, none⟩) l0]; exact x0); have y1 : u4.cell? ⟨sb1, so1 + i * 2 + 1, none⟩ = some (.int .i64 th) := (by rw [HW4.out.cell (p := ⟨sb1, so1 + i * 2 + 1, none⟩) l0]; exact x1); have y2 : u4.cell? ⟨gb1, go1 + i, none⟩ = some (.bool true) := (by rw [HW4.out.cell (p := ⟨gb1, go1 + i, none⟩) l2]; exact x2); clear hb))
                go_quiet (fail)
                go_wp2
                go_roundw
                case rel => exact ⟨i + 1, by omega, by go_num, rbel_drn HW4.out⟩
                case measure => simp [intOf]; omega
            | true =>
              obtain ⟨v1, v2⟩ := tf rfl
              obtain ⟨kn, cl⟩ := fit_k (HFT.out rfl)
              obtain ⟨cb, co, rfl, hNr⟩ : ∃ cb co : Nat, ca = some ⟨cb, co, none⟩ ∧ Nrd w cb co k c := by
                rcases HK.out.2 with e' | h
                · omega
                · exact h
              have p0 := (hNr.on HWw.out) i (by omega)
              have p1 := (hNr.on HWw.out) r (by omega)
              have pw := World.block_lt_of_cell? _ _ (hNr i (by omega))
              have p0w := hNr i (by omega)
              have p1w := hNr r (by omega)
              have bi := cl i hlt
              have br := cl r hr
              have wd : IntKind.i64.wrap (c i - c r) = c i - c r := IntWalk.i64_in _ (by omega)
              have ki : (i : Int) < k := by omega
              have kr : (r : Int) < k := by omega
              generalize (teT q m n r i).1 = tl at *
              generalize (teT q m n r i).2 = th at *
              have cH := fun u => has_yes tl th (c i - c r) u tok v1 v2
              have HL : Hid (∀ u, Below w.heap.size w u → u.cell? ⟨cb, co + i, none⟩ = some (.int .i64 (c i)) ∧ u.cell? ⟨cb, co + r, none⟩ = some (.int .i64 (c r))) := fun u hu => ⟨(hu.cell (p := ⟨cb, co + i, none⟩) pw).trans p0w, (hu.cell (p := ⟨cb, co + r, none⟩) pw).trans p1w⟩
              generalize c i = ci at *
              generalize c r = cr at *
              clear hB inf t1 t2 tok tf b5 v1 v2 cl hNr bi br p0w p1w p0 p1 kn
              as_aux_lemma =>
                go_wp2_with (first
          | (go_at_call 25; refine cB.mono ?_; rintro e' u3 ⟨rfl, hb⟩; have HW3 : Hid (Below u1.heap.size u1 u3) := rbel_on hb HWr.out; have HV3 : Hid (Below w.heap.size w u3) := rbel_on hb HWw.out; clear hb)
          | (go_at_call 12; refine (cS _ (HE.out.below (rbel_al HV3.out))).mono ?_; rintro e' u4 ⟨rfl, hb⟩; have HW4 : Hid (Below u1.heap.size u1 u4) := rbel_on hb (rbel_al HW3.out); have rx := Row.on hb (Row.made (W := u3) (vs := [.int .i64 lo, .int .i64 hi']) rfl); have rx0 := rx.c 0 _ rfl; have rx1 := rx.c 1 _ rfl; have y0 : u4.cell? ⟨sb1, so1 + i * 2, none⟩ = some (.int .i64 tl) := (by rw [HW4.out.cell (p := ⟨sb1, so1 + i * 2, none⟩) l0]; exact x0); have y1 : u4.cell? ⟨sb1, so1 + i * 2 + 1, none⟩ = some (.int .i64 th) := (by rw [HW4.out.cell (p := ⟨sb1, so1 + i * 2 + 1, none⟩) l0]; exact x1); have y2 : u4.cell? ⟨gb1, go1 + i, none⟩ = some (.bool true) := (by rw [HW4.out.cell (p := ⟨gb1, go1 + i, none⟩) l2]; exact x2); clear hb))
                have q0 := (HL.out u4 (rbel_on HW4.out HW1.out)).1
                have q1 := (HL.out u4 (rbel_on HW4.out HW1.out)).2
                have z0 := World.block_lt_of_cell? _ _ y0
                have z1 := World.block_lt_of_cell? _ _ q0
                go_quiet (fail)
                go_upto_region 21 with (fail)
                go_region_held (fun w' => w'.cell? ⟨sb1, so1 + i * 2, none⟩ = some (.int .i64 tl) ∧ w'.cell? ⟨sb1, so1 + i * 2 + 1, none⟩ = some (.int .i64 th) ∧ w'.cell? ⟨cb, co + i, none⟩ = some (.int .i64 ci) ∧ w'.cell? ⟨cb, co + r, none⟩ = some (.int .i64 cr)) (go_keep) (first | (go_at_call 26; refine (cH _).mono ?_; rintro e' u5 ⟨rfl, hb⟩; have HW5 : Hid (Below u1.heap.size u1 u5) := rbel_on hb (rbel_dr (rbel_drn HW4.out)); have s0 : u5.cell? ⟨sb1, so1 + i * 2, none⟩ = some (.int .i64 tl) := (hb.cell (p := ⟨sb1, so1 + i * 2, none⟩) z0).trans y0; have s1 : u5.cell? ⟨sb1, so1 + i * 2 + 1, none⟩ = some (.int .i64 th) := (hb.cell (p := ⟨sb1, so1 + i * 2 + 1, none⟩) z0).trans y1; have s2 : u5.cell? ⟨cb, co + i, none⟩ = some (.int .i64 ci) := (hb.cell (p := ⟨cb, co + i, none⟩) z1).trans q0; have s3 : u5.cell? ⟨cb, co + r, none⟩ = some (.int .i64 cr) := (hb.cell (p := ⟨cb, co + r, none⟩) z1).trans q1; clear hb))
                go_wp2
                go_roundw
                case rel => exact ⟨i + 1, by omega, by go_num, HW5.out⟩
                case measure => simp [intOf]; omega
          · rw [errc_not b0] at hEV
            subst hEV
            rw [decide_eq_false b5] at cS
            generalize teT q m n r i = te at *
            generalize inT q m n r i = ie at *
            clear hB
            go_wp2_with (first
          | (go_at_call 25; refine cB.mono ?_; rintro e' u3 ⟨rfl, hb⟩; have HW3 : Hid (Below u1.heap.size u1 u3) := rbel_on hb HWr.out; have HV3 : Hid (Below w.heap.size w u3) := rbel_on hb HWw.out; clear hb)
          | (go_at_call 12; refine (cS _ (HE.out.below (rbel_al HV3.out))).mono ?_; rintro e' u4 ⟨rfl, hb⟩; have HW4 : Hid (Below u1.heap.size u1 u4) := rbel_on hb (rbel_al HW3.out); have rx := Row.on hb (Row.made (W := u3) (vs := [.int .i64 lo, .int .i64 hi']) rfl); have rx0 := rx.c 0 _ rfl; have rx1 := rx.c 1 _ rfl; have y0 : u4.cell? ⟨sb1, so1 + i * 2, none⟩ = some (.int .i64 (te).1) := (by rw [HW4.out.cell (p := ⟨sb1, so1 + i * 2, none⟩) l0]; exact x0); have y1 : u4.cell? ⟨sb1, so1 + i * 2 + 1, none⟩ = some (.int .i64 (te).2) := (by rw [HW4.out.cell (p := ⟨sb1, so1 + i * 2 + 1, none⟩) l0]; exact x1); have y2 : u4.cell? ⟨gb1, go1 + i, none⟩ = some (.bool (ie)) := (by rw [HW4.out.cell (p := ⟨gb1, go1 + i, none⟩) l2]; exact x2); clear hb))
            go_roundw
            case rel => exact ⟨i + 1, by omega, by go_num, HW4.out⟩
            case measure => simp [intOf]; omega
      · have hl3 : ¬ ((i : Int) < n) := by omega
        clear hw
        go_wp2
        go_ret
        exact ⟨rfl, rbel_on HWr.out HW1.out⟩
theorem all_ways (z : Int) (a : Option Addr) (m cap : Nat) (q : Nat → Eg) (root : Int) (ca : Option Addr) (k cc : Nat) (c : Nat → Int) (w : World) (he : EnvE w) (S : TsS w) (B : Bd w) (hH : EHanded w a m q) (hK : NHanded w ca k c) (wz : In64 z) (wr : In64 root) :
    Calls Tryd.prog 7 #[.int .i64 z, .slice a m cap, .int .i64 root, .slice ca k cc] w fun e w' => e = .returned (.bool true) ∧ Below w.heap.size w w' := by
  obtain ⟨e, hE⟩ := spE_some z q m root
  by_cases e0 : e = 0
  · subst e0
    rcases hE with ⟨h, e⟩ | ⟨_, _, e⟩ | ⟨h0, hr, ⟨_, e⟩ | ⟨nf, _⟩⟩
    · exact absurd e.symm h
    · cases e
    · cases e
    · obtain ⟨n, rfl⟩ : ∃ n : Nat, z = n := ⟨z.toNat, by omega⟩
      obtain ⟨r, rfl⟩ : ∃ r : Nat, root = r := ⟨root.toNat, by omega⟩
      rw [Int.toNat_natCast, Int.toNat_natCast] at nf
      obtain ⟨fb, fe, hF⟩ := fitA_some n q m k c
      exact good n a m cap q r ca k cc c fb fe w he S B hH hK wz wr h0 (by omega) nf hF
  · exact bad z a m cap q root ca k cc e w S hH wz wr hE e0
end Go.Proofs.YtjdeeeefapijeaeDoor.treeWider
