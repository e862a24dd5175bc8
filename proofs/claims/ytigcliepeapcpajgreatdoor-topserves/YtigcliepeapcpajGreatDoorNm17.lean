/- Package clock, as it landed: Learn. Package clock, as it landed: Point. Package clock, as it landed, answers as the document asks. -/
import Derived.Test.YtigcliepeapcpajGreatDoorClockPkgN
import Derived.Test.YtigcliepeapcpajGreatDoorClockPkgB
import Derived.Test.YtigcliepeapcpajGreatDoorClockPkgC
namespace Go.Proofs.YtigcliepeapcpajGreatDoor
open Go.ChangeShapes Go.WideShapes Go.ChangeAt Go.RowKit Go.Joins
set_option linter.unusedVariables false
set_option linter.unusedSimpArgs false

/-- The cells of a clock that learned. -/
theorem pc_learn {u : World} {b : Nat} {c : Ck} {x y : Int} (h : PC u b c) : PC ((((u.setCell ⟨b, 2, none⟩ (.bool true)).setCell ⟨b, 3, none⟩ (.int .i64 x)).setCell ⟨b, 4, none⟩ (.int .i64 y)).setCell ⟨b, 5, none⟩ (.int .i64 c.h)) b { c with k := true, lo := x, hi := y, s := c.h } :=
  Blk.put 5 (Blk.put 4 (Blk.put 3 (Blk.put 2 h)))
set_option maxRecDepth 100000 in
set_option maxHeartbeats 4000000 in
theorem plearn_out (b : Nat) (c : Ck) (x y : Int) (u : World) (ho : okB x y = false) :
    Calls Tryz.prog 12 #[.pointer (some ⟨b, 0, none⟩), .agg #[.int .i64 x, .int .i64 y]] u fun o w' => o = .returned (.iface 71 (.int .i64 1)) ∧ Below u.heap.size u w' := by
  have cC := fun w => check_no x y w ho
  clear ho
  go_enter Tryz.func12, Tryz.ntmps12
  go_wp2_with (go_at_call 28; refine (cC _).mono ?_; rintro o u2 ⟨rfl, hb⟩; have HB : Hid _ := hb; clear hb)
  go_ret
  exact ⟨rfl, rbel_on HB.out (rbel_al (Below.refl _ _))⟩
set_option maxRecDepth 100000 in
set_option maxHeartbeats 4000000 in
theorem plearn_no (b : Nat) (c : Ck) (x y l h e : Int) (u : World) (ho : okB x y = true) (he : e ≠ 0)
    (cB : ∀ w, Below u.heap.size u w → Calls Tryz.prog 29 #[.pointer (some ⟨b, 0, none⟩), .agg #[.int .i64 x, .int .i64 y]] w fun o w' => o = .returned (.tuple #[.agg #[.int .i64 l, .int .i64 h], errc e]) ∧ Below w.heap.size w w') :
    Calls Tryz.prog 12 #[.pointer (some ⟨b, 0, none⟩), .agg #[.int .i64 x, .int .i64 y]] u fun o w' => o = .returned (errc e) ∧ Below u.heap.size u w' := by
  have cC := fun w => check_ok x y w ho
  rw [errc_not he] at cB ⊢
  clear ho he
  go_enter Tryz.func12, Tryz.ntmps12
  go_wp2_with (first
    | (go_at_call 28; refine (cC _).mono ?_; rintro o u2 ⟨rfl, hb⟩; have ro := Row.on hb (Row.made (W := u) (vs := [.int .i64 x, .int .i64 y]) rfl); have p0 := ro.c 0 _ rfl; have p1 := ro.c 1 _ rfl; have HB : Hid (Below u.heap.size u u2) := rbel_on hb (rbel_al (Below.refl _ _)); clear hb ro)
    | (go_at_call 29; refine (cB _ HB.out).mono ?_; rintro o u3 ⟨rfl, hb⟩; have HB3 : Hid (Below u.heap.size u u3) := rbel_on hb HB.out; clear hb))
  go_ret
  exact ⟨rfl, rbel_al HB3.out⟩
set_option maxRecDepth 100000 in
set_option maxHeartbeats 4000000 in
theorem plearn_yes (b : Nat) (c : Ck) (x y l h : Int) (u : World) (hR : PC u b c) (ho : okB x y = true)
    (cB : ∀ w, Below u.heap.size u w → Calls Tryz.prog 29 #[.pointer (some ⟨b, 0, none⟩), .agg #[.int .i64 x, .int .i64 y]] w fun o w' => o = .returned (.tuple #[.agg #[.int .i64 l, .int .i64 h], .nilIface]) ∧ Below w.heap.size w w') :
    Calls Tryz.prog 12 #[.pointer (some ⟨b, 0, none⟩), .agg #[.int .i64 x, .int .i64 y]] u fun o w' => o = .returned .nilIface ∧ PC w' b { c with k := true, lo := l, hi := h, s := c.h } ∧ Keeps (fun k => k = b) u w' := by
  have cC := fun w => check_ok x y w ho
  have HR : Hid (PC u b c) := hR
  have zb := Blk.lt hR
  clear ho hR
  go_enter Tryz.func12, Tryz.ntmps12
  go_wp2_with (first
    | (go_at_call 28; refine (cC _).mono ?_; rintro o u2 ⟨rfl, hb⟩; have ro := Row.on hb (Row.made (W := u) (vs := [.int .i64 x, .int .i64 y]) rfl); have p0 := ro.c 0 _ rfl; have p1 := ro.c 1 _ rfl; have HB : Hid (Below u.heap.size u u2) := rbel_on hb (rbel_al (Below.refl _ _)); clear hb ro)
    | (go_at_call 29; refine (cB _ HB.out).mono ?_; rintro o u3 ⟨rfl, hb⟩; have HB3 : Hid (Below u.heap.size u u3) := rbel_on hb HB.out; have hR3 := PC.keep HB3.out HR.out; have zb3 := Blk.lt hR3; have d1 := Blk.c hR3 1 _ rfl; have d2 := Blk.c hR3 2 _ rfl; have d3 := Blk.c hR3 3 _ rfl; have d4 := Blk.c hR3 4 _ rfl; have d5 := Blk.c hR3 5 _ rfl; have f2 := Blk.f hR3 2; have f3 := Blk.f hR3 3; have f4 := Blk.f hR3 4; have f5 := Blk.f hR3 5; have ne : ¬ (u3.heap.size = b) := (by omega); have ne2 : ¬ (b = u3.heap.size) := (by omega); have HR3 : Hid (PC u3 b c) := hR3; clear hb hR3))
  go_region
  all_goals
    go_wp2
    go_ret
    exact ⟨rfl, Blk.dr (Blk.al (pc_learn HR3.out)), Keeps.dr (Keeps.al (Keeps.put (S := fun k => k = b) rfl (Keeps.put (S := fun k => k = b) rfl (Keeps.put (S := fun k => k = b) rfl (Keeps.put (S := fun k => k = b) rfl (Keeps.of HB3.out))))))⟩
end Go.Proofs.YtigcliepeapcpajGreatDoor
namespace Go.Proofs.YtigcliepeapcpajGreatDoor
open Go.ChangeShapes Go.WideShapes Go.ChangeAt Go.RowKit Go.Joins
set_option linter.unusedVariables false
set_option linter.unusedSimpArgs false

set_option maxRecDepth 100000 in
set_option maxHeartbeats 4000000 in
theorem ppoint_e (b : Nat) (c : Ck) (u : World) (hR : PC u b c) (hI : c.I) (hn : c.nowE ≠ 0) :
    Calls Tryz.prog 15 #[.pointer (some ⟨b, 0, none⟩)] u fun o w' => o = .returned (.tuple #[.int .i64 0, errc c.nowE]) ∧ Below u.heap.size u w' := by
  have cN := pnow_any b c u hR hI
  have zb := Blk.lt hR
  rw [errc_not hn] at cN ⊢
  clear hR hI hn
  generalize c.nowE = e at *
  generalize c.nowLo = nl at *
  generalize c.nowHi = nh at *
  go_enter Tryz.func15, Tryz.ntmps15
  go_wp2_with (go_at_call 13; refine cN.mono ?_; rintro o u2 ⟨rfl, hb⟩; have B2 : Hid (Below u.heap.size u u2) := hb; clear hb)
  go_ret2
  exact ⟨rfl, rbel_al B2.out⟩
set_option maxRecDepth 100000 in
set_option maxHeartbeats 4000000 in
theorem ppoint_b (b : Nat) (c : Ck) (u : World) (hR : PC u b c) (hI : c.I) (hn : c.nowE = 0) (dB : c.nowHi < c.tl) :
    Calls Tryz.prog 15 #[.pointer (some ⟨b, 0, none⟩)] u fun o w' => o = .returned (.tuple #[.int .i64 0, .iface 71 (.int .i64 8)]) ∧ Below u.heap.size u w' := by
  have cN := pnow_any b c u hR hI
  rw [hn, errc_zero] at cN
  have HR : Hid (PC u b c) := hR
  have zb := Blk.lt hR
  clear hR hI hn
  generalize c.nowLo = nl at *
  generalize c.nowHi = nh at *
  go_enter Tryz.func15, Tryz.ntmps15
  go_wp2_with (go_at_call 13; refine cN.mono ?_; rintro o u2 ⟨rfl, hb⟩; have hR2 := PC.keep hb HR.out; have zb2 := Blk.lt hR2; have d6 := Blk.c hR2 6 _ rfl; have B2 : Hid (Below u.heap.size u u2) := hb; clear hb hR2)
  go_quiet (fail)
  go_wp2
  go_ret2
  exact ⟨rfl, rbel_drn (rbel_al B2.out)⟩
set_option maxRecDepth 100000 in
set_option maxHeartbeats 4000000 in
theorem ppoint_k (b : Nat) (c : Ck) (n : Int) (u : World) (hR : PC u b c) (hI : c.I) (hn : c.nowE = 0) (dB : ¬ (c.nowHi < c.tl)) (hn2 : Hid ((if c.tl < c.mid then c.mid else c.tl) = n)) :
    Calls Tryz.prog 15 #[.pointer (some ⟨b, 0, none⟩)] u fun o w' => o = .returned (.tuple #[.int .i64 n, .nilIface]) ∧ Blk w' 75 b [.int .i64 c.p, .int .i64 c.h, .bool c.k, .int .i64 c.lo, .int .i64 c.hi, .int .i64 c.s, .int .i64 n] ∧ Keeps (fun k => k = b) u w' := by
  have cN := pnow_any b c u hR hI
  rw [hn, errc_zero] at cN
  have HR : Hid (PC u b c) := hR
  have zb := Blk.lt hR
  obtain ⟨m1, m2, m3, m4⟩ := Ck.mid_b hn
  have wS : IntKind.i64.wrap (c.nowLo + c.nowHi) = c.nowLo + c.nowHi := IntWalk.i64_in _ (by omega)
  have EM : Hid ((if c.tl < (c.nowLo + c.nowHi) / 2 then (c.nowLo + c.nowHi) / 2 else c.tl) = n) := hn2
  clear hR hI hn m1 m2 m3 m4 hn2
  generalize c.nowLo = nl at *
  generalize c.nowHi = nh at *
  go_enter Tryz.func15, Tryz.ntmps15
  go_wp2_with (go_at_call 13; refine cN.mono ?_; rintro o u2 ⟨rfl, hb⟩; have hR2 := PC.keep hb HR.out; have zb2 := Blk.lt hR2; have d6 := Blk.c hR2 6 _ rfl; have f6 := Blk.f hR2 6; have HR2 : Hid (PC u2 b c) := hR2; have B2 : Hid (Below u.heap.size u u2) := hb; clear hb hR2)
  go_quiet (fail)
  go_wp2
  go_region
  all_goals
    rw [EM.out]
    go_wp2
    go_ret2
    first
      | exact ⟨rfl, Blk.put 6 (Blk.drn (Blk.al HR2.out)), Keeps.put (S := fun k => k = b) rfl (Keeps.drn (Keeps.al (Keeps.of B2.out)))⟩
      | exact ⟨rfl, Blk.dr (Blk.put 6 (Blk.drn (Blk.al HR2.out))), Keeps.dr (Keeps.put (S := fun k => k = b) rfl (Keeps.drn (Keeps.al (Keeps.of B2.out))))⟩
theorem ppoint_any (b : Nat) (c : Ck) (u : World) (hR : PC u b c) (hI : c.I) :
    Calls Tryz.prog 15 #[.pointer (some ⟨b, 0, none⟩)] u fun o w' => o = .returned (.tuple #[.int .i64 c.pointN, errc c.pointE]) ∧ PC w' b c.pointC ∧ Keeps (fun k => k = b) u w' := by
  by_cases hn : c.nowE = 0
  · obtain ⟨m1, m2, m3, m4⟩ := Ck.mid_b hn
    have et : (c.t = true ∧ c.tl = c.l) ∨ (c.t = false ∧ c.tl = -1000000000000) := by
      unfold Ck.tl
      cases c.t
      · exact Or.inr ⟨rfl, rfl⟩
      · exact Or.inl ⟨rfl, rfl⟩
    have ep : c.pt = if c.tl < c.mid then c.mid else c.tl := by
      unfold Ck.pt
      rcases et with ⟨t, e⟩ | ⟨t, e⟩
      · by_cases q : c.mid < c.l
        · rw [if_pos ⟨t, q⟩, if_neg (by omega), e]
        · rw [if_neg (fun h => q h.2)]
          by_cases q2 : c.tl < c.mid
          · rw [if_pos q2]
          · rw [if_neg q2]; omega
      · rw [if_neg (fun h => by rw [t] at h; cases h.1)]
        by_cases q2 : c.tl < c.mid
        · rw [if_pos q2]
        · rw [if_neg q2]; omega
    by_cases dB : c.nowHi < c.tl
    · have e1 : c.pt = c.tl := by rw [ep, if_neg (by omega)]
      have e2 : c.pointE = 8 := by unfold Ck.pointE; rw [if_pos hn, if_pos (by omega)]
      have e3 : c.pointN = 0 := by unfold Ck.pointN; rw [e2]; rfl
      have e4 : c.pointC = c := by unfold Ck.pointC; rw [e2]; rfl
      rw [e2, e3, e4]
      exact (ppoint_b b c u hR hI hn dB).mono fun _ _ ⟨he, hb⟩ => ⟨he, PC.keep hb hR, .of hb⟩
    · have e1 : c.pt ≤ c.nowHi := by rw [ep]; split <;> omega
      have e2 : c.pointE = 0 := by unfold Ck.pointE; rw [if_pos hn, if_neg (by omega)]
      have e3 : c.pointN = c.pt := by unfold Ck.pointN; rw [if_pos e2]
      have e4 : c.pointC = { c with t := true, l := c.pt } := by unfold Ck.pointC; rw [if_pos e2]
      rw [e2, e3, e4]
      exact (ppoint_k b c c.pt u hR hI hn dB ep.symm).mono fun _ _ ⟨he, hB, hK⟩ => ⟨he, hB, hK⟩
  · have e2 : c.pointE = c.nowE := by unfold Ck.pointE; rw [if_neg hn]
    have e3 : c.pointN = 0 := by unfold Ck.pointN; rw [e2, if_neg hn]
    have e4 : c.pointC = c := by unfold Ck.pointC; rw [e2, if_neg hn]
    rw [e2, e3, e4]
    exact (ppoint_e b c u hR hI hn).mono fun _ _ ⟨he, hb⟩ => ⟨he, PC.keep hb hR, .of hb⟩
end Go.Proofs.YtigcliepeapcpajGreatDoor
namespace Go.Proofs.YtigcliepeapcpajGreatDoor
open Go.ChangeShapes Go.WideShapes Go.ChangeAt Go.RowKit Go.Joins
set_option linter.unusedVariables false

theorem plearn_any (b : Nat) (c : Ck) (x y : Int) (u : World) (hR : PC u b c) (hI : c.I) :
    Calls Tryz.prog 12 #[.pointer (some ⟨b, 0, none⟩), .agg #[.int .i64 x, .int .i64 y]] u fun o w' => o = .returned (errc (c.learnE x y)) ∧ PC w' b (c.learnC x y) ∧ Keeps (fun k => k = b) u w' := by
  cases ho : okB x y with
  | false =>
    have e : c.learnE x y = 1 := by unfold Ck.learnE; rw [ho]; rfl
    have e2 : c.learnC x y = c := by unfold Ck.learnC; rw [e]; rfl
    rw [e, e2]
    exact (plearn_out b c x y u ho).mono fun _ _ ⟨he, hb⟩ => ⟨he, PC.keep hb hR, .of hb⟩
  | true =>
    cases k : c.k with
    | false =>
      have e : c.learnE x y = 0 := by unfold Ck.learnE; rw [ho, k]; rfl
      have e2 : c.learnC x y = { c with k := true, lo := x, hi := y, s := c.h } := by unfold Ck.learnC; rw [if_pos e]; unfold Ck.bLo Ck.bHi; rw [k]; rfl
      rw [e, e2]
      exact plearn_yes b c x y x y u hR ho fun w hw => pboth_n b c x y w (PC.keep hw hR) k
    | true =>
      by_cases hn : c.nowE = 0
      · by_cases q : c.bLo x ≤ c.bHi y
        · have e : c.learnE x y = 0 := by unfold Ck.learnE; rw [if_pos ho, if_pos k, if_pos hn, if_pos q]
          have e2 : c.learnC x y = { c with k := true, lo := c.bLo x, hi := c.bHi y, s := c.h } := by unfold Ck.learnC; rw [if_pos e]
          rw [e, e2]
          exact plearn_yes b c x y _ _ u hR ho fun w hw => pboth_yes b c x y w (PC.keep hw hR) hI k hn (by omega)
        · have e : c.learnE x y = 7 := by unfold Ck.learnE; rw [if_pos ho, if_pos k, if_pos hn, if_neg q]
          have e2 : c.learnC x y = c := by unfold Ck.learnC; rw [e]; rfl
          rw [e, e2]
          exact (plearn_no b c x y _ _ 7 u ho (by decide) fun w hw => pboth_clash b c x y w (PC.keep hw hR) hI k hn (by omega)).mono fun _ _ ⟨he, hb⟩ => ⟨he, PC.keep hb hR, .of hb⟩
      · have e : c.learnE x y = c.nowE := by unfold Ck.learnE; rw [if_pos ho, if_pos k, if_neg hn]
        have e2 : c.learnC x y = c := by unfold Ck.learnC; rw [e, if_neg hn]
        rw [e, e2]
        exact (plearn_no b c x y _ _ c.nowE u ho hn fun w hw => pboth_e b c x y w (PC.keep hw hR) hI k hn).mono fun _ _ ⟨he, hb⟩ => ⟨he, PC.keep hb hR, .of hb⟩
def cp {w : World} : Cp w where
  R := PC
  lt := fun h => Blk.lt h
  on := fun h e => e.trans h
  new := fun p u _ h0 h1 => pnew_ok p u h0 h1
  bad := fun p u _ _ h => pnew_no p u h
  step := fun b c x u _ _ hR _ _ => pstep_any b c x u hR
  learn := fun b c x y u _ _ hR hI _ _ => plearn_any b c x y u hR hI
  now := fun b c u _ _ hR hI => (pnow_any b c u hR hI).mono fun _ _ ⟨he, hb⟩ => ⟨he, PC.keep hb hR, .of hb⟩
def cpp {w : World} : CpP w := { toCp := cp, point := fun b c u _ _ hR hI => ppoint_any b c u hR hI }
end Go.Proofs.YtigcliepeapcpajGreatDoor
