/- The ways through the law NodeLearns. -/
import Derived.Test.YtmomcaodmdlnpahDoorNodeDef
import Derived.Test.YtmomcaodmdlnpahDoorNodeLearnsM
import Derived.Test.YtmomcaodmdlnpahDoorTold
import Derived.Lib.SmallJoins
import Derived.Deep.QuietTactic
import Derived.BigQuiet
import Derived.BigRegion
import Derived.IntWalk
namespace Go.Proofs.YtmomcaodmdlnpahDoor.nodeLearns
open Go.ChangeShapes Go.WideShapes Go.ChangeAt Go.RowKit Go.Joins Go.Proofs.YtmomcaodmdlnpahDoor.told
set_option linter.unusedVariables false
set_option linter.unusedSimpArgs false

theorem error_7 (w : World) (he : EnvE w) : Calls Tryd.prog 9 #[errc 7, .int .i64 7] w fun e w' => e = .returned (.bool true) ∧ Below w.heap.size w w' := error_same 7 w he
/-- What Spans answers of a node of two. -/
theorem spans_two {w0 : World} (C : Np w0) (b : Nat) (F : Nat → Prop) (c : Nd) (t : Int) (u : World) (hR : C.R u b F c) (hI : c.I) (wt : In64 t) (h : SpR c t 0) (n2 : c.n = 2) :
    Calls Tryd.prog 20 #[.pointer (some ⟨b, 0, none⟩), .int .i64 t] u fun o w' => ∃ (sb so sc hb ho hc : Nat), o = .returned (.tuple #[.slice (some ⟨sb, so, none⟩) 2 sc, .slice (some ⟨hb, ho, none⟩) 2 hc, .nilIface]) ∧ w'.cell? ⟨sb, so + 2, none⟩ = some (.int .i64 (c.so t 1).1) ∧ w'.cell? ⟨sb, so + 2 + 1, none⟩ = some (.int .i64 (c.so t 1).2) ∧ w'.cell? ⟨hb, ho, none⟩ = some (.bool (c.ho 0)) ∧ w'.cell? ⟨hb, ho + 1, none⟩ = some (.bool (c.ho 1)) ∧ ¬ F sb ∧ Below u.heap.size u w' :=
  (C.spans b F c t 0 u hR hI wt h).mono fun o w' ⟨⟨sa, sc, ha, hc, q, h1, h2, h3, h4⟩, hw⟩ => by
    have e : nOf 0 c.n = 2 := n2
    rw [e] at q h1 h2
    obtain ⟨sb, so, rfl, s⟩ := h1.2.resolve_left (by decide)
    obtain ⟨hb, ho, rfl, g⟩ := h2.2.resolve_left (by decide)
    exact ⟨sb, so, sc, hb, ho, hc, q, (s 1 (by omega)).1, (s 1 (by omega)).2, g 0 (by omega), g 1 (by omega), h3 sb so rfl, hw⟩
set_option maxRecDepth 100000 in
set_option maxHeartbeats 8000000 in
theorem badp (p x y z : Int) (w : World) (C : NpE w) (wp : In64 p) (hb : p < 0 ∨ 1000 < p) :
    Calls Tryd.prog 5 #[.int .i64 p, .int .i64 x, .int .i64 y, .int .i64 z] w fun o w' => o = .returned (.bool true) ∧ Below w.heap.size w w' := by
  have cN := C.bad 0 2 p w (Below.refl _ _) (by decide) (by decide) wp (by omega)
  rw [errc_not (by decide)] at cN
  have d : p < 0 ∨ (¬ p < 0 ∧ 1000 < p) := by omega
  clear hb wp
  rcases d with d1 | ⟨d1, d2⟩
  all_goals
    go_enter Tryd.func5, Tryd.ntmps5
    go_wp2_with (go_at_call 19; refine cN.mono ?_; rintro o u1 ⟨pv, rfl, hb⟩; have B1 : Hid (Below w.heap.size w u1) := hb; clear hb)
    go_ret
    exact ⟨rfl, B1.out⟩
set_option maxRecDepth 100000 in
set_option maxHeartbeats 8000000 in
theorem badn (p x y z : Int) (w : World) (C : NpE w) (h0 : 0 ≤ p) (h1 : p ≤ 1000) (hb : x < 0 ∨ 1000000 < x ∨ y < 0 ∨ 1000000 < y ∨ z < 0 ∨ 1000000 < z) :
    Calls Tryd.prog 5 #[.int .i64 p, .int .i64 x, .int .i64 y, .int .i64 z] w fun o w' => o = .returned (.bool true) ∧ Below w.heap.size w w' := by
  have cN := C.new 0 2 p w (Below.refl _ _) (by omega) (by omega) h0 h1
  have cS := fun (u : World) (b : Nat) (F : Nat → Prop) (hR : C.R u b F (c0 p)) => spans_two C.toNp b F (c0 p) 0 u hR (i0 h0 h1) (by decide) (sp0 p) rfl
  have d : x < 0 ∨ (¬ x < 0 ∧ 1000000 < x) ∨ (¬ x < 0 ∧ ¬ 1000000 < x ∧ y < 0) ∨ (¬ x < 0 ∧ ¬ 1000000 < x ∧ ¬ y < 0 ∧ 1000000 < y) ∨ (¬ x < 0 ∧ ¬ 1000000 < x ∧ ¬ y < 0 ∧ ¬ 1000000 < y ∧ z < 0) ∨ (¬ x < 0 ∧ ¬ 1000000 < x ∧ ¬ y < 0 ∧ ¬ 1000000 < y ∧ ¬ z < 0 ∧ 1000000 < z) := by omega
  have D : (c0 p).ho 0 = true ∧ (c0 p).ho 1 = false := ⟨rfl, rfl⟩
  obtain ⟨D0, D1⟩ := D
  simp only [D0, D1] at cS
  clear hb h0 h1 D0 D1
  rcases d with d1 | ⟨d1, d2⟩ | ⟨d1, d2, d3⟩ | ⟨d1, d2, d3, d4⟩ | ⟨d1, d2, d3, d4, d5⟩ | ⟨d1, d2, d3, d4, d5, d6⟩
  all_goals
    go_enter Tryd.func5, Tryd.ntmps5
    go_wp2_with (first
      | (go_at_call 19; refine cN.mono ?_; rintro o u1 ⟨b, F, rfl, hR, hb, hF⟩; have B1 : Hid (Below w.heap.size w u1) := hb; have R1 : Hid (C.R u1 b F (c0 p)) := hR; have F1 : Hid (∀ k, F k → w.heap.size ≤ k) := hF; clear hb hR hF)
      | (go_at_call 20; refine (cS _ _ _ R1.out).mono ?_; rintro o u2 ⟨sb, so, sc, hb, ho, hc, rfl, k1, k2, k3, k4, kf, hw⟩; have B2 : Hid (Below w.heap.size w u2) := rbel_on hw B1.out; clear hw))
    go_ret
    exact ⟨rfl, B2.out⟩
theorem in64 {n : Int} (h : 0 ≤ n ∧ n ≤ 4000000) : In64 n := by
  show (Lit.int .i64 n).wf = true
  simp [Lit.wf, IntKind.min, IntKind.max, IntKind.signed, IntKind.bits]
  omega
set_option maxRecDepth 100000 in
set_option maxHeartbeats 8000000 in
theorem clash (p x y z : Int) (w : World) (C : NpE w) (h0 : 0 ≤ p) (h1 : p ≤ 1000) (x0 : 0 ≤ x) (x1 : x ≤ 1000000) (y0 : 0 ≤ y) (y1 : y ≤ 1000000) (z0 : 0 ≤ z) (z1 : z ≤ 1000000) (he : EnvE w) (c2 : Nd) (hH : HearR (c1 p) (l2 x y) (10 + x + y + z) c2 false 7) :
    Calls Tryd.prog 5 #[.int .i64 p, .int .i64 x, .int .i64 y, .int .i64 z] w fun o w' => o = .returned (.bool true) ∧ Below w.heap.size w w' := by
  have cN := C.new 0 2 p w (Below.refl _ _) (by omega) (by omega) h0 h1
  have cH1 := fun (u : World) (b : Nat) (F : Nat → Prop) (hR : C.R u b F (c0 p)) => C.hear b F (c0 p) (c1 p) l1 10 0 true u hR (i0 h0 h1) ⟨by decide, by decide, by decide, by decide, by decide⟩ (by decide) (hear1 h0 h1)
  have n0 : 10 ≤ 10 + x + y + z := by omega
  have n1 : 10 + x + y + z ≤ 3000010 := by omega
  have wn : In64 (10 + x + y + z) := in64 (by omega)
  have cS1 := fun (u : World) (b : Nat) (F : Nat → Prop) (hR : C.R u b F (c1 p)) => spans_two C.toNp b F (c1 p) (10 + x + y + z) u hR (i1 h0 h1) wn (sp1 h0 h1 n0 n1) rfl
  have wl : (l2 x y).In6 := ⟨by show In64 1; decide, by show In64 0; decide, by show In64 (10 + x); exact in64 (by omega), by show In64 (10 + x + y); exact in64 (by omega), by show In64 (10 + x + y); exact in64 (by omega)⟩
  have D1 : (c1 p).ho 1 = true := rfl
  simp only [D1] at cS1
  have e1 : IntKind.i64.wrap (10 + x) = 10 + x := IntWalk.i64_in _ (by omega)
  have e2 : IntKind.i64.wrap (10 + x + y) = 10 + x + y := IntWalk.i64_in _ (by omega)
  have e3 : IntKind.i64.wrap (10 + x + y + z) = 10 + x + y + z := IntWalk.i64_in _ (by omega)
  have j1 : ¬ x < 0 := by omega
  have j2 : ¬ 1000000 < x := by omega
  have j3 : ¬ y < 0 := by omega
  have j4 : ¬ 1000000 < y := by omega
  have j5 : ¬ z < 0 := by omega
  have j6 : ¬ 1000000 < z := by omega
  have cH2 := fun (u : World) (b : Nat) (F : Nat → Prop) (hR : C.R u b F (c1 p)) => C.hear b F (c1 p) c2 (l2 x y) (10 + x + y + z) 7 false u hR (i1 h0 h1) wl wn hH
  have cE := fun (u : World) (hu : Below w.heap.size w u) => error_7 u (he.below hu)
  rw [errc_zero] at cH1
  rw [errc_not (by decide)] at cE
  rw [errc_not (by decide)] at cH2
  simp only [ltv, l1, l2] at cH1 cH2
  generalize hn : 10 + x + y + z = n at *
  clear hH he wl wn n0 n1 h0 h1 x0 x1 y0 y1 z0 z1 D1
  have cnt : Mark 1 := .mk _
  go_enter Tryd.func5, Tryd.ntmps5
  go_wp2_with (first
    | (go_at_call 19; refine cN.mono ?_; rintro o u1 ⟨b, F, rfl, hR, hb, hF⟩; have B1 : Hid (Below w.heap.size w u1) := hb; have R1 : Hid (C.R u1 b F (c0 p)) := hR; have F1 : Hid (∀ k, F k → w.heap.size ≤ k) := hF; clear hb hR hF)
    | (go_at_call 21; have cq : Mark 1 := cnt; refine (cH1 _ _ _ R1.out).mono ?_; clear cq cnt; rintro o u2 ⟨F2, rfl, hr, hk, hF⟩; have B2 : Hid (Below w.heap.size w u2) := B1.out.trans (hk.below B1.out.size F1.out); have R2 : Hid (C.R u2 b F2 (c1 p)) := hr; have F2l : Hid (∀ k, F2 k → w.heap.size ≤ k) := fun k q => (hF k q).elim (F1.out k) (fun e => Nat.le_trans B1.out.size e); have cnt : Mark 2 := .mk _; clear hr hk hF)
    | (go_at_call 20; have cq : Mark 2 := cnt; refine (cS1 _ _ _ R2.out).mono ?_; clear cq cnt; rintro o u3 ⟨sb, so, sc, hb, ho, hc, rfl, k1, k2, k3, k4, kf, hw⟩; have B3 : Hid (Below w.heap.size w u3) := rbel_on hw B2.out; have R3 : Hid (C.R u3 b F2 (c1 p)) := C.on R2.out hw.size (fun k q => hw.block k (C.lt R2.out k q)); have cnt : Mark 3 := .mk _; clear hw)
    | (go_at_call 21; have cq : Mark 3 := cnt; refine (cH2 _ _ _ R3.out).mono ?_; clear cq cnt; rintro o u4 ⟨F4, rfl, hr, hk, hF⟩; have F3l := F2l.out; have B4 : Hid (Below w.heap.size w u4) := B3.out.trans (hk.below B3.out.size F3l);  have R4 : Hid (C.R u4 b F4 c2) := hr; have cnt : Mark 4 := .mk _; clear hr hk hF F3l)
    | (go_at_call 9; refine (cE _ B4.out).mono ?_; rintro o u5 ⟨rfl, hb⟩; have B5 : Hid (Below w.heap.size w u5) := rbel_on hb B4.out; clear hb))
  go_ret
  exact ⟨rfl, B5.out⟩
set_option maxRecDepth 100000 in
set_option maxHeartbeats 8000000 in
theorem fine (p x y z : Int) (w : World) (C : NpE w) (h0 : 0 ≤ p) (h1 : p ≤ 1000) (x0 : 0 ≤ x) (x1 : x ≤ 1000000) (y0 : 0 ≤ y) (y1 : y ≤ 1000000) (z0 : 0 ≤ z) (z1 : z ≤ 1000000) (c2 : Nd) (hH : HearR (c1 p) (l2 x y) (10 + x + y + z) c2 true 0) (hS : SpR c2 (10 + x + y + z) 0) (hn2 : c2.n = 2) (hh : c2.ho 1 = true) (sl sh tl th : Int) (q1 : ((c1 p).so (10 + x + y + z) 1).1 = sl) (q2 : ((c1 p).so (10 + x + y + z) 1).2 = sh) (q3 : (c2.so (10 + x + y + z) 1).1 = tl) (q4 : (c2.so (10 + x + y + z) 1).2 = th) (b1 : -1000000000000 ≤ sl ∧ sl ≤ sh ∧ sh ≤ 1000000000000) (b2 : -1000000000000 ≤ tl ∧ tl ≤ th ∧ th ≤ 1000000000000) (hq : th - tl ≤ sh - sl + 4) :
    Calls Tryd.prog 5 #[.int .i64 p, .int .i64 x, .int .i64 y, .int .i64 z] w fun o w' => o = .returned (.bool true) ∧ Below w.heap.size w w' := by
  have cN := C.new 0 2 p w (Below.refl _ _) (by omega) (by omega) h0 h1
  have cH1 := fun (u : World) (b : Nat) (F : Nat → Prop) (hR : C.R u b F (c0 p)) => C.hear b F (c0 p) (c1 p) l1 10 0 true u hR (i0 h0 h1) ⟨by decide, by decide, by decide, by decide, by decide⟩ (by decide) (hear1 h0 h1)
  have n0 : 10 ≤ 10 + x + y + z := by omega
  have n1 : 10 + x + y + z ≤ 3000010 := by omega
  have wn : In64 (10 + x + y + z) := in64 (by omega)
  have cS1 := fun (u : World) (b : Nat) (F : Nat → Prop) (hR : C.R u b F (c1 p)) => spans_two C.toNp b F (c1 p) (10 + x + y + z) u hR (i1 h0 h1) wn (sp1 h0 h1 n0 n1) rfl
  have wl : (l2 x y).In6 := ⟨by show In64 1; decide, by show In64 0; decide, by show In64 (10 + x); exact in64 (by omega), by show In64 (10 + x + y); exact in64 (by omega), by show In64 (10 + x + y); exact in64 (by omega)⟩
  have D1 : (c1 p).ho 1 = true := rfl
  simp only [D1] at cS1
  have e1 : IntKind.i64.wrap (10 + x) = 10 + x := IntWalk.i64_in _ (by omega)
  have e2 : IntKind.i64.wrap (10 + x + y) = 10 + x + y := IntWalk.i64_in _ (by omega)
  have e3 : IntKind.i64.wrap (10 + x + y + z) = 10 + x + y + z := IntWalk.i64_in _ (by omega)
  have j1 : ¬ x < 0 := by omega
  have j2 : ¬ 1000000 < x := by omega
  have j3 : ¬ y < 0 := by omega
  have j4 : ¬ 1000000 < y := by omega
  have j5 : ¬ z < 0 := by omega
  have j6 : ¬ 1000000 < z := by omega
  have cH2 := fun (u : World) (b : Nat) (F : Nat → Prop) (hR : C.R u b F (c1 p)) => C.hear b F (c1 p) c2 (l2 x y) (10 + x + y + z) 0 true u hR (i1 h0 h1) wl wn hH
  have cS2 := fun (u : World) (b : Nat) (F : Nat → Prop) (hR : C.R u b F c2) => spans_two C.toNp b F c2 (10 + x + y + z) u hR (hH.i (i1 h0 h1)) wn hS hn2
  rw [errc_zero] at cH1 cH2
  simp only [hh, q3, q4] at cS2
  simp only [q1, q2] at cS1
  simp only [ltv, l1, l2] at cH1 cH2
  have e4 : IntKind.i64.wrap (sh - sl) = sh - sl := IntWalk.i64_in _ (by omega)
  have e5 : IntKind.i64.wrap (sh - sl + 4) = sh - sl + 4 := IntWalk.i64_in _ (by omega)
  have e6 : IntKind.i64.wrap (th - tl) = th - tl := IntWalk.i64_in _ (by omega)
  generalize hn : 10 + x + y + z = n at *
  clear hH hS wl wn n0 n1 h0 h1 x0 x1 y0 y1 z0 z1 D1 b1 b2 q1 q2 q3 q4
  have cnt : Mark 1 := .mk _
  go_enter Tryd.func5, Tryd.ntmps5
  go_wp2_with (first
    | (go_at_call 19; refine cN.mono ?_; rintro o u1 ⟨b, F, rfl, hR, hb, hF⟩; have B1 : Hid (Below w.heap.size w u1) := hb; have R1 : Hid (C.R u1 b F (c0 p)) := hR; have F1 : Hid (∀ k, F k → w.heap.size ≤ k) := hF; clear hb hR hF)
    | (go_at_call 21; have cq : Mark 1 := cnt; refine (cH1 _ _ _ R1.out).mono ?_; clear cq cnt; rintro o u2 ⟨F2, rfl, hr, hk, hF⟩; have B2 : Hid (Below w.heap.size w u2) := B1.out.trans (hk.below B1.out.size F1.out); have R2 : Hid (C.R u2 b F2 (c1 p)) := hr; have F2l : Hid (∀ k, F2 k → w.heap.size ≤ k) := fun k q => (hF k q).elim (F1.out k) (fun e => Nat.le_trans B1.out.size e); have cnt : Mark 2 := .mk _; clear hr hk hF)
    | (go_at_call 20; have cq : Mark 2 := cnt; refine (cS1 _ _ _ R2.out).mono ?_; clear cq cnt; rintro o u3 ⟨sb, so, sc, hb, ho, hc, rfl, k1, k2, k3, k4, kf, hw⟩; have B3 : Hid (Below w.heap.size w u3) := rbel_on hw B2.out; have R3 : Hid (C.R u3 b F2 (c1 p)) := C.on R2.out hw.size (fun k q => hw.block k (C.lt R2.out k q)); have cnt : Mark 3 := .mk _; clear hw)
    | (go_at_call 21; have cq : Mark 3 := cnt; refine (cH2 _ _ _ R3.out).mono ?_; clear cq cnt; rintro o u4 ⟨F4, rfl, hr, hk, hF⟩; have F3l := F2l.out; have B4 : Hid (Below w.heap.size w u4) := B3.out.trans (hk.below B3.out.size F3l); have g1 := hk.cell kf k1; have g2 := hk.cell kf k2; have R4 : Hid (C.R u4 b F4 c2) := hr; have cnt : Mark 4 := .mk _; clear hr hk hF F3l)
    | (go_at_call 20; have cq : Mark 4 := cnt; refine (cS2 _ _ _ R4.out).mono ?_; clear cq cnt; rintro o u5 ⟨tb, to, tc, gb, go, gc, rfl, m1, m2, m3, m4, mf, hw⟩; have B5 : Hid (Below w.heap.size w u5) := rbel_on hw B4.out; have f1 := (hw.cell (World.block_lt_of_cell? _ _ g1)).trans g1; have f2 := (hw.cell (World.block_lt_of_cell? _ _ g2)).trans g2; clear hw))
  have hd : decide (th - tl ≤ sh - sl + 4) = true := decide_eq_true hq
  go_quiet (fail)
  go_wp2
  go_ret
  exact ⟨rfl, rbel_drn B5.out⟩
theorem all_ways (p x y z : Int) (w : World) (he : EnvE w) (C : NpE w) (wp : In64 p) :
    Calls Tryd.prog 5 #[.int .i64 p, .int .i64 x, .int .i64 y, .int .i64 z] w fun o w' => o = .returned (.bool true) ∧ Below w.heap.size w w' := by
  by_cases h : p < 0 ∨ 1000 < p
  · exact badp p x y z w C wp h
  by_cases g : x < 0 ∨ 1000000 < x ∨ y < 0 ∨ 1000000 < y ∨ z < 0 ∨ 1000000 < z
  · exact badn p x y z w C (by omega) (by omega) g
  have h0 : 0 ≤ p := by omega
  have h1 : p ≤ 1000 := by omega
  have n0 : 10 ≤ 10 + x + y + z := by omega
  have n1 : 10 + x + y + z ≤ 3000010 := by omega
  have b := o1 h0 h1
  have d := wd_b h0 h1 n0 n1
  rcases hear2 (p := p) (b := x) (t := y) (k := z) h0 h1 (by omega) (by omega) (by omega) (by omega) (by omega) (by omega) with ⟨c2, hH⟩ | ⟨c2, hH, hS, hn, hh, q, b1, b2, b3⟩
  · exact clash p x y z w C h0 h1 (by omega) (by omega) (by omega) (by omega) (by omega) (by omega) he c2 hH
  · have e : (c1 p).so (10 + x + y + z) 1 = (-5 - wd p (10 + x + y + z), oH 0 5 10 p + wd p (10 + x + y + z)) := rfl
    refine fine p x y z w C h0 h1 (by omega) (by omega) (by omega) (by omega) (by omega) (by omega) c2 hH hS hn hh _ _ _ _ rfl rfl rfl rfl ?_ ⟨b1, b3, b2⟩ q
    rw [e]
    refine ⟨?_, ?_, ?_⟩
    · show -1000000000000 ≤ -5 - wd p (10 + x + y + z)
      omega
    · show -5 - wd p (10 + x + y + z) ≤ oH 0 5 10 p + wd p (10 + x + y + z)
      omega
    · show oH 0 5 10 p + wd p (10 + x + y + z) ≤ 1000000000000
      omega
end Go.Proofs.YtmomcaodmdlnpahDoor.nodeLearns
