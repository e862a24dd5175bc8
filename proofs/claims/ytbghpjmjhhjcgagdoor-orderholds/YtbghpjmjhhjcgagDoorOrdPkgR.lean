/- What package order answers: longestRows. -/
import Derived.Test.YtbghpjmjhhjcgagDoorOrdRank
import Derived.Test.YtbghpjmjhhjcgagDoorOrdPkgK
import Derived.Maps.OwnOps
import Derived.Maps.Views
import Derived.IntWalk
namespace Go.Proofs.YtbghpjmjhhjcgagDoor
open Go.ChangeShapes Go.WideShapes Go.ChangeAt Go.RowKit Go.Joins Go.Maps
set_option linter.unusedVariables false
set_option linter.unusedSimpArgs false

theorem lawI : Keyed Tryd.prog 3 := int_keyed Tryd.underlying3
theorem zeroI (w : World) : (zeroValue 3).run Tryd.prog w = .ok (.int .i64 0) w := by kernel_rfl
/-- A map of the call's own. -/
abbrev owM (w : World) (B k : Nat) (D : DataW Unit) : Prop := w.ownsMap Tryd.prog 3 (plainElem Tryd.prog 3) B k D
theorem owM.on {W u : World} {B k : Nat} {D : DataW Unit} (hb : Below W.heap.size W u) (h : owM W B k D) : owM u B k D := by
  have hlt := h.lt
  obtain ⟨es, clock, hb', F, hs, hD⟩ := h
  exact ⟨es, clock, (hb.block B hlt).trans hb', F, hs, hD⟩
/-- What it holds of the first k of some events. -/
structure MpD (D : DataW Unit) (h : Nat → Ev) (r : Nat → Int) (k : Nat) : Prop where
  m : IsMap D
  at' : ∀ j, j < k → D.atKey (.int .i64 (h j).id) (.lit (.int .i64 0)) = .lit (.int .i64 (r j))
theorem MpD.none (h : Nat → Ev) (r : Nat → Int) : MpD (.map []) h r 0 := ⟨isMap_empty, fun j hj => by omega⟩
theorem MpD.get {D : DataW Unit} {h : Nat → Ev} {r : Nat → Int} {k j : Nat} {c : Int} (m : MpD D h r k) (hj : j < k) (e : D.atKey (.int .i64 (h j).id) (.lit (.int .i64 0)) = .lit (.int .i64 c)) : c = r j := by
  rw [m.at' j hj] at e
  injection e with e
  injection e with _ e
  exact e.symm
theorem MpD.put {D : DataW Unit} {h : Nat → Ev} {r : Nat → Int} {k : Nat} (m : MpD D h r k) (ne : ∀ j, j < k → (h j).id ≠ (h k).id) : MpD (D.put (.int .i64 (h k).id) (.lit (.int .i64 (r k)))) h r (k + 1) := by
  refine ⟨m.m.put _ _, fun j hj => ?_⟩
  by_cases c : j = k
  · subst c
    exact atKey_put_same m.m (by simp [WideAt.IsKeyLit]) _ _
  · rw [atKey_put_other (fun q => ne j (by omega) (by injection q))]
    exact m.at' j (by omega)
theorem evs_grown {W u : World} {g off n B : Nat} {f : Nat → Ev} (hg : W.grownBy u (some B)) (hne : g ≠ B) (h : Evs W g off n f) : Evs u g off n f := fun i hi => by
  obtain ⟨h0, h1, h2⟩ := h i hi
  have l := World.block_lt_of_cell? _ _ h0
  have e : u.heap[g]? = W.heap[g]? := hg.block g l (fun q => hne (Option.some.inj q))
  exact ⟨by rw [World.cell?_of_block (w := W) e]; exact h0, by rw [World.cell?_of_block (w := W) e]; exact h1, by rw [World.cell?_of_block (w := W) e]; exact h2⟩
/-- What longestRows answers. -/
def LrR (f : Nat → Ev) (n : Nat) (w : World) (o : Ending) (w' : World) : Prop := ∃ (B k : Nat) (D : DataW Unit), o = .returned (.map (some B)) ∧ owM w' B k D ∧ MpD D f (rkO f n) n ∧ Below w.heap.size w w'
set_option maxHeartbeats 1000000 in
theorem longest_none (ad : Option Addr) (cap : Nat) (f : Nat → Ev) (w : World) (hH : VHanded w ad 0 f) :
    Calls Tryd.prog 44 #[.slice ad 0 cap] w fun o w' => LrR f 0 w o w' := by
  have cC := clone_evs ad 0 cap f w (by decide) hH
  have hmm := @run_makeMap Tryd.prog
  clear hH
  have HS : Hid (∀ p cap fv w, Calls Tryd.prog 53 #[.slice p 0 cap, fv] w fun e w' => e = .returned (.tuple #[]) ∧ w' = w) := sort_noneE
  go_enter Tryd.func44, Tryd.ntmps44
  go_wp2_with (first | (go_at_call 52; refine cC.mono ?_; rintro e u0 ⟨v, rfl, hO, hb⟩; obtain ⟨a, c, e⟩ : ∃ a c, v = .slice a 0 c := (own_events hO (by omega)).elim (fun a h => h.elim (fun c h => ⟨a, c, h.1⟩)); subst e; have HB : Hid (Below w.heap.size w u0) := hb; clear hO hb) | (go_at_call 53; refine (HS.out _ _ _ _).mono ?_; rintro e w' ⟨rfl, rfl⟩))
  refine wp_loop_rounds 1 ?_
  rw [rounds_succ]
  go_wp2
  go_ret
  exact ⟨_, 0, .map [], rfl, World.ownsMap_made _ _ _ _, MpD.none f _, rbel_al HB.out⟩
set_option maxRecDepth 100000 in
set_option maxHeartbeats 4000000 in
theorem longest_some (ad : Option Addr) (n cap : Nat) (f : Nat → Ev) (w : World) (n0 : n ≠ 0) (hn : n ≤ 12) (hok : ∀ j, j < n → okAt f j) (hIw : IdW n f) (hH : VHanded w ad n f) :
    Calls Tryd.prog 44 #[.slice ad n cap] w fun o w' => LrR f n w o w' := by
  have cC := clone_evs ad n cap f w hn hH
  have hmm := @run_makeMap Tryd.prog
  have HOk : Hid (∀ j, j < n → okAt f j) := hok
  have HIw : Hid (IdW n f) := hIw
  have HN : Hid (n ≠ 0 ∧ n ≤ 12) := ⟨n0, hn⟩
  have HW0 : Hid True := trivial
  clear hH hok hIw
  have cS : Hid (∀ g c u, Below w.heap.size w u → w.heap.size ≤ g → u.ownsRow w.heap.size 46 3 (.slice (some ⟨g, 0, none⟩) n c) n (vcs f n) → Calls Tryd.prog 53 #[.slice (some ⟨g, 0, none⟩) n c, .func (.func 54) #[] #[]] u fun e w' => e = .returned (.tuple #[]) ∧ ∃ h, Evs w' g 0 n h ∧ Ord2 f h n ∧ Below w.heap.size w w') := fun g c u hB hg hO => sorted_evs f n g c w u hn HOk.out hB hg hO
  go_enter Tryd.func44, Tryd.ntmps44
  go_wp2_with (first | (go_at_call 52; refine cC.mono ?_; rintro e u0 ⟨v, rfl, hO, hb⟩; rcases hO.2 with ⟨_, e⟩ | ⟨g, c, cur, e, hg, hgb, hcn, hcm, hcs, htk⟩; exact absurd e n0; subst e; have HB : Hid (Below w.heap.size w u0) := hb; have HO : Hid (u0.ownsRow w.heap.size 46 3 (.slice (some ⟨g, 0, none⟩) n c) n (vcs f n)) := hO; have HG : Hid (w.heap.size ≤ g ∧ n ≤ c) := ⟨hg, hcn⟩; clear hO hb hg hgb hcn hcm hcs htk) | (go_at_call 53; go_loud (refine (cS.out g c u0 HB.out HG.out.1 HO.out).mono ?_; rintro e u1 ⟨rfl, h, hE, hOr, hb⟩; have HE1 : Hid (Evs u1 g 0 n h) := hE; have HOr : Hid (Ord2 f h n) := hOr; have HB1 : Hid (Below w.heap.size w u1) := hb; clear hE hOr hb HO HB)))
  have HGu : Hid (g < u1.heap.size) := World.block_lt_of_cell? _ _ (HE1.out 0 (by omega)).1
  have HWu : Hid (w.heap.size ≤ u1.heap.size) := HB1.out.size
  have HE0 : Hid (Evs (u1.alloc (.map #[] 0)) g 0 n h) := HE1.out.on (rbel_al (Below.refl _ _))
  have HM0 : Hid (owM (u1.alloc (.map #[] 0)) u1.heap.size 0 (.map [])) := World.ownsMap_made _ _ _ _
  have HB0 : Hid (Below w.heap.size w (u1.alloc (.map #[] 0))) := rbel_al HB1.out
  have HR : Hid (∀ j, j < n → 1 ≤ rkO h n j ∧ rkO h n j ≤ 13) := fun j hj => by
    have a := (rkO_is HOr.out.ok j hj).1
    have b := rkO_le HOr.out.ok j hj
    have c := cntN_le n (fun k => decide ((h k).lo < (h j).lo))
    unfold erl at b
    omega
  have HId : Hid (∀ j, j < n → In64 (h j).id) := fun j hj => by
    obtain ⟨k, hk, e⟩ := HOr.out.of j hj
    rw [e]
    exact HIw.out k hk
  have HFin : Hid (∀ D, MpD D h (rkO h n) n → MpD D f (rkO f n) n) := fun D m => ⟨m.m, fun j hj => by
    obtain ⟨i, hi, e⟩ := HOr.out.to j hj
    rw [← e, ← rank_moved HOk.out HOr.out hi hj e]
    exact m.at' i hi⟩
  have HAh : Hid (∀ i, i < n → rkO h n i = maxO (fun k => sur h k i) (rkO h n) i + 1) := fun i hi => rank_ahead HOr.out hi
  have HOkh : Hid (∀ j, j < n → okAt h j) := HOr.out.ok
  have HC : Hid (n ≤ c) := HG.out.2
  clear HE1 HB1 HW0 HIw HOk HOr cS cC hmm HG
  generalize u1.heap.size = B at *
  go_loopw [17] (fun v wr => ∃ (i : Nat) (D : DataW Unit), i ≤ n ∧ v = .int .i64 i ∧ Evs wr g 0 n h ∧ owM wr B i D ∧ MpD D h (rkO h n) i ∧ Below w.heap.size w wr) (fun v _ => n - (intOf v).toNat)
  case atStart => exact ⟨0, .map [], Nat.zero_le _, rfl, HE0.out, HM0.out, MpD.none h _, HB0.out⟩
  case round =>
    clear HE0 HM0 HB0
    obtain ⟨i, D, hi, rfl, hE, hM, hD, hw⟩ := hrel
    obtain ⟨wo, rfl⟩ : ∃ x, x = wr := ⟨wr, rfl⟩
    have HE : Hid (Evs wo g 0 n h) := hE
    have HM : Hid (owM wo B i D) := hM
    have HD : Hid (MpD D h (rkO h n) i) := hD
    have HW : Hid (Below w.heap.size w wo) := hw
    by_cases hlt : i < n
    · have hl3 : (i : Int) < n := by omega
      obtain ⟨x0, x1, x2⟩ := hE i hlt
      rw [Nat.zero_add] at x0 x1 x2
      have zb : g < wo.heap.size := World.block_lt_of_cell? _ _ x0
      have ic : (i : Int) ≤ c := by have := HC.out; omega
      have ic2 : i ≤ c := by have := HC.out; omega
      obtain ⟨yk, hyk⟩ : ∃ y, y = h i := ⟨_, rfl⟩
      rw [← hyk] at x0 x1 x2
      have HO2 : Hid (okB yk.lo yk.hi = true) := by show okB yk.lo yk.hi = true; rw [hyk]; exact (HOkh.out i hlt).1
      have HS : Hid (∀ k, sur h k i = decide ((h k).hi < yk.lo)) := fun k => by rw [hyk]; rfl
      have HKy : Hid (yk.id = (h i).id) := by rw [hyk]; rfl
      have HIy : Hid (In64 yk.id) := by show In64 yk.id; rw [hyk]; exact HId.out i hlt
      clear hE hM hD hw hyk
      have HEE : Hid (∀ ob, Evs (wo.alloc ob) g 0 n h) := fun ob => HE.out.on (rbel_al (Below.refl _ _))
      have HME : Hid (∀ ob, owM (wo.alloc ob) B i D) := fun ob => HM.out.on (rbel_al (Below.refl _ _))
      have HRE : Hid (∀ t, Row (wo.alloc (.cells #[.int .i64 yk.id, .int .i64 yk.lo, .int .i64 yk.hi] t)) wo.heap.size [.int .i64 yk.id, .int .i64 yk.lo, .int .i64 yk.hi]) := fun t => Row.made rfl
      have HWE : Hid (∀ ob, Below w.heap.size w (wo.alloc ob)) := fun ob => rbel_al HW.out
      have cI : Hid (∀ k u, k < n → Calls Tryd.prog 56 #[.agg #[.int .i64 (h k).id, .int .i64 (h k).lo, .int .i64 (h k).hi], .agg #[.int .i64 yk.id, .int .i64 yk.lo, .int .i64 yk.hi]] u fun e w' => e = .returned (.bool (sur h k i)) ∧ Below u.heap.size u w') := fun k u hk => by
        rw [HS.out k]
        exact isAhead_any (h k) yk u (HOkh.out k hk).1 HO2.out
      clear HS HO2
      generalize yk.id = yi at *
      generalize yk.lo = yl at *
      generalize yk.hi = yh at *
      go_wp2
      clear x0 x1 x2 zb
      go_loopw [26, 7] (fun v vl wr => ∃ (k : Nat) (z : Int), k ≤ i ∧ v = .int .i64 k ∧ vl = .int .i64 z ∧ z = maxO (fun k => sur h k i) (rkO h n) k ∧ Evs wr g 0 n h ∧ owM wr B i D ∧ Row wr wo.heap.size [.int .i64 yi, .int .i64 yl, .int .i64 yh] ∧ Below w.heap.size w wr) (fun v _ _ => i - (intOf v).toNat)
      case atStart => exact ⟨0, 0, Nat.zero_le _, rfl, rfl, rfl, HEE.out _, HME.out _, HRE.out _, HWE.out _⟩
      case round =>
        clear HEE HME HRE HWE HE HM HW
        obtain ⟨k, z, hk, rfl, rfl, hz, hE, hM, hRw, hw⟩ := hrel
        have HE : Hid (Evs wr g 0 n h) := hE
        have HM : Hid (owM wr B i D) := hM
        have HRw : Hid (Row wr wo.heap.size [.int .i64 yi, .int .i64 yl, .int .i64 yh]) := hRw
        have HW : Hid (Below w.heap.size w wr) := hw
        have HZ : Hid (z = maxO (fun k => sur h k i) (rkO h n) k) := hz
        by_cases hki : k < i
        · have hl4 : (k : Int) < i := by omega
          have hkn : k < n := by omega
          obtain ⟨x0, x1, x2⟩ := hE k hkn
          rw [Nat.zero_add] at x0 x1 x2
          have c0 := hRw.c 0 _ rfl
          have c1 := hRw.c 1 _ rfl
          have c2 := hRw.c 2 _ rfl
          have zb : g < wr.heap.size := World.block_lt_of_cell? _ _ x0
          have zo : wo.heap.size < wr.heap.size := World.block_lt_of_cell? _ _ c0
          have cC := fun u => cI.out k u hkn
          have HKd : Hid ((Lit.int .i64 (h k).id).wf = true) := HId.out k hkn
          have HGt : Hid (∀ c, D.atKey (.int .i64 (h k).id) (.lit (.int .i64 0)) = .lit (.int .i64 c) → c = rkO h n k) := fun c e => HD.out.get hki e
          have HRk : Hid (1 ≤ rkO h n k ∧ rkO h n k ≤ 13) := HR.out k hkn
          have HStep : Hid (maxO (fun k => sur h k i) (rkO h n) (k + 1) = if sur h k i = true ∧ z < rkO h n k then rkO h n k else z) := by rw [HZ.out]; rfl
          clear hE hM hRw hw hz HZ
          generalize (h k).id = xi at *
          generalize (h k).lo = xl at *
          generalize (h k).hi = xh at *
          cases s : sur h k i with
          | false =>
            rw [s] at cC HStep
            have HZ1 : Hid (z = maxO (fun k => sur h k i) (rkO h n) (k + 1)) := by show z = _; rw [HStep.out, if_neg (fun q => by cases q.1)]
            clear s HStep
            go_wp2_with (go_at_call 56; refine (cC _).mono ?_; rintro e u0 ⟨rfl, hb⟩; have HB : Hid (Below wr.heap.size wr u0) := rbel_on hb (rbel_al (Below.refl _ _)); clear hb)
            go_roundw
            case rel => exact ⟨k + 1, z, by omega, by go_num, rfl, HZ1.out, HE.out.on HB.out, HM.out.on HB.out, HRw.out.on HB.out, rbel_on HB.out HW.out⟩
            case measure => simp [intOf]; omega
          | true =>
            rw [s] at cC HStep
            have HZ1 : Hid (max z (rkO h n k) = maxO (fun k => sur h k i) (rkO h n) (k + 1)) := by
              show max z (rkO h n k) = _
              rw [HStep.out]
              by_cases q : z < rkO h n k
              · rw [if_pos ⟨rfl, q⟩]; omega
              · rw [if_neg (fun p => q p.2)]; omega
            clear s
            go_wp2_with (first | (go_at_call 56; refine (cC _).mono ?_; rintro e u0 ⟨rfl, hb⟩; have y0 : u0.cell? ⟨wr.heap.size, 0, none⟩ = some (.int .i64 xi) := (Row.on hb (Row.made (vs := [.int .i64 xi, .int .i64 xl, .int .i64 xh]) rfl)).c 0 _ rfl; have HB : Hid (Below wr.heap.size wr u0) := rbel_on hb (rbel_al (Below.refl _ _)); clear hb) | (at_lookup; refine wpList_lookup_own_int _ rfl _ _ 72 rfl 3 3 .i64 lawI Tryd.underlying72 Tryd.underlying3 (zeroI _) B i _ rfl (HM.out.on HB.out) _ _ rfl (keyOf_int_mk Tryd.underlying3 HKd.out) ?_; intro cv hat hwc; have hcv := HGt.out cv hat; clear hat hwc))
            go_roundw
            case rel => exact ⟨k + 1, max z (rkO h n k), by omega, by go_num, rfl, HZ1.out, HE.out.on HB.out, HM.out.on HB.out, HRw.out.on HB.out, rbel_on HB.out HW.out⟩
            case measure => simp [intOf]; omega
        · have hl4 : ¬ ((k : Int) < i) := by omega
          have e : i = k := by omega
          subst e
          have HRi : Hid (rkO h n i = z + 1) := by show rkO h n i = z + 1; rw [HZ.out]; exact HAh.out i hlt
          have zl : 0 ≤ z ∧ z ≤ 12 := by have := HR.out i hlt; have := HRi.out; omega
          have wz : IntKind.i64.wrap (z + 1) = z + 1 := IntWalk.i64_in _ (by omega)
          have c0 := hRw.c 0 _ rfl
          have HP : Hid (MpD (D.put (.int .i64 yi) (.lit (.int .i64 (z + 1)))) h (rkO h n) (i + 1)) := by
            have m := HD.out.put (HOkh.out i hlt).2
            rw [← HKy.out, HRi.out] at m
            exact m
          have HNe : Hid (g ≠ B) := by have := HGu.out; show g ≠ B; omega
          clear hE hM hRw hw hz HZ
          go_wp2_with (at_mapUpdate; refine wpList_mapUpdate_own _ rfl _ _ _ 72 rfl 3 3 lawI Tryd.underlying72 _ B i _ rfl HM.out (by unfold maxLen; omega) _ _ _ rfl rfl (keyOf_int_mk Tryd.underlying3 HIy.out) _ [] (plainElem_int Tryd.underlying3 (WalkArith.wf_i64 (by omega))) ?_; intro u2 hown1 hgrow1; have HE2 : Hid (Evs u2 g 0 n h) := evs_grown hgrow1 HNe.out HE.out; have HM2 : Hid (owM u2 B (i + 1) (D.put (.int .i64 yi) (.lit (.int .i64 (z + 1))))) := hown1; have HW2 : Hid (Below w.heap.size w u2) := HW.out.grown hgrow1 HW.out.size (fun j hj => by cases hj; exact HWu.out); clear hown1 hgrow1)
          go_roundw
          case rel => exact ⟨i + 1, _, by omega, by go_num, HE2.out, HM2.out, HP.out, HW2.out⟩
          case measure => simp [intOf]; omega
    · have hl3 : ¬ ((i : Int) < n) := by omega
      have e : n = i := by omega
      subst e
      have HF : Hid (MpD D f (rkO f n) n) := HFin.out D hD
      clear hE hM hD hw
      go_wp2
      go_ret
      exact ⟨B, n, D, rfl, HM.out, HF.out, HW.out⟩
theorem longest_any (ad : Option Addr) (n cap : Nat) (f : Nat → Ev) (w : World) (hn : n ≤ 12) (hok : ∀ j, j < n → okAt f j) (hIw : IdW n f) (hH : VHanded w ad n f) :
    Calls Tryd.prog 44 #[.slice ad n cap] w fun o w' => LrR f n w o w' := by
  by_cases n0 : n = 0
  · subst n0
    exact longest_none ad cap f w hH
  · exact longest_some ad n cap f w n0 hn hok hIw hH
end Go.Proofs.YtbghpjmjhhjcgagDoor
