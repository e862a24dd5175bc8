/- The ways through the law TreeTells: a tree that there is. -/
import Derived.Test.YtjdeeeefapijeaeDoorTreeTellsA
import Derived.Deep.RegionHeld
namespace Go.Proofs.YtjdeeeefapijeaeDoor.treeTells
open Go.ChangeShapes Go.WideShapes Go.ChangeAt Go.RowKit Go.Joins Go.Proofs.YtjdeeeefapijeaeDoor.told
set_option linter.unusedVariables false
set_option linter.unusedSimpArgs false

theorem tinfoSpan : (Tryd.prog.info? 41).map (fun i => (i.zero, i.size, i.bytes)) = some (some (sp 0 0), 2, 16) := by kernel_rfl
theorem tmade_spans (n : Nat) : madeCells (sp 0 0).cells (n * 2) = (List.replicate (n * 2) (.int .i64 0)).toArray := by
  apply Array.ext
  · simp [madeCells]
  · intro i h1 h2
    simp only [madeCells, Array.getElem_ofFn, List.getElem_toArray, List.getElem_replicate]
    have : i % 2 = 0 ∨ i % 2 = 1 := by omega
    simp [Value.cells]
    rcases this with e | e <;> simp [e]
theorem tmk_spans (n : Nat) (h6 : n ≤ 6) (W : World) : (Instr.makeSlice 55 (.int .i64 n) (.int .i64 n)).run Tryd.prog W = .ok (.slice (some ⟨W.heap.size, 0, none⟩) n n) (W.alloc (.cells (List.replicate (n * 2) (.int .i64 0)).toArray 41)) := by
  obtain ⟨i0, hi0, hz0, hz1, hz2⟩ := info_parts tinfoSpan
  have h := run_makeSlice W 55 41 i0 _ Tryd.underlying55 hi0 hz0 .i64 .i64 n n (by omega) (by omega) (by rw [hz1]; simp; omega) (by rw [hz2]; simp; omega) (by omega)
  rw [hz1, Int.toNat_natCast, tmade_spans n] at h
  exact h
/-- The tree's own rows stand. -/
structure RoT (T : Tr) (u : World) (n gy g : Nat) : Prop where
  y : Blk u 3 gy (byR n T)
  c : ∀ j v, T.row[j]? = some v → u.cell? ⟨g, j, none⟩ = some (.int .i64 (v : Nat))
theorem RoT.on {T : Tr} {W u : World} {n gy g : Nat} (hb : Below W.heap.size W u) (h : RoT T W n gy g) : RoT T u n gy g :=
  ⟨h.y.on hb, fun j v hv => by rw [hb.cell (World.block_lt_of_cell? _ _ (h.c j v hv))]; exact h.c j v hv⟩
theorem RoT.ints {T : Tr} {u : World} {n gy g : Nat} (h : RoT T u n gy g) (hn : n ≤ 6) : NHanded u (some ⟨gy, 0, none⟩) n T.by_ :=
  ⟨by omega, Or.inr ⟨gy, 0, rfl, fun i hi => by rw [Nat.zero_add]; exact h.y.c i _ (byR_at n T i hi)⟩⟩
theorem wt_start {q : Nat → Eg} {m n r : Nat} {T : Tr} {W : World} (hI : TrI q m n r T) (hr : r < n) : WtT q n T ((W.alloc (.cells (Array.replicate (n * 2) (.int .i64 0)) 41)).alloc (.cells ((Array.replicate n (.bool false)).setIfInBounds r (.bool true)) 4)) W.heap.size (W.heap.size + 1) 1 := by
  refine ⟨?_, ?_⟩
  · rw [waT_one, ← spR_zero, show Array.replicate (n * 2) (Value.int .i64 0) = (List.replicate (n * 2) (Value.int .i64 0)).toArray by simp]
    exact Blk.al (Blk.made rfl)
  · rw [← inK_set n T 0 r hr hI.head, ← inK_zero, show (Array.replicate n (Value.bool false)).setIfInBounds r (Value.bool true) = ((List.replicate n (Value.bool false)).set r (Value.bool true)).toArray by apply Array.ext'; simp]
    exact Blk.made (by simp)
/-- What a node's span is made of. -/
theorem su_parts {q : Nat → Eg} {m n r i v : Nat} {T : Tr} (hE : Egs n q m) (hI : TrI q m n r T) (i0 : 0 < i) (hi : T.row.length ≤ n) (hv : T.row[i]? = some v) : ∃ (k f : Nat), k < m ∧ T.by_ v = k ∧ f < n ∧ v < n ∧ frT q k v = f ∧ suT q T (waT q T i) v = ((waT q T i f).1 + (saT q k v).1, (waT q T i f).2 + (saT q k v).2) ∧ -6000000000000 ≤ (waT q T i f).1 ∧ (waT q T i f).1 ≤ 6000000000000 ∧ -6000000000000 ≤ (waT q T i f).2 ∧ (waT q T i f).2 ≤ 6000000000000 := by
  obtain ⟨k, u, j', a1, a2, a3, a4, a5⟩ := hI.par i v i0 hv
  obtain ⟨f1, _⟩ := fr_to hE a1 a5
  have b := waT_in hE hI j' u a3
  have e := waT_at hI a3 (show j' < i by omega)
  have h6 := hE.n6
  have jl := (List.getElem?_eq_some_iff.1 a3).1
  refine ⟨k, u, a1, a4, hI.lt u (List.mem_of_getElem? a3), hI.lt v (List.mem_of_getElem? hv), f1, ?_, ?_⟩
  · unfold suT
    rw [a4, Int.toNat_natCast, f1]
  · rw [e]
    omega
set_option maxRecDepth 100000 in
set_option maxHeartbeats 8000000 in
theorem good (n : Nat) (a : Option Addr) (m cap : Nat) (q : Nat → Eg) (r : Nat) (w : World) (he : EnvE w) (B : Ts w) (C : TsS w) (h0 : eE n q m = 0) (hr : r < n) (hH : EHanded w a m q) (wz : In64 n) (wr0 : In64 (r : Int)) :
    Calls Tryd.prog 6 #[.int .i64 n, .slice a m cap, .int .i64 r] w fun o w' => o = .returned (.bool true) ∧ Below w.heap.size w w' := by
  have hE := eE_zero h0
  have h40 := hE.m40
  have h6 : n ≤ 6 := by have := hE.n6; omega
  have HE : Hid (EnvE w) := he
  have HG : Hid (Egs n q m) := hE
  have HHH : Hid (EHanded w a m q) := hH
  have inv := tree_inv hE hr
  obtain ⟨T, hT⟩ : ∃ T, T = treeT q m n r := ⟨_, rfl⟩
  have l0 : 0 < T.row.length := by rw [hT]; exact (List.getElem?_eq_some_iff.1 inv.head).1
  have ln : T.row.length ≤ n := by rw [hT]; exact nodup_le inv.nodup inv.lt
  have HI : Hid (TrI q m n r T) := by show TrI q m n r T; rw [hT]; exact inv
  have cE := redges_any n a m cap q w hH
  rw [h0] at cE
  have cQ : ∀ u, Below w.heap.size w u → Calls Tryd.prog 18 #[.int .i64 n, .slice a m cap, .int .i64 r] u fun e w' => ∃ gy g cr, e = .returned (.tuple #[.slice (some ⟨gy, 0, none⟩) n n, .slice (some ⟨g, 0, none⟩) T.row.length cr]) ∧ RoT T w' n gy g ∧ Below u.heap.size u w' := fun u hu => by
    refine (rparents_any n a m cap q r u hE (hH.on hu) hr).mono ?_
    rintro e w' ⟨v, rfl, hb, hrow, hB⟩
    rw [← hT] at hb hrow
    obtain ⟨g, cr, rfl, _, _, _, cl⟩ := own_form hrow l0
    exact ⟨_, g, cr, rfl, ⟨hb, fun j v hv => cl j _ (roR_at hv)⟩, hB⟩
  have cP : ∀ u, Below w.heap.size w u → Calls Tryd.prog 19 #[.int .i64 n, .slice a m cap, .int .i64 r] u fun o w' => ∃ la lc, o = .returned (.tuple #[.slice la n lc, errc 0]) ∧ NHanded w' la n T.by_ ∧ Below u.heap.size u w' := fun u hu => by
    refine (B.parents n a m cap q r 0 u hu (hH.on hu) wz wr0 (Or.inr (Or.inr ⟨h0, by omega, rfl⟩))).mono ?_
    rintro o w' ⟨la, k, lc, s, rfl, hn, _, hk, hb⟩
    obtain ⟨hk, hs⟩ := hk rfl
    rw [Int.toNat_natCast, Int.toNat_natCast] at hs
    rw [Int.toNat_natCast] at hk
    subst hk
    exact ⟨la, lc, rfl, hn.same (by rw [hT]; exact hs), hb⟩
  have cS : Hid (∀ u, Below w.heap.size w u → ¬ FarT q m n r → Calls Tryd.prog 22 #[.int .i64 n, .slice a m cap, .int .i64 r] u fun o w' => ∃ la lc ha hc, o = .returned (.tuple #[.slice la n lc, .slice ha n hc, errc 0]) ∧ SHanded w' la n (teT q m n r) ∧ BHanded w' ha n (inT q m n r) ∧ Below u.heap.size u w') := fun u hu hf => by
    refine (C.spans n a m cap q r 0 u hu (hH.on hu) wz wr0 (Or.inr (Or.inr ⟨h0, by omega, Or.inr ⟨by rw [Int.toNat_natCast, Int.toNat_natCast]; exact hf, rfl⟩⟩))).mono ?_
    rintro o w' ⟨la, k, lc, s, ha, k', hc, g, rfl, h1, h2, _, hk, hb⟩
    obtain ⟨e1, e2, hs⟩ := hk rfl
    rw [Int.toNat_natCast] at e1 e2
    rw [Int.toNat_natCast, Int.toNat_natCast] at hs
    subst e1
    subst e2
    exact ⟨la, lc, ha, hc, rfl, h1.same (fun i hi => (hs i hi).1), h2.same (fun i hi => (hs i hi).2), hb⟩
  have cF : Hid (∀ u, Below w.heap.size w u → FarT q m n r → Calls Tryd.prog 22 #[.int .i64 n, .slice a m cap, .int .i64 r] u fun o w' => ∃ la lc ha hc, o = .returned (.tuple #[.slice la 0 lc, .slice ha 0 hc, errc 1]) ∧ Below u.heap.size u w') := fun u hu hf => by
    refine (C.spans n a m cap q r 1 u hu (hH.on hu) wz wr0 (Or.inr (Or.inr ⟨h0, by omega, Or.inl ⟨by rw [Int.toNat_natCast, Int.toNat_natCast]; exact hf, rfl⟩⟩))).mono ?_
    rintro o w' ⟨la, k, lc, s, ha, k', hc, g, rfl, _, _, hk, _, hb⟩
    obtain ⟨e1, e2⟩ := hk (by decide)
    subst e1
    subst e2
    exact ⟨la, lc, ha, hc, rfl, hb⟩
  have HT : Hid (T = treeT q m n r) := hT
  have m1 := tmk_spans n h6
  have m2 := tmk_bools n h6
  have hr3 : (r : Int) < n := by omega
  have hr4 : ¬ ((n : Int) ≤ r) := by omega
  have cR0 := fun u (h : EnvE u) => error_c 0 u h
  have cR1 : Hid (∀ u, EnvE u → Calls Tryd.prog 12 #[errc 1, .int .i64 1] u fun e w' => e = .returned (.bool true) ∧ Below u.heap.size u w') := fun u (h : EnvE u) => error_c 1 u h
  have cI : Hid (∀ u la lc gy g, NHanded u la n T.by_ → RoT T u n gy g → Calls Tryd.prog 20 #[.slice la n lc, .slice (some ⟨gy, 0, none⟩) n n] u fun e w' => e = .returned (.bool true) ∧ Below u.heap.size u w') := fun u la lc gy g h1 h2 => same_ints la _ n lc n T.by_ u h1 (h2.ints h6)
  clear he B C h0 hH wz wr0 hE inv hT
  have HE0 : Hid (errc 0 = errc 0) := rfl
  generalize errc 0 = E0 at *
  have cnt : Mark 0 := .mk _
  go_enter Tryd.func6, Tryd.ntmps6
  go_wp2_with (first
    | (go_at_call 9; refine cE.mono ?_; rintro e' u0 ⟨rfl, hb⟩; have HW0 : Hid (Below w.heap.size w u0) := hb; clear hb)
    | (go_at_call 18; refine (cQ _ HW0.out).mono ?_; rintro e' u1 ⟨gy, g, cr, rfl, hro, hb⟩; have HRO1 : Hid (RoT T u1 n gy g) := hro; have HW1 : Hid (Below w.heap.size w u1) := rbel_on hb HW0.out; clear hb hro)
    | (go_at_call 19; refine (cP _ HW1.out).mono ?_; rintro e' u2 ⟨la, lc, rfl, hn, hb⟩; have HN2 : Hid (NHanded u2 la n T.by_) := hn; have HRO2 : Hid (RoT T u2 n gy g) := HRO1.out.on hb; have HW2 : Hid (Below w.heap.size w u2) := rbel_on hb HW1.out; clear hb hn)
    | (go_at_call 12; refine (cR0 _ (HE.out.below HW2.out)).mono ?_; rintro e' u3 ⟨rfl, hb⟩; have cI3 := cI.out u3 la lc gy g (HN2.out.on hb) (HRO2.out.on hb); have HRO3 : Hid (RoT T u3 n gy g) := HRO2.out.on hb; have HW3 : Hid (Below w.heap.size w u3) := rbel_on hb HW2.out; clear hb)
    | (go_at_call 20; refine cI3.mono ?_; rintro e' u4 ⟨rfl, hb⟩; have HRO4 : Hid (RoT T u4 n gy g) := HRO3.out.on hb; have HW4 : Hid (Below w.heap.size w u4) := rbel_on hb HW3.out; clear hb))
  go_loopw [7, 16] (fun ve vi wr => ∃ i : Nat, 0 < i ∧ i ≤ T.row.length ∧ vi = .int .i64 i ∧ Below u4.heap.size u4 wr ∧ ((ve = .int .i64 0 ∧ WtT q n T wr u4.heap.size (u4.heap.size + 1) i ∧ OkT q m n r i) ∨ (ve = .int .i64 1 ∧ FarT q m n r))) (fun _ i _ => T.row.length - (intOf i).toNat)
  case atStart => exact ⟨1, by omega, by omega, rfl, rbel_al (rbel_al (Below.refl _ _)), Or.inl ⟨rfl, wt_start HI.out hr, okT_one⟩⟩
  case round =>
    clear HRO1 HRO2 HRO3 HN2 cI3 cI cQ cP cE m1 m2 HW0 HW1 HW2 HW3
    obtain ⟨i, i0, hi, rfl, hw, hd⟩ := hrel
    have HW : Hid (Below u4.heap.size u4 wr) := hw
    have HWW : Hid (Below w.heap.size w wr) := HW4.out.trans (hw.mono HW4.out.size)
    have zz := hw.size
    rcases hd with ⟨rfl, hWt, hOk⟩ | ⟨rfl, hFar⟩
    · by_cases hlt : i < T.row.length
      · have hl3 : (i : Int) < (T.row.length : Nat) := by omega
        obtain ⟨v, hv⟩ : ∃ v, T.row[i]? = some v := ⟨_, List.getElem?_eq_getElem hlt⟩
        have HWt : Hid (WtT q n T wr u4.heap.size (u4.heap.size + 1) i) := hWt
        have HOk : Hid (OkT q m n r i) := hOk
        have HV : Hid (T.row[i]? = some v) := hv
        have ro := HRO4.out.on hw
        have x0 := ro.c i v hv
        obtain ⟨k, f, hk, ebv, hf, hvn, ef0, hsu, b1, b2, b3, b4⟩ := su_parts HG.out HI.out i0 ln hv
        have x1 := ro.y.c v _ (byR_at n T v hvn)
        rw [ebv] at x1
        obtain ⟨b, off, rfl, hP⟩ : ∃ b off : Nat, a = some ⟨b, off, none⟩ ∧ Esp w b off m q := by
          rcases HHH.out.2 with e' | h
          · omega
          · exact h
        obtain ⟨p0, p1, p2, p3⟩ := (hP.on HWW.out) k hk
        obtain ⟨⟨a1, a2, a3, a4⟩, nab, okk⟩ := HG.out.each k hk
        obtain ⟨o1, o2, o3⟩ := okB_t okk
        obtain ⟨A, eA⟩ : ∃ A : Nat, (q k).a = A := ⟨(q k).a.toNat, by omega⟩
        obtain ⟨B, eB⟩ : ∃ B : Nat, (q k).b = B := ⟨(q k).b.toNat, by omega⟩
        obtain ⟨lo, eL⟩ : ∃ lo, (q k).lo = lo := ⟨_, rfl⟩
        obtain ⟨hi', eH⟩ : ∃ hi, (q k).hi = hi := ⟨_, rfl⟩
        rw [eA] at p0 a1 a2
        rw [eB] at p1 a3 a4
        rw [eL] at p2 o1 o2
        rw [eH] at p3 o1 o3
        rw [eA, eB] at nab
        have y1 := hWt.w.c _ _ (spR_lo _ n f hf)
        have y2 := hWt.w.c _ _ (spR_hi _ n f hf)
        have z1 := hWt.w.c _ _ (spR_lo _ n v hvn)
        have z2 := hWt.w.c _ _ (spR_hi _ n v hvn)
        have z3 := hWt.h.c v _ (inK_at n T i v hvn)
        have g1 := hWt.w.f (v * 2)
        have g2 := hWt.w.f (v * 2 + 1)
        have g3 := hWt.h.f v
        have k1 := hWt.w.lt
        have k2 := hWt.h.lt
        have hv3 : (v : Int) < n := by omega
        have hk3 : (k : Int) < m := by omega
        have kb : b < wr.heap.size := World.block_lt_of_cell? _ _ p0
        have kg : g < wr.heap.size := World.block_lt_of_cell? _ _ x0
        have kg4 : g < u4.heap.size := World.block_lt_of_cell? _ _ (HRO4.out.c i v hv)
        have ky : gy < wr.heap.size := World.block_lt_of_cell? _ _ x1
        have ng1 : ¬ (u4.heap.size = g) := by omega
        have ng2 : ¬ (u4.heap.size + 1 = g) := by omega
        have cN := rspan_any
        have vA : A < n := by omega
        have vB : B < n := by omega
        have HGg : Hid (Egs n q m) := HG.out
        clear hP ro hWt hOk cS cF cR0 cR1 HG HHH okk hw
        obtain ⟨x1', ex1⟩ : ∃ x, (waT q T i f).1 = x := ⟨_, rfl⟩
        obtain ⟨x2', ex2⟩ : ∃ x, (waT q T i f).2 = x := ⟨_, rfl⟩
        rw [ex1] at y1 b1 b2 hsu
        rw [ex2] at y2 b3 b4 hsu
        clear ex1 ex2
        generalize (waT q T i v).1 = zv1 at *
        generalize (waT q T i v).2 = zv2 at *
        generalize decide (v ∈ List.take i T.row) = zin at *
        obtain ⟨s1, es1⟩ : ∃ x, (saT q k v).1 = x := ⟨_, rfl⟩
        obtain ⟨s2, es2⟩ : ∃ x, (saT q k v).2 = x := ⟨_, rfl⟩
        rw [es1, es2] at hsu
        have sb : -1000000000000 ≤ s1 ∧ s1 ≤ 1000000000000 ∧ -1000000000000 ≤ s2 ∧ s2 ≤ 1000000000000 := by
          rw [← es1, ← es2]
          unfold saT
          rw [eL, eH]
          split
          · show -1000000000000 ≤ -hi' ∧ -hi' ≤ 1000000000000 ∧ -1000000000000 ≤ -lo ∧ -lo ≤ 1000000000000
            omega
          · show -1000000000000 ≤ lo ∧ lo ≤ 1000000000000 ∧ -1000000000000 ≤ hi' ∧ hi' ≤ 1000000000000
            omega
        have HSU : Hid (suT q T (waT q T i) v = (x1' + s1, x2' + s2)) := hsu
        have HFR : Hid (frT q k v = f) := ef0
        have HS1 : Hid (saT q k v = (s1, s2)) := by show saT q k v = (s1, s2); rw [← es1, ← es2]
        have HQ : Hid ((q k).a = A ∧ (q k).b = B ∧ (q k).lo = lo ∧ (q k).hi = hi') := ⟨eA, eB, eL, eH⟩
        clear hsu ef0 es1 es2 eA eB eL eH
        go_wp2
        go_quiet (fail)
        go_upto_if 102 with (fail)
        go_cut [18] from 103 to 147 (fun vf w' => vf = .int .i64 f ∧ w'.cell? ⟨wr.heap.size + 1, 0, none⟩ = some (.int .i64 s1) ∧ w'.cell? ⟨wr.heap.size + 1, 1, none⟩ = some (.int .i64 s2) ∧ Below wr.heap.size wr w' ∧ wr.heap.size + 1 < w'.heap.size)
        case first =>
          clear z1 z2 z3 g1 g2 g3 y1 y2 cN
          as_aux_lemma =>
            by_cases av : A = v
            · have d1 : ((A : Int) == (v : Int)) = true := beq_iff_eq.2 (by omega)
              have w1 : IntKind.i64.wrap (-hi') = -hi' := IntWalk.i64_in _ (by omega)
              have w2 : IntKind.i64.wrap (-lo) = -lo := IntWalk.i64_in _ (by omega)
              have HF : Hid (B = f ∧ s1 = -hi' ∧ s2 = -lo) := by
                show B = f ∧ s1 = -hi' ∧ s2 = -lo
                have h1 := HFR.out
                have h2 := HS1.out
                obtain ⟨eA, eB, eL, eH⟩ := HQ.out
                unfold frT at h1
                unfold saT at h2
                rw [eA, eB, if_pos (by omega), Int.toNat_natCast] at h1
                rw [eA, eL, eH, if_pos (by omega)] at h2
                injection h2 with h3 h4
                exact ⟨h1, h3.symm, h4.symm⟩
              clear av
              go_wp2
              go_meet
              case rel =>
                obtain ⟨e1, e2, e3⟩ := HF.out
                refine ⟨by rw [e1], ?_⟩
                rw [e2, e3]
                exact ⟨Row.c (vs := [.int .i64 (-hi'), .int .i64 (-lo)]) (Row.put 1 (Row.put 0 (Row.drn (Row.made (vs := [.int .i64 lo, .int .i64 hi']) (by simp))))) 0 _ rfl, Row.c (vs := [.int .i64 (-hi'), .int .i64 (-lo)]) (Row.put 1 (Row.put 0 (Row.drn (Row.made (vs := [.int .i64 lo, .int .i64 hi']) (by simp))))) 1 _ rfl, rbel_put (by omega) (rbel_put (by omega) (rbel_drn (rbel_al (rbel_al (Below.refl _ _))))), by simp [World.setCell, World.drewN]⟩
            · have d1 : ((A : Int) == (v : Int)) = false := by simp; omega
              have HF : Hid (A = f ∧ s1 = lo ∧ s2 = hi') := by
                show A = f ∧ s1 = lo ∧ s2 = hi'
                have h1 := HFR.out
                have h2 := HS1.out
                obtain ⟨eA, eB, eL, eH⟩ := HQ.out
                unfold frT at h1
                unfold saT at h2
                rw [eA, eB, if_neg (by omega), Int.toNat_natCast] at h1
                rw [eA, eL, eH, if_neg (by omega)] at h2
                injection h2 with h3 h4
                exact ⟨h1, h3.symm, h4.symm⟩
              clear av
              go_wp2
              go_meet
              case rel =>
                obtain ⟨e1, e2, e3⟩ := HF.out
                refine ⟨by rw [e1], ?_⟩
                rw [e2, e3]
                exact ⟨Row.c (vs := [.int .i64 lo, .int .i64 hi']) (Row.drn (Row.made (by simp))) 0 _ rfl, Row.c (vs := [.int .i64 lo, .int .i64 hi']) (Row.drn (Row.made (by simp))) 1 _ rfl, rbel_drn (rbel_al (rbel_al (Below.refl _ _))), by simp [World.drewN]⟩
        case rest =>
          obtain ⟨rfl, t1, t2, hwc, zc⟩ := hcut
          have w3 : IntKind.i64.wrap (x1' + s1) = x1' + s1 := IntWalk.i64_in _ (by omega)
          have w4 : IntKind.i64.wrap (x2' + s2) = x2' + s2 := IntWalk.i64_in _ (by omega)
          have HWC : Hid (Below wr.heap.size wr wc) := hwc
          replace x0 : wc.cell? ⟨g, i, none⟩ = some (.int .i64 (v : Nat)) := by rw [hwc.cell (World.block_lt_of_cell? _ _ x0)]; exact x0
          replace y1 : wc.cell? ⟨u4.heap.size, f * 2, none⟩ = some (.int .i64 x1') := by rw [hwc.cell (World.block_lt_of_cell? _ _ y1)]; exact y1
          replace y2 : wc.cell? ⟨u4.heap.size, f * 2 + 1, none⟩ = some (.int .i64 x2') := by rw [hwc.cell (World.block_lt_of_cell? _ _ y2)]; exact y2
          have HWt2 : Hid (WtT q n T wc u4.heap.size (u4.heap.size + 1) i) := HWt.out.on hwc
          have kc1 : u4.heap.size < wc.heap.size := by omega
          have kc2 : u4.heap.size + 1 < wc.heap.size := by omega
          have kc3 : g < wc.heap.size := by omega
          have hf3 : (f : Int) < n := by omega
          clear z1 z2 z3 g1 g2 g3 x1 p0 p1 p2 p3 hwc HQ HS1 HFR HRO4 HWt
          have ne1 : ¬ (u4.heap.size = u4.heap.size + 1) := by omega
          cases hok : okB (x1' + s1) (x2' + s2) with
          | false =>
            have HFar : Hid (FarT q m n r) := by
              show FarT q m n r
              have h1 := HV.out
              have h2 := HSU.out
              rw [HT.out] at h1 h2
              refine far_at HGg.out hr h1 ?_
              rw [waT_next i0 h1, updW_at, h2]
              exact hok
            have cN1 := fun u => cN (x1' + s1) (x2' + s2) u
            rw [hok] at cN1
            clear cN hok HWt2
            as_aux_lemma =>
              go_wp2
              go_region
              go_wp2_with (go_at_call 21; refine (cN1 _).mono ?_; rintro e' u5 ⟨rfl, hb⟩; have HB5 : Hid (Below wr.heap.size wr u5) := rbel_on hb (rbel_dr (rbel_al HWC.out)); clear hb)
              go_roundw
              case rel => exact ⟨i + 1, by omega, by omega, by go_num, HW.out.trans (HB5.out.mono HW.out.size), Or.inr ⟨rfl, HFar.out⟩⟩
              case measure => simp [intOf]; omega
          | true =>
            have HOk2 : Hid (OkT q m n r (i + 1)) := by
              show OkT q m n r (i + 1)
              have h1 := HV.out
              have h2 := HSU.out
              rw [HT.out] at h1 h2
              refine okT_next HOk.out h1 ?_
              rw [waT_next i0 h1, updW_at, h2]
              exact hok
            have cN1 := fun u => cN (x1' + s1) (x2' + s2) u
            rw [hok] at cN1
            clear cN hok
            as_aux_lemma =>
              go_wp2
              go_region
              go_wp2_with (go_at_call 21; refine (cN1 _).mono ?_; rintro e' u5 ⟨rfl, hb⟩; have hwt5 : WtT q n T u5 u4.heap.size (u4.heap.size + 1) i := (HWt2.out.al.dr).on hb; have r5 := Row.on hb (Row.dr (Row.made (W := wc) (vs := [.int .i64 (x1' + s1), .int .i64 (x2' + s2)]) rfl)); have c50 := r5.c 0 _ rfl; have c51 := r5.c 1 _ rfl; have b5 : Below wr.heap.size wr u5 := rbel_on hb (rbel_dr (rbel_al HWC.out)); have b6 : Below wc.heap.size wc u5 := rbel_on hb (rbel_dr (rbel_al (Below.refl _ _))); have x05 : u5.cell? ⟨g, i, none⟩ = some (.int .i64 (v : Nat)) := (by rw [b6.cell kc3]; exact x0); have z1 := hwt5.w.c _ _ (spR_lo _ n v hvn); have z2 := hwt5.w.c _ _ (spR_hi _ n v hvn); have z3 := hwt5.h.c v _ (inK_at n T i v hvn); have g1 := hwt5.w.f (v * 2); have g2 := hwt5.w.f (v * 2 + 1); have g3 := hwt5.h.f v; have HWt5 : Hid _ := hwt5; have HB5 : Hid (Below wr.heap.size wr u5) := b5; have nn : ¬ (u4.heap.size = wc.heap.size) := (by omega); clear hb hwt5 r5 b5 b6)
              go_region
              go_wp2
              go_roundw
              case rel => exact ⟨i + 1, by omega, by omega, by go_num, rbel_dr (rbel_put (by omega) (rbel_put (Nat.le_refl _) (rbel_put (Nat.le_refl _) (HW.out.trans (HB5.out.mono HW.out.size))))), Or.inl ⟨rfl, (WtT.put i0 hvn HV.out HSU.out HWt5.out).dr, HOk2.out⟩⟩
              case measure => simp [intOf]; omega
      · have hl3 : ¬ ((i : Int) < (T.row.length : Nat)) := by omega
        have ei : i = T.row.length := by omega
        have hfin : SHanded wr (some ⟨u4.heap.size, 0, none⟩) n (teT q m n r) ∧ BHanded wr (some ⟨u4.heap.size + 1, 0, none⟩) n (inT q m n r) := by
          rw [ei, HT.out] at hWt
          exact hWt.fin h6
        have nf : ¬ FarT q m n r := by
          rw [ei, HT.out] at hOk
          exact okT_far HG.out hr hOk
        have cSa := cS.out wr HWW.out nf
        have HS : Hid _ := hfin.1
        have HBo : Hid _ := hfin.2
        have cSp := fun u la lc h1 h2 => same_spans la (some ⟨u4.heap.size, 0, none⟩) n lc n (teT q m n r) u h1 h2
        have cBo := fun u la lc h1 h2 => same_bools la (some ⟨u4.heap.size + 1, 0, none⟩) n lc n (inT q m n r) u h1 h2
        clear hWt hOk hfin nf ei cS cF cR1 HG HHH HRO4 hw
        as_aux_lemma =>
          go_wp2_with (first
            | (go_at_call 22; refine cSa.mono ?_; rintro e' u6 ⟨la6, lc6, ha6, hc6, rfl, hs6, hb6, hb⟩; have HS6 : Hid (SHanded u6 la6 n (teT q m n r)) := hs6; have HB6 : Hid (BHanded u6 ha6 n (inT q m n r)) := hb6; have HS6' : Hid (SHanded u6 (some ⟨u4.heap.size, 0, none⟩) n (teT q m n r)) := SHanded.on hb HS.out; have HB6' : Hid (BHanded u6 (some ⟨u4.heap.size + 1, 0, none⟩) n (inT q m n r)) := BHanded.on hb HBo.out; have HW6 : Hid (Below w.heap.size w u6) := rbel_on hb HWW.out; clear hb hs6 hb6)
            | (go_at_call 12; refine (cR0 _ (HE.out.below HW6.out)).mono ?_; rintro e' u7 ⟨rfl, hb⟩; have cSp7 := cSp u7 la6 lc6 (SHanded.on hb HS6.out) (SHanded.on hb HS6'.out); have HB7 : Hid (BHanded u7 ha6 n (inT q m n r)) := BHanded.on hb HB6.out; have HB7' : Hid (BHanded u7 (some ⟨u4.heap.size + 1, 0, none⟩) n (inT q m n r)) := BHanded.on hb HB6'.out; have HW7 : Hid (Below w.heap.size w u7) := rbel_on hb HW6.out; clear hb)
            | (go_at_call 23; refine cSp7.mono ?_; rintro e' u8 ⟨rfl, hb⟩; have cBo8 := cBo u8 ha6 hc6 (BHanded.on hb HB7.out) (BHanded.on hb HB7'.out); have HW8 : Hid (Below w.heap.size w u8) := rbel_on hb HW7.out; clear hb)
            | (go_at_call 24; refine cBo8.mono ?_; rintro e' u9 ⟨rfl, hb⟩; have HW9 : Hid (Below w.heap.size w u9) := rbel_on hb HW8.out; clear hb))
          go_ret
          exact ⟨rfl, HW9.out⟩
    · have cFa := cF.out wr HWW.out hFar
      have cT := nil_spans
      have cB := nil_bools
      have cR := cR1.out
      clear cS cF cR1 HG HHH HRO4 hw hFar
      generalize errc 1 = E1 at *
      by_cases hlt : (i : Int) < (T.row.length : Nat)
      all_goals
        as_aux_lemma =>
          go_wp2_with (first
            | (go_at_call 22; refine cFa.mono ?_; rintro e' u6 ⟨la6, lc6, ha6, hc6, rfl, hb⟩; have HW6 : Hid (Below w.heap.size w u6) := rbel_on hb HWW.out; clear hb)
            | (go_at_call 12; refine (cR _ (HE.out.below HW6.out)).mono ?_; rintro e' u7 ⟨rfl, hb⟩; have HW7 : Hid (Below w.heap.size w u7) := rbel_on hb HW6.out; clear hb)
            | (go_at_call 23; refine (cT _ _ _).mono ?_; rintro e' u8 ⟨rfl, hb⟩; have HW8 : Hid (Below w.heap.size w u8) := rbel_on hb HW7.out; clear hb)
            | (go_at_call 24; refine (cB _ _ _).mono ?_; rintro e' u9 ⟨rfl, hb⟩; have HW9 : Hid (Below w.heap.size w u9) := rbel_on hb HW8.out; clear hb))
          go_ret
          exact ⟨rfl, HW9.out⟩
theorem all_ways (z : Int) (a : Option Addr) (m cap : Nat) (q : Nat → Eg) (root : Int) (w : World) (he : EnvE w) (B : Ts w) (C : TsS w) (hH : EHanded w a m q) (wz : In64 z) (wr0 : In64 root) :
    Calls Tryd.prog 6 #[.int .i64 z, .slice a m cap, .int .i64 root] w fun o w' => o = .returned (.bool true) ∧ Below w.heap.size w w' := by
  have bad : ∀ e0 e, eE z q m = e0 → e ≠ 0 → PaE z q m root e → SpE z q m root e → ((e0 ≠ 0 ∧ e = e0) ∨ (e0 = 0 ∧ root < 0 ∧ e = 1) ∨ (e0 = 0 ∧ ¬ root < 0 ∧ z ≤ root ∧ e = 1)) → Calls Tryd.prog 6 #[.int .i64 z, .slice a m cap, .int .i64 root] w fun o w' => o = .returned (.bool true) ∧ Below w.heap.size w w' := fun e0 e h0 ne hP hS hc => by
    refine wrong z a m cap root e0 e w he hc (by rw [← h0]; exact redges_any z a m cap q w hH) (fun u hu => ?_) (fun u hu => ?_)
    · refine (B.parents z a m cap q root e u hu (hH.on hu) wz wr0 hP).mono ?_
      rintro o w' ⟨la, k, lc, s, rfl, _, hk, _, hb⟩
      obtain rfl := hk ne
      exact ⟨la, lc, rfl, hb⟩
    · refine (C.spans z a m cap q root e u hu (hH.on hu) wz wr0 hS).mono ?_
      rintro o w' ⟨la, k, lc, s, ha, k', hc, g, rfl, _, _, hk, _, hb⟩
      obtain ⟨rfl, rfl⟩ := hk ne
      exact ⟨la, lc, ha, hc, rfl, hb⟩
  by_cases h0 : eE z q m = 0
  · by_cases h1 : root < 0
    · exact bad 0 1 h0 (by decide) (Or.inr (Or.inl ⟨h0, Or.inl h1, rfl⟩)) (Or.inr (Or.inl ⟨h0, Or.inl h1, rfl⟩)) (Or.inr (Or.inl ⟨rfl, h1, rfl⟩))
    · by_cases h2 : z ≤ root
      · exact bad 0 1 h0 (by decide) (Or.inr (Or.inl ⟨h0, Or.inr h2, rfl⟩)) (Or.inr (Or.inl ⟨h0, Or.inr h2, rfl⟩)) (Or.inr (Or.inr ⟨rfl, h1, h2, rfl⟩))
      · obtain ⟨n, rfl⟩ : ∃ n : Nat, z = n := ⟨z.toNat, by have := (eE_zero h0).n1; omega⟩
        obtain ⟨r, rfl⟩ : ∃ r : Nat, root = r := ⟨root.toNat, by omega⟩
        exact good n a m cap q r w he B C h0 (by omega) hH wz wr0
  · exact bad _ _ rfl h0 (Or.inl ⟨h0, rfl⟩) (Or.inl ⟨h0, rfl⟩) (Or.inl ⟨h0, rfl⟩)
end Go.Proofs.YtjdeeeefapijeaeDoor.treeTells
