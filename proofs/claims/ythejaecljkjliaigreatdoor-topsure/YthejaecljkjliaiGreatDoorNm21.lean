/- What package tree's Spans answers of a good root: the walk. What package tree answers: Spans. What packages net, loops, tree, vote, span and probe answer, as TopSure wants them. -/
import Derived.Test.YthejaecljkjliaiGreatDoorNm18
import Derived.Test.YthejaecljkjliaiGreatDoorNm20
import Derived.Test.YthejaecljkjliaiGreatDoorNm10
import Derived.Test.YthejaecljkjliaiGreatDoorNm12
import Derived.Test.YthejaecljkjliaiGreatDoorNm19
import Derived.Test.YthejaecljkjliaiGreatDoorNm15
import Derived.Test.YthejaecljkjliaiGreatDoorProbeOff
namespace Go.Proofs.YthejaecljkjliaiGreatDoor
open Go.ChangeShapes Go.WideShapes Go.ChangeAt Go.RowKit Go.Joins
set_option linter.unusedVariables false
set_option linter.unusedSimpArgs false

/-- Spans' memory while it goes along a tree: the first i nodes are told. -/
structure SpS (q : Nat → Eg) (n : Nat) (T : Tr) (g gb p gw gi L c i : Nat) (w u : World) : Prop where
  wt : WtT q n T u gw gi i
  st : Blk u 121 p [.slice (some ⟨g, 0, none⟩) L c, .slice (some ⟨gb, 0, none⟩) n n]
  yb : Blk u 3 gb (byR n T)
  nd : Nod u g T.row
  n1 : gw ≠ g
  n2 : gi ≠ g
  b1 : w.heap.size ≤ gw
  b2 : w.heap.size ≤ gi
  hw : Below w.heap.size w u
section
variable {q : Nat → Eg} {m n r : Nat} {T : Tr} {g gb p gw gi L c i : Nat} {w u u' : World}
theorem SpS.on (hb : Below u.heap.size u u') (h : SpS q n T g gb p gw gi L c i w u) : SpS q n T g gb p gw gi L c i w u' := ⟨h.wt.on hb, h.st.on hb, h.yb.on hb, h.nd.on hb, h.n1, h.n2, h.b1, h.b2, rbel_on hb h.hw⟩
theorem SpS.root (hI : TrI q m n r T) (hr : r < n) (h : SpS q n T g gb p gw gi L c 0 w u) : SpS q n T g gb p gw gi L c 1 w (u.setCell ⟨gi, r, none⟩ (.bool true)) := by
  have e1 := h.st.ne h.wt.h (by decide)
  have e2 := h.yb.ne h.wt.h (by decide)
  refine ⟨⟨?_, ?_⟩, h.st.far e1, h.yb.far e2, h.nd.far h.n2, h.n1, h.n2, h.b1, h.b2, rbel_put h.b2 h.hw⟩
  · have := h.wt.w.far (i := r) (x := .bool true) h.wt.ne
    rw [waT_one]
    exact this
  · rw [← inK_set n T 0 r hr hI.head]
    exact h.wt.h.put r
theorem SpS.next {v : Nat} {lo hi : Int} (h0 : 0 < i) (hv : v < n) (hr : T.row[i]? = some v) (e : suT q T (waT q T i) v = (lo, hi)) (h : SpS q n T g gb p gw gi L c i w u) : SpS q n T g gb p gw gi L c (i + 1) w (((u.setCell ⟨gw, v * 2, none⟩ (.int .i64 lo)).setCell ⟨gw, v * 2 + 1, none⟩ (.int .i64 hi)).setCell ⟨gi, v, none⟩ (.bool true)) := by
  have e1 := h.st.ne h.wt.h (by decide)
  have e2 := h.yb.ne h.wt.h (by decide)
  have e3 := h.st.ne h.wt.w (by decide)
  have e4 := h.yb.ne h.wt.w (by decide)
  exact ⟨h.wt.put h0 hv hr e, ((h.st.far e3).far e3).far e1, ((h.yb.far e4).far e4).far e2, ((h.nd.far h.n1).far h.n1).far h.n2, h.n1, h.n2, h.b1, h.b2, rbel_put h.b2 (rbel_put h.b1 (rbel_put h.b1 h.hw))⟩
end
theorem blk_arr {u : World} {e : TypeId} {b : Nat} {xs : List Value} {ys : Array Value} (h : u.heap[b]? = some (.cells ys e (0, 0))) (he : ys = xs.toArray) : Blk u e b xs := by subst he; exact h
theorem heap_made {W : World} {cs : Array Value} {t : TypeId} {b : Nat} (hb : b = W.heap.size) : (W.alloc (.cells cs t)).heap[b]? = some (.cells cs t (0, 0)) := by
  subst hb
  show (W.heap.push _)[W.heap.size]? = _
  simp
theorem heap_al {W : World} {ob ob' : Obj} {b : Nat} (h : W.heap[b]? = some ob') : (W.alloc ob).heap[b]? = some ob' := by
  have hb : b < W.heap.size := by
    apply Classical.byContradiction
    intro k
    rw [Array.getElem?_eq_none (by omega)] at h
    cases h
  exact (Below.heap_alloc _ _ _ hb).trans h
set_option maxRecDepth 100000 in
set_option maxHeartbeats 8000000 in
theorem spans_good (n : Nat) (a : Option Addr) (m cap : Nat) (q : Nat → Eg) (r : Nat) (e : Int) (w : World) (hE : Egs n q m) (hH : EHanded w a m q) (hr : r < n) (cG : Calls Tryz.prog 44 #[.int .i64 n, .slice a m cap, .int .i64 r] w fun o w' => GrR q m n r w o w') (hF : (FarT q m n r ∧ e = 1) ∨ (¬ FarT q m n r ∧ e = 0)) :
    Calls Tryz.prog 23 #[.int .i64 n, .slice a m cap, .int .i64 r] w fun o w' => TsR q m n r e w o w' := by
  have h6 : n ≤ 6 := by have := hE.n6; omega
  have h40 := hE.m40
  have inv := tree_inv hE hr
  have ln := nodup_le inv.nodup inv.lt
  have l0 : 0 < (treeT q m n r).row.length := (List.getElem?_eq_some_iff.1 inv.head).1
  have HE : Hid (Egs n q m) := hE
  have HH : Hid (m = 0 ∨ ∃ b off : Nat, a = some ⟨b, off, none⟩ ∧ Esp w b off m q) := hH.2
  have HI : Hid (TrI q m n r (treeT q m n r)) := inv
  have HF : Hid ((FarT q m n r ∧ e = 1) ∨ (¬ FarT q m n r ∧ e = 0)) := hF
  have m1 := mk_spans n h6
  have m2 := tmk_bools n h6
  have hr3 : (r : Int) < n := by omega
  unfold GrR at cG
  have TL : Hid (∃ T, T = treeT q m n r) := ⟨_, rfl⟩
  generalize hL : (treeT q m n r).row.length = L at *
  obtain ⟨M, rfl⟩ : ∃ M, L = M + 1 := ⟨L - 1, by omega⟩
  have HL : Hid ((treeT q m n r).row.length = M + 1) := hL
  clear hE hH inv hF hL TL
  go_enter Tryz.func23, Tryz.ntmps23
  go_wp2_with (go_at_call 44; refine cG.mono ?_; rintro e u0 ⟨g, c, gb, rfl, hN, hc, hB, hb⟩; have HN : Hid (Nod u0 g (treeT q m n r).row) := hN; have HB : Hid (Blk u0 3 gb (byR n (treeT q m n r))) := hB; have HW : Hid (Below w.heap.size w u0) := hb; clear hN hB hb)
  go_cut [11, 12] from 17 to 68 (fun v1 v2 w' => ∃ gw gi, v1 = .slice (some ⟨gw, 0, none⟩) n n ∧ v2 = .slice (some ⟨gi, 0, none⟩) n n ∧ SpS q n (treeT q m n r) g gb u0.heap.size gw gi (M + 1) c 0 w w')
  case first =>
    have gl : g < u0.heap.size := World.block_lt_of_cell? _ _ (HN.out 0 r HI.out.head)
    go_region
    all_goals
      go_wp2
      go_meet
      case rel =>
        first
          | exact ⟨u0.heap.size + 1, u0.heap.size + 1 + 1, rfl, rfl, ⟨⟨blk_arr (heap_al (heap_made (by simp))) (by rw [show waT q (treeT q m n r) 0 = fun _ => (0, 0) from rfl, ← spR_zero]; simp), blk_arr (heap_made (by simp)) (by rw [← inK_zero]; simp)⟩, Blk.dr (Blk.al (Blk.al (Blk.made rfl))), Blk.dr (Blk.al (Blk.al (Blk.al HB.out))), HN.out.on (rbel_dr (rbel_al (rbel_al (rbel_al (Below.refl _ _))))), by omega, by omega, by have := HW.out.size; omega, by have := HW.out.size; omega, rbel_dr (rbel_al (rbel_al (rbel_al HW.out)))⟩⟩
          | exact ⟨u0.heap.size + 1 + 1, u0.heap.size + 1, rfl, rfl, ⟨⟨blk_arr (heap_made (by simp)) (by rw [show waT q (treeT q m n r) 0 = fun _ => (0, 0) from rfl, ← spR_zero]; simp), blk_arr (heap_al (heap_made (by simp))) (by rw [← inK_zero]; simp)⟩, Blk.dr (Blk.al (Blk.al (Blk.made rfl))), Blk.dr (Blk.al (Blk.al (Blk.al HB.out))), HN.out.on (rbel_dr (rbel_al (rbel_al (rbel_al (Below.refl _ _))))), by omega, by omega, by have := HW.out.size; omega, by have := HW.out.size; omega, rbel_dr (rbel_al (rbel_al (rbel_al HW.out)))⟩⟩
  case rest =>
    obtain ⟨gw, gi, rfl, rfl, hS⟩ := hcut
    generalize u0.heap.size = p at *
    have b0 := hS.wt.h.c r _ (inK_at n _ 0 r hr)
    have f0 := hS.wt.h.f r
    have s0 := hS.st.c 0 _ rfl
    have pne : ¬ (p = gi) := hS.st.ne hS.wt.h (by decide)
    have HS : Hid (SpS q n (treeT q m n r) g gb p gw gi (M + 1) c 1 w (wc.setCell ⟨gi, r, none⟩ (.bool true))) := hS.root HI.out hr
    clear hS HN HB HW m1 m2 cG
    by_cases c1 : c = 1
    · subst c1
      obtain rfl : M = 0 := by omega
      have HSP : Hid (TsR q m n r e w (.returned (.tuple #[.slice (some ⟨gw, 0, none⟩) n n, .slice (some ⟨gi, 0, none⟩) n n, .nilIface])) (wc.setCell ⟨gi, r, none⟩ (.bool true))) := by
        show TsR _ _ _ _ _ _ _ _
        have e0 : e = 0 := by
          rcases HF.out with ⟨hf, _⟩ | ⟨_, h⟩
          · exact absurd hf (okT_far HE.out hr (by rw [HL.out]; exact okT_one))
          · exact h
        rw [e0]
        exact tsR_fin h6 (by rw [HL.out]; exact HS.out.wt) HS.out.hw
      clear HS HF HI HE HH
      go_wp2
      go_loopw [38] (fun vi wr => vi = .int .i64 0 ∧ wr = wc.setCell ⟨gi, r, none⟩ (.bool true)) (fun _ _ => 0)
      case atStart => exact ⟨rfl, rfl⟩
      case round =>
        obtain ⟨rfl, hwr⟩ := hrel
        rw [hwr]
        go_wp2
        go_ret3
        exact HSP.out
    · have c2 : ¬ (1 = c) := fun h => c1 h.symm
      go_wp2
      go_loopw [38] (fun vi wr => ∃ i : Nat, i ≤ M ∧ vi = .int .i64 i ∧ SpS q n (treeT q m n r) g gb p gw gi (M + 1) c (i + 1) w wr ∧ OkT q m n r (i + 1)) (fun vi _ => M - (intOf vi).toNat)
      case atStart => exact ⟨0, Nat.zero_le _, rfl, HS.out, okT_one⟩
      case round =>
        clear HS b0 f0 s0 pne
        obtain ⟨i, hi, rfl, hS, hO⟩ := hrel
        have HS : Hid (SpS q n (treeT q m n r) g gb p gw gi (M + 1) c (i + 1) w wr) := hS
        have HO : Hid (OkT q m n r (i + 1)) := hO
        by_cases hlt : i < M
        · have hl3 : (i : Int) < M := by omega
          obtain ⟨v, hv⟩ : ∃ v, (treeT q m n r).row[i + 1]? = some v := ⟨_, List.getElem?_eq_getElem (by have := HL.out; omega)⟩
          obtain ⟨k, X, Y, e', hk, hby, hvn, hSm, cB⟩ := behind_any HE.out HI.out (by omega) hv hO
          have x0 := hS.nd (i + 1) v hv
          rw [Nat.add_comm i 1] at x0
          have s1 := hS.st.c 1 _ rfl
          have y0 := hS.yb.c v _ (byR_at n _ v hvn)
          rw [hby] at y0
          obtain ⟨b, off, rfl, hP⟩ : ∃ b off : Nat, a = some ⟨b, off, none⟩ ∧ Esp w b off m q := by
            rcases HH.out with e' | h
            · omega
            · exact h
          obtain ⟨p0, p1, p2, p3⟩ := (hP.on hS.hw) k hk
          have hk3 : (k : Int) < m := by omega
          have hv3 : (v : Int) < n := by omega
          have cB1 := cB gw n wr hS.wt.w
          have HV : Hid ((treeT q m n r).row[i + 1]? = some v) := hv
          have ew : Hid (waT q (treeT q m n r) (i + 1 + 1) v = suT q (treeT q m n r) (waT q (treeT q m n r) (i + 1)) v) := by show _ = _; rw [waT_next (by omega) hv, updW_at]
          generalize (q k).a = qa at *
          generalize (q k).b = qb at *
          generalize (q k).lo = ql at *
          generalize (q k).hi = qh at *
          rcases hSm with ⟨ok, eX, eY, rfl⟩ | ⟨no, rfl, rfl, rfl⟩
          · rw [errc_zero] at cB1
            have eS : Hid (suT q (treeT q m n r) (waT q (treeT q m n r) (i + 1)) v = (X, Y)) := by show _ = _; rw [eX, eY]
            have HO2 : Hid (OkT q m n r (i + 1 + 1)) := okT_next hO hv (by rw [ew.out]; exact ok)
            clear hS hO hv cB hP hby ok eX eY HO
            go_wp2_with (go_at_call 45; refine cB1.mono ?_; rintro e u1 ⟨rfl, hb⟩; have hS1 := HS.out.on hb; have d0 := hS1.wt.w.c _ _ (spR_lo _ n v hvn); have d1 := hS1.wt.w.c _ _ (spR_hi _ n v hvn); have f0 := hS1.wt.w.f (v * 2); have f1 := hS1.wt.w.f (v * 2 + 1); have b0 := hS1.wt.h.c v _ (inK_at n _ (i + 1) v hvn); have g0 := hS1.wt.h.f v; have z1 := hS1.wt.w.lt; have z2 := hS1.wt.h.lt; have ne1 : ¬ (gw = gi) := hS1.wt.ne; have HB : Hid _ := hb; clear hb hS1)
            go_roundw
            case rel => exact ⟨i + 1, by omega, by go_num, ((HS.out.on HB.out).next (by omega) hvn HV.out eS.out).on (rbel_al (Below.refl _ _)), HO2.out⟩
            case measure => simp [intOf]; omega
          · rw [errc_not (by decide)] at cB1
            have HSP : Hid (∀ w', Below w.heap.size w w' → TsR q m n r e w (.returned (.tuple #[.slice none 0 0, .slice none 0 0, .iface 85 (.int .i64 1)])) w') := fun w' hb => by
              have e1 : e = 1 := by
                rcases HF.out with ⟨_, h⟩ | ⟨nf, _⟩
                · exact h
                · exact absurd (far_at HE.out hr hv (by rw [ew.out]; exact no)) nf
              rw [e1, ← errc_not (by decide)]
              exact tsR_bad (by decide) hb
            clear hS hO hv cB hP hby no HO ew HF
            go_wp2_with (go_at_call 45; refine cB1.mono ?_; rintro e u1 ⟨rfl, hb⟩; have HB : Hid _ := hb; clear hb)
            go_ret3
            exact HSP.out _ (rbel_al (rbel_on HB.out HS.out.hw))
        · have hl3 : ¬ ((i : Int) < M) := by omega
          obtain rfl : i = M := by omega
          have HSP : Hid (TsR q m n r e w (.returned (.tuple #[.slice (some ⟨gw, 0, none⟩) n n, .slice (some ⟨gi, 0, none⟩) n n, .nilIface])) wr) := by
            show TsR _ _ _ _ _ _ _ _
            have e0 : e = 0 := by
              rcases HF.out with ⟨hf, _⟩ | ⟨_, h⟩
              · exact absurd hf (okT_far HE.out hr (by rw [HL.out]; exact hO))
              · exact h
            rw [e0]
            exact tsR_fin h6 (by rw [HL.out]; exact hS.wt) hS.hw
          clear hS hO HS HO HF HI HE HH
          go_wp2
          go_ret3
          exact HSP.out
end Go.Proofs.YthejaecljkjliaiGreatDoor
namespace Go.Proofs.YthejaecljkjliaiGreatDoor
open Go.ChangeShapes Go.WideShapes Go.ChangeAt Go.RowKit Go.Joins
set_option linter.unusedVariables false
set_option linter.unusedSimpArgs false

/-- What grow answers where it tells an error. -/
theorem grow_err (z : Int) (a : Option Addr) (m cap : Nat) (q : Nat → Eg) (root e : Int) (w : World) (hH : EHanded w a m q) (h : (eE z q m ≠ 0 ∧ e = eE z q m) ∨ (eE z q m = 0 ∧ (root < 0 ∨ z ≤ root) ∧ e = 1)) :
    Calls Tryz.prog 44 #[.int .i64 z, .slice a m cap, .int .i64 root] w fun o w' => o = .returned (.tuple #[.agg #[.slice none 0 0, .slice none 0 0], .iface 85 (.int .i64 e)]) ∧ Below w.heap.size w w' := by
  rcases h with ⟨h0, rfl⟩ | ⟨h0, hr, rfl⟩
  · have := grow_bad z a m cap q root w hH h0
    rwa [errc_not h0] at this
  · have := grow_no z a m cap q root w hH h0 (by omega)
    rwa [errc_not (by decide)] at this
theorem err_ne {z : Int} {q : Nat → Eg} {m : Nat} {root e : Int} (h : (eE z q m ≠ 0 ∧ e = eE z q m) ∨ (eE z q m = 0 ∧ (root < 0 ∨ z ≤ root) ∧ e = 1)) : e ≠ 0 := by
  rcases h with ⟨h0, rfl⟩ | ⟨_, _, rfl⟩
  · exact h0
  · decide
set_option maxRecDepth 100000 in
set_option maxHeartbeats 4000000 in
theorem spans_err (z : Int) (a : Option Addr) (m cap : Nat) (root e : Int) (w : World) (cG : Calls Tryz.prog 44 #[.int .i64 z, .slice a m cap, .int .i64 root] w fun o w' => o = .returned (.tuple #[.agg #[.slice none 0 0, .slice none 0 0], .iface 85 (.int .i64 e)]) ∧ Below w.heap.size w w') :
    Calls Tryz.prog 23 #[.int .i64 z, .slice a m cap, .int .i64 root] w fun o w' => o = .returned (.tuple #[.slice none 0 0, .slice none 0 0, .iface 85 (.int .i64 e)]) ∧ Below w.heap.size w w' := by
  go_enter Tryz.func23, Tryz.ntmps23
  go_wp2_with (go_at_call 44; refine cG.mono ?_; rintro o u0 ⟨rfl, hb⟩; have HB : Hid _ := hb; clear hb)
  go_ret3
  exact ⟨rfl, rbel_al HB.out⟩
theorem tspans_any (z : Int) (a : Option Addr) (m cap : Nat) (q : Nat → Eg) (root e : Int) (u : World) (hH : EHanded u a m q) (hP : SpE z q m root e) : Calls Tryz.prog 23 #[.int .i64 z, .slice a m cap, .int .i64 root] u fun o w' => ∃ (la : Option Addr) (k lc : Nat) (s : Nat → Int × Int) (ha : Option Addr) (k' hc : Nat) (g : Nat → Bool), o = .returned (.tuple #[.slice la k lc, .slice ha k' hc, errc e]) ∧ SHanded w' la k s ∧ BHanded w' ha k' g ∧ (e ≠ 0 → k = 0 ∧ k' = 0) ∧ (e = 0 → k = z.toNat ∧ k' = z.toNat ∧ ∀ i, i < k → s i = teT q m z.toNat root.toNat i ∧ g i = inT q m z.toNat root.toNat i) ∧ Below u.heap.size u w' := by
  rcases hP with h | h | ⟨h0, hr, hF⟩
  · have h' : (eE z q m ≠ 0 ∧ e = eE z q m) ∨ (eE z q m = 0 ∧ (root < 0 ∨ z ≤ root) ∧ e = 1) := Or.inl h
    refine (spans_err z a m cap root e u (grow_err z a m cap q root e u hH h')).mono ?_
    rintro o w' ⟨rfl, hb⟩
    exact ⟨none, 0, 0, fun _ => (0, 0), none, 0, 0, fun _ => false, by rw [errc_not (err_ne h')], ⟨by omega, Or.inl rfl⟩, ⟨by omega, Or.inl rfl⟩, fun _ => ⟨rfl, rfl⟩, fun he => absurd he (err_ne h'), hb⟩
  · have h' : (eE z q m ≠ 0 ∧ e = eE z q m) ∨ (eE z q m = 0 ∧ (root < 0 ∨ z ≤ root) ∧ e = 1) := Or.inr h
    refine (spans_err z a m cap root e u (grow_err z a m cap q root e u hH h')).mono ?_
    rintro o w' ⟨rfl, hb⟩
    exact ⟨none, 0, 0, fun _ => (0, 0), none, 0, 0, fun _ => false, by rw [errc_not (err_ne h')], ⟨by omega, Or.inl rfl⟩, ⟨by omega, Or.inl rfl⟩, fun _ => ⟨rfl, rfl⟩, fun he => absurd he (err_ne h'), hb⟩
  · obtain ⟨n, rfl⟩ : ∃ n : Nat, z = n := ⟨z.toNat, by omega⟩
    obtain ⟨r, rfl⟩ : ∃ r : Nat, root = r := ⟨root.toNat, by omega⟩
    rw [Int.toNat_natCast, Int.toNat_natCast] at hF ⊢
    exact spans_good n a m cap q r e u (eE_zero h0) hH (by omega) (grow_good n a m cap q r u hH h0 (by omega)) hF
end Go.Proofs.YthejaecljkjliaiGreatDoor
namespace Go.Proofs.YthejaecljkjliaiGreatDoor
open Go.ChangeShapes Go.WideShapes Go.ChangeAt Go.RowKit Go.Joins
set_option linter.unusedVariables false
set_option linter.unusedSimpArgs false

theorem tps {w : World} : TpS w where
  find := fun n a m cap q u _ hH h0 hN => (find_any n a m cap q 5 u hH (Or.inr (Or.inl ⟨h0, by rw [Int.toNat_natCast]; exact hN, rfl⟩))).mono fun _ _ ⟨la, k, lc, s, q1, _, _, hb⟩ => ⟨_, by rw [errc_not (by decide)] at q1; exact q1, hb⟩
  fault := fun n a m cap q u _ hH hc hm h0 hN => (fault_any n a m cap q 0 5 u hH hc hm (Or.inr (Or.inl ⟨h0, by rw [Int.toNat_natCast]; exact hN, rfl, rfl⟩))).mono fun _ _ ⟨q1, hb⟩ => ⟨_, by rw [errc_not (by decide)] at q1; exact q1, hb⟩
  sbad := fun n a m cap q root u _ hH _ h => (tspans_any n a m cap q root 1 u hH h).mono fun _ _ ⟨la, k, lc, s, ha, k', hc, g, q1, _, _, _, _, hb⟩ => ⟨_, _, by rw [errc_not (by decide)] at q1; exact q1, hb⟩
  spans := fun n a m cap q r u _ hH h hr hn => (tspans_any n a m cap q r 0 u hH h).mono fun _ _ ⟨la, k, lc, s, ha, k', hc, g, q1, q2, q3, _, q4, hb⟩ => by
    obtain ⟨e1, e2, e3⟩ := q4 rfl
    rw [Int.toNat_natCast] at e1 e2
    rw [Int.toNat_natCast, Int.toNat_natCast] at e3
    subst e1
    subst e2
    rw [errc_zero] at q1
    exact ⟨la, lc, ha, hc, q1, q2.same (fun i hi => (e3 i hi).1), q3.same (fun i hi => (e3 i hi).2), hb⟩
  meet := fun a n cap q x u _ hH h1 h40 h => by
    have ok : ∀ i, i < n → (q i).1 ≤ (q i).2 := fun i hi => (okB_t (h i hi).1).1
    have hv : vE q n = 0 := vE_ok (by omega) h40 (fun i hi => (h i hi).1)
    have ca : (n : Int) ≤ cnt q n x := (cnt_all q x n).2 (fun i hi => (inn_one _ _).2 (h i hi).2)
    rcases safe_exists ok (by omega) (K := (n : Int)) (by omega) with c | ⟨lo, hi, hs⟩
    · have := c x
      omega
    · have hb := hs.all x ca
      have l1 := (cnt_all q lo n).1 (by have := hs.first; omega)
      have l2 := (cnt_all q hi n).1 (by have := hs.last; omega)
      have o := okB_t (h 0 (by omega)).1
      have i1 := (inn_one _ _).1 (l1 0 (by omega))
      have i2 := (inn_one _ _).1 (l2 0 (by omega))
      refine (vmeet_any a n cap q lo hi 0 u hH (Or.inr (Or.inr (Or.inr ⟨hv, by omega, by omega, rfl, by rw [Int.sub_zero]; exact hs⟩)))).mono fun _ _ ⟨q1, hb'⟩ => ⟨lo, hi, by rw [errn_zero] at q1; exact q1, hb.1, hb.2, okB_mk ⟨by omega, by omega, by omega⟩, hb'⟩
  has := fun lo hi x u h h1 h2 => has_yes lo hi x u h h1 h2
  off := fun u => by
    have := off_ok 0 100 100 10 0 u (by decide)
    exact this
end Go.Proofs.YthejaecljkjliaiGreatDoor
