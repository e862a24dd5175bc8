/- What package tree's grow and Parents answer. -/
import Derived.Test.YtjdeeeefapijeaeDoorTreeAdd
import Derived.Test.YtjdeeeefapijeaeDoorTreeGrR
import Derived.Test.YtjdeeeefapijeaeDoorBoundsChk
namespace Go.Proofs.YtjdeeeefapijeaeDoor
open Go.ChangeShapes Go.WideShapes Go.ChangeAt Go.RowKit Go.Joins
set_option linter.unusedVariables false
set_option linter.unusedSimpArgs false

set_option maxRecDepth 100000 in
set_option maxHeartbeats 8000000 in
theorem grow_bad (z : Int) (a : Option Addr) (m cap : Nat) (q : Nat → Eg) (root : Int) (w : World) (hH : EHanded w a m q) (h0 : eE z q m ≠ 0) :
    Calls Tryd.prog 40 #[.int .i64 z, .slice a m cap, .int .i64 root] w fun e w' => e = .returned (.tuple #[.agg #[.slice none 0 0, .slice none 0 0], errc (eE z q m)]) ∧ Below w.heap.size w w' := by
  have cC := fun u (hu : Below w.heap.size w u) => check_any z a m cap q u (hH.on hu)
  rw [errc_not h0] at cC ⊢
  clear h0 hH
  generalize eE z q m = er at *
  go_enter Tryd.func40, Tryd.ntmps40
  go_wp2_with (go_at_call 27; refine (cC _ (rbel_al (Below.refl _ _))).mono ?_; rintro e u0 ⟨rfl, hb⟩; have HB : Hid _ := hb; have r := Row.on hb (Row.made (W := w) (vs := [.slice none 0 0, .slice none 0 0]) rfl); have r0 := r.c 0 _ rfl; have r1 := r.c 1 _ rfl; have f0 := r.f 0 _ rfl; have f1 := r.f 1 _ rfl; clear hb r)
  exact bodyPost_ret (v := .tuple #[.agg #[.slice none 0 0, .slice none 0 0], .iface 72 (.int .i64 er)]) (by simp [results, Tryd.results40, go_sem, *]) rfl ⟨rfl, rbel_put (Nat.le_refl _) (rbel_put (Nat.le_refl _) (rbel_on HB.out (rbel_al (Below.refl _ _))))⟩
set_option maxRecDepth 100000 in
set_option maxHeartbeats 8000000 in
theorem grow_no (z : Int) (a : Option Addr) (m cap : Nat) (q : Nat → Eg) (root : Int) (w : World) (hH : EHanded w a m q) (h0 : eE z q m = 0) (hr : root < 0 ∨ (¬ root < 0 ∧ z ≤ root)) :
    Calls Tryd.prog 40 #[.int .i64 z, .slice a m cap, .int .i64 root] w fun e w' => e = .returned (.tuple #[.agg #[.slice none 0 0, .slice none 0 0], errc 1]) ∧ Below w.heap.size w w' := by
  have cC := fun u (hu : Below w.heap.size w u) => check_any z a m cap q u (hH.on hu)
  rw [h0, errc_zero] at cC
  rw [errc_not (by decide)]
  clear h0 hH
  rcases hr with d1 | ⟨d1, d2⟩
  all_goals
    go_enter Tryd.func40, Tryd.ntmps40
    go_wp2_with (go_at_call 27; refine (cC _ (rbel_al (Below.refl _ _))).mono ?_; rintro e u0 ⟨rfl, hb⟩; have HB : Hid _ := hb; have r := Row.on hb (Row.made (W := w) (vs := [.slice none 0 0, .slice none 0 0]) rfl); have r0 := r.c 0 _ rfl; have r1 := r.c 1 _ rfl; have f0 := r.f 0 _ rfl; have f1 := r.f 1 _ rfl; clear hb r)
    exact bodyPost_ret (v := .tuple #[.agg #[.slice none 0 0, .slice none 0 0], .iface 72 (.int .i64 1)]) (by simp [results, Tryd.results40, go_sem, *]) rfl ⟨rfl, rbel_put (Nat.le_refl _) (rbel_put (Nat.le_refl _) (rbel_on HB.out (rbel_al (Below.refl _ _))))⟩
set_option maxRecDepth 100000 in
set_option maxHeartbeats 8000000 in
theorem grow_good (n : Nat) (a : Option Addr) (m cap : Nat) (q : Nat → Eg) (r : Nat) (w : World) (hH : EHanded w a m q) (h0 : eE n q m = 0) (hr : r < n) :
    Calls Tryd.prog 40 #[.int .i64 n, .slice a m cap, .int .i64 r] w fun e w' => GrR q m n r w e w' := by
  have hE : Egs n q m := eE_zero h0
  have h6 : n ≤ 6 := by have := hE.n6; omega
  have cC := fun u (hu : Below w.heap.size w u) => check_any n a m cap q u (hH.on hu)
  rw [h0, errc_zero] at cC
  have cR := fun g (u : World) (hc : u.cell? ⟨g, 0, none⟩ = some (.int .i64 (-1))) => repeat_any n g u (by omega) h6 hc
  have HE : Hid (Egs n q m) := hE
  have HH : Hid (EHanded w a m q) := hH
  have d1 : ¬ ((r : Int) < 0) := by omega
  have d2 : ¬ ((n : Int) ≤ (r : Int)) := by omega
  clear hE hH h0
  go_enter Tryd.func40, Tryd.ntmps40
  go_wp2_with (first
    | (go_at_call 27; refine (cC _ (rbel_al (Below.refl _ _))).mono ?_; rintro e u0 ⟨rfl, hb⟩; have HB : Hid _ := hb; have hz0 : w.heap.size < u0.heap.size := (by have := hb.size; simp at this; omega); have RR : Hid (Row u0 w.heap.size [.slice none 0 0, .slice none 0 0]) := Row.on hb (Row.made (W := w) (vs := [.slice none 0 0, .slice none 0 0]) rfl); clear hb)
    | (go_at_call 60; refine (cR _ _ (by simp)).mono ?_; rintro e u1 ⟨rfl, hK, hb⟩; have HK : Hid _ := hK; have HB1 : Hid _ := hb; clear hK hb))
  have GR : Hid (Gro (u1.alloc (.cells #[.slice (some ⟨u0.heap.size, 0, none⟩) 1 1, .slice (some ⟨u0.heap.size + 1 + 1, 0, none⟩) n n] 85)) u0.heap.size u1.heap.size (u0.heap.size + 1 + 1) n (rootT r) (.slice (some ⟨u0.heap.size, 0, none⟩) 1 1)) := by
    have sz := HB1.out.size
    simp at sz
    refine ⟨Blk.made rfl, ?_, ?_, ?_, by omega, by omega⟩
    · have := HK.out
      rw [fiR_all n r] at this
      simp at this
      exact Blk.al (show Blk u1 3 (u0.heap.size + 1 + 1) (byR n (rootT r)) from this)
    · have h := own_new (base := u0.heap.size) (W := u0) (e := 3) (x := .int .i64 (r : Nat)) (Nat.le_refl _)
      exact own_onG (rbel_al (rbel_on HB1.out (rbel_al (Below.refl _ _)))) h
    · show some u0.heap.size ≠ some (u0.heap.size + 1 + 1)
      intro h
      have := Option.some.inj h
      omega
  have W0 : Hid (Below u0.heap.size u0 (u1.alloc (.cells #[.slice (some ⟨u0.heap.size, 0, none⟩) 1 1, .slice (some ⟨u0.heap.size + 1 + 1, 0, none⟩) n n] 85))) := rbel_al (rbel_on HB1.out (rbel_al (rbel_al (Below.refl _ _))))
  have HH0 : Hid (EHanded u0 a m q) := HH.out.on (rbel_on HB.out (rbel_al (Below.refl _ _)))
  have HB0 : Hid (Below w.heap.size w u0) := rbel_on HB.out (rbel_al (Below.refl _ _))
  clear HK HB1 cC cR HH HB
  generalize u1.heap.size = p at *
  generalize u0.heap.size + 1 + 1 = gb at *
  go_loopw [10] (fun vi wr => ∃ (i : Nat) (v : Value), i ≤ n ∧ vi = .int .i64 i ∧ i ≤ (outT q m r i).row.length ∧ Gro wr u0.heap.size p gb n (outT q m r i) v ∧ Below u0.heap.size u0 wr) (fun vi _ => n - (intOf vi).toNat)
  case atStart => exact ⟨0, _, Nat.zero_le _, rfl, Nat.zero_le _, GR.out, W0.out⟩
  case round =>
    clear GR W0
    obtain ⟨i, v, hi, rfl, hil, hG, hw⟩ := hrel
    have inv := out_inv HE.out hr i
    have ln := nodup_le inv.nodup inv.lt
    have l0 : 0 < (outT q m r i).row.length := (List.getElem?_eq_some_iff.1 inv.head).1
    obtain ⟨g, cap1, rfl, gb1, gl, gc, cl⟩ := own_form hG.row l0
    have c0 := hG.st.c 0 _ rfl
    have c1 := hG.st.c 1 _ rfl
    by_cases hlt : i < (outT q m r i).row.length
    · have hl3 : (i : Int) < ((outT q m r i).row.length : Nat) := by omega
      obtain ⟨x, hx⟩ : ∃ x, (outT q m r i).row[i]? = some x := ⟨_, List.getElem?_eq_getElem hlt⟩
      have eo : Hid (outT q m r (i + 1) = innT q x m (outT q m r i)) := by show outT q m r (i + 1) = _; simp only [outT]; rw [hx]
      have x0 := cl i _ (roR_at hx)
      have cA := addFrom_any n a m cap q r x i p gb (outT q m r i) _ u0 wr HE.out HH0.out hw hG inv hx
      have HI : Hid (i + 1 ≤ (outT q m r (i + 1)).row.length) := by
        show i + 1 ≤ _
        rw [eo.out]
        obtain ⟨l, e⟩ := inn_pre (q := q) (x := x) (t := outT q m r i) m
        rw [e, List.length_append]
        omega
      clear hG hw inv cl hx HH0
      generalize (outT q m r i).row.length = L at *
      go_wp2_with (go_at_call 61; refine cA.mono ?_; rintro e u2 ⟨rfl, hv, hb⟩; have HV : Hid _ := hv; have HB2 : Hid _ := hb; clear hv hb)
      go_roundw
      case rel =>
        obtain ⟨v', hG'⟩ := HV.out
        exact ⟨i + 1, v', by omega, by go_num, HI.out, by rw [eo.out]; exact hG', HB2.out⟩
      case measure => simp [intOf]; omega
    · have hl3 : ¬ ((i : Int) < ((outT q m r i).row.length : Nat)) := by omega
      have et : treeT q m n r = outT q m r i := by
        unfold treeT
        rw [show n = i + (n - i) by omega]
        exact out_stay (by omega) (n - i)
      have rr := Row.on hw RR.out
      have r0 := rr.c 0 _ rfl
      have r1 := rr.c 1 _ rfl
      have f0 := rr.f 0 _ rfl
      have f1 := rr.f 1 _ rfl
      have w1 := hw.size
      have gw : g ≠ w.heap.size := by omega
      have gbw : w.heap.size ≠ gb := by have := hG.sg; omega
      have HR : Hid (GrR q m n r w (.returned (.tuple #[.agg #[.slice (some ⟨g, 0, none⟩) (outT q m r i).row.length cap1, .slice (some ⟨gb, 0, none⟩) n n], .nilIface])) ((wr.setCell ⟨w.heap.size, 0, none⟩ (.slice (some ⟨g, 0, none⟩) (outT q m r i).row.length cap1)).setCell ⟨w.heap.size, 1, none⟩ (.slice (some ⟨gb, 0, none⟩) n n))) := by
        show GrR _ _ _ _ _ _ _
        unfold GrR
        rw [et]
        exact ⟨g, cap1, gb, rfl, ((nod_of cl).far gw.symm).far gw.symm, gc, (hG.byB.far gbw.symm).far gbw.symm, rbel_put (Nat.le_refl _) (rbel_put (Nat.le_refl _) (rbel_on hw HB0.out))⟩
      clear hG hw inv cl et HH0
      generalize (outT q m r i).row.length = L at *
      go_wp2
      exact bodyPost_ret (v := .tuple #[.agg #[.slice (some ⟨g, 0, none⟩) L cap1, .slice (some ⟨gb, 0, none⟩) n n], .nilIface]) (by simp [results, Tryd.results40, go_sem, *]) rfl HR.out
end Go.Proofs.YtjdeeeefapijeaeDoor
