/- What package tree's grow and Parents answer. What package vote answers: Safe, Meet. -/
import Derived.Test.YthejaecljkjliaiGreatDoorTreeAdd
import Derived.Test.YthejaecljkjliaiGreatDoorNm16
import Derived.Test.YthejaecljkjliaiGreatDoorNm17
import Derived.Test.YthejaecljkjliaiGreatDoorNm19
namespace Go.Proofs.YthejaecljkjliaiGreatDoor
open Go.ChangeShapes Go.WideShapes Go.ChangeAt Go.RowKit Go.Joins
set_option linter.unusedVariables false
set_option linter.unusedSimpArgs false

set_option maxRecDepth 100000 in
set_option maxHeartbeats 8000000 in
theorem grow_bad (z : Int) (a : Option Addr) (m cap : Nat) (q : Nat → Eg) (root : Int) (w : World) (hH : EHanded w a m q) (h0 : eE z q m ≠ 0) :
    Calls Tryz.prog 44 #[.int .i64 z, .slice a m cap, .int .i64 root] w fun e w' => e = .returned (.tuple #[.agg #[.slice none 0 0, .slice none 0 0], errc (eE z q m)]) ∧ Below w.heap.size w w' := by
  have cC := fun u (hu : Below w.heap.size w u) => check_any z a m cap q u (hH.on hu)
  rw [errc_not h0] at cC ⊢
  clear h0 hH
  generalize eE z q m = er at *
  go_enter Tryz.func44, Tryz.ntmps44
  go_wp2_with (go_at_call 42; refine (cC _ (rbel_al (Below.refl _ _))).mono ?_; rintro e u0 ⟨rfl, hb⟩; have HB : Hid _ := hb; have r := Row.on hb (Row.made (W := w) (vs := [.slice none 0 0, .slice none 0 0]) rfl); have r0 := r.c 0 _ rfl; have r1 := r.c 1 _ rfl; have f0 := r.f 0 _ rfl; have f1 := r.f 1 _ rfl; clear hb r)
  exact bodyPost_ret (v := .tuple #[.agg #[.slice none 0 0, .slice none 0 0], .iface 85 (.int .i64 er)]) (by simp [results, Tryz.results44, go_sem, *]) rfl ⟨rfl, rbel_put (Nat.le_refl _) (rbel_put (Nat.le_refl _) (rbel_on HB.out (rbel_al (Below.refl _ _))))⟩
set_option maxRecDepth 100000 in
set_option maxHeartbeats 8000000 in
theorem grow_no (z : Int) (a : Option Addr) (m cap : Nat) (q : Nat → Eg) (root : Int) (w : World) (hH : EHanded w a m q) (h0 : eE z q m = 0) (hr : root < 0 ∨ (¬ root < 0 ∧ z ≤ root)) :
    Calls Tryz.prog 44 #[.int .i64 z, .slice a m cap, .int .i64 root] w fun e w' => e = .returned (.tuple #[.agg #[.slice none 0 0, .slice none 0 0], errc 1]) ∧ Below w.heap.size w w' := by
  have cC := fun u (hu : Below w.heap.size w u) => check_any z a m cap q u (hH.on hu)
  rw [h0, errc_zero] at cC
  rw [errc_not (by decide)]
  clear h0 hH
  rcases hr with d1 | ⟨d1, d2⟩
  all_goals
    go_enter Tryz.func44, Tryz.ntmps44
    go_wp2_with (go_at_call 42; refine (cC _ (rbel_al (Below.refl _ _))).mono ?_; rintro e u0 ⟨rfl, hb⟩; have HB : Hid _ := hb; have r := Row.on hb (Row.made (W := w) (vs := [.slice none 0 0, .slice none 0 0]) rfl); have r0 := r.c 0 _ rfl; have r1 := r.c 1 _ rfl; have f0 := r.f 0 _ rfl; have f1 := r.f 1 _ rfl; clear hb r)
    exact bodyPost_ret (v := .tuple #[.agg #[.slice none 0 0, .slice none 0 0], .iface 85 (.int .i64 1)]) (by simp [results, Tryz.results44, go_sem, *]) rfl ⟨rfl, rbel_put (Nat.le_refl _) (rbel_put (Nat.le_refl _) (rbel_on HB.out (rbel_al (Below.refl _ _))))⟩
set_option maxRecDepth 100000 in
set_option maxHeartbeats 8000000 in
theorem grow_good (n : Nat) (a : Option Addr) (m cap : Nat) (q : Nat → Eg) (r : Nat) (w : World) (hH : EHanded w a m q) (h0 : eE n q m = 0) (hr : r < n) :
    Calls Tryz.prog 44 #[.int .i64 n, .slice a m cap, .int .i64 r] w fun e w' => GrR q m n r w e w' := by
  have hE : Egs n q m := eE_zero h0
  have h6 : n ≤ 6 := by have := hE.n6; omega
  have cC := fun u (hu : Below w.heap.size w u) => check_any n a m cap q u (hH.on hu)
  rw [h0, errc_zero] at cC
  have cR := fun g (u : World) (hc : u.cell? ⟨g, 0, none⟩ = some (.int .i64 (-1))) => repeat_any n g u (by omega) h6 hc
  have HE : Hid (Egs n q m) := hE
  have HH : Hid (EHanded w a m q) := hH
  have d1 : ¬ ((r : Int) < 0) := by omega
  have d2 : ¬ ((n : Int) ≤ (r : Int)) := by omega
  clear hE hH h0
  go_enter Tryz.func44, Tryz.ntmps44
  go_wp2_with (first
    | (go_at_call 42; refine (cC _ (rbel_al (Below.refl _ _))).mono ?_; rintro e u0 ⟨rfl, hb⟩; have HB : Hid _ := hb; have hz0 : w.heap.size < u0.heap.size := (by have := hb.size; simp at this; omega); have RR : Hid (Row u0 w.heap.size [.slice none 0 0, .slice none 0 0]) := Row.on hb (Row.made (W := w) (vs := [.slice none 0 0, .slice none 0 0]) rfl); clear hb)
    | (go_at_call 77; refine (cR _ _ (by simp)).mono ?_; rintro e u1 ⟨rfl, hK, hb⟩; have HK : Hid _ := hK; have HB1 : Hid _ := hb; clear hK hb))
  have GR : Hid (Gro (u1.alloc (.cells #[.slice (some ⟨u0.heap.size, 0, none⟩) 1 1, .slice (some ⟨u0.heap.size + 1 + 1, 0, none⟩) n n] 121)) u0.heap.size u1.heap.size (u0.heap.size + 1 + 1) n (rootT r) (.slice (some ⟨u0.heap.size, 0, none⟩) 1 1)) := by
    have sz := HB1.out.size
    simp at sz
    refine ⟨Blk.made rfl, ?_, ?_, ?_, by omega, by omega⟩
    · have := HK.out
      rw [fiR_all n r] at this
      simp at this
      exact Blk.al (show Blk u1 3 (u0.heap.size + 1 + 1) (byR n (rootT r)) from this)
    · have h := own_new (base := u0.heap.size) (W := u0) (e := 3) (x := .int .i64 (r : Nat)) (Nat.le_refl _)
      exact own_onG (rbel_al (rbel_on HB1.out (rbel_al (Below.refl _ _)))) h
    · show some u0.heap.size ≠ some (u0.heap.size + 1 + 1)
      intro h
      have := Option.some.inj h
      omega
  have W0 : Hid (Below u0.heap.size u0 (u1.alloc (.cells #[.slice (some ⟨u0.heap.size, 0, none⟩) 1 1, .slice (some ⟨u0.heap.size + 1 + 1, 0, none⟩) n n] 121))) := rbel_al (rbel_on HB1.out (rbel_al (rbel_al (Below.refl _ _))))
  have HH0 : Hid (EHanded u0 a m q) := HH.out.on (rbel_on HB.out (rbel_al (Below.refl _ _)))
  have HB0 : Hid (Below w.heap.size w u0) := rbel_on HB.out (rbel_al (Below.refl _ _))
  clear HK HB1 cC cR HH HB
  generalize u1.heap.size = p at *
  generalize u0.heap.size + 1 + 1 = gb at *
  go_loopw [10] (fun vi wr => ∃ (i : Nat) (v : Value), i ≤ n ∧ vi = .int .i64 i ∧ i ≤ (outT q m r i).row.length ∧ Gro wr u0.heap.size p gb n (outT q m r i) v ∧ Below u0.heap.size u0 wr) (fun vi _ => n - (intOf vi).toNat)
  case atStart => exact ⟨0, _, Nat.zero_le _, rfl, Nat.zero_le _, GR.out, W0.out⟩
  case round =>
    clear GR W0
    obtain ⟨i, v, hi, rfl, hil, hG, hw⟩ := hrel
    have inv := out_inv HE.out hr i
    have ln := nodup_le inv.nodup inv.lt
    have l0 : 0 < (outT q m r i).row.length := (List.getElem?_eq_some_iff.1 inv.head).1
    obtain ⟨g, cap1, rfl, gb1, gl, gc, cl⟩ := own_form hG.row l0
    have c0 := hG.st.c 0 _ rfl
    have c1 := hG.st.c 1 _ rfl
    by_cases hlt : i < (outT q m r i).row.length
    · have hl3 : (i : Int) < ((outT q m r i).row.length : Nat) := by omega
      obtain ⟨x, hx⟩ : ∃ x, (outT q m r i).row[i]? = some x := ⟨_, List.getElem?_eq_getElem hlt⟩
      have eo : Hid (outT q m r (i + 1) = innT q x m (outT q m r i)) := by show outT q m r (i + 1) = _; simp only [outT]; rw [hx]
      have x0 := cl i _ (roR_at hx)
      have cA := addFrom_any n a m cap q r x i p gb (outT q m r i) _ u0 wr HE.out HH0.out hw hG inv hx
      have HI : Hid (i + 1 ≤ (outT q m r (i + 1)).row.length) := by
        show i + 1 ≤ _
        rw [eo.out]
        obtain ⟨l, e⟩ := inn_pre (q := q) (x := x) (t := outT q m r i) m
        rw [e, List.length_append]
        omega
      clear hG hw inv cl hx HH0
      generalize (outT q m r i).row.length = L at *
      go_wp2_with (go_at_call 78; refine cA.mono ?_; rintro e u2 ⟨rfl, hv, hb⟩; have HV : Hid _ := hv; have HB2 : Hid _ := hb; clear hv hb)
      go_roundw
      case rel =>
        obtain ⟨v', hG'⟩ := HV.out
        exact ⟨i + 1, v', by omega, by go_num, HI.out, by rw [eo.out]; exact hG', HB2.out⟩
      case measure => simp [intOf]; omega
    · have hl3 : ¬ ((i : Int) < ((outT q m r i).row.length : Nat)) := by omega
      have et : treeT q m n r = outT q m r i := by
        unfold treeT
        rw [show n = i + (n - i) by omega]
        exact out_stay (by omega) (n - i)
      have rr := Row.on hw RR.out
      have r0 := rr.c 0 _ rfl
      have r1 := rr.c 1 _ rfl
      have f0 := rr.f 0 _ rfl
      have f1 := rr.f 1 _ rfl
      have w1 := hw.size
      have gw : g ≠ w.heap.size := by omega
      have gbw : w.heap.size ≠ gb := by have := hG.sg; omega
      have HR : Hid (GrR q m n r w (.returned (.tuple #[.agg #[.slice (some ⟨g, 0, none⟩) (outT q m r i).row.length cap1, .slice (some ⟨gb, 0, none⟩) n n], .nilIface])) ((wr.setCell ⟨w.heap.size, 0, none⟩ (.slice (some ⟨g, 0, none⟩) (outT q m r i).row.length cap1)).setCell ⟨w.heap.size, 1, none⟩ (.slice (some ⟨gb, 0, none⟩) n n))) := by
        show GrR _ _ _ _ _ _ _
        unfold GrR
        rw [et]
        exact ⟨g, cap1, gb, rfl, ((nod_of cl).far gw.symm).far gw.symm, gc, (hG.byB.far gbw.symm).far gbw.symm, rbel_put (Nat.le_refl _) (rbel_put (Nat.le_refl _) (rbel_on hw HB0.out))⟩
      clear hG hw inv cl et HH0
      generalize (outT q m r i).row.length = L at *
      go_wp2
      exact bodyPost_ret (v := .tuple #[.agg #[.slice (some ⟨g, 0, none⟩) L cap1, .slice (some ⟨gb, 0, none⟩) n n], .nilIface]) (by simp [results, Tryz.results44, go_sem, *]) rfl HR.out
end Go.Proofs.YthejaecljkjliaiGreatDoor
namespace Go.Proofs.YthejaecljkjliaiGreatDoor
open Go.ChangeShapes Go.WideShapes Go.ChangeAt Go.RowKit
set_option linter.unusedVariables false
set_option linter.unusedSimpArgs false

theorem not_f {x : Bool} (h : (!x) = true) : x = false := by simpa using h
theorem not_t {x : Bool} (h : (!x) = false) : x = true := by simpa using h
theorem not_n {x : Bool} (h : ¬ (!x) = true) : x = true := by simpa using h

set_option maxHeartbeats 1000000 in
theorem safe_no (a : Option Addr) (n cap : Nat) (d e : Int) (w : World) (he : e ≠ 0) (cC : ∀ u, Below w.heap.size w u → Calls Tryz.prog 81 #[.slice a n cap] u fun x w' => x = .returned (.iface 85 (.int .i64 e)) ∧ Below u.heap.size u w') :
    Calls Tryz.prog 47 #[.slice a n cap, .int .i64 d] w fun x w' => x = .returned (.tuple #[.agg #[.int .i64 0, .int .i64 0], .iface 85 (.int .i64 e)]) ∧ Below w.heap.size w w' := by
  go_enter Tryz.func47, Tryz.ntmps47
  go_wp2_with (go_at_call 81; refine (cC _ (rbel_al (rbel_al (rbel_al (Below.refl _ _))))).mono ?_; rintro e u0 ⟨rfl, hb⟩; have hw : Below w.heap.size w u0 := rbel_on hb (rbel_al (rbel_al (rbel_al (Below.refl _ _)))); have PR : Row u0 (w.heap.size + 2) [.int .i64 0, .int .i64 0] := Row.on hb (Row.made (by simp)); have cR0 := PR.c 0 _ rfl; have cR1 := PR.c 1 _ rfl; have fR0 := PR.f 0 _ rfl; have fR1 := PR.f 1 _ rfl; have zR := PR.lt)
  exact bodyPost_ret (v := _) (by simp [results, Tryz.results47, go_sem, *]) rfl ⟨rfl, by (repeat (first | assumption | refine Below.setCell ?_ (by first | (simp; done) | (simp; omega) | omega) _ | apply Below.drew))⟩

set_option maxHeartbeats 1000000 in
theorem safe_out (a : Option Addr) (n cap : Nat) (d : Int) (w : World) (hn : n ≤ 40) (hd : d < 0 ∨ (n : Int) ≤ d) (cC : ∀ u, Below w.heap.size w u → Calls Tryz.prog 81 #[.slice a n cap] u fun x w' => x = .returned .nilIface ∧ Below u.heap.size u w') :
    Calls Tryz.prog 47 #[.slice a n cap, .int .i64 d] w fun x w' => x = .returned (.tuple #[.agg #[.int .i64 0, .int .i64 0], .iface 85 (.int .i64 1)]) ∧ Below w.heap.size w w' := by
  by_cases c1 : d < 0
  · clear hd
    go_enter Tryz.func47, Tryz.ntmps47
    go_wp2_with (go_at_call 81; refine (cC _ (rbel_al (rbel_al (rbel_al (Below.refl _ _))))).mono ?_; rintro e u0 ⟨rfl, hb⟩; have hw : Below w.heap.size w u0 := rbel_on hb (rbel_al (rbel_al (rbel_al (Below.refl _ _)))); have PR : Row u0 (w.heap.size + 2) [.int .i64 0, .int .i64 0] := Row.on hb (Row.made (by simp)); have PD : Row u0 (w.heap.size + 1) [.int .i64 d] := Row.on hb (Row.al (Row.made (by simp))); have PL : Row u0 w.heap.size [.slice a n cap] := Row.on hb (Row.al (Row.al (Row.made (by simp)))); have cL0 := PL.c 0 _ rfl; have cD0 := PD.c 0 _ rfl; have cR0 := PR.c 0 _ rfl; have cR1 := PR.c 1 _ rfl; have fR0 := PR.f 0 _ rfl; have fR1 := PR.f 1 _ rfl; have zR := PR.lt)
    exact bodyPost_ret (v := _) (by simp [results, Tryz.results47, go_sem, *]) rfl ⟨rfl, by (repeat (first | assumption | refine Below.setCell ?_ (by first | (simp; done) | (simp; omega) | omega) _ | apply Below.drew))⟩
  · have c2 : (n : Int) ≤ d := by omega
    clear hd
    go_enter Tryz.func47, Tryz.ntmps47
    go_wp2_with (go_at_call 81; refine (cC _ (rbel_al (rbel_al (rbel_al (Below.refl _ _))))).mono ?_; rintro e u0 ⟨rfl, hb⟩; have hw : Below w.heap.size w u0 := rbel_on hb (rbel_al (rbel_al (rbel_al (Below.refl _ _)))); have PR : Row u0 (w.heap.size + 2) [.int .i64 0, .int .i64 0] := Row.on hb (Row.made (by simp)); have PD : Row u0 (w.heap.size + 1) [.int .i64 d] := Row.on hb (Row.al (Row.made (by simp))); have PL : Row u0 w.heap.size [.slice a n cap] := Row.on hb (Row.al (Row.al (Row.made (by simp)))); have cL0 := PL.c 0 _ rfl; have cD0 := PD.c 0 _ rfl; have cR0 := PR.c 0 _ rfl; have cR1 := PR.c 1 _ rfl; have fR0 := PR.f 0 _ rfl; have fR1 := PR.f 1 _ rfl; have zR := PR.lt)
    exact bodyPost_ret (v := _) (by simp [results, Tryz.results47, go_sem, *]) rfl ⟨rfl, by (repeat (first | assumption | refine Below.setCell ?_ (by first | (simp; done) | (simp; omega) | omega) _ | apply Below.drew))⟩

set_option maxHeartbeats 4000000 in
theorem safe_told_ok (b off n cap : Nat) (q : Nat → Int × Int) (d : Int) (w : World) (h0 : 0 < n) (h40 : n ≤ 40) (hP : Sps w b off n q) (ok : ∀ i, i < n → okB (q i).1 (q i).2 = true) (hd : 0 ≤ d) (hdn : d < n) :
    Calls Tryz.prog 47 #[.slice (some ⟨b, off, none⟩) n cap, .int .i64 d] w fun x w' => (((∀ y, cnt q n y < n - d) ∧ x = .returned (.tuple #[.agg #[.int .i64 0, .int .i64 0], .iface 85 (.int .i64 7)])) ∨
      ∃ lo hi, IsSafe (cnt q n) (n - d) lo hi ∧ x = .returned (.tuple #[.agg #[.int .i64 lo, .int .i64 hi], .nilIface])) ∧ Below w.heap.size w w' := by
  have hmf : ∀ (fn : Go.Fn) (first cap : Array Value) (w : World), (Instr.makeFunc fn first cap).run Tryz.prog w = .ok (.func fn first cap) w := fun _ _ _ _ => rfl
  have cC : ∀ u, Below w.heap.size w u → Calls Tryz.prog 81 #[.slice (some ⟨b, off, none⟩) n cap] u fun x w' => x = .returned .nilIface ∧ Below u.heap.size u w' := fun u hu => vcheck_any b off n cap n q .nilIface u h0 h40 (hP.on hu) (Nat.le_refl _) ok (Or.inl ⟨rfl, rfl⟩)
  have cW : ∀ (A B : Nat) u, A + 2 < B → Below w.heap.size w u → B + 2 = u.heap.size → SafeIn A (A + 1) (B + 1) B (.slice (some ⟨b, off, none⟩) n cap) d (0, 0, false) u → Calls Tryz.prog 82 #[.slice (some ⟨b, off, none⟩) n cap, .func (.func 83) #[] #[.pointer (some ⟨A, 0, none⟩), .pointer (some ⟨A + 1, 0, none⟩), .pointer (some ⟨B + 1, 0, none⟩), .pointer (some ⟨B, 0, none⟩)]] u
      fun e w' => e = .returned (.tuple #[]) ∧ ∃ L, Steps q n L ∧ SafeIn A (A + 1) (B + 1) B (.slice (some ⟨b, off, none⟩) n cap) d (toldBy (safeT (n - d)) (0, 0, false) L (2 * n - 1)) w' ∧ Keeps (fun b => b = B + 1 ∨ b = B) u w' := fun A B u h1 hu h2 hI =>
    walk_safe (safeT (n - d)) (SafeIn A (A + 1) (B + 1) B (.slice (some ⟨b, off, none⟩) n cap) d) (fun b => b = B + 1 ∨ b = B) _ _ _ _ b off n cap q (0, 0, false) u h0 h40 (hP.on hu) ok (fun st u u' h hb => h.on hb) (fun k hk => by omega) hI (fun st lo hi k u h x1 x2 x3 => safe1 A (A + 1) (B + 1) B n cap _ d (by omega) (by omega) (by omega) (by omega) (by omega) st lo hi k u h h40 hd hdn)
  have okk := fun i hi => (okB_t (ok i hi)).1
  clear hP ok
  go_enter Tryz.func47, Tryz.ntmps47
  go_wp2_with (first
    | (go_at_call 81; refine (cC _ (rbel_al (rbel_al (rbel_al (Below.refl _ _))))).mono ?_; rintro e u0 ⟨rfl, hb⟩; have hw : Below w.heap.size w u0 := rbel_on hb (rbel_al (rbel_al (rbel_al (Below.refl _ _)))); have PR : Row u0 (w.heap.size + 2) [.int .i64 0, .int .i64 0] := Row.on hb (Row.made (by simp)); have PD : Row u0 (w.heap.size + 1) [.int .i64 d] := Row.on hb (Row.al (Row.made (by simp))); have PL : Row u0 w.heap.size [.slice (some ⟨b, off, none⟩) n cap] := Row.on hb (Row.al (Row.al (Row.made (by simp)))); have cL0 := PL.c 0 _ rfl; have cD0 := PD.c 0 _ rfl; have zR := PR.lt; have y0 : w.heap.size < u0.heap.size := (by omega); have y1 : ¬ (w.heap.size = u0.heap.size) := (by omega); have y2 : ¬ (u0.heap.size = w.heap.size) := (by omega); have y3 : ¬ (w.heap.size = u0.heap.size + 1) := (by omega); have y4 : ¬ (u0.heap.size + 1 = w.heap.size) := (by omega); clear hb)
    | (go_at_call 82; refine (cW w.heap.size u0.heap.size _ zR (rbel_al (rbel_al hw)) (by simp) ⟨Row.al (Row.al PL), Row.al (Row.al PD), Row.made (by simp), Row.al (Row.made rfl)⟩).mono ?_; rintro e u1 ⟨rfl, L, hL, hI, hK⟩; have PR1 : Row u1 (w.heap.size + 2) [.int .i64 0, .int .i64 0] := hK.row (by omega) (Row.al (Row.al PR)); have hm := safe_told hL okk h0 (K := n - d) (by omega); have hw1 : Below w.heap.size w u1 := (rbel_al (rbel_al hw)).trans (hK.below (by simp; omega) (by intro k hk; omega)); have PS := hI.safe; have PF := hI.found; have cS0 := PS.c 0 _ rfl; have cS1 := PS.c 1 _ rfl; have cF0 := PF.c 0 _ rfl; have cR0 := PR1.c 0 _ rfl; have cR1 := PR1.c 1 _ rfl; have fR0 := PR1.f 0 _ rfl; have fR1 := PR1.f 1 _ rfl; have zR1 := PR1.lt; have zS := PS.lt; have zF := PF.lt; clear hI hK hL cC cW))
  · have ff : (toldBy (safeT (n - d)) (0, 0, false) L (2 * n - 1)).2.2 = false := by first | assumption | exact not_f (by assumption) | exact not_t (by assumption) | exact not_n (by assumption)
    rcases hm with ⟨e1, e2⟩ | ⟨e1, e2⟩
    · refine bodyPost_ret (v := .tuple #[.agg #[.int .i64 0, .int .i64 0], .iface 85 (.int .i64 7)]) (by simp [results, Tryz.results47, go_sem, *]) rfl ⟨Or.inl ⟨e2, rfl⟩, by (repeat (first | assumption | refine Below.setCell ?_ (by first | (simp; done) | (simp; omega) | omega) _ | apply Below.drew))⟩
    · rw [e1] at ff; cases ff
  · have ff : (toldBy (safeT (n - d)) (0, 0, false) L (2 * n - 1)).2.2 = true := by first | assumption | exact not_f (by assumption) | exact not_t (by assumption) | exact not_n (by assumption)
    rcases hm with ⟨e1, e2⟩ | ⟨e1, e2⟩
    · rw [e1] at ff; cases ff
    · refine bodyPost_ret (v := .tuple #[.agg #[.int .i64 (toldBy (safeT (n - d)) (0, 0, false) L (2 * n - 1)).1, .int .i64 (toldBy (safeT (n - d)) (0, 0, false) L (2 * n - 1)).2.1], .nilIface]) (by simp [results, Tryz.results47, go_sem, *]) rfl ⟨Or.inr ⟨_, _, e2, rfl⟩, by (repeat (first | assumption | refine Below.setCell ?_ (by first | (simp; done) | (simp; omega) | omega) _ | apply Below.drew))⟩

/-- vote.Most, as it must answer. -/

theorem safe_any (a : Option Addr) (n cap : Nat) (q : Nat → Int × Int) (d lo hi e : Int) (w : World) (hH : Handed w a n q) (hR : SafeRes q n d lo hi e) :
    Calls Tryz.prog 47 #[.slice a n cap, .int .i64 d] w fun x w' => x = .returned (.tuple #[.agg #[.int .i64 lo, .int .i64 hi], errn e]) ∧ Below w.heap.size w w' := by
  rcases hR with ⟨h, rfl, rfl, rfl⟩ | ⟨h, hd, rfl, rfl, rfl⟩ | ⟨h, hd, hdn, hx, rfl, rfl, rfl⟩ | ⟨h, hd, hdn, rfl, hs⟩
  · rw [errn_not h]
    exact safe_no a n cap d _ w h (fun u hu => by rw [← errn_not h]; exact vcheck_e a n cap q u (hH.on hu))
  · obtain ⟨h0, h40, ok⟩ := vE_zero h
    rw [errn_not (by decide)]
    exact safe_out a n cap d w h40 hd (fun u hu => by rw [← errn_zero, ← h]; exact vcheck_e a n cap q u (hH.on hu))
  · obtain ⟨h0, h40, ok⟩ := vE_zero h
    obtain ⟨b, off, rfl, hP⟩ := hH.row h0
    rw [errn_not (by decide)]
    refine (safe_told_ok b off n cap q d w h0 h40 hP ok hd hdn).mono ?_
    rintro x w' ⟨⟨_, rfl⟩ | ⟨lo', hi', hs', rfl⟩, hb⟩
    · exact ⟨rfl, hb⟩
    · have := hx lo'; have := hs'.first; omega
  · obtain ⟨h0, h40, ok⟩ := vE_zero h
    obtain ⟨b, off, rfl, hP⟩ := hH.row h0
    rw [errn_zero]
    refine (safe_told_ok b off n cap q d w h0 h40 hP ok hd hdn).mono ?_
    rintro x w' ⟨⟨hx, rfl⟩ | ⟨lo', hi', hs', rfl⟩, hb⟩
    · have := hx lo; have := hs.first; omega
    · obtain ⟨rfl, rfl⟩ := hs.same hs'
      exact ⟨rfl, hb⟩
set_option maxHeartbeats 1000000 in
theorem vmeet_of (a : Option Addr) (n cap : Nat) (lo hi : Int) (ev : Value) (w : World) (cS : ∀ u, Below w.heap.size w u → Calls Tryz.prog 47 #[.slice a n cap, .int .i64 0] u fun x w' => x = .returned (.tuple #[.agg #[.int .i64 lo, .int .i64 hi], ev]) ∧ Below u.heap.size u w') :
    Calls Tryz.prog 25 #[.slice a n cap] w fun x w' => x = .returned (.tuple #[.agg #[.int .i64 lo, .int .i64 hi], ev]) ∧ Below w.heap.size w w' := by
  go_enter Tryz.func25, Tryz.ntmps25
  go_wp2_with (go_at_call 47; refine (cS _ (rbel_al (Below.refl _ _))).mono ?_; rintro e u0 ⟨rfl, hb⟩; have hw : Below w.heap.size w u0 := rbel_on hb (rbel_al (Below.refl _ _)); have PR : Row u0 w.heap.size [.int .i64 0, .int .i64 0] := Row.on hb (Row.made rfl); have cR0 := PR.c 0 _ rfl; have cR1 := PR.c 1 _ rfl; have fR0 := PR.f 0 _ rfl; have fR1 := PR.f 1 _ rfl; have zR := PR.lt)
  exact bodyPost_ret (v := _) (by simp [results, Tryz.results25, go_sem, *]) rfl ⟨rfl, by (repeat (first | assumption | refine Below.setCell ?_ (by first | (simp; done) | (simp; omega) | omega) _ | apply Below.drew))⟩
/-- vote.Meet, as it must answer. -/
theorem vmeet_any (a : Option Addr) (n cap : Nat) (q : Nat → Int × Int) (lo hi e : Int) (w : World) (hH : Handed w a n q) (hR : SafeRes q n 0 lo hi e) :
    Calls Tryz.prog 25 #[.slice a n cap] w fun x w' => x = .returned (.tuple #[.agg #[.int .i64 lo, .int .i64 hi], errn e]) ∧ Below w.heap.size w w' :=
  vmeet_of a n cap lo hi _ w (fun u hu => safe_any a n cap q 0 lo hi e u (hH.on hu) hR)
end Go.Proofs.YthejaecljkjliaiGreatDoor
