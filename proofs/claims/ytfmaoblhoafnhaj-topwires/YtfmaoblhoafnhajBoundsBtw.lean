/- Package bounds: Between. -/
import Derived.Test.YtfmaoblhoafnhajBoundsAll
namespace Go.Proofs.Ytfmaoblhoafnhaj
open Go.ChangeShapes Go.WideShapes Go.ChangeAt Go.RowKit Go.Joins
set_option linter.unusedVariables false
set_option linter.unusedSimpArgs false

set_option maxRecDepth 100000 in
set_option maxHeartbeats 8000000 in
theorem between_bad (z : Int) (a : Option Addr) (m cap : Nat) (q : Nat → Eg) (x y : Int) (w : World) (hH : EHanded w a m q) (h0 : eE z q m ≠ 0) :
    Calls Try.prog 24 #[.int .i64 z, .slice a m cap, .int .i64 x, .int .i64 y] w fun r w' => r = .returned (.tuple #[sp 0 0, errc (eE z q m)]) ∧ Below w.heap.size w w' := by
  have cC := fun u (hu : Below w.heap.size w u) => check_any z a m cap q u (hH.on hu)
  rw [errc_not h0] at cC ⊢
  clear h0 hH
  generalize eE z q m = er at *
  go_enter Try.func24, Try.ntmps24
  go_wp2_with (go_at_call 13; refine (cC _ (rbel_al (Below.refl _ _))).mono ?_; rintro e u0 ⟨rfl, hb⟩; have HB : Hid _ := hb; have r := Row.on hb (Row.made (W := w) (vs := [.int .i64 0, .int .i64 0]) rfl); have r0 := r.c 0 _ rfl; have r1 := r.c 1 _ rfl; have f0 := r.f 0 _ rfl; have f1 := r.f 1 _ rfl; clear hb r)
  exact bodyPost_ret (v := .tuple #[sp 0 0, .iface 73 (.int .i64 er)]) (by simp [results, Try.results24, go_sem, *]) rfl ⟨rfl, rbel_put (Nat.le_refl _) (rbel_put (Nat.le_refl _) (rbel_on HB.out (rbel_al (Below.refl _ _))))⟩
set_option maxRecDepth 100000 in
set_option maxHeartbeats 8000000 in
theorem between_no (z : Int) (a : Option Addr) (m cap : Nat) (q : Nat → Eg) (x y : Int) (w : World) (hH : EHanded w a m q) (h0 : eE z q m = 0) (X Y : Bool) (hX : Hid (nodeB z x = X)) (hY : Hid (nodeB z y = Y)) (hn : X = false ∨ (X = true ∧ Y = false)) :
    Calls Try.prog 24 #[.int .i64 z, .slice a m cap, .int .i64 x, .int .i64 y] w fun r w' => r = .returned (.tuple #[sp 0 0, errc 1]) ∧ Below w.heap.size w w' := by
  have cC := fun u (hu : Below w.heap.size w u) => check_any z a m cap q u (hH.on hu)
  rw [h0, errc_zero] at cC
  rw [errc_not (by decide)]
  have cX : ∀ u, Calls Try.prog 41 #[.int .i64 z, .int .i64 x] u fun e w' => e = .returned (.bool X) ∧ w' = u := fun u => by rw [← hX.out]; exact isNode_any z x u
  have cY : ∀ u, Calls Try.prog 41 #[.int .i64 z, .int .i64 y] u fun e w' => e = .returned (.bool Y) ∧ w' = u := fun u => by rw [← hY.out]; exact isNode_any z y u
  clear h0 hH hX hY
  have cnt : Mark 0 := .mk _
  rcases hn with rfl | ⟨rfl, rfl⟩
  · go_enter Try.func24, Try.ntmps24
    go_wp2_with (first
      | (go_at_call 13; refine (cC _ (rbel_al (Below.refl _ _))).mono ?_; rintro e u0 ⟨rfl, hb⟩; have HB : Hid _ := hb; have r := Row.on hb (Row.made (W := w) (vs := [.int .i64 0, .int .i64 0]) rfl); have r0 := r.c 0 _ rfl; have r1 := r.c 1 _ rfl; have f0 := r.f 0 _ rfl; have f1 := r.f 1 _ rfl; clear hb r)
      | (go_at_call 41; refine (cX _).mono ?_; rintro e u1 ⟨rfl, hu⟩; rw [hu]; clear hu))
    exact bodyPost_ret (v := .tuple #[sp 0 0, .iface 73 (.int .i64 1)]) (by simp [results, Try.results24, go_sem, *]) rfl ⟨rfl, rbel_put (Nat.le_refl _) (rbel_put (Nat.le_refl _) (rbel_on HB.out (rbel_al (Below.refl _ _))))⟩
  · go_enter Try.func24, Try.ntmps24
    go_wp2_with (first
      | (go_at_call 13; refine (cC _ (rbel_al (Below.refl _ _))).mono ?_; rintro e u0 ⟨rfl, hb⟩; have HB : Hid _ := hb; have r := Row.on hb (Row.made (W := w) (vs := [.int .i64 0, .int .i64 0]) rfl); have r0 := r.c 0 _ rfl; have r1 := r.c 1 _ rfl; have f0 := r.f 0 _ rfl; have f1 := r.f 1 _ rfl; clear hb r)
      | (go_at_call 41; have cq : Mark 0 := cnt; refine (cX _).mono ?_; clear cq cnt; have cnt : Mark 1 := .mk _; rintro e u1 ⟨rfl, hu⟩; rw [hu]; clear hu)
      | (go_at_call 41; have cq : Mark 1 := cnt; refine (cY _).mono ?_; clear cq cnt; rintro e u1 ⟨rfl, hu⟩; rw [hu]; clear hu))
    exact bodyPost_ret (v := .tuple #[sp 0 0, .iface 73 (.int .i64 1)]) (by simp [results, Try.results24, go_sem, *]) rfl ⟨rfl, rbel_put (Nat.le_refl _) (rbel_put (Nat.le_refl _) (rbel_on HB.out (rbel_al (Below.refl _ _))))⟩
set_option maxRecDepth 100000 in
set_option maxHeartbeats 8000000 in
theorem between_all (n : Nat) (a : Option Addr) (m cap : Nat) (q : Nat → Eg) (x y : Nat) (f : Int) (T : Tb) (w : World) (hH : EHanded w a m q) (h0 : eE n q m = 0) (hx : x < n) (hy : y < n) (hA : AllA q m n f T) (lo hi e : Int)
    (hr : (f ≠ 0 ∧ lo = 0 ∧ hi = 0 ∧ e = f) ∨ (f = 0 ∧ T x y = none ∧ lo = 0 ∧ hi = 0 ∧ e = 5) ∨ (f = 0 ∧ (∃ d, T x y = some d) ∧ lo = spLo T x y ∧ hi = spHi T x y ∧ e = 0)) :
    Calls Try.prog 24 #[.int .i64 n, .slice a m cap, .int .i64 x, .int .i64 y] w fun r w' => r = .returned (.tuple #[sp lo hi, errc e]) ∧ Below w.heap.size w w' := by
  have cC := fun u (hu : Below w.heap.size w u) => check_any n a m cap q u (hH.on hu)
  have cA := fun u (hu : Below w.heap.size w u) => all_good n a m cap q f T u (hH.on hu) h0 hA
  rw [h0, errc_zero] at cC
  have hx3 : (x : Int) < n := by omega
  have hy3 : (y : Int) < n := by omega
  have cX : ∀ u, Calls Try.prog 41 #[.int .i64 n, .int .i64 x] u fun e w' => e = .returned (.bool true) ∧ w' = u := fun u => by have := isNode_any n x u; rwa [show nodeB n x = true from decide_eq_true (by omega)] at this
  have cY : ∀ u, Calls Try.prog 41 #[.int .i64 n, .int .i64 y] u fun e w' => e = .returned (.bool true) ∧ w' = u := fun u => by have := isNode_any n y u; rwa [show nodeB n y = true from decide_eq_true (by omega)] at this
  clear h0 hH hA
  have cnt : Mark 0 := .mk _
  rcases hr with ⟨hf, rfl, rfl, rfl⟩ | ⟨rfl, ht, rfl, rfl, rfl⟩ | ⟨rfl, ⟨d, ht⟩, rfl, rfl, rfl⟩
  · rw [errc_not hf]
    have HE : Hid (errc e = .iface 73 (.int .i64 e)) := errc_not hf
    clear hf
    go_enter Try.func24, Try.ntmps24
    go_wp2_with (first
      | (go_at_call 13; refine (cC _ (rbel_al (Below.refl _ _))).mono ?_; rintro e' u0 ⟨rfl, hb⟩; have HB : Hid _ := hb; have r := Row.on hb (Row.made (W := w) (vs := [.int .i64 0, .int .i64 0]) rfl); have HR : Hid _ := r; clear hb r)
      | (go_at_call 41; have cq : Mark 0 := cnt; refine (cX _).mono ?_; clear cq cnt; have cnt : Mark 1 := .mk _; rintro e' u1 ⟨rfl, hu⟩; rw [hu]; clear hu)
      | (go_at_call 41; have cq : Mark 1 := cnt; refine (cY _).mono ?_; clear cq cnt; have cnt : Mark 2 := .mk _; rintro e' u1 ⟨rfl, hu⟩; rw [hu]; clear hu)
      | (go_at_call 42; refine (cA _ (rbel_on HB.out (rbel_al (Below.refl _ _)))).mono ?_; rintro e' u2 ⟨s, h, he, _, hb⟩; rw [HE.out] at he; subst he; have HB2 : Hid _ := hb; have r := Row.on hb HR.out; have r0 := r.c 0 _ rfl; have r1 := r.c 1 _ rfl; have f0 := r.f 0 _ rfl; have f1 := r.f 1 _ rfl; clear hb r))
    exact bodyPost_ret (v := .tuple #[sp 0 0, .iface 73 (.int .i64 e)]) (by simp [results, Try.results24, go_sem, *]) rfl ⟨rfl, rbel_put (Nat.le_refl _) (rbel_put (Nat.le_refl _) (rbel_on HB2.out (rbel_on HB.out (rbel_al (Below.refl _ _)))))⟩
  · rw [errc_not (by decide)]
    have HT : Hid (T x y = none) := ht
    clear ht
    go_enter Try.func24, Try.ntmps24
    go_wp2_with (first
      | (go_at_call 13; refine (cC _ (rbel_al (Below.refl _ _))).mono ?_; rintro e' u0 ⟨rfl, hb⟩; have HB : Hid _ := hb; have r := Row.on hb (Row.made (W := w) (vs := [.int .i64 0, .int .i64 0]) rfl); have HR : Hid _ := r; clear hb r)
      | (go_at_call 41; have cq : Mark 0 := cnt; refine (cX _).mono ?_; clear cq cnt; have cnt : Mark 1 := .mk _; rintro e' u1 ⟨rfl, hu⟩; rw [hu]; clear hu)
      | (go_at_call 41; have cq : Mark 1 := cnt; refine (cY _).mono ?_; clear cq cnt; have cnt : Mark 2 := .mk _; rintro e' u1 ⟨rfl, hu⟩; rw [hu]; clear hu)
      | (go_at_call 42; refine (cA _ (rbel_on HB.out (rbel_al (Below.refl _ _)))).mono ?_; rintro e' u2 ⟨s, h, rfl, hst, hb⟩; obtain ⟨sb, so, sc, hb', ho, hc, rb, ro, rc, gb, go, gc, rfl, rfl, g1, g2⟩ := hst rfl; rw [errc_zero]; obtain ⟨q1, q2⟩ := g1 x hx; obtain ⟨p1, p2, p3⟩ := g2 x y hx hy; rw [HT.out] at p3; have p3' : u2.cell? ⟨gb x, go x + y, none⟩ = some (.bool false) := p3; have HB2 : Hid _ := hb; have r := Row.on hb HR.out; have r0 := r.c 0 _ rfl; have r1 := r.c 1 _ rfl; have f0 := r.f 0 _ rfl; have f1 := r.f 1 _ rfl; clear hb r hst g1 g2 p3))
    exact bodyPost_ret (v := .tuple #[sp 0 0, .iface 73 (.int .i64 5)]) (by simp [results, Try.results24, go_sem, *]) rfl ⟨rfl, rbel_put (Nat.le_refl _) (rbel_put (Nat.le_refl _) (rbel_on HB2.out (rbel_on HB.out (rbel_al (Below.refl _ _)))))⟩
  · rw [errc_zero]
    have HT : Hid (T x y = some d) := ht
    clear ht
    go_enter Try.func24, Try.ntmps24
    go_wp2_with (first
      | (go_at_call 13; refine (cC _ (rbel_al (Below.refl _ _))).mono ?_; rintro e' u0 ⟨rfl, hb⟩; have HB : Hid _ := hb; have r := Row.on hb (Row.made (W := w) (vs := [.int .i64 0, .int .i64 0]) rfl); have HR : Hid _ := r; clear hb r)
      | (go_at_call 41; have cq : Mark 0 := cnt; refine (cX _).mono ?_; clear cq cnt; have cnt : Mark 1 := .mk _; rintro e' u1 ⟨rfl, hu⟩; rw [hu]; clear hu)
      | (go_at_call 41; have cq : Mark 1 := cnt; refine (cY _).mono ?_; clear cq cnt; have cnt : Mark 2 := .mk _; rintro e' u1 ⟨rfl, hu⟩; rw [hu]; clear hu)
      | (go_at_call 42; refine (cA _ (rbel_on HB.out (rbel_al (Below.refl _ _)))).mono ?_; rintro e' u2 ⟨s, h, rfl, hst, hb⟩; obtain ⟨sb, so, sc, hb', ho, hc, rb, ro, rc, gb, go, gc, rfl, rfl, g1, g2⟩ := hst rfl; rw [errc_zero]; obtain ⟨q1, q2⟩ := g1 x hx; obtain ⟨p1, p2, p3⟩ := g2 x y hx hy; rw [HT.out] at p3; have p3' : u2.cell? ⟨gb x, go x + y, none⟩ = some (.bool true) := p3; have HB2 : Hid _ := hb; have r := Row.on hb HR.out; have r0 := r.c 0 _ rfl; have r1 := r.c 1 _ rfl; have f0 := r.f 0 _ rfl; have f1 := r.f 1 _ rfl; clear hb r hst g1 g2 p3))
    exact bodyPost_ret (v := .tuple #[sp (spLo T x y) (spHi T x y), .nilIface]) (by simp [results, Try.results24, go_sem, *]) rfl ⟨rfl, rbel_put (Nat.le_refl _) (rbel_put (Nat.le_refl _) (rbel_on HB2.out (rbel_on HB.out (rbel_al (Below.refl _ _)))))⟩
theorem between_any (z : Int) (a : Option Addr) (m cap : Nat) (q : Nat → Eg) (x y lo hi e : Int) (w : World) (hH : EHanded w a m q) (hB : BetA z q m x y lo hi e) :
    Calls Try.prog 24 #[.int .i64 z, .slice a m cap, .int .i64 x, .int .i64 y] w fun r w' => r = .returned (.tuple #[sp lo hi, errc e]) ∧ Below w.heap.size w w' := by
  rcases hB with ⟨h0, rfl, rfl, rfl⟩ | ⟨h0, hn, rfl, rfl, rfl⟩ | ⟨h0, hn, f, T, hA, hr⟩
  · exact between_bad z a m cap q x y w hH h0
  · refine between_no z a m cap q x y w hH h0 _ _ rfl rfl ?_
    cases e : nodeB z x with
    | false => exact Or.inl rfl
    | true =>
      have := of_decide_eq_true e
      exact Or.inr ⟨rfl, decide_eq_false (by omega)⟩
  · obtain ⟨n, rfl⟩ : ∃ n : Nat, z = n := ⟨z.toNat, by omega⟩
    obtain ⟨x, rfl⟩ : ∃ x' : Nat, x = x' := ⟨x.toNat, by omega⟩
    obtain ⟨y, rfl⟩ : ∃ y' : Nat, y = y' := ⟨y.toNat, by omega⟩
    rw [Int.toNat_natCast] at hA
    rw [Int.toNat_natCast, Int.toNat_natCast] at hr
    exact between_all n a m cap q x y f T w hH h0 (by omega) (by omega) hA lo hi e hr
end Go.Proofs.Ytfmaoblhoafnhaj
