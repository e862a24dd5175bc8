/- Package net: Offset. What package net must answer: Offset. Package net: New, Do and Offset, as the laws want them. -/
import Derived.Test.YtfmaoblhoafnhajNm14
import Derived.Test.YtfmaoblhoafnhajBoundsBtw
import Derived.Test.YtfmaoblhoafnhajNm15
namespace Go.Proofs.Ytfmaoblhoafnhaj
open Go.ChangeShapes Go.WideShapes Go.ChangeAt Go.RowKit Go.Joins
set_option linter.unusedVariables false
set_option linter.unusedSimpArgs false

section
variable {u : World} {mb : Nat} {L : Nly} {N : Nn}
set_option maxRecDepth 100000 in
set_option maxHeartbeats 4000000 in
theorem noff_no (h : NN u mb L N) (g : N.W.I) (x y : Int) (X Y : Bool) (hX : Hid (X = decide (0 ≤ x ∧ x < (N.W.n : Int)))) (hY : Hid (Y = decide (0 ≤ y ∧ y < (N.W.n : Int)))) (hn : X = false ∨ (X = true ∧ Y = false)) :
    Calls Try.prog 9 #[.pointer (some ⟨mb, 0, none⟩), .int .i64 x, .int .i64 y] u fun o w' => o = .returned (.tuple #[sp 0 0, .iface 73 (.int .i64 1)]) ∧ Below u.heap.size u w' := by
  have cX : Hid (∀ W, Below u.heap.size u W → Calls Try.prog 23 #[.pointer (some ⟨mb, 0, none⟩), .int .i64 x] W fun o w' => o = .returned (.bool X) ∧ w' = W) := fun W hW => nisn (h.on hW) g x X hX.out
  have cY : Hid (∀ W, Below u.heap.size u W → Calls Try.prog 23 #[.pointer (some ⟨mb, 0, none⟩), .int .i64 y] W fun o w' => o = .returned (.bool Y) ∧ w' = W) := fun W hW => nisn (h.on hW) g y Y hY.out
  clear h g hX hY
  have cnt : Mark 0 := .mk _
  rcases hn with rfl | ⟨rfl, rfl⟩
  · go_enter Try.func9, Try.ntmps9
    go_wp2_with (go_at_call 23; refine (cX.out _ (rbel_al (Below.refl _ _))).mono ?_; rintro o u1 ⟨rfl, hu⟩; rw [hu]; clear hu)
    exact bodyPost_ret (v := .tuple #[sp 0 0, .iface 73 (.int .i64 1)]) (by simp [results, Try.results9, go_sem, *]) rfl ⟨rfl, by first | exact rbel_al (Below.refl _ _) | exact rbel_put (Nat.le_refl _) (rbel_put (Nat.le_refl _) (rbel_al (Below.refl _ _)))⟩
  · go_enter Try.func9, Try.ntmps9
    go_wp2_with (first
      | (go_at_call 23; have cq : Mark 0 := cnt; refine (cX.out _ (rbel_al (Below.refl _ _))).mono ?_; clear cq cnt; have cnt : Mark 1 := .mk _; rintro o u1 ⟨rfl, hu⟩; rw [hu]; clear hu)
      | (go_at_call 23; have cq : Mark 1 := cnt; refine (cY.out _ (rbel_al (Below.refl _ _))).mono ?_; clear cq cnt; rintro o u1 ⟨rfl, hu⟩; rw [hu]; clear hu))
    exact bodyPost_ret (v := .tuple #[sp 0 0, .iface 73 (.int .i64 1)]) (by simp [results, Try.results9, go_sem, *]) rfl ⟨rfl, by first | exact rbel_al (Below.refl _ _) | exact rbel_put (Nat.le_refl _) (rbel_put (Nat.le_refl _) (rbel_al (Below.refl _ _)))⟩
set_option maxRecDepth 100000 in
set_option maxHeartbeats 4000000 in
theorem noff_go (h : NN u mb L N) (g : N.T) (x y lo hi e : Int) (hx : 0 ≤ x ∧ x < (N.W.n : Int)) (hy : 0 ≤ y ∧ y < (N.W.n : Int)) (hB : BetA N.W.n (egf (eoN N)) (eoN N).length x y lo hi e) :
    Calls Try.prog 9 #[.pointer (some ⟨mb, 0, none⟩), .int .i64 x, .int .i64 y] u fun o w' => o = .returned (.tuple #[sp lo hi, errc e]) ∧ Below u.heap.size u w' := by
  have cX : Hid (∀ W, Below u.heap.size u W → Calls Try.prog 23 #[.pointer (some ⟨mb, 0, none⟩), .int .i64 x] W fun o w' => o = .returned (.bool true) ∧ w' = W) := fun W hW => nisn (h.on hW) g.g.i x true (decide_eq_true hx).symm
  have cY : Hid (∀ W, Below u.heap.size u W → Calls Try.prog 23 #[.pointer (some ⟨mb, 0, none⟩), .int .i64 y] W fun o w' => o = .returned (.bool true) ∧ w' = W) := fun W hW => nisn (h.on hW) g.g.i y true (decide_eq_true hy).symm
  have cE : Hid (∀ W, Below u.heap.size u W → Calls Try.prog 12 #[.pointer (some ⟨mb, 0, none⟩)] W fun o w' => ∃ (ea : Option Addr) (ec : Nat), o = .returned (.tuple #[.slice ea (eoN N).length ec, .nilIface]) ∧ EHanded w' ea (eoN N).length (egf (eoN N)) ∧ Below W.heap.size W w') := fun W hW => (nedges_net (h.on hW) g).mono fun _ _ ⟨ea, ec, e, h1, h2, _⟩ => ⟨ea, ec, e, h1, h2⟩
  have cB : Hid (∀ (a : Option Addr) (cap : Nat) (W : World), EHanded W a (eoN N).length (egf (eoN N)) → Calls Try.prog 24 #[.int .i64 N.W.n, .slice a (eoN N).length cap, .int .i64 x, .int .i64 y] W fun r w' => r = .returned (.tuple #[sp lo hi, errc e]) ∧ Below W.heap.size W w') := fun a cap W hH => between_any N.W.n a (eoN N).length cap (egf (eoN N)) x y lo hi e W hH hB
  have HR : Hid (NN u mb L N) := h
  clear h g hx hy hB
  generalize (eoN N).length = m at *
  generalize errc e = ev at *
  have cnt : Mark 0 := .mk _
  go_enter Try.func9, Try.ntmps9
  go_wp2_with (first
    | (go_at_call 23; have cq : Mark 0 := cnt; refine (cX.out _ (rbel_al (Below.refl _ _))).mono ?_; clear cq cnt; have cnt : Mark 1 := .mk _; rintro o u1 ⟨rfl, hu⟩; rw [hu]; clear hu)
    | (go_at_call 23; have cq : Mark 1 := cnt; refine (cY.out _ (rbel_al (Below.refl _ _))).mono ?_; clear cq cnt; rintro o u1 ⟨rfl, hu⟩; rw [hu]; clear hu)
    | (go_at_call 12; refine (cE.out _ (rbel_al (Below.refl _ _))).mono ?_; rintro o u2 ⟨ea, ec, rfl, hE, hb⟩; have HE : Hid (EHanded u2 ea m (egf (eoN N))) := hE; have B2 : Hid (Below u.heap.size u u2) := rbel_on hb (rbel_al (Below.refl _ _)); have R2 : Hid (Row u2 u.heap.size [.int .i64 0, .int .i64 0]) := Row.on hb (Row.made rfl); have N2 : Hid (NN u2 mb L N) := HR.out.on B2.out; have c1 := N2.out.r.c 1 _ rfl; have l2 := N2.out.r.lt; clear hE hb)
    | (go_at_call 24; refine (cB.out _ _ _ HE.out).mono ?_; rintro o u3 ⟨rfl, hb⟩; have B3 : Hid (Below u.heap.size u u3) := rbel_on hb B2.out; have r := Row.on hb R2.out; have r0 := r.c 0 _ rfl; have r1 := r.c 1 _ rfl; have f0 := r.f 0 _ rfl; have f1 := r.f 1 _ rfl; have lr := r.lt; clear hb r))
  exact bodyPost_ret (v := .tuple #[sp lo hi, ev]) (by simp [results, Try.results9, go_sem, *]) rfl ⟨rfl, rbel_put (Nat.le_refl _) (rbel_put (Nat.le_refl _) B3.out)⟩
theorem noff_any (h : NN u mb L N) (g : N.T) (x y lo hi e : Int) (hB : BetA N.W.n (egf (eoN N)) (eoN N).length x y lo hi e) :
    Calls Try.prog 9 #[.pointer (some ⟨mb, 0, none⟩), .int .i64 x, .int .i64 y] u fun o w' => o = .returned (.tuple #[.agg #[.int .i64 lo, .int .i64 hi], errc e]) ∧ Below u.heap.size u w' := by
  have hE := egs_e (eoN_egs g)
  by_cases hn : (0 ≤ x ∧ x < (N.W.n : Int)) ∧ (0 ≤ y ∧ y < (N.W.n : Int))
  · exact noff_go h g x y lo hi e hn.1 hn.2 hB
  · have hb : lo = 0 ∧ hi = 0 ∧ e = 1 := by
      rcases hB with ⟨q, _⟩ | ⟨_, _, q1, q2, q3⟩ | ⟨_, q, _⟩
      · exact absurd hE q
      · exact ⟨q1, q2, q3⟩
      · exact absurd ⟨⟨q.1, q.2.1⟩, q.2.2.1, q.2.2.2⟩ hn
    obtain ⟨rfl, rfl, rfl⟩ := hb
    rw [errc_not (by decide)]
    refine noff_no h g.g.i x y _ _ rfl rfl ?_
    cases q : decide (0 ≤ x ∧ x < (N.W.n : Int)) with
    | false => exact Or.inl rfl
    | true => exact Or.inr ⟨rfl, decide_eq_false (fun q' => hn ⟨of_decide_eq_true q, q'⟩)⟩
end
end Go.Proofs.Ytfmaoblhoafnhaj
namespace Go.Proofs.Ytfmaoblhoafnhaj
open Go.ChangeShapes Go.WideShapes Go.ChangeAt Go.RowKit
set_option linter.unusedVariables false

/-- .. and Offset. -/
structure NtO (w0 : World) extends Nt w0 where
  off : ∀ (b : Nat) (F : Nat → Prop) (N : Nn) (x y lo hi e : Int) (u : World), R u b F N → N.T → In64 x → In64 y → BetA N.W.n (egf (eoN N)) (eoN N).length x y lo hi e → Calls Try.prog 9 #[.pointer (some ⟨b, 0, none⟩), .int .i64 x, .int .i64 y] u fun o w' => o = .returned (.tuple #[.agg #[.int .i64 lo, .int .i64 hi], errc e]) ∧ Below u.heap.size u w'
end Go.Proofs.Ytfmaoblhoafnhaj
namespace Go.Proofs.Ytfmaoblhoafnhaj
open Go.ChangeShapes Go.WideShapes Go.ChangeAt Go.RowKit Go.Joins
set_option linter.unusedVariables false
set_option linter.unusedSimpArgs false

def nto (w : World) : NtO w := { ntt w with
  off := fun b F N x y lo hi e u hR hT _ _ hB => by
    obtain ⟨L, hP, rfl⟩ := hR
    exact noff_any hP hT x y lo hi e hB
  }
end Go.Proofs.Ytfmaoblhoafnhaj
