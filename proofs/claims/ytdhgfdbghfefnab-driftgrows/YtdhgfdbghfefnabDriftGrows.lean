/- Who goes longer, or may be faster, grows by no less: the function DriftGrows answers true. No condition. -/
import Derived.Test.YtdhgfdbghfefnabDriftGrow
import Derived.WalkKit
import Derived.ProofKit
import Derived.OpenShut
import Derived.Outline
import Derived.ShutString
import Derived.ChangeOld
import Derived.Below
import Derived.WalkLawsBesides
import Derived.Lib.SmallJoins
namespace Go.Proofs.Ytdhgfdbghfefnab.driftGrows
open Go.ChangeShapes Go.WideShapes Go.ChangeAt Go.RowKit Go.Joins
open Go.ChangeMaps (open_string shut_string)
set_option linter.unusedVariables false

theorem grow_five (w : World) : Calls Try.prog 6 #[.int .i64 1000000, .int .i64 5] w fun e w' => e = .returned (.tuple #[.int .i64 5, .nilIface]) ∧ Below w.heap.size w w' := by
  have h := grow_ok 1000000 5 w (by decide)
  have e : ((1000000 : Int) * 5 + 1000000 - 1) / 1000000 = 5 := by decide
  rw [e] at h; exact h
theorem grow_at (n p x : Int) (w : World) (h : rdy n p = true) (hx : Hid (x = (n * p + 1000000 - 1) / 1000000)) : Calls Try.prog 6 #[.int .i64 n, .int .i64 p] w fun e w' => e = .returned (.tuple #[.int .i64 x, .nilIface]) ∧ Below w.heap.size w w' := by
  rw [hx.out]; exact grow_ok n p w h
theorem grows_le {n m a b : Int} (h1 : 0 ≤ n) (h2 : 0 ≤ a) (h3 : n ≤ m) (h4 : a ≤ b) : (n * a + 1000000 - 1) / 1000000 ≤ (m * b + 1000000 - 1) / 1000000 := by
  have h := mul_high h1 h2 h3 h4
  omega

set_option maxHeartbeats 1000000 in
theorem walkA (n m a b : Int) (w : World) (h1 : rdy n a = false) (h2 : rdy m b = false) :
    Calls Try.prog 3 #[.int .i64 n, .int .i64 m, .int .i64 a, .int .i64 b] w fun e w' => e = .returned (.bool true) ∧ Below w.heap.size w w' := by
  have cnt : Mark 0 := .mk _
  go_enter Try.func3, Try.ntmps3
  go_wp2_with (first | (go_at_call 6; have cq : Mark 0 := cnt; refine (grow_five _).mono ?_; clear cq cnt; have cnt : Mark 1 := .mk _; rintro e u0 ⟨rfl, hb0⟩) | (go_at_call 6; have cq : Mark 1 := cnt; refine (grow_no n a _ h1).mono ?_; clear cq cnt; have cnt : Mark 2 := .mk _; rintro e u1 ⟨rfl, hb1⟩) | (go_at_call 6; have cq : Mark 2 := cnt; refine (grow_no m b _ h2).mono ?_; clear cq cnt; have cnt : Mark 3 := .mk _; rintro e u2 ⟨rfl, hb2⟩))
  go_ret
  exact ⟨rfl, by (repeat (first | exact Below.refl _ _ | refine Below.alloc ?_ (by first | (simp; done) | (simp; omega) | omega) _ | refine Below.setCell ?_ (by first | (simp; done) | (simp; omega) | omega) _ | apply Below.drew | refine below_tr (by assumption) ?_))⟩

set_option maxHeartbeats 1000000 in
theorem walkB (n m a b : Int) (w : World) (y : Int) (h1 : rdy n a = false) (h2 : rdy m b = true) (hy : Hid (y = (m * b + 1000000 - 1) / 1000000)) :
    Calls Try.prog 3 #[.int .i64 n, .int .i64 m, .int .i64 a, .int .i64 b] w fun e w' => e = .returned (.bool true) ∧ Below w.heap.size w w' := by
  have cnt : Mark 0 := .mk _
  go_enter Try.func3, Try.ntmps3
  go_wp2_with (first | (go_at_call 6; have cq : Mark 0 := cnt; refine (grow_five _).mono ?_; clear cq cnt; have cnt : Mark 1 := .mk _; rintro e u0 ⟨rfl, hb0⟩) | (go_at_call 6; have cq : Mark 1 := cnt; refine (grow_no n a _ h1).mono ?_; clear cq cnt; have cnt : Mark 2 := .mk _; rintro e u1 ⟨rfl, hb1⟩) | (go_at_call 6; have cq : Mark 2 := cnt; refine (grow_at m b y _ h2 hy).mono ?_; clear cq cnt; have cnt : Mark 3 := .mk _; rintro e u2 ⟨rfl, hb2⟩))
  go_ret
  exact ⟨rfl, by (repeat (first | exact Below.refl _ _ | refine Below.alloc ?_ (by first | (simp; done) | (simp; omega) | omega) _ | refine Below.setCell ?_ (by first | (simp; done) | (simp; omega) | omega) _ | apply Below.drew | refine below_tr (by assumption) ?_))⟩

set_option maxHeartbeats 1000000 in
theorem walkC (n m a b : Int) (w : World) (x : Int) (h1 : rdy n a = true) (h2 : rdy m b = false) (hx : Hid (x = (n * a + 1000000 - 1) / 1000000)) :
    Calls Try.prog 3 #[.int .i64 n, .int .i64 m, .int .i64 a, .int .i64 b] w fun e w' => e = .returned (.bool true) ∧ Below w.heap.size w w' := by
  have cnt : Mark 0 := .mk _
  go_enter Try.func3, Try.ntmps3
  go_wp2_with (first | (go_at_call 6; have cq : Mark 0 := cnt; refine (grow_five _).mono ?_; clear cq cnt; have cnt : Mark 1 := .mk _; rintro e u0 ⟨rfl, hb0⟩) | (go_at_call 6; have cq : Mark 1 := cnt; refine (grow_at n a x _ h1 hx).mono ?_; clear cq cnt; have cnt : Mark 2 := .mk _; rintro e u1 ⟨rfl, hb1⟩) | (go_at_call 6; have cq : Mark 2 := cnt; refine (grow_no m b _ h2).mono ?_; clear cq cnt; have cnt : Mark 3 := .mk _; rintro e u2 ⟨rfl, hb2⟩))
  go_ret
  exact ⟨rfl, by (repeat (first | exact Below.refl _ _ | refine Below.alloc ?_ (by first | (simp; done) | (simp; omega) | omega) _ | refine Below.setCell ?_ (by first | (simp; done) | (simp; omega) | omega) _ | apply Below.drew | refine below_tr (by assumption) ?_))⟩

set_option maxHeartbeats 1000000 in
theorem walkD (n m a b : Int) (w : World) (x y : Int) (h1 : rdy n a = true) (h2 : rdy m b = true) (hx : Hid (x = (n * a + 1000000 - 1) / 1000000)) (hy : Hid (y = (m * b + 1000000 - 1) / 1000000)) (h3 : n > m) :
    Calls Try.prog 3 #[.int .i64 n, .int .i64 m, .int .i64 a, .int .i64 b] w fun e w' => e = .returned (.bool true) ∧ Below w.heap.size w w' := by
  have cnt : Mark 0 := .mk _
  go_enter Try.func3, Try.ntmps3
  go_wp2_with (first | (go_at_call 6; have cq : Mark 0 := cnt; refine (grow_five _).mono ?_; clear cq cnt; have cnt : Mark 1 := .mk _; rintro e u0 ⟨rfl, hb0⟩) | (go_at_call 6; have cq : Mark 1 := cnt; refine (grow_at n a x _ h1 hx).mono ?_; clear cq cnt; have cnt : Mark 2 := .mk _; rintro e u1 ⟨rfl, hb1⟩) | (go_at_call 6; have cq : Mark 2 := cnt; refine (grow_at m b y _ h2 hy).mono ?_; clear cq cnt; have cnt : Mark 3 := .mk _; rintro e u2 ⟨rfl, hb2⟩))
  go_ret
  exact ⟨rfl, by (repeat (first | exact Below.refl _ _ | refine Below.alloc ?_ (by first | (simp; done) | (simp; omega) | omega) _ | refine Below.setCell ?_ (by first | (simp; done) | (simp; omega) | omega) _ | apply Below.drew | refine below_tr (by assumption) ?_))⟩

set_option maxHeartbeats 1000000 in
theorem walkE (n m a b : Int) (w : World) (x y : Int) (h1 : rdy n a = true) (h2 : rdy m b = true) (hx : Hid (x = (n * a + 1000000 - 1) / 1000000)) (hy : Hid (y = (m * b + 1000000 - 1) / 1000000)) (h3 : n ≤ m) (h4 : a > b) :
    Calls Try.prog 3 #[.int .i64 n, .int .i64 m, .int .i64 a, .int .i64 b] w fun e w' => e = .returned (.bool true) ∧ Below w.heap.size w w' := by
  have cnt : Mark 0 := .mk _
  go_enter Try.func3, Try.ntmps3
  go_wp2_with (first | (go_at_call 6; have cq : Mark 0 := cnt; refine (grow_five _).mono ?_; clear cq cnt; have cnt : Mark 1 := .mk _; rintro e u0 ⟨rfl, hb0⟩) | (go_at_call 6; have cq : Mark 1 := cnt; refine (grow_at n a x _ h1 hx).mono ?_; clear cq cnt; have cnt : Mark 2 := .mk _; rintro e u1 ⟨rfl, hb1⟩) | (go_at_call 6; have cq : Mark 2 := cnt; refine (grow_at m b y _ h2 hy).mono ?_; clear cq cnt; have cnt : Mark 3 := .mk _; rintro e u2 ⟨rfl, hb2⟩))
  go_ret
  exact ⟨rfl, by (repeat (first | exact Below.refl _ _ | refine Below.alloc ?_ (by first | (simp; done) | (simp; omega) | omega) _ | refine Below.setCell ?_ (by first | (simp; done) | (simp; omega) | omega) _ | apply Below.drew | refine below_tr (by assumption) ?_))⟩

set_option maxHeartbeats 1000000 in
theorem walkF (n m a b : Int) (w : World) (x y : Int) (h1 : rdy n a = true) (h2 : rdy m b = true) (hx : Hid (x = (n * a + 1000000 - 1) / 1000000)) (hy : Hid (y = (m * b + 1000000 - 1) / 1000000)) (h3 : n ≤ m) (h4 : a ≤ b) (h5 : x ≤ y) :
    Calls Try.prog 3 #[.int .i64 n, .int .i64 m, .int .i64 a, .int .i64 b] w fun e w' => e = .returned (.bool true) ∧ Below w.heap.size w w' := by
  have cnt : Mark 0 := .mk _
  go_enter Try.func3, Try.ntmps3
  go_wp2_with (first | (go_at_call 6; have cq : Mark 0 := cnt; refine (grow_five _).mono ?_; clear cq cnt; have cnt : Mark 1 := .mk _; rintro e u0 ⟨rfl, hb0⟩) | (go_at_call 6; have cq : Mark 1 := cnt; refine (grow_at n a x _ h1 hx).mono ?_; clear cq cnt; have cnt : Mark 2 := .mk _; rintro e u1 ⟨rfl, hb1⟩) | (go_at_call 6; have cq : Mark 2 := cnt; refine (grow_at m b y _ h2 hy).mono ?_; clear cq cnt; have cnt : Mark 3 := .mk _; rintro e u2 ⟨rfl, hb2⟩))
  go_ret
  exact ⟨rfl, by (repeat (first | exact Below.refl _ _ | refine Below.alloc ?_ (by first | (simp; done) | (simp; omega) | omega) _ | refine Below.setCell ?_ (by first | (simp; done) | (simp; omega) | omega) _ | apply Below.drew | refine below_tr (by assumption) ?_))⟩

theorem walk (n m a b : Int) (w : World) (wn : (Lit.int .i64 n).wf = true) (wm : (Lit.int .i64 m).wf = true) (wa : (Lit.int .i64 a).wf = true) (wb : (Lit.int .i64 b).wf = true) :
    Calls Try.prog 3 #[.int .i64 n, .int .i64 m, .int .i64 a, .int .i64 b] w fun e w' => e = .returned (.bool true) ∧ Below w.heap.size w w' := by
  cases h1 : rdy n a <;> cases h2 : rdy m b
  · exact walkA n m a b w h1 h2
  · exact walkB n m a b w ((m * b + 1000000 - 1) / 1000000) h1 h2 rfl
  · exact walkC n m a b w ((n * a + 1000000 - 1) / 1000000) h1 h2 rfl
  · by_cases h3 : n > m
    · exact walkD n m a b w ((n * a + 1000000 - 1) / 1000000) ((m * b + 1000000 - 1) / 1000000) h1 h2 rfl rfl h3
    · by_cases h4 : a > b
      · exact walkE n m a b w ((n * a + 1000000 - 1) / 1000000) ((m * b + 1000000 - 1) / 1000000) h1 h2 rfl rfl (by omega) h4
      · have q := rdy_t h1
        exact walkF n m a b w ((n * a + 1000000 - 1) / 1000000) ((m * b + 1000000 - 1) / 1000000) h1 h2 rfl rfl (by omega) (by omega) (grows_le q.1 q.2.2.1 (by omega) (by omega))

theorem own : ownKnob Try.prog.godebug = none := by kernel_rfl
theorem laidOut : laidOutB Try.prog = true := by kernel_rfl

set_option maxRecDepth 100000 in
theorem lifted (os : Os) (started : os.Started) (H : Type) (enc : TypeId × Value → H) :
    ReturnsInHanded {} Try.checked os 3 .any (Rows.driftGrowsSpec.pre6 enc Try.prog Try.f3 Rows.driftGrowsRow.domain false) (Rows.driftGrowsSpec.post enc Try.prog Try.f3 false true false false) := by
  refine returnsInHanded_of_change (C := Try.checked) own started (by kernel_rfl) Try.func3
    (ChangeSpec.witness6 (enc := enc) (C := Try.checked) false ⟨#[], #[.int .i64 0, .int .i64 0, .int .i64 0, .int .i64 0], []⟩ 8 (by kernel_rfl) (by kernel_rfl) (by kernel_rfl) (by kernel_rfl)) ?_
  intro W base args ds gs before hval0 hW hcnd _
  have hval : ∀ (j : Nat) t v, Try.f3.params[j]? = some t → args[j]? = some v → Value.okWide Try.prog W .any base t v := hval0
  have hW' := hW
  obtain ⟨p, q, hA0, hV, rfl, hfz, hnd⟩ := hW
  have hA : DataW.TrodAll enc Try.prog W 0 (fun _ => true) true Try.f3.params.toList args.toList ds p := hA0
  rw [Try.params3] at hA hval
  obtain ⟨v0, vs0, d0, ds0, p0, q0, hargs, rfl, rfl, h0, r0⟩ := trodAll_cons hA
  obtain ⟨v1, vs1, d1, ds1, p1, q1, rfl, rfl, rfl, h1, r1⟩ := trodAll_cons r0
  obtain ⟨v2, vs2, d2, ds2, p2, q2, rfl, rfl, rfl, h2, r2⟩ := trodAll_cons r1
  obtain ⟨v3, vs3, d3, ds3, p3, q3, rfl, rfl, rfl, h3, r3⟩ := trodAll_cons r2
  obtain ⟨rfl, rfl, rfl⟩ := trodAll_nil r3
  obtain rfl : args = #[v0, v1, v2, v3] := by cases args; simp_all
  obtain ⟨rfl, rfl⟩ := trodVars_none hV
  have k0 := h0
  have lt0 : ∀ x ∈ p0, x.block < W.heap.size := by obtain ⟨m, hm⟩ := k0; exact DataW.trod_lt m _ _ _ hm
  have k1 := h1
  have lt1 : ∀ x ∈ p1, x.block < W.heap.size := by obtain ⟨m, hm⟩ := k1; exact DataW.trod_lt m _ _ _ hm
  have k2 := h2
  have lt2 : ∀ x ∈ p2, x.block < W.heap.size := by obtain ⟨m, hm⟩ := k2; exact DataW.trod_lt m _ _ _ hm
  have k3 := h3
  have lt3 : ∀ x ∈ p3, x.block < W.heap.size := by obtain ⟨m, hm⟩ := k3; exact DataW.trod_lt m _ _ _ hm
  obtain ⟨n0, rfl, rfl, rfl, wf0⟩ := open_int Try.underlying3 (hval 0 3 v0 rfl rfl) h0
  obtain ⟨n1, rfl, rfl, rfl, wf1⟩ := open_int Try.underlying3 (hval 1 3 v1 rfl rfl) h1
  obtain ⟨n2, rfl, rfl, rfl, wf2⟩ := open_int Try.underlying3 (hval 2 3 v2 rfl rfl) h2
  obtain ⟨n3, rfl, rfl, rfl, wf3⟩ := open_int Try.underlying3 (hval 3 3 v3 rfl rfl) h3
  clear hA0 hval0
  refine (walk n0 n1 n2 n3 W wf0 wf1 wf2 wf3).mono fun e W' ⟨he, bel⟩ => ?_
  subst he
  exact ⟨_, rfl, _, _, _, [], _, [], hW', trodAll_mk1 (shut_bool Try.underlying4 _), (trodAll_cons_mk (Below.trod laidOut (by kernel_rfl) (of_decide_eq_true (by kernel_rfl)) k0 bel lt0) (trodAll_cons_mk (Below.trod laidOut (by kernel_rfl) (of_decide_eq_true (by kernel_rfl)) k1 bel lt1) (trodAll_cons_mk (Below.trod laidOut (by kernel_rfl) (of_decide_eq_true (by kernel_rfl)) k2 bel lt2) (trodAll_cons_mk (Below.trod laidOut (by kernel_rfl) (of_decide_eq_true (by kernel_rfl)) k3 bel lt3) trodAll_mk0)))), rfl, bel.frame _, fun h => by cases h⟩

theorem over : Rows.driftGrowsRow.holds Try.pinned (OpenSpec.ofChange Rows.driftGrowsSpec) :=
  OpenClaim.holds_of_wide 3 Try.f3 rfl rfl rfl rfl rfl rfl rfl ⟨rfl, rfl, rfl, rfl, rfl⟩ rfl rfl rfl rfl rfl (by kernel_rfl) Try.func3 (by kernel_rfl)
    (of_decide_eq_true (by kernel_rfl)) (by unfold Func.isWrapper; first | (rw [if_pos (by decide +kernel)]; kernel_rfl) | (rw [if_neg (by decide +kernel)]; exact ⟨rfl, rfl⟩))
    (fun os started H enc _ => lifted os started H enc)
end Go.Proofs.Ytdhgfdbghfefnab.driftGrows
namespace Go.Proofs.Ytdhgfdbghfefnab
theorem driftGrows_holds : Rows.DriftGrowsSaid := driftGrows.over
#print axioms driftGrows_holds
end Go.Proofs.Ytdhgfdbghfefnab
