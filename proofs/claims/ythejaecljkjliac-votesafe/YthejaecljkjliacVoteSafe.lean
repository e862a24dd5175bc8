/- Of any spans, a number and a count of wrong ones: if all but so many have the number it is in what is sure, and in what is in all if all have it, and no number is in more than the most: the function VoteSafe answers true, whatever the list and the two numbers. No condition. -/
import Derived.Test.YthejaecljkjliacVoteSafeC
import Derived.Test.YthejaecljkjliacVoteHas
import Derived.Test.YthejaecljkjliacVoteMore
import Derived.Test.YthejaecljkjliacVoteOpen
import Derived.Test.YthejaecljkjliacVoteSafeA
import Derived.WalkKit
import Derived.ProofKit
import Derived.OpenShut
import Derived.Outline
import Derived.ShutString
import Derived.ChangeOld
import Derived.Below
import Derived.WalkLawsBesides
import Derived.Lib.SmallJoins
namespace Go.Proofs.Ythejaecljkjliac.voteSafe
open Go.ChangeShapes Go.WideShapes Go.ChangeAt Go.RowKit Go.Joins
open Go.ChangeMaps (open_string shut_string)
set_option linter.unusedVariables false
set_option linter.unusedSimpArgs false

set_option maxHeartbeats 2000000 in
set_option maxRecDepth 100000 in
theorem none_way (a : Option Addr) (cap : Nat) (x d : Int) (w : World) :
    Calls Try.prog 3 #[.slice a 0 cap, .int .i64 x, .int .i64 d] w fun e w' => e = .returned (.bool true) ∧ Below w.heap.size w w' := by
  have cnt0 : Mark 0 := .mk _
  have cM : ∀ u, Calls Try.prog 6 #[.slice a 0 cap] u fun y w' => y = .returned (.tuple #[.agg #[.int .i64 0, .int .i64 0], .int .i64 0, .iface 36 (.int .i64 5)]) ∧ Below u.heap.size u w' := fun u => by
    have h := most_any a 0 cap (fun _ => (0, 0)) 0 0 0 5 u ⟨by omega, Or.inl rfl⟩ (Or.inl ⟨by decide, rfl, rfl, rfl, rfl⟩)
    rwa [errn_not (by decide)] at h
  go_enter Try.func3, Try.ntmps3
  go_wp2_with (first | (go_at_call 4; have cq : Mark 0 := cnt0; refine (fact w.heap.size _ (Row.made rfl)).mono ?_; clear cq cnt0; have cnt0 : Mark 1 := .mk _; rintro e u0 ⟨rfl, hb⟩; have hw : Below w.heap.size w u0 := rbel_on hb (rbel_al (Below.refl _ _)); have zz := hw.size; clear hb))
  refine wp_loop_rounds 1 ?_
  rw [rounds_succ]
  go_wp2_with (go_at_call 6; refine (cM _).mono ?_; rintro e u1 ⟨rfl, hb⟩; replace hw : Below w.heap.size w u1 := rbel_on hb (rbel_al hw))
  go_ret
  exact ⟨rfl, by (repeat (first | assumption | apply rbel_al | apply rbel_dr | refine Below.alloc ?_ (by first | (simp; done) | (simp; omega) | omega) _ | refine Below.setCell ?_ (by first | (simp; done) | (simp; omega) | omega) _ | apply Below.drew | apply below_drewN))⟩

theorem walk (a : Option Addr) (n cap : Nat) (x d : Int) (w : World) (hm : n ≤ 9223372036854775807) (hp : n = 0 ∨ ∃ (b off : Nat) (q : Nat → Int × Int), a = some ⟨b, off, none⟩ ∧ Sps w b off n q) (wx : (Lit.int .i64 x).wf = true) (wd : (Lit.int .i64 d).wf = true) :
    Calls Try.prog 3 #[.slice a n cap, .int .i64 x, .int .i64 d] w fun e w' => e = .returned (.bool true) ∧ Below w.heap.size w w' := by
  by_cases n0 : n = 0
  · subst n0
    exact none_way a cap x d w
  · rcases hp with h | ⟨b, off, q, rfl, hP⟩
    · exact absurd h n0
    · exact some_way b off n cap q x d w (by omega) hm hP

theorem own : ownKnob Try.prog.godebug = none := by kernel_rfl
theorem laidOut : laidOutB Try.prog = true := by kernel_rfl

set_option maxRecDepth 100000 in
theorem lifted (os : Os) (started : os.Started) (H : Type) (enc : TypeId × Value → H) :
    ReturnsInHanded {} Try.checked os 3 .any (Rows.voteSafeSpec.pre6 enc Try.prog Try.f3 Rows.voteSafeRow.domain false) (Rows.voteSafeSpec.post enc Try.prog Try.f3 false true false false) := by
  refine returnsInHanded_of_change (C := Try.checked) own started (by kernel_rfl) Try.func3
    (ChangeSpec.witness6 (enc := enc) (C := Try.checked) false ⟨#[], #[.slice none 0 0, .int .i64 0, .int .i64 0], []⟩ 8 (by kernel_rfl) (by kernel_rfl) (by kernel_rfl) (by kernel_rfl)) ?_
  intro W base args ds gs before hval0 hW hcnd _
  have hval : ∀ (j : Nat) t v, Try.f3.params[j]? = some t → args[j]? = some v → Value.okWide Try.prog W .any base t v := hval0
  have hW' := hW
  obtain ⟨p, q, hA0, hV, rfl, hfz, hnd⟩ := hW
  have hA : DataW.TrodAll enc Try.prog W 0 (fun _ => true) true Try.f3.params.toList args.toList ds p := hA0
  rw [Try.params3] at hA hval
  obtain ⟨v0, vs0, d0, ds0, p0, q0, hargs, rfl, rfl, h0, r0⟩ := trodAll_cons hA
  obtain ⟨v1, vs1, d1, ds1, p1, q1, rfl, rfl, rfl, h1, r1⟩ := trodAll_cons r0
  obtain ⟨v2, vs2, d2, ds2, p2, q2, rfl, rfl, rfl, h2, r2⟩ := trodAll_cons r1
  obtain ⟨rfl, rfl, rfl⟩ := trodAll_nil r2
  obtain rfl : args = #[v0, v1, v2] := by cases args; simp_all
  obtain ⟨rfl, rfl⟩ := trodVars_none hV
  have k0 := h0
  have lt0 : ∀ x ∈ p0, x.block < W.heap.size := by obtain ⟨m, hm⟩ := k0; exact DataW.trod_lt m _ _ _ hm
  have k1 := h1
  have lt1 : ∀ x ∈ p1, x.block < W.heap.size := by obtain ⟨m, hm⟩ := k1; exact DataW.trod_lt m _ _ _ hm
  have k2 := h2
  have lt2 : ∀ x ∈ p2, x.block < W.heap.size := by obtain ⟨m, hm⟩ := k2; exact DataW.trod_lt m _ _ _ hm
  obtain ⟨sa0, sn0, sc0, rfl, mx0, hp0⟩ := open_spans (hval 0 22 v0 rfl rfl) h0
  obtain ⟨n1, rfl, rfl, rfl, wf1⟩ := open_int Try.underlying3 (hval 1 3 v1 rfl rfl) h1
  obtain ⟨n2, rfl, rfl, rfl, wf2⟩ := open_int Try.underlying3 (hval 2 3 v2 rfl rfl) h2
  clear hA0 hval0
  refine (walk sa0 sn0 sc0 n1 n2 W mx0 hp0 wf1 wf2).mono fun e W' ⟨he, bel⟩ => ?_
  subst he
  exact ⟨_, rfl, _, _, _, [], _, [], hW', trodAll_mk1 (shut_bool Try.underlying4 _), (trodAll_cons_mk (Below.trod laidOut (by kernel_rfl) (of_decide_eq_true (by kernel_rfl)) k0 bel lt0) (trodAll_cons_mk (Below.trod laidOut (by kernel_rfl) (of_decide_eq_true (by kernel_rfl)) k1 bel lt1) (trodAll_cons_mk (Below.trod laidOut (by kernel_rfl) (of_decide_eq_true (by kernel_rfl)) k2 bel lt2) trodAll_mk0))), rfl, bel.frame _, fun h => by cases h⟩

theorem over : Rows.voteSafeRow.holds Try.pinned (OpenSpec.ofChange Rows.voteSafeSpec) :=
  OpenClaim.holds_of_wide 3 Try.f3 rfl rfl rfl rfl rfl rfl rfl ⟨rfl, rfl, rfl, rfl, rfl⟩ rfl rfl rfl rfl rfl (by kernel_rfl) Try.func3 (by kernel_rfl)
    (of_decide_eq_true (by kernel_rfl)) (by unfold Func.isWrapper; first | (rw [if_pos (by decide +kernel)]; kernel_rfl) | (rw [if_neg (by decide +kernel)]; exact ⟨rfl, rfl⟩))
    (fun os started H enc _ => lifted os started H enc)
end Go.Proofs.Ythejaecljkjliac.voteSafe
namespace Go.Proofs.Ythejaecljkjliac
theorem voteSafe_holds : Rows.VoteSafeSaid := voteSafe.over
#print axioms voteSafe_holds
end Go.Proofs.Ythejaecljkjliac
