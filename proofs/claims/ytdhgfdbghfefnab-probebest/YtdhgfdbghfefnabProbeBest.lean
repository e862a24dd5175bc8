/- Of any probes the best is no wider than any of them: the function ProbeBest answers true, whatever the list, the rate and the number. No condition. -/
import Derived.Test.YtdhgfdbghfefnabProbeOpen
import Derived.Test.YtdhgfdbghfefnabProbeBestA
import Derived.WalkKit
import Derived.ProofKit
import Derived.OpenShut
import Derived.Outline
import Derived.ShutString
import Derived.ChangeOld
import Derived.Below
import Derived.IntWalk
import Derived.WalkLawsBesides
import Derived.Lib.SmallJoins
namespace Go.Proofs.Ytdhgfdbghfefnab.probeBest
open Go.ChangeShapes Go.WideShapes Go.ChangeAt Go.RowKit Go.Joins
open Go.ChangeMaps (open_string shut_string)
set_option linter.unusedVariables false
set_option linter.unusedSimpArgs false

theorem first_bad (g : Nat → Prop) : ∀ n : Nat, (∀ i, i < n → g i) ∨ ∃ m, m < n ∧ ¬ g m ∧ ∀ i, i < m → g i := by
  intro n
  induction n with
  | zero => exact Or.inl fun i h => absurd h (Nat.not_lt_zero _)
  | succ n ih =>
    rcases ih with h | ⟨m, h1, h2, h3⟩
    · by_cases hn : g n
      · exact Or.inl fun i hi => by
          rcases Nat.lt_succ_iff_lt_or_eq.1 hi with h' | rfl
          · exact h i h'
          · exact hn
      · exact Or.inr ⟨n, Nat.lt_succ_self n, hn, h⟩
    · exact Or.inr ⟨m, Nat.lt_succ_of_lt h1, h2, h3⟩

theorem walk (a : Option Addr) (n cap : Nat) (p k : Int) (w : World) (hn : n ≤ 9223372036854775807) (hp : n = 0 ∨ ∃ (b off : Nat) (q : Nat → P4), a = some ⟨b, off, none⟩ ∧ Prs w b off n q) (wp : (Lit.int .i64 p).wf = true) (wk : (Lit.int .i64 k).wf = true) :
    Calls Try.prog 5 #[.slice a n cap, .int .i64 p, .int .i64 k] w fun e w' => e = .returned (.bool true) ∧ Below w.heap.size w w' := by
  by_cases n0 : n = 0
  · subst n0
    exact err a 0 cap p k w 5 (fun u _ => best_none cap a p u) (by omega)
  by_cases n40 : 40 < n
  · exact err a n cap p k w 4 (fun u _ => best_full a n cap p u n40 hn) hn
  rcases hp with h | ⟨b, off, q, rfl, hP⟩
  · exact absurd h n0
  rcases first_bad (fun i => (q i).e p = 0) n with good | ⟨m, h1, h2, h3⟩
  · have cB : ∀ u, Below w.heap.size w u → Calls Try.prog 10 #[.slice (some ⟨b, off, none⟩) n cap, .int .i64 p] u fun e w' => e = .returned (.tuple #[.int .i64 (bst q p n), .agg #[.int .i64 (blo q p n), .int .i64 (bhi q p n)], .nilIface]) ∧ Below u.heap.size u w' :=
      fun u hu => best_any b off n cap n q p _ u (by omega) (by omega) (hP.on hu) (Nat.le_refl _) good (Or.inl ⟨rfl, rfl⟩)
    by_cases k0 : k < 0
    · exact low _ n cap p k w _ _ _ cB (by omega) k0
    by_cases kn : (n : Int) ≤ k
    · exact high _ n cap p k w _ _ _ cB (by omega) (by omega) kn
    obtain ⟨j, rfl⟩ := Int.eq_ofNat_of_zero_le (show 0 ≤ k by omega)
    have hj : j < n := by omega
    have hi := bst_lt q p n (by omega)
    have e1 : blo q p n = (q (bst q p n)).lo := if_neg n0
    have e2 : bhi q p n = (q (bst q p n)).hi p := if_neg n0
    have bi := w_bound (good _ hi)
    have bj := w_bound (good j hj)
    have le := bst_least q p n j hj
    unfold P4.w at le
    refine inside b off n cap (bst q p n) j p (blo q p n) (bhi q p n) (q j).lo ((q j).hi p) q w cB (fun u => off_q_ok (q j) p u (good j hj)) (fun u => ?_) hP (by omega) hi hj (by omega) (by omega) (by omega) (by omega) (by omega) (by omega) (by omega)
    rw [e1, e2]; exact off_q_ok (q (bst q p n)) p u (good _ hi)
  · exact err _ n cap p k w ((q m).e p) (fun u hu => best_any b off n cap m q p _ u (by omega) (by omega) (hP.on hu) (by omega) h3 (Or.inr ⟨h1, h2, rfl⟩)) hn

theorem own : ownKnob Try.prog.godebug = none := by kernel_rfl
theorem laidOut : laidOutB Try.prog = true := by kernel_rfl

set_option maxRecDepth 100000 in
theorem lifted (os : Os) (started : os.Started) (H : Type) (enc : TypeId × Value → H) :
    ReturnsInHanded {} Try.checked os 5 .any (Rows.probeBestSpec.pre6 enc Try.prog Try.f5 Rows.probeBestRow.domain false) (Rows.probeBestSpec.post enc Try.prog Try.f5 false true false false) := by
  refine returnsInHanded_of_change (C := Try.checked) own started (by kernel_rfl) Try.func5
    (ChangeSpec.witness6 (enc := enc) (C := Try.checked) false ⟨#[], #[.slice none 0 0, .int .i64 0, .int .i64 0], []⟩ 8 (by kernel_rfl) (by kernel_rfl) (by kernel_rfl) (by kernel_rfl)) ?_
  intro W base args ds gs before hval0 hW hcnd _
  have hval : ∀ (j : Nat) t v, Try.f5.params[j]? = some t → args[j]? = some v → Value.okWide Try.prog W .any base t v := hval0
  have hW' := hW
  obtain ⟨p, q, hA0, hV, rfl, hfz, hnd⟩ := hW
  have hA : DataW.TrodAll enc Try.prog W 0 (fun _ => true) true Try.f5.params.toList args.toList ds p := hA0
  rw [Try.params5] at hA hval
  obtain ⟨v0, vs0, d0, ds0, p0, q0, hargs, rfl, rfl, h0, r0⟩ := trodAll_cons hA
  obtain ⟨v1, vs1, d1, ds1, p1, q1, rfl, rfl, rfl, h1, r1⟩ := trodAll_cons r0
  obtain ⟨v2, vs2, d2, ds2, p2, q2, rfl, rfl, rfl, h2, r2⟩ := trodAll_cons r1
  obtain ⟨rfl, rfl, rfl⟩ := trodAll_nil r2
  obtain rfl : args = #[v0, v1, v2] := by cases args; simp_all
  obtain ⟨rfl, rfl⟩ := trodVars_none hV
  have k0 := h0
  have lt0 : ∀ x ∈ p0, x.block < W.heap.size := by obtain ⟨m, hm⟩ := k0; exact DataW.trod_lt m _ _ _ hm
  have k1 := h1
  have lt1 : ∀ x ∈ p1, x.block < W.heap.size := by obtain ⟨m, hm⟩ := k1; exact DataW.trod_lt m _ _ _ hm
  have k2 := h2
  have lt2 : ∀ x ∈ p2, x.block < W.heap.size := by obtain ⟨m, hm⟩ := k2; exact DataW.trod_lt m _ _ _ hm
  obtain ⟨sa0, sn0, sc0, rfl, mx0, hp0⟩ := open_probes (hval 0 37 v0 rfl rfl) h0
  obtain ⟨n1, rfl, rfl, rfl, wf1⟩ := open_int Try.underlying3 (hval 1 3 v1 rfl rfl) h1
  obtain ⟨n2, rfl, rfl, rfl, wf2⟩ := open_int Try.underlying3 (hval 2 3 v2 rfl rfl) h2
  clear hA0 hval0
  refine (walk sa0 sn0 sc0 n1 n2 W mx0 hp0 wf1 wf2).mono fun e W' ⟨he, bel⟩ => ?_
  subst he
  exact ⟨_, rfl, _, _, _, [], _, [], hW', trodAll_mk1 (shut_bool Try.underlying4 _), (trodAll_cons_mk (Below.trod laidOut (by kernel_rfl) (of_decide_eq_true (by kernel_rfl)) k0 bel lt0) (trodAll_cons_mk (Below.trod laidOut (by kernel_rfl) (of_decide_eq_true (by kernel_rfl)) k1 bel lt1) (trodAll_cons_mk (Below.trod laidOut (by kernel_rfl) (of_decide_eq_true (by kernel_rfl)) k2 bel lt2) trodAll_mk0))), rfl, bel.frame _, fun h => by cases h⟩

theorem over : Rows.probeBestRow.holds Try.pinned (OpenSpec.ofChange Rows.probeBestSpec) :=
  OpenClaim.holds_of_wide 5 Try.f5 rfl rfl rfl rfl rfl rfl rfl ⟨rfl, rfl, rfl, rfl, rfl⟩ rfl rfl rfl rfl rfl (by kernel_rfl) Try.func5 (by kernel_rfl)
    (of_decide_eq_true (by kernel_rfl)) (by unfold Func.isWrapper; first | (rw [if_pos (by decide +kernel)]; kernel_rfl) | (rw [if_neg (by decide +kernel)]; exact ⟨rfl, rfl⟩))
    (fun os started H enc _ => lifted os started H enc)
end Go.Proofs.Ytdhgfdbghfefnab.probeBest
namespace Go.Proofs.Ytdhgfdbghfefnab
theorem probeBest_holds : Rows.ProbeBestSaid := probeBest.over
#print axioms probeBest_holds
end Go.Proofs.Ytdhgfdbghfefnab
