/- Of two clocks that truly differ so, and letters that take whatever time they take, in the span of the probe is how they differ when it comes back, whatever their rates are: the function ProbeHolds answers true, whatever the numbers. No condition. -/
import Derived.Test.YtdhgfdbghfefnabProbeOff
import Derived.Test.YtdhgfdbghfefnabProbeTrue
import Derived.Test.YtdhgfdbghfefnabProbeShows
import Derived.Test.YtdhgfdbghfefnabSpanHas
import Derived.Deep.RegionHeld
import Derived.Test.YtdhgfdbghfefnabProbeHoldsA
import Derived.Test.YtdhgfdbghfefnabProbeHoldsB
import Derived.WalkKit
import Derived.ProofKit
import Derived.OpenShut
import Derived.Outline
import Derived.ShutString
import Derived.ChangeOld
import Derived.Below
import Derived.IntWalk
import Derived.WalkLawsBesides
import Derived.Lib.SmallJoins
namespace Go.Proofs.Ytdhgfdbghfefnab.probeHolds
open Go.ChangeShapes Go.WideShapes Go.ChangeAt Go.RowKit Go.Joins
open Go.ChangeMaps (open_string shut_string)
set_option linter.unusedVariables false
set_option linter.unusedSimpArgs false

theorem walk (start ra rb ppm begin there stay back : Int) (w : World) (w0 : (Lit.int .i64 start).wf = true) (w1 : (Lit.int .i64 ra).wf = true) (w2 : (Lit.int .i64 rb).wf = true) (w3 : (Lit.int .i64 ppm).wf = true) (w4 : (Lit.int .i64 begin).wf = true) (w5 : (Lit.int .i64 there).wf = true) (w6 : (Lit.int .i64 stay).wf = true) (w7 : (Lit.int .i64 back).wf = true) :
    Calls Try.prog 4 #[.int .i64 start, .int .i64 ra, .int .i64 rb, .int .i64 ppm, .int .i64 begin, .int .i64 there, .int .i64 stay, .int .i64 back] w fun e w' => e = .returned (.bool true) ∧ Below w.heap.size w w' := by
  by_cases h0 : start < -1000000
  · exact out0 start ra rb ppm begin there stay back w  h0
  replace h0 : -1000000 ≤ start := by omega
  by_cases h1 : 1000000 < start
  · exact out1 start ra rb ppm begin there stay back w h0 h1
  replace h1 : start ≤ 1000000 := by omega
  by_cases h2 : ppm < 0
  · exact out2 start ra rb ppm begin there stay back w h0 h1 h2
  replace h2 : 0 ≤ ppm := by omega
  by_cases h3 : 1000 < ppm
  · exact out3 start ra rb ppm begin there stay back w h0 h1 h2 h3
  replace h3 : ppm ≤ 1000 := by omega
  by_cases h4 : ra < -ppm
  · exact out4 start ra rb ppm begin there stay back w h0 h1 h2 h3 h4
  replace h4 : -ppm ≤ ra := by omega
  by_cases h5 : ppm < ra
  · exact out5 start ra rb ppm begin there stay back w h0 h1 h2 h3 h4 h5
  replace h5 : ra ≤ ppm := by omega
  by_cases h6 : rb < -ppm
  · exact out6 start ra rb ppm begin there stay back w h0 h1 h2 h3 h4 h5 h6
  replace h6 : -ppm ≤ rb := by omega
  by_cases h7 : ppm < rb
  · exact out7 start ra rb ppm begin there stay back w h0 h1 h2 h3 h4 h5 h6 h7
  replace h7 : rb ≤ ppm := by omega
  by_cases h8 : begin < 0
  · exact out8 start ra rb ppm begin there stay back w h0 h1 h2 h3 h4 h5 h6 h7 h8
  replace h8 : 0 ≤ begin := by omega
  by_cases h9 : 100000000 < begin
  · exact out9 start ra rb ppm begin there stay back w h0 h1 h2 h3 h4 h5 h6 h7 h8 h9
  replace h9 : begin ≤ 100000000 := by omega
  by_cases h10 : there < 0
  · exact out10 start ra rb ppm begin there stay back w h0 h1 h2 h3 h4 h5 h6 h7 h8 h9 h10
  replace h10 : 0 ≤ there := by omega
  by_cases h11 : 100000000 < there
  · exact out11 start ra rb ppm begin there stay back w h0 h1 h2 h3 h4 h5 h6 h7 h8 h9 h10 h11
  replace h11 : there ≤ 100000000 := by omega
  by_cases h12 : stay < 0
  · exact out12 start ra rb ppm begin there stay back w h0 h1 h2 h3 h4 h5 h6 h7 h8 h9 h10 h11 h12
  replace h12 : 0 ≤ stay := by omega
  by_cases h13 : 100000000 < stay
  · exact out13 start ra rb ppm begin there stay back w h0 h1 h2 h3 h4 h5 h6 h7 h8 h9 h10 h11 h12 h13
  replace h13 : stay ≤ 100000000 := by omega
  by_cases h14 : back < 0
  · exact out14 start ra rb ppm begin there stay back w h0 h1 h2 h3 h4 h5 h6 h7 h8 h9 h10 h11 h12 h13 h14
  replace h14 : 0 ≤ back := by omega
  by_cases h15 : 100000000 < back
  · exact out15 start ra rb ppm begin there stay back w h0 h1 h2 h3 h4 h5 h6 h7 h8 h9 h10 h11 h12 h13 h14 h15
  replace h15 : back ≤ 100000000 := by omega
  have R1 : -1000 ≤ ra := by omega
  have R2 : ra ≤ 1000 := by omega
  have R3 : -1000 ≤ rb := by omega
  have R4 : rb ≤ 1000 := by omega
  obtain ⟨z, lo, up⟩ := probe_true (start := start) (ra := ra) (rb := rb) (ppm := ppm) (begin := begin) (there := there) (stay := stay) (back := back) h0 h1 h2 h3 h4 h5 h6 h7 h8 h9 h10 h11 h12 h13 h14 h15 rfl rfl rfl rfl rfl
  have k := oE_zero z
  have b4 := sh_b (s := start) (r := rb) (t := begin + there + stay + back) (by omega) (by omega) R3 R4
  have t4 := sh_b (s := 0) (r := ra) (t := begin + there + stay + back) (by omega) (by omega) R1 R2
  exact inside start ra rb ppm begin there stay back w h0 h1 h2 h3 h4 h5 h6 h7 h8 h9 h10 h11 h12 h13 h14 h15 _ _ _ _ _ _
    (fun w => shows_is 0 ra _ w (by omega) (by omega) (by omega) (by omega) R1 R2)
    (fun w => shows_is start rb _ w (by omega) (by omega) (by omega) (by omega) R3 R4)
    (fun w => shows_is start rb _ w (by omega) (by omega) (by omega) (by omega) R3 R4)
    (fun w => shows_is 0 ra _ w (by omega) (by omega) (by omega) (by omega) R1 R2)
    (fun w => shows_is start rb _ w (by omega) (by omega) (by omega) (by omega) R3 R4)
    (fun w => off_ok _ _ _ _ _ w z)
    (fun w => has_yes _ _ _ w (okB_mk ⟨k.2.2.2.2, (tmB_t k.2.2.1).1, (tmB_t k.2.2.2.1).2⟩) lo up)
    (by omega) (by omega) (by omega) (by omega)

theorem own : ownKnob Try.prog.godebug = none := by kernel_rfl
theorem laidOut : laidOutB Try.prog = true := by kernel_rfl

set_option maxRecDepth 100000 in
theorem lifted (os : Os) (started : os.Started) (H : Type) (enc : TypeId × Value → H) :
    ReturnsInHanded {} Try.checked os 4 .any (Rows.probeHoldsSpec.pre6 enc Try.prog Try.f4 Rows.probeHoldsRow.domain false) (Rows.probeHoldsSpec.post enc Try.prog Try.f4 false true false false) := by
  refine returnsInHanded_of_change (C := Try.checked) own started (by kernel_rfl) Try.func4
    (ChangeSpec.witness6 (enc := enc) (C := Try.checked) false ⟨#[], #[.int .i64 0, .int .i64 0, .int .i64 0, .int .i64 0, .int .i64 0, .int .i64 0, .int .i64 0, .int .i64 0], []⟩ 8 (by kernel_rfl) (by kernel_rfl) (by kernel_rfl) (by kernel_rfl)) ?_
  intro W base args ds gs before hval0 hW hcnd _
  have hval : ∀ (j : Nat) t v, Try.f4.params[j]? = some t → args[j]? = some v → Value.okWide Try.prog W .any base t v := hval0
  have hW' := hW
  obtain ⟨p, q, hA0, hV, rfl, hfz, hnd⟩ := hW
  have hA : DataW.TrodAll enc Try.prog W 0 (fun _ => true) true Try.f4.params.toList args.toList ds p := hA0
  rw [Try.params4] at hA hval
  obtain ⟨v0, vs0, d0, ds0, p0, q0, hargs, rfl, rfl, h0, r0⟩ := trodAll_cons hA
  obtain ⟨v1, vs1, d1, ds1, p1, q1, rfl, rfl, rfl, h1, r1⟩ := trodAll_cons r0
  obtain ⟨v2, vs2, d2, ds2, p2, q2, rfl, rfl, rfl, h2, r2⟩ := trodAll_cons r1
  obtain ⟨v3, vs3, d3, ds3, p3, q3, rfl, rfl, rfl, h3, r3⟩ := trodAll_cons r2
  obtain ⟨v4, vs4, d4, ds4, p4, q4, rfl, rfl, rfl, h4, r4⟩ := trodAll_cons r3
  obtain ⟨v5, vs5, d5, ds5, p5, q5, rfl, rfl, rfl, h5, r5⟩ := trodAll_cons r4
  obtain ⟨v6, vs6, d6, ds6, p6, q6, rfl, rfl, rfl, h6, r6⟩ := trodAll_cons r5
  obtain ⟨v7, vs7, d7, ds7, p7, q7, rfl, rfl, rfl, h7, r7⟩ := trodAll_cons r6
  obtain ⟨rfl, rfl, rfl⟩ := trodAll_nil r7
  obtain rfl : args = #[v0, v1, v2, v3, v4, v5, v6, v7] := by cases args; simp_all
  obtain ⟨rfl, rfl⟩ := trodVars_none hV
  have k0 := h0
  have lt0 : ∀ x ∈ p0, x.block < W.heap.size := by obtain ⟨m, hm⟩ := k0; exact DataW.trod_lt m _ _ _ hm
  have k1 := h1
  have lt1 : ∀ x ∈ p1, x.block < W.heap.size := by obtain ⟨m, hm⟩ := k1; exact DataW.trod_lt m _ _ _ hm
  have k2 := h2
  have lt2 : ∀ x ∈ p2, x.block < W.heap.size := by obtain ⟨m, hm⟩ := k2; exact DataW.trod_lt m _ _ _ hm
  have k3 := h3
  have lt3 : ∀ x ∈ p3, x.block < W.heap.size := by obtain ⟨m, hm⟩ := k3; exact DataW.trod_lt m _ _ _ hm
  have k4 := h4
  have lt4 : ∀ x ∈ p4, x.block < W.heap.size := by obtain ⟨m, hm⟩ := k4; exact DataW.trod_lt m _ _ _ hm
  have k5 := h5
  have lt5 : ∀ x ∈ p5, x.block < W.heap.size := by obtain ⟨m, hm⟩ := k5; exact DataW.trod_lt m _ _ _ hm
  have k6 := h6
  have lt6 : ∀ x ∈ p6, x.block < W.heap.size := by obtain ⟨m, hm⟩ := k6; exact DataW.trod_lt m _ _ _ hm
  have k7 := h7
  have lt7 : ∀ x ∈ p7, x.block < W.heap.size := by obtain ⟨m, hm⟩ := k7; exact DataW.trod_lt m _ _ _ hm
  obtain ⟨n0, rfl, rfl, rfl, wf0⟩ := open_int Try.underlying3 (hval 0 3 v0 rfl rfl) h0
  obtain ⟨n1, rfl, rfl, rfl, wf1⟩ := open_int Try.underlying3 (hval 1 3 v1 rfl rfl) h1
  obtain ⟨n2, rfl, rfl, rfl, wf2⟩ := open_int Try.underlying3 (hval 2 3 v2 rfl rfl) h2
  obtain ⟨n3, rfl, rfl, rfl, wf3⟩ := open_int Try.underlying3 (hval 3 3 v3 rfl rfl) h3
  obtain ⟨n4, rfl, rfl, rfl, wf4⟩ := open_int Try.underlying3 (hval 4 3 v4 rfl rfl) h4
  obtain ⟨n5, rfl, rfl, rfl, wf5⟩ := open_int Try.underlying3 (hval 5 3 v5 rfl rfl) h5
  obtain ⟨n6, rfl, rfl, rfl, wf6⟩ := open_int Try.underlying3 (hval 6 3 v6 rfl rfl) h6
  obtain ⟨n7, rfl, rfl, rfl, wf7⟩ := open_int Try.underlying3 (hval 7 3 v7 rfl rfl) h7
  clear hA0 hval0
  refine (walk n0 n1 n2 n3 n4 n5 n6 n7 W wf0 wf1 wf2 wf3 wf4 wf5 wf6 wf7).mono fun e W' ⟨he, bel⟩ => ?_
  subst he
  exact ⟨_, rfl, _, _, _, [], _, [], hW', trodAll_mk1 (shut_bool Try.underlying4 _), (trodAll_cons_mk (Below.trod laidOut (by kernel_rfl) (of_decide_eq_true (by kernel_rfl)) k0 bel lt0) (trodAll_cons_mk (Below.trod laidOut (by kernel_rfl) (of_decide_eq_true (by kernel_rfl)) k1 bel lt1) (trodAll_cons_mk (Below.trod laidOut (by kernel_rfl) (of_decide_eq_true (by kernel_rfl)) k2 bel lt2) (trodAll_cons_mk (Below.trod laidOut (by kernel_rfl) (of_decide_eq_true (by kernel_rfl)) k3 bel lt3) (trodAll_cons_mk (Below.trod laidOut (by kernel_rfl) (of_decide_eq_true (by kernel_rfl)) k4 bel lt4) (trodAll_cons_mk (Below.trod laidOut (by kernel_rfl) (of_decide_eq_true (by kernel_rfl)) k5 bel lt5) (trodAll_cons_mk (Below.trod laidOut (by kernel_rfl) (of_decide_eq_true (by kernel_rfl)) k6 bel lt6) (trodAll_cons_mk (Below.trod laidOut (by kernel_rfl) (of_decide_eq_true (by kernel_rfl)) k7 bel lt7) trodAll_mk0)))))))), rfl, bel.frame _, fun h => by cases h⟩

theorem over : Rows.probeHoldsRow.holds Try.pinned (OpenSpec.ofChange Rows.probeHoldsSpec) :=
  OpenClaim.holds_of_wide 4 Try.f4 rfl rfl rfl rfl rfl rfl rfl ⟨rfl, rfl, rfl, rfl, rfl⟩ rfl rfl rfl rfl rfl (by kernel_rfl) Try.func4 (by kernel_rfl)
    (of_decide_eq_true (by kernel_rfl)) (by unfold Func.isWrapper; first | (rw [if_pos (by decide +kernel)]; kernel_rfl) | (rw [if_neg (by decide +kernel)]; exact ⟨rfl, rfl⟩))
    (fun os started H enc _ => lifted os started H enc)
end Go.Proofs.Ytdhgfdbghfefnab.probeHolds
namespace Go.Proofs.Ytdhgfdbghfefnab
theorem probeHolds_holds : Rows.ProbeHoldsSaid := probeHolds.over
#print axioms probeHolds_holds
end Go.Proofs.Ytdhgfdbghfefnab
