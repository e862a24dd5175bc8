/- What is wrong with any span, of any two what is in both, in between, their sum; turned, widened; what it has; as text: as the document says; the function SpanTells answers true. Conditions: the arguments hold together at most 1048576 values and letters (the second form); the listed package variables hold what the program text lays there (the card ties them). -/
import Derived.Test.YtonlhhkepclnpaaDoorSym
import Derived.Test.YtonlhhkepclnpaaDoorTwo
import Derived.Test.YtonlhhkepclnpaaDoorSpanTellsF
import Derived.Test.YtonlhhkepclnpaaDoorSpanTellsN
import Derived.Test.YtonlhhkepclnpaaDoorSpanTellsT
import Derived.Test.YtonlhhkepclnpaaDoorCards
import Derived.Test.YtonlhhkepclnpaaDoorTie
import Derived.Deep.DeepHandedRow
import Derived.Deep.DeepWitnessRowRef
import Derived.Lib.LaidU8
import Derived.LaidMore
import Derived.MakeChecks
import Derived.ShutString
import Derived.ChangeOld
import Derived.Lib.SmallJoins
import Derived.Deep.RegionHeld
import Derived.Deep.RegionWith
import Derived.Deep.CutRange
import Derived.BigRegion
import Derived.WalkKit
import Derived.ProofKit
import Derived.OpenShut
import Derived.Outline
import Derived.Below
import Derived.WalkLawsBesides
namespace Go.Proofs.YtonlhhkepclnpaaDoor.spanTells
open Go.ChangeShapes Go.WideShapes Go.ChangeAt Go.RowKit Go.Joins Go.Proofs.YtonlhhkepclnpaaDoor.told
open Go.ChangeMaps (open_string shut_string)
set_option linter.unusedVariables false
set_option linter.unusedSimpArgs false

theorem walk (a b c d n : Int) (T : ByteArray) (w : World) (wa : (Lit.int .i64 a).wf = true) (wb : (Lit.int .i64 b).wf = true) (wc : (Lit.int .i64 c).wf = true) (wd : (Lit.int .i64 d).wf = true) (wn : (Lit.int .i64 n).wf = true) (wt : T.size ≤ maxLen) (hT : T.size < 4294967281) (he : Env w) (hg : EnvE w) :
    Calls Tryd.prog 3 #[.agg #[.int .i64 a, .int .i64 b], .agg #[.int .i64 c, .int .i64 d], .int .i64 n, .string T] w fun e w' => e = .returned (.bool true) ∧ Below w.heap.size w w' := by
  obtain ⟨px, py, pf, hp⟩ := parseR_ex T.data.toList
  cases k1 : okB a b with
  | false =>
    cases k2 : okB c d with
    | true => exact wF1 a b c d n px py pf T w hT he hg hp k1 k2 (Or.inl k1)
    | false => exact wF0 a b c d n px py pf T w hT he hg hp k1 k2 (Or.inl k1)
  | true =>
  have q1 := okB_t k1
  obtain ⟨r, hr⟩ := ba_of (printL a b)
  obtain ⟨hsb, hs, hs3⟩ : ∃ hs : Bool, hasB a b n = hs ∧ ((n < a ∧ hs = false) ∨ (a ≤ n ∧ n ≤ b ∧ hs = true) ∨ (a ≤ n ∧ b < n ∧ hs = false)) := by
    by_cases g1 : a ≤ n
    · by_cases g2 : n ≤ b
      · exact ⟨true, decide_eq_true ⟨g1, g2⟩, Or.inr (Or.inl ⟨g1, g2, rfl⟩)⟩
      · exact ⟨false, decide_eq_false (by omega), Or.inr (Or.inr ⟨g1, by omega, rfl⟩)⟩
    · exact ⟨false, decide_eq_false (by omega), Or.inl ⟨by omega, rfl⟩⟩
  obtain ⟨g1, x1, y1, f1, hW3, hW⟩ : ∃ g1 x1 y1 f1 : Int, ((g1 = 1 ∧ (n < 0 ∨ 1000000000000 < n) ∧ x1 = 0 ∧ y1 = 0 ∧ f1 = 1) ∨ (g1 = 0 ∧ 0 ≤ n ∧ n ≤ 1000000000000 ∧ okB (a - n) (b + n) = true ∧ x1 = a - n ∧ y1 = b + n ∧ f1 = 0) ∨ (g1 = 0 ∧ 0 ≤ n ∧ n ≤ 1000000000000 ∧ okB (a - n) (b + n) = false ∧ x1 = 0 ∧ y1 = 0 ∧ f1 = 1)) ∧ WidenR a b n x1 y1 f1 := by
    by_cases g : n < 0 ∨ 1000000000000 < n
    · exact ⟨1, 0, 0, 1, Or.inl ⟨rfl, g, rfl, rfl, rfl⟩, Or.inr ⟨Or.inr (g.elim Or.inl (fun h => Or.inr (Or.inl h))), rfl, rfl, rfl⟩⟩
    · cases k : okB (a - n) (b + n) with
      | true => exact ⟨0, a - n, b + n, 0, Or.inr (Or.inl ⟨rfl, by omega, by omega, rfl, rfl, rfl, rfl⟩), Or.inl ⟨k1, by omega, by omega, k, rfl, rfl, rfl⟩⟩
      | false => exact ⟨0, 0, 0, 1, Or.inr (Or.inr ⟨rfl, by omega, by omega, rfl, rfl, rfl, rfl⟩), Or.inr ⟨Or.inr (Or.inr (Or.inr k)), rfl, rfl, rfl⟩⟩
  cases k2 : okB c d with
  | false => exact wN a b c d n px py pf T w hT he hg hp hsb g1 x1 y1 f1 r k1 (by omega) (by omega) (by omega) hr hs hs3 hW3 hW k2 (Or.inr k2)
  | true =>
  have q2 := okB_t k2
  obtain ⟨hx, hhx⟩ : ∃ hx : Int, (a < c ∧ hx = a) ∨ (c ≤ a ∧ hx = c) := by
    by_cases g : a < c
    · exact ⟨a, by omega⟩
    · exact ⟨c, by omega⟩
  obtain ⟨hy, hhy⟩ : ∃ hy : Int, (d < b ∧ hy = b) ∨ (b ≤ d ∧ hy = d) := by
    by_cases g : d < b
    · exact ⟨b, by omega⟩
    · exact ⟨d, by omega⟩
  obtain ⟨mu, hmu⟩ : ∃ mu : Int, (c < a ∧ mu = a) ∨ (a ≤ c ∧ mu = c) := by
    by_cases g : c < a
    · exact ⟨a, by omega⟩
    · exact ⟨c, by omega⟩
  obtain ⟨mv, hmv⟩ : ∃ mv : Int, (b < d ∧ mv = b) ∨ (d ≤ b ∧ mv = d) := by
    by_cases g : b < d
    · exact ⟨b, by omega⟩
    · exact ⟨d, by omega⟩
  obtain ⟨mx, my, mf, hM3, hM⟩ : ∃ mx my mf : Int, ((mu ≤ mv ∧ mu = mx ∧ mv = my ∧ mf = 0) ∨ (mv < mu ∧ mx = 0 ∧ my = 0 ∧ mf = 5)) ∧ MeetR a b c d mx my mf := by
    by_cases g : mu ≤ mv
    · exact ⟨mu, mv, 0, Or.inl ⟨g, rfl, rfl, rfl⟩, mu, mv, hmu, hmv, Or.inl ⟨g, rfl, rfl, rfl⟩⟩
    · exact ⟨0, 0, 5, Or.inr ⟨by omega, rfl, rfl, rfl⟩, mu, mv, hmu, hmv, Or.inr ⟨by omega, rfl, rfl, rfl⟩⟩
  obtain ⟨sx, sy, sf, hA⟩ : ∃ sx sy sf : Int, AddR a b c d sx sy sf := by
    cases k : okB (a + c) (b + d) with
    | true => exact ⟨a + c, b + d, 0, Or.inl ⟨k, rfl, rfl, rfl⟩⟩
    | false => exact ⟨0, 0, 1, Or.inr ⟨k, rfl, rfl, rfl⟩⟩
  exact wT a b c d n px py pf T w hT he hg hp hx hy mu mv mx my mf sx sy sf hsb g1 x1 y1 f1 r k1 (by omega) (by omega) (by omega) hr hs hs3 hW3 hW k2 (by omega) (by omega) (by omega) hhx hhy (show _ ∨ _ by omega) (show _ ∨ _ by omega) hmu hmv hM3 hM hA

theorem own : ownKnob Tryd.prog.godebug = none := by kernel_rfl
theorem laidOut : laidOutB Tryd.prog = true := by kernel_rfl
theorem cellsSpan : Tryd.prog.cellsOf 23 = 2 := by kernel_rfl
theorem et : Tryd.prog.globalNamed "errors.errorType" = some 0 := by kernel_rfl
theorem rt : (Tryd.prog.cutTypes.find? (·.1 == "internal/reflectlite.rtype")).map (·.2) = some 86 := by kernel_rfl
theorem oneRow : ((List.range 165).filter fun t => Tryd.prog.rowNamed t [101, 114, 114, 111, 114]) = [27] := by kernel_rfl
theorem nTypes : Tryd.prog.types.size = 165 := by kernel_rfl

/-- What the condition on the listed variables gives: the handle of the type error. -/
theorem handle_of {W : World} (h : handlesMet Tryd.prog [("errors.errorType", Rows.laid_errors_errorType)] W) : EnvE W := by
  obtain ⟨name, u, ty, e1, e2, e3, e4, e5⟩ := h _ (List.mem_singleton.2 rfl)
  have en : name = [101, 114, 114, 111, 114] := (Option.some.inj e1).symm
  subst en
  obtain rfl := Option.some.inj (rt.symm.trans e2)
  have hm : ty ∈ (List.range 165).filter fun t => Tryd.prog.rowNamed t [101, 114, 114, 111, 114] := List.mem_filter.2 ⟨List.mem_range.2 (by rw [← nTypes]; exact e3), e4⟩
  rw [oneRow] at hm
  obtain rfl := List.mem_singleton.1 hm
  have hh : typeHandle Tryd.prog 27 = .pointer (some ⟨7, 27, none⟩) := by kernel_rfl
  rw [hh] at e5
  unfold EnvE
  simpa using World.var?_cell et e5 0

theorem env_of {W : World} (hL : laidMetH Tryd.prog Rows.spanTellsUptoRow.laid W) (hsh : W.ShapedOpen Tryd.prog) : Env W ∧ EnvE W := by
  have h' : laidMet Tryd.prog [("math/bits.deBruijn32tab", Rows.laid_math_bits_deBruijn32tab), ("math/bits.deBruijn64tab", Rows.laid_math_bits_deBruijn64tab), ("internal/strconv.uint64pow10", Rows.laid_internal_strconv_uint64pow10), ("strconv.ErrRange", Rows.laid_strconv_ErrRange), ("strconv.ErrSyntax", Rows.laid_strconv_ErrSyntax)] W ∧ handlesMet Tryd.prog [("errors.errorType", Rows.laid_errors_errorType)] W := hL
  refine ⟨⟨Tryd.laysM145.s1_3 W hsh, ?_⟩, handle_of h'.2⟩
  obtain ⟨g, t, cs, fuel, p, hg, ht, hv, hd⟩ := Lib.laidMet.reads h'.1 (n := "internal/strconv.uint64pow10") (d := Rows.laid_internal_strconv_uint64pow10) (.tail _ (.tail _ (.head _)))
  obtain rfl := Option.some.inj ((show Tryd.prog.globalNamed "internal/strconv.uint64pow10" = some 2 by kernel_rfl).symm.trans hg)
  obtain rfl := Option.some.inj ((show (Tryd.prog.globals[2]?).map (·.type) = some 117 by kernel_rfl).symm.trans ht)
  unfold Lib.TabIs
  have e : (Rows.laid_internal_strconv_uint64pow10 : DataW Unit) = Lib.tabData .u64 Lib.pow10Tab := rfl
  rw [e] at hd
  rw [hv, ← Lib.cells_of_tab Tryd.underlying117 Tryd.underlying100 (by kernel_rfl) (by kernel_rfl) hd]

set_option maxRecDepth 100000 in
theorem contract (H : Type) (enc : TypeId × Value → H) (W : World) (base : Nat) (args : Array Value) (ds gs : List (DataW H)) (before : List MemPlace)
    (hval : ∀ (j : Nat) t v, Tryd.f3.params[j]? = some t → args[j]? = some v → Value.okWide Tryd.prog W .any base t v)
    (hW : DataW.Whole enc Tryd.prog Tryd.f3.params.toList Rows.spanTellsSpec.vars false W args.toList ds gs before) (hL : laidMetH Tryd.prog Rows.spanTellsUptoRow.laid W) (hsh : W.ShapedOpen Tryd.prog) (hk : Rows.uptoSmall H (ds ++ gs) = true) :
    Calls Tryd.prog 3 args W fun e W' => ∃ v, e = .returned v ∧ Rows.spanTellsSpec.post enc Tryd.prog Tryd.f3 false true false false W args v W' := by
  have he := env_of hL hsh
  have hW' := hW
  obtain ⟨p, q, hA0, hV, rfl, hfz, hnd⟩ := hW
  have hA : DataW.TrodAll enc Tryd.prog W 0 (fun _ => true) true Tryd.f3.params.toList args.toList ds p := hA0
  rw [Tryd.params3] at hA hval
  obtain ⟨v0, vs0, d0, ds0, p0, q0, hargs, rfl, rfl, h0, r0⟩ := trodAll_cons hA
  obtain ⟨v1, vs1, d1, ds1, p1, q1, rfl, rfl, rfl, h1, r1⟩ := trodAll_cons r0
  obtain ⟨v2, vs2, d2, ds2, p2, q2, rfl, rfl, rfl, h2, r2⟩ := trodAll_cons r1
  obtain ⟨v3, vs3, d3, ds3, p3, q3, rfl, rfl, rfl, h3, r3⟩ := trodAll_cons r2
  obtain ⟨rfl, rfl, rfl⟩ := trodAll_nil r3
  obtain rfl : args = #[v0, v1, v2, v3] := by cases args; simp_all
  obtain ⟨rfl, rfl⟩ := trodVars_none hV
  have k0 := h0
  have lt0 : ∀ x ∈ p0, x.block < W.heap.size := by obtain ⟨m, hm⟩ := k0; exact DataW.trod_lt m _ _ _ hm
  have k1 := h1
  have lt1 : ∀ x ∈ p1, x.block < W.heap.size := by obtain ⟨m, hm⟩ := k1; exact DataW.trod_lt m _ _ _ hm
  have k2 := h2
  have lt2 : ∀ x ∈ p2, x.block < W.heap.size := by obtain ⟨m, hm⟩ := k2; exact DataW.trod_lt m _ _ _ hm
  have k3 := h3
  have lt3 : ∀ x ∈ p3, x.block < W.heap.size := by obtain ⟨m, hm⟩ := k3; exact DataW.trod_lt m _ _ _ hm
  obtain ⟨c00, c01, y00, y01, m0, rfl, rfl, rfl, hy00, hy01⟩ := open_agg2 Tryd.underlying23 (by kernel_rfl) cellsSpan (hval 0 23 v0 rfl rfl) h0
  obtain ⟨n00, e00, rfl, wf00⟩ := DataW.trod_int Tryd.underlying3 hy00
  obtain ⟨n01, e01, rfl, wf01⟩ := DataW.trod_int Tryd.underlying3 hy01
  simp at e00 e01
  subst e00 e01
  obtain ⟨c10, c11, y10, y11, m1, rfl, rfl, rfl, hy10, hy11⟩ := open_agg2 Tryd.underlying23 (by kernel_rfl) cellsSpan (hval 1 23 v1 rfl rfl) h1
  obtain ⟨n10, e10, rfl, wf10⟩ := DataW.trod_int Tryd.underlying3 hy10
  obtain ⟨n11, e11, rfl, wf11⟩ := DataW.trod_int Tryd.underlying3 hy11
  simp at e10 e11
  subst e10 e11
  obtain ⟨n2, rfl, rfl, rfl, wf2⟩ := open_int Tryd.underlying3 (hval 2 3 v2 rfl rfl) h2
  obtain ⟨n3, rfl, rfl, rfl, wf3⟩ := open_string Tryd.underlying9 (hval 3 9 v3 rfl rfl) h3
  have s3 : n3.size ≤ 1048576 := by
    rw [Lib.size_eq]
    have hk2 := of_decide_eq_true hk
    simp only [List.append_nil, Rows.uptoBulkAll, Rows.uptoBulk] at hk2
    omega
  clear hA0
  refine (walk n00 n01 n10 n11 n2 n3 W wf00 wf01 wf10 wf11 wf2 wf3 (by omega) he.1 he.2).mono fun e W' ⟨hee, bel⟩ => ?_
  subst hee
  exact ⟨_, rfl, _, _, _, [], _, [], hW', trodAll_mk1 (shut_bool Tryd.underlying4 _), (trodAll_cons_mk (Below.trod laidOut (by kernel_rfl) (of_decide_eq_true (by kernel_rfl)) k0 bel lt0) (trodAll_cons_mk (Below.trod laidOut (by kernel_rfl) (of_decide_eq_true (by kernel_rfl)) k1 bel lt1) (trodAll_cons_mk (Below.trod laidOut (by kernel_rfl) (of_decide_eq_true (by kernel_rfl)) k2 bel lt2) (trodAll_cons_mk (Below.trod laidOut (by kernel_rfl) (of_decide_eq_true (by kernel_rfl)) k3 bel lt3) trodAll_mk0)))), rfl, bel.frame _, fun h => by cases h⟩

theorem laid_met (os : Os) : laidMetH Tryd.prog Rows.spanTellsUptoRow.laid ((World.doorLaid Tryd.prog 4000 os).forCall (fun _ _ => 0) ⟨#[], #[.agg #[.int .i64 0, .int .i64 0], .agg #[.int .i64 0, .int .i64 0], .int .i64 0, .string ⟨#[]⟩], []⟩).memory :=
  laidMetH_of_parts3 (fuel := 8) (laidMet_of_run' 8 (by kernel_rfl) (by kernel_rfl)) (by kernel_rfl) (by kernel_rfl)

theorem reads (os : Os) {H : Type} (enc : TypeId × Value → H) : ∃ places, DataW.whole enc Tryd.prog ((World.doorLaid Tryd.prog 4000 os).forCall (fun _ _ => 0) ⟨#[], #[.agg #[.int .i64 0, .int .i64 0], .agg #[.int .i64 0, .int .i64 0], .int .i64 0, .string ⟨#[]⟩], []⟩).memory Tryd.f3.params.toList Rows.spanTellsSpec.vars false [.agg #[.int .i64 0, .int .i64 0], .agg #[.int .i64 0, .int .i64 0], .int .i64 0, .string ⟨#[]⟩] 8 = some ([.agg [.lit (.int .i64 0), .lit (.int .i64 0)], .agg [.lit (.int .i64 0), .lit (.int .i64 0)], .lit (.int .i64 0), .lit (.string [])], [], places) :=
  ⟨[], by kernel_rfl⟩

set_option maxRecDepth 100000 in
theorem lifted (os : Os) (started : os.Started) (H : Type) (enc : TypeId × Value → H) (F : Stop.Interp) :
    ReturnsInHanded {} Tryd.checked os 3 .any ((Rows.OpenSpec.upto Rows.spanTellsSpec).preRow enc Tryd.prog Tryd.f3 Rows.spanTellsUptoRow.domain false Rows.spanTellsUptoRow.laid) (((Rows.OpenSpec.upto Rows.spanTellsSpec).at F).post enc Tryd.prog Tryd.f3 false true false false) := by
  obtain ⟨places, hx⟩ := reads os enc
  refine returnsInHanded_of_row (C := Tryd.checked) (s := Rows.OpenSpec.upto Rows.spanTellsSpec) own started (by kernel_rfl) Tryd.func3
    (witness_row_atRef (enc := enc) (C := Tryd.checked) false (World.doorLaid Tryd.prog 4000 os) #[.agg #[.int .i64 0, .int .i64 0], .agg #[.int .i64 0, .int .i64 0], .int .i64 0, .string ⟨#[]⟩] rfl (by kernel_rfl) (by kernel_rfl) (by kernel_rfl)
      (OpenSpec.preRow_of_cond 8 hx (by kernel_rfl) (fun k hk => by cases hk; kernel_rfl) (by kernel_rfl) (laid_met os))) ?_
  intro W base args ds gs before hval hW _ hcond _ hL hsh _
  exact contract H enc W base args ds gs before hval hW hL hsh (hcond _ rfl)

theorem said : Rows.SpanTellsUptoSaid :=
  OpenClaim.holds_of_cond 3 Tryd.f3 rfl rfl rfl rfl rfl rfl rfl ⟨rfl, rfl, rfl, rfl, rfl⟩ rfl rfl rfl rfl rfl (by kernel_rfl) Tryd.func3 (by kernel_rfl)
    (of_decide_eq_true (by kernel_rfl)) (by unfold Func.isWrapper; first | (rw [if_pos (by decide +kernel)]; kernel_rfl) | (rw [if_neg (by decide +kernel)]; exact ⟨rfl, rfl⟩))
    (fun os started H enc _ F => by rw [OpenClaim.pre_eq_preRow]; exact lifted os started H enc F)

theorem plain (f : FuncId) (fn : Func) (hf : Tryd.pinned.checked.prog.funcNamed "noonmark/noonlaw1.SpanTells" = some f) (hfn : Tryd.pinned.checked.prog.funcs[f]? = some fn) :
    true = Tryd.pinned.checked.prog.looks [] ∧ ∀ (j : Nat) t, fn.params[j]? = some t → Tryd.pinned.checked.prog.wantsStandIn t = false := by
  obtain rfl : f = 3 := Option.some.inj ((show Tryd.prog.funcNamed "noonmark/noonlaw1.SpanTells" = some 3 by kernel_rfl).symm.trans hf) |>.symm
  obtain rfl : fn = Tryd.f3 := (Option.some.inj (Tryd.func3.symm.trans hfn)).symm
  refine ⟨by kernel_rfl, fun j t ht => ?_⟩
  rw [Tryd.params3] at ht
  have hm := Array.mem_of_getElem? ht
  have all : ∀ t ∈ (#[23, 23, 3, 9] : Array Nat), Tryd.prog.wantsStandIn t = false := by
    intro t ht
    simp only [List.mem_toArray, List.mem_cons, List.not_mem_nil, or_false] at ht
    rcases ht with rfl | rfl | rfl | rfl <;> kernel_rfl
  exact all t hm

theorem card : Rows.SpanTellsUptoCardSaid :=
  Claim7.holds_tied_plain_at .later [] _ _ _ _ said (fun _ h => by cases h) (by kernel_rfl) (fun _ h => by cases h) spanTellsUpto_row_tie rfl ⟨rfl, rfl⟩ (by kernel_rfl) rfl plain (by kernel_rfl)
end Go.Proofs.YtonlhhkepclnpaaDoor.spanTells
namespace Go.Proofs.YtonlhhkepclnpaaDoor
theorem spanTells_holds : Rows.SpanTellsUptoCardSaid := spanTells.card
#print axioms spanTells_holds
end Go.Proofs.YtonlhhkepclnpaaDoor
