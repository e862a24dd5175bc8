/- A number is in what is in both of two spans just if it is in both; of two numbers the sum is in the sum, the contrary in the turned one; spans are read as they were written: the function SpanHolds answers true, where its arguments hold together at most 1048576 values and letters. -/
import Derived.Test.YtonlhhkepclnpaaDoorSpanHoldsA
import Derived.Test.YtonlhhkepclnpaaDoorSpanHoldsB
import Derived.Test.YtonlhhkepclnpaaDoorSpanHoldsC
import Derived.Test.YtonlhhkepclnpaaDoorSpanHoldsD
import Derived.Test.YtonlhhkepclnpaaDoorCards
import Derived.Test.YtonlhhkepclnpaaDoorTie
import Derived.Deep.DeepHandedRow
import Derived.Deep.DeepWitnessRowRef
import Derived.Lib.LaidU8
import Derived.LaidMore
import Derived.MakeChecks
import Derived.WalkKit
import Derived.ProofKit
import Derived.OpenShut
import Derived.Outline
import Derived.ShutString
import Derived.ChangeOld
import Derived.Below
import Derived.WalkLawsBesides
import Derived.Lib.SmallJoins
namespace Go.Proofs.YtonlhhkepclnpaaDoor.spanHolds
open Go.ChangeShapes Go.WideShapes Go.ChangeAt Go.RowKit Go.Joins
open Go.ChangeMaps (open_string shut_string)
set_option linter.unusedVariables false

theorem wrap_in (n : Int) (h : -9223372036854775808 ≤ n ∧ n ≤ 9223372036854775807) : wrap64 n = n := by unfold wrap64; omega

theorem rest_ok (a b c d n m : Int) (T : ByteArray) (w : World) (hT : T.size < 4294967281) (he : Env w) (x0 y0 : Int) (hp : parseL T.data.toList = some (x0, y0)) (k0 : okB x0 y0 = true) (hq : T.data.toList = printL x0 y0) :
    Calls Tryd.prog 4 #[.agg #[.int .i64 a, .int .i64 b], .agg #[.int .i64 c, .int .i64 d], .int .i64 n, .int .i64 m, .string T] w fun e w' => e = .returned (.bool true) ∧ Below w.heap.size w w' := by
  cases k1 : okB a b with
  | false => exact w_ok_a a b c d n m T w hT he x0 y0 hp k0 hq k1
  | true =>
  obtain ⟨r, hr⟩ := ba_of (printL a b)
  cases k2 : okB c d with
  | false => exact w_ok_b a b c d n m T w hT he x0 y0 hp k0 hq k1 k2 r hr
  | true =>
  have q1 := okB_t k1
  have q2 := okB_t k2
  have hr2 : parseL r.data.toList = some (a, b) := by rw [hr]; exact parse_print a b (by omega) (by omega) (by omega) (by omega)
  have hr3 : r.size < 4294967281 := by have := print_size a b r k1 hr; omega
  have k5 : okB (-b) (-a) = true := okB_mk (by omega)
  obtain ⟨x, hx⟩ : ∃ x : Int, (a < c ∧ x = c) ∨ (c ≤ a ∧ x = a) := by
    by_cases g : a < c
    · exact ⟨c, by omega⟩
    · exact ⟨a, by omega⟩
  obtain ⟨y, hy⟩ : ∃ y : Int, (d < b ∧ y = d) ∨ (b ≤ d ∧ y = b) := by
    by_cases g : d < b
    · exact ⟨d, by omega⟩
    · exact ⟨b, by omega⟩
  cases hP : hasB a b n with
  | false =>
    have hR : hasB c d m = hasB c d m := rfl
    have hQ : hasB c d n = hasB c d n := rfl
    have hK : hasB (-b) (-a) (wrap64 (-n)) = hasB (-b) (-a) (wrap64 (-n)) := rfl
    have pf := of_decide_eq_false hP
    by_cases h3 : x ≤ y
    · have k3 : okB x y = true := okB_mk (by omega)
      have hPQ : hasB x y n = false := decide_eq_false (by omega)
      cases k4 : okB (a + c) (b + d) with
      | true => exact w_ok_f_ok_ok a b c d n m T w hT he x0 y0 hp k0 hq _ _ _ r hr hr2 hr3 k1 k2 (by omega) (by omega) hP hQ hR k5 hK x y (a + c) (b + d) hx hy rfl rfl h3 k3 hPQ k4
      | false => exact w_ok_f_ok_no a b c d n m T w hT he x0 y0 hp k0 hq _ _ _ r hr hr2 hr3 k1 k2 (by omega) (by omega) hP hQ hR k5 hK x y (a + c) (b + d) hx hy rfl rfl h3 k3 hPQ k4
    · cases k4 : okB (a + c) (b + d) with
      | true => exact w_ok_f_no_ok a b c d n m T w hT he x0 y0 hp k0 hq _ _ _ r hr hr2 hr3 k1 k2 (by omega) (by omega) hP hQ hR k5 hK x y (a + c) (b + d) hx hy rfl rfl (by omega) k4
      | false => exact w_ok_f_no_no a b c d n m T w hT he x0 y0 hp k0 hq _ _ _ r hr hr2 hr3 k1 k2 (by omega) (by omega) hP hQ hR k5 hK x y (a + c) (b + d) hx hy rfl rfl (by omega) k4
  | true =>
    have pt := of_decide_eq_true hP
    have wn : wrap64 (-n) = -n := wrap_in _ (by omega)
    have hK : hasB (-b) (-a) (wrap64 (-n)) = true := by rw [wn]; exact decide_eq_true (by omega)
    cases hQ : hasB c d n with
    | true =>
      have qt := of_decide_eq_true hQ
      have h3 : x ≤ y := by omega
      have k3 : okB x y = true := okB_mk (by omega)
      have hPQ : hasB x y n = true := decide_eq_true (by omega)
      cases k4 : okB (a + c) (b + d) with
      | true =>
        cases hR : hasB c d m with
        | true =>
          have rt := of_decide_eq_true hR
          have wm : wrap64 (n + m) = n + m := wrap_in _ (by omega)
          have hS : hasB (a + c) (b + d) (wrap64 (n + m)) = true := by rw [wm]; exact decide_eq_true (by omega)
          exact w_ok_t_okt_okt a b c d n m T w hT he x0 y0 hp k0 hq r hr hr2 hr3 k1 k2 (by omega) (by omega) hP hQ hR k5 hK x y (a + c) (b + d) hx hy rfl rfl h3 k3 hPQ k4 hS
        | false => exact w_ok_t_okt_okf a b c d n m T w hT he x0 y0 hp k0 hq r hr hr2 hr3 k1 k2 (by omega) (by omega) hP hQ hR k5 hK x y (a + c) (b + d) hx hy rfl rfl h3 k3 hPQ k4
      | false =>
        have hR : hasB c d m = hasB c d m := rfl
        exact w_ok_t_okt_noR a b c d n m T w hT he x0 y0 hp k0 hq _ r hr hr2 hr3 k1 k2 (by omega) (by omega) hP hQ hR k5 hK x y (a + c) (b + d) hx hy rfl rfl h3 k3 hPQ k4
    | false =>
      have qf := of_decide_eq_false hQ
      by_cases h3 : x ≤ y
      · have k3 : okB x y = true := okB_mk (by omega)
        have hPQ : hasB x y n = false := decide_eq_false (by omega)
        cases k4 : okB (a + c) (b + d) with
        | true =>
          cases hR : hasB c d m with
          | true =>
            have rt := of_decide_eq_true hR
            have wm : wrap64 (n + m) = n + m := wrap_in _ (by omega)
            have hS : hasB (a + c) (b + d) (wrap64 (n + m)) = true := by rw [wm]; exact decide_eq_true (by omega)
            exact w_ok_t_okf_okt a b c d n m T w hT he x0 y0 hp k0 hq r hr hr2 hr3 k1 k2 (by omega) (by omega) hP hQ hR k5 hK x y (a + c) (b + d) hx hy rfl rfl h3 k3 hPQ k4 hS
          | false => exact w_ok_t_okf_okf a b c d n m T w hT he x0 y0 hp k0 hq r hr hr2 hr3 k1 k2 (by omega) (by omega) hP hQ hR k5 hK x y (a + c) (b + d) hx hy rfl rfl h3 k3 hPQ k4
        | false =>
          have hR : hasB c d m = hasB c d m := rfl
          exact w_ok_t_okf_noR a b c d n m T w hT he x0 y0 hp k0 hq _ r hr hr2 hr3 k1 k2 (by omega) (by omega) hP hQ hR k5 hK x y (a + c) (b + d) hx hy rfl rfl h3 k3 hPQ k4
      · cases k4 : okB (a + c) (b + d) with
        | true =>
          cases hR : hasB c d m with
          | true =>
            have rt := of_decide_eq_true hR
            have wm : wrap64 (n + m) = n + m := wrap_in _ (by omega)
            have hS : hasB (a + c) (b + d) (wrap64 (n + m)) = true := by rw [wm]; exact decide_eq_true (by omega)
            exact w_ok_t_nof_okt a b c d n m T w hT he x0 y0 hp k0 hq r hr hr2 hr3 k1 k2 (by omega) (by omega) hP hQ hR k5 hK x y (a + c) (b + d) hx hy rfl rfl (by omega) k4 hS
          | false => exact w_ok_t_nof_okf a b c d n m T w hT he x0 y0 hp k0 hq r hr hr2 hr3 k1 k2 (by omega) (by omega) hP hQ hR k5 hK x y (a + c) (b + d) hx hy rfl rfl (by omega) k4
        | false =>
          have hR : hasB c d m = hasB c d m := rfl
          exact w_ok_t_nof_noR a b c d n m T w hT he x0 y0 hp k0 hq _ r hr hr2 hr3 k1 k2 (by omega) (by omega) hP hQ hR k5 hK x y (a + c) (b + d) hx hy rfl rfl (by omega) k4

theorem rest_no (a b c d n m : Int) (T : ByteArray) (w : World) (hT : T.size < 4294967281) (he : Env w) (ec : Int) (hp : perr T.data.toList ec) :
    Calls Tryd.prog 4 #[.agg #[.int .i64 a, .int .i64 b], .agg #[.int .i64 c, .int .i64 d], .int .i64 n, .int .i64 m, .string T] w fun e w' => e = .returned (.bool true) ∧ Below w.heap.size w w' := by
  cases k1 : okB a b with
  | false => exact w_no_a a b c d n m T w hT he ec hp k1
  | true =>
  obtain ⟨r, hr⟩ := ba_of (printL a b)
  cases k2 : okB c d with
  | false => exact w_no_b a b c d n m T w hT he ec hp k1 k2 r hr
  | true =>
  have q1 := okB_t k1
  have q2 := okB_t k2
  have hr2 : parseL r.data.toList = some (a, b) := by rw [hr]; exact parse_print a b (by omega) (by omega) (by omega) (by omega)
  have hr3 : r.size < 4294967281 := by have := print_size a b r k1 hr; omega
  have k5 : okB (-b) (-a) = true := okB_mk (by omega)
  obtain ⟨x, hx⟩ : ∃ x : Int, (a < c ∧ x = c) ∨ (c ≤ a ∧ x = a) := by
    by_cases g : a < c
    · exact ⟨c, by omega⟩
    · exact ⟨a, by omega⟩
  obtain ⟨y, hy⟩ : ∃ y : Int, (d < b ∧ y = d) ∨ (b ≤ d ∧ y = b) := by
    by_cases g : d < b
    · exact ⟨d, by omega⟩
    · exact ⟨b, by omega⟩
  cases hP : hasB a b n with
  | false =>
    have hR : hasB c d m = hasB c d m := rfl
    have hQ : hasB c d n = hasB c d n := rfl
    have hK : hasB (-b) (-a) (wrap64 (-n)) = hasB (-b) (-a) (wrap64 (-n)) := rfl
    have pf := of_decide_eq_false hP
    by_cases h3 : x ≤ y
    · have k3 : okB x y = true := okB_mk (by omega)
      have hPQ : hasB x y n = false := decide_eq_false (by omega)
      cases k4 : okB (a + c) (b + d) with
      | true => exact w_no_f_ok_ok a b c d n m T w hT he ec hp _ _ _ r hr hr2 hr3 k1 k2 (by omega) (by omega) hP hQ hR k5 hK x y (a + c) (b + d) hx hy rfl rfl h3 k3 hPQ k4
      | false => exact w_no_f_ok_no a b c d n m T w hT he ec hp _ _ _ r hr hr2 hr3 k1 k2 (by omega) (by omega) hP hQ hR k5 hK x y (a + c) (b + d) hx hy rfl rfl h3 k3 hPQ k4
    · cases k4 : okB (a + c) (b + d) with
      | true => exact w_no_f_no_ok a b c d n m T w hT he ec hp _ _ _ r hr hr2 hr3 k1 k2 (by omega) (by omega) hP hQ hR k5 hK x y (a + c) (b + d) hx hy rfl rfl (by omega) k4
      | false => exact w_no_f_no_no a b c d n m T w hT he ec hp _ _ _ r hr hr2 hr3 k1 k2 (by omega) (by omega) hP hQ hR k5 hK x y (a + c) (b + d) hx hy rfl rfl (by omega) k4
  | true =>
    have pt := of_decide_eq_true hP
    have wn : wrap64 (-n) = -n := wrap_in _ (by omega)
    have hK : hasB (-b) (-a) (wrap64 (-n)) = true := by rw [wn]; exact decide_eq_true (by omega)
    cases hQ : hasB c d n with
    | true =>
      have qt := of_decide_eq_true hQ
      have h3 : x ≤ y := by omega
      have k3 : okB x y = true := okB_mk (by omega)
      have hPQ : hasB x y n = true := decide_eq_true (by omega)
      cases k4 : okB (a + c) (b + d) with
      | true =>
        cases hR : hasB c d m with
        | true =>
          have rt := of_decide_eq_true hR
          have wm : wrap64 (n + m) = n + m := wrap_in _ (by omega)
          have hS : hasB (a + c) (b + d) (wrap64 (n + m)) = true := by rw [wm]; exact decide_eq_true (by omega)
          exact w_no_t_okt_okt a b c d n m T w hT he ec hp r hr hr2 hr3 k1 k2 (by omega) (by omega) hP hQ hR k5 hK x y (a + c) (b + d) hx hy rfl rfl h3 k3 hPQ k4 hS
        | false => exact w_no_t_okt_okf a b c d n m T w hT he ec hp r hr hr2 hr3 k1 k2 (by omega) (by omega) hP hQ hR k5 hK x y (a + c) (b + d) hx hy rfl rfl h3 k3 hPQ k4
      | false =>
        have hR : hasB c d m = hasB c d m := rfl
        exact w_no_t_okt_noR a b c d n m T w hT he ec hp _ r hr hr2 hr3 k1 k2 (by omega) (by omega) hP hQ hR k5 hK x y (a + c) (b + d) hx hy rfl rfl h3 k3 hPQ k4
    | false =>
      have qf := of_decide_eq_false hQ
      by_cases h3 : x ≤ y
      · have k3 : okB x y = true := okB_mk (by omega)
        have hPQ : hasB x y n = false := decide_eq_false (by omega)
        cases k4 : okB (a + c) (b + d) with
        | true =>
          cases hR : hasB c d m with
          | true =>
            have rt := of_decide_eq_true hR
            have wm : wrap64 (n + m) = n + m := wrap_in _ (by omega)
            have hS : hasB (a + c) (b + d) (wrap64 (n + m)) = true := by rw [wm]; exact decide_eq_true (by omega)
            exact w_no_t_okf_okt a b c d n m T w hT he ec hp r hr hr2 hr3 k1 k2 (by omega) (by omega) hP hQ hR k5 hK x y (a + c) (b + d) hx hy rfl rfl h3 k3 hPQ k4 hS
          | false => exact w_no_t_okf_okf a b c d n m T w hT he ec hp r hr hr2 hr3 k1 k2 (by omega) (by omega) hP hQ hR k5 hK x y (a + c) (b + d) hx hy rfl rfl h3 k3 hPQ k4
        | false =>
          have hR : hasB c d m = hasB c d m := rfl
          exact w_no_t_okf_noR a b c d n m T w hT he ec hp _ r hr hr2 hr3 k1 k2 (by omega) (by omega) hP hQ hR k5 hK x y (a + c) (b + d) hx hy rfl rfl h3 k3 hPQ k4
      · cases k4 : okB (a + c) (b + d) with
        | true =>
          cases hR : hasB c d m with
          | true =>
            have rt := of_decide_eq_true hR
            have wm : wrap64 (n + m) = n + m := wrap_in _ (by omega)
            have hS : hasB (a + c) (b + d) (wrap64 (n + m)) = true := by rw [wm]; exact decide_eq_true (by omega)
            exact w_no_t_nof_okt a b c d n m T w hT he ec hp r hr hr2 hr3 k1 k2 (by omega) (by omega) hP hQ hR k5 hK x y (a + c) (b + d) hx hy rfl rfl (by omega) k4 hS
          | false => exact w_no_t_nof_okf a b c d n m T w hT he ec hp r hr hr2 hr3 k1 k2 (by omega) (by omega) hP hQ hR k5 hK x y (a + c) (b + d) hx hy rfl rfl (by omega) k4
        | false =>
          have hR : hasB c d m = hasB c d m := rfl
          exact w_no_t_nof_noR a b c d n m T w hT he ec hp _ r hr hr2 hr3 k1 k2 (by omega) (by omega) hP hQ hR k5 hK x y (a + c) (b + d) hx hy rfl rfl (by omega) k4

theorem walk (a b c d n m : Int) (T : ByteArray) (w : World) (wa : (Lit.int .i64 a).wf = true) (wb : (Lit.int .i64 b).wf = true) (wc : (Lit.int .i64 c).wf = true) (wd : (Lit.int .i64 d).wf = true) (wn : (Lit.int .i64 n).wf = true) (wm : (Lit.int .i64 m).wf = true) (wt : T.size ≤ maxLen) (hT : T.size < 4294967281) (he : Env w) :
    Calls Tryd.prog 4 #[.agg #[.int .i64 a, .int .i64 b], .agg #[.int .i64 c, .int .i64 d], .int .i64 n, .int .i64 m, .string T] w fun e w' => e = .returned (.bool true) ∧ Below w.heap.size w w' := by
  cases hp : parseL T.data.toList with
  | none => exact rest_no a b c d n m T w hT he 2 (Or.inl ⟨hp, rfl⟩)
  | some xy =>
    obtain ⟨x0, y0⟩ := xy
    cases k0 : okB x0 y0 with
    | true => exact rest_ok a b c d n m T w hT he x0 y0 hp k0 (parse_some hp).1
    | false => exact rest_no a b c d n m T w hT he 1 (Or.inr ⟨x0, y0, hp, k0, rfl⟩)

theorem own : ownKnob Tryd.prog.godebug = none := by kernel_rfl
theorem laidOut : laidOutB Tryd.prog = true := by kernel_rfl
theorem cellsSpan : Tryd.prog.cellsOf 23 = 2 := by kernel_rfl

theorem env_of {W : World} (hL : laidMetH Tryd.prog Rows.spanHoldsRow.laid W) (hsh : W.ShapedOpen Tryd.prog) : Env W := by
  rw [MakeChecks.laidMetH_plain _ _ _ (by kernel_rfl)] at hL
  refine ⟨Tryd.laysM145.s1_3 W hsh, ?_⟩
  obtain ⟨g, t, cs, fuel, p, hg, ht, hv, hd⟩ := Lib.laidMet.reads hL (n := "internal/strconv.uint64pow10") (d := Rows.laid_internal_strconv_uint64pow10) (.tail _ (.tail _ (.head _)))
  obtain rfl := Option.some.inj ((show Tryd.prog.globalNamed "internal/strconv.uint64pow10" = some 2 by kernel_rfl).symm.trans hg)
  obtain rfl := Option.some.inj ((show (Tryd.prog.globals[2]?).map (·.type) = some 117 by kernel_rfl).symm.trans ht)
  unfold Lib.TabIs
  have e : (Rows.laid_internal_strconv_uint64pow10 : DataW Unit) = Lib.tabData .u64 Lib.pow10Tab := rfl
  rw [e] at hd
  rw [hv, ← Lib.cells_of_tab Tryd.underlying117 Tryd.underlying100 (by kernel_rfl) (by kernel_rfl) hd]

set_option maxRecDepth 100000 in
theorem contract (H : Type) (enc : TypeId × Value → H) (W : World) (base : Nat) (args : Array Value) (ds gs : List (DataW H)) (before : List MemPlace)
    (hval : ∀ (j : Nat) t v, Tryd.f4.params[j]? = some t → args[j]? = some v → Value.okWide Tryd.prog W .any base t v)
    (hW : DataW.Whole enc Tryd.prog Tryd.f4.params.toList Rows.spanHoldsSpec.vars false W args.toList ds gs before) (hL : laidMetH Tryd.prog Rows.spanHoldsRow.laid W) (hsh : W.ShapedOpen Tryd.prog) (hk : Rows.uptoSmall H (ds ++ gs) = true) :
    Calls Tryd.prog 4 args W fun e W' => ∃ v, e = .returned v ∧ Rows.spanHoldsSpec.post enc Tryd.prog Tryd.f4 false true false false W args v W' := by
  have he := env_of hL hsh
  have hW' := hW
  obtain ⟨p, q, hA0, hV, rfl, hfz, hnd⟩ := hW
  have hA : DataW.TrodAll enc Tryd.prog W 0 (fun _ => true) true Tryd.f4.params.toList args.toList ds p := hA0
  rw [Tryd.params4] at hA hval
  obtain ⟨v0, vs0, d0, ds0, p0, q0, hargs, rfl, rfl, h0, r0⟩ := trodAll_cons hA
  obtain ⟨v1, vs1, d1, ds1, p1, q1, rfl, rfl, rfl, h1, r1⟩ := trodAll_cons r0
  obtain ⟨v2, vs2, d2, ds2, p2, q2, rfl, rfl, rfl, h2, r2⟩ := trodAll_cons r1
  obtain ⟨v3, vs3, d3, ds3, p3, q3, rfl, rfl, rfl, h3, r3⟩ := trodAll_cons r2
  obtain ⟨v4, vs4, d4, ds4, p4, q4, rfl, rfl, rfl, h4, r4⟩ := trodAll_cons r3
  obtain ⟨rfl, rfl, rfl⟩ := trodAll_nil r4
  obtain rfl : args = #[v0, v1, v2, v3, v4] := by cases args; simp_all
  obtain ⟨rfl, rfl⟩ := trodVars_none hV
  have k0 := h0
  have lt0 : ∀ x ∈ p0, x.block < W.heap.size := by obtain ⟨m, hm⟩ := k0; exact DataW.trod_lt m _ _ _ hm
  have k1 := h1
  have lt1 : ∀ x ∈ p1, x.block < W.heap.size := by obtain ⟨m, hm⟩ := k1; exact DataW.trod_lt m _ _ _ hm
  have k2 := h2
  have lt2 : ∀ x ∈ p2, x.block < W.heap.size := by obtain ⟨m, hm⟩ := k2; exact DataW.trod_lt m _ _ _ hm
  have k3 := h3
  have lt3 : ∀ x ∈ p3, x.block < W.heap.size := by obtain ⟨m, hm⟩ := k3; exact DataW.trod_lt m _ _ _ hm
  have k4 := h4
  have lt4 : ∀ x ∈ p4, x.block < W.heap.size := by obtain ⟨m, hm⟩ := k4; exact DataW.trod_lt m _ _ _ hm
  obtain ⟨c00, c01, y00, y01, m0, rfl, rfl, rfl, hy00, hy01⟩ := open_agg2 Tryd.underlying23 (by kernel_rfl) cellsSpan (hval 0 23 v0 rfl rfl) h0
  obtain ⟨n00, e00, rfl, wf00⟩ := DataW.trod_int Tryd.underlying3 hy00
  obtain ⟨n01, e01, rfl, wf01⟩ := DataW.trod_int Tryd.underlying3 hy01
  simp at e00 e01
  subst e00 e01
  obtain ⟨c10, c11, y10, y11, m1, rfl, rfl, rfl, hy10, hy11⟩ := open_agg2 Tryd.underlying23 (by kernel_rfl) cellsSpan (hval 1 23 v1 rfl rfl) h1
  obtain ⟨n10, e10, rfl, wf10⟩ := DataW.trod_int Tryd.underlying3 hy10
  obtain ⟨n11, e11, rfl, wf11⟩ := DataW.trod_int Tryd.underlying3 hy11
  simp at e10 e11
  subst e10 e11
  obtain ⟨n2, rfl, rfl, rfl, wf2⟩ := open_int Tryd.underlying3 (hval 2 3 v2 rfl rfl) h2
  obtain ⟨n3, rfl, rfl, rfl, wf3⟩ := open_int Tryd.underlying3 (hval 3 3 v3 rfl rfl) h3
  obtain ⟨n4, rfl, rfl, rfl, wf4⟩ := open_string Tryd.underlying9 (hval 4 9 v4 rfl rfl) h4
  have s4 : n4.size ≤ 1048576 := by
    rw [Lib.size_eq]
    have hk2 := of_decide_eq_true hk
    simp only [List.append_nil, Rows.uptoBulkAll, Rows.uptoBulk] at hk2
    omega
  clear hA0
  refine (walk n00 n01 n10 n11 n2 n3 n4 W wf00 wf01 wf10 wf11 wf2 wf3 wf4 (by omega) he).mono fun e W' ⟨hee, bel⟩ => ?_
  subst hee
  exact ⟨_, rfl, _, _, _, [], _, [], hW', trodAll_mk1 (shut_bool Tryd.underlying4 _), (trodAll_cons_mk (Below.trod laidOut (by kernel_rfl) (of_decide_eq_true (by kernel_rfl)) k0 bel lt0) (trodAll_cons_mk (Below.trod laidOut (by kernel_rfl) (of_decide_eq_true (by kernel_rfl)) k1 bel lt1) (trodAll_cons_mk (Below.trod laidOut (by kernel_rfl) (of_decide_eq_true (by kernel_rfl)) k2 bel lt2) (trodAll_cons_mk (Below.trod laidOut (by kernel_rfl) (of_decide_eq_true (by kernel_rfl)) k3 bel lt3) (trodAll_cons_mk (Below.trod laidOut (by kernel_rfl) (of_decide_eq_true (by kernel_rfl)) k4 bel lt4) trodAll_mk0))))), rfl, bel.frame _, fun h => by cases h⟩

theorem laid_met (os : Os) : laidMetH Tryd.prog Rows.spanHoldsRow.laid ((World.doorLaid Tryd.prog 4000 os).forCall (fun _ _ => 0) ⟨#[], #[.agg #[.int .i64 0, .int .i64 0], .agg #[.int .i64 0, .int .i64 0], .int .i64 0, .int .i64 0, .string ⟨#[]⟩], []⟩).memory :=
  laidMetH_of_parts3 (fuel := 8) (laidMet_of_run' 8 (by kernel_rfl) (by kernel_rfl)) (by kernel_rfl) (by kernel_rfl)

theorem reads (os : Os) {H : Type} (enc : TypeId × Value → H) : ∃ places, DataW.whole enc Tryd.prog ((World.doorLaid Tryd.prog 4000 os).forCall (fun _ _ => 0) ⟨#[], #[.agg #[.int .i64 0, .int .i64 0], .agg #[.int .i64 0, .int .i64 0], .int .i64 0, .int .i64 0, .string ⟨#[]⟩], []⟩).memory Tryd.f4.params.toList Rows.spanHoldsSpec.vars false [.agg #[.int .i64 0, .int .i64 0], .agg #[.int .i64 0, .int .i64 0], .int .i64 0, .int .i64 0, .string ⟨#[]⟩] 8 = some ([.agg [.lit (.int .i64 0), .lit (.int .i64 0)], .agg [.lit (.int .i64 0), .lit (.int .i64 0)], .lit (.int .i64 0), .lit (.int .i64 0), .lit (.string [])], [], places) :=
  ⟨[], by kernel_rfl⟩

set_option maxRecDepth 100000 in
theorem liftedUpto (os : Os) (started : os.Started) (H : Type) (enc : TypeId × Value → H) (F : Stop.Interp) :
    ReturnsInHanded {} Tryd.checked os 4 .any ((Rows.OpenSpec.upto Rows.spanHoldsSpec).preRow enc Tryd.prog Tryd.f4 Rows.spanHoldsUptoRow.domain false Rows.spanHoldsUptoRow.laid) (((Rows.OpenSpec.upto Rows.spanHoldsSpec).at F).post enc Tryd.prog Tryd.f4 false true false false) := by
  obtain ⟨places, hx⟩ := reads os enc
  refine returnsInHanded_of_row (C := Tryd.checked) (s := Rows.OpenSpec.upto Rows.spanHoldsSpec) own started (by kernel_rfl) Tryd.func4
    (witness_row_atRef (enc := enc) (C := Tryd.checked) false (World.doorLaid Tryd.prog 4000 os) #[.agg #[.int .i64 0, .int .i64 0], .agg #[.int .i64 0, .int .i64 0], .int .i64 0, .int .i64 0, .string ⟨#[]⟩] rfl (by kernel_rfl) (by kernel_rfl) (by kernel_rfl)
      (OpenSpec.preRow_of_cond 8 hx (by kernel_rfl) (fun k hk => by cases hk; kernel_rfl) (by kernel_rfl) (laid_met os))) ?_
  intro W base args ds gs before hval hW _ hcond _ hL hsh _
  exact contract H enc W base args ds gs before hval hW hL hsh (hcond _ rfl)

theorem saidUpto : Rows.SpanHoldsUptoSaid :=
  OpenClaim.holds_of_cond 4 Tryd.f4 rfl rfl rfl rfl rfl rfl rfl ⟨rfl, rfl, rfl, rfl, rfl⟩ rfl rfl rfl rfl rfl (by kernel_rfl) Tryd.func4 (by kernel_rfl)
    (of_decide_eq_true (by kernel_rfl)) (by unfold Func.isWrapper; first | (rw [if_pos (by decide +kernel)]; kernel_rfl) | (rw [if_neg (by decide +kernel)]; exact ⟨rfl, rfl⟩))
    (fun os started H enc _ F => by rw [OpenClaim.pre_eq_preRow]; exact liftedUpto os started H enc F)

theorem plain (f : FuncId) (fn : Func) (hf : Tryd.pinned.checked.prog.funcNamed "noonmark/noonlaw1.SpanHolds" = some f) (hfn : Tryd.pinned.checked.prog.funcs[f]? = some fn) :
    true = Tryd.pinned.checked.prog.looks [] ∧ ∀ (j : Nat) t, fn.params[j]? = some t → Tryd.pinned.checked.prog.wantsStandIn t = false := by
  obtain rfl : f = 4 := Option.some.inj ((show Tryd.prog.funcNamed "noonmark/noonlaw1.SpanHolds" = some 4 by kernel_rfl).symm.trans hf) |>.symm
  obtain rfl : fn = Tryd.f4 := (Option.some.inj (Tryd.func4.symm.trans hfn)).symm
  refine ⟨by kernel_rfl, fun j t ht => ?_⟩
  rw [Tryd.params4] at ht
  have hm := Array.mem_of_getElem? ht
  have all : ∀ t ∈ (#[23, 23, 3, 3, 9] : Array Nat), Tryd.prog.wantsStandIn t = false := by
    intro t ht
    simp only [List.mem_toArray, List.mem_cons, List.not_mem_nil, or_false] at ht
    rcases ht with rfl | rfl | rfl | rfl | rfl <;> kernel_rfl
  exact all t hm

theorem cardUpto : Rows.SpanHoldsUptoCardSaid :=
  Claim7.holds_tied_plain_at .later [] _ _ _ _ saidUpto (fun _ h => by cases h) (by kernel_rfl) (fun _ h => by cases h) spanHoldsUpto_row_tie rfl ⟨rfl, rfl⟩ (by kernel_rfl) rfl plain (by kernel_rfl)
end Go.Proofs.YtonlhhkepclnpaaDoor.spanHolds
namespace Go.Proofs.YtonlhhkepclnpaaDoor
theorem spanHolds_holds : Rows.SpanHoldsUptoCardSaid := spanHolds.cardUpto
#print axioms spanHolds_holds
end Go.Proofs.YtonlhhkepclnpaaDoor
