/- What any probe says, how long it was under way, and which of some is the best: as the document says; the function ProbeTells answers true, whatever the input. Condition: errors.errorType holds what the program text lays there (the card ties it). -/
import Derived.Test.YtdhgfdbghfefnabDoorProbeTellsA
import Derived.Test.YtdhgfdbghfefnabDoorProbeTellsB
import Derived.Test.YtdhgfdbghfefnabDoorProbeTellsC
import Derived.Test.YtdhgfdbghfefnabDoorProbeOpen
import Derived.Test.YtdhgfdbghfefnabDoorCards
import Derived.Test.YtdhgfdbghfefnabDoorTie
import Derived.Deep.DeepHandedRow
import Derived.Deep.DeepWitnessRowRef
import Derived.LaidMore
import Derived.MakeChecks
import Derived.ChangeOld
import Derived.Lib.SmallJoins
import Derived.Deep.RegionWith
import Derived.Deep.RegionHeld
import Derived.WalkKit
import Derived.ProofKit
import Derived.OpenShut
import Derived.Outline
import Derived.Below
import Derived.IntWalk
import Derived.WalkLawsBesides
namespace Go.Proofs.YtdhgfdbghfefnabDoor.probeTells
open Go.ChangeShapes Go.WideShapes Go.ChangeAt Go.RowKit Go.Joins Go.Proofs.YtdhgfdbghfefnabDoor.told
set_option linter.unusedVariables false
set_option linter.unusedSimpArgs false

theorem first_bad (g : Nat → Prop) : ∀ n : Nat, (∀ i, i < n → g i) ∨ ∃ m, m < n ∧ ¬ g m ∧ ∀ i, i < m → g i := by
  intro n
  induction n with
  | zero => exact Or.inl fun i h => absurd h (Nat.not_lt_zero _)
  | succ n ih =>
    rcases ih with h | ⟨m, h1, h2, h3⟩
    · by_cases hn : g n
      · exact Or.inl fun i hi => by
          rcases Nat.lt_succ_iff_lt_or_eq.1 hi with h' | rfl
          · exact h i h'
          · exact hn
      · exact Or.inr ⟨n, Nat.lt_succ_self n, hn, h⟩
    · exact Or.inr ⟨m, Nat.lt_succ_of_lt h1, h2, h3⟩
theorem best_e5 (cap : Nat) (a : Option Addr) (p : Int) (u : World) : Calls Tryd.prog 13 #[.slice a 0 cap, .int .i64 p] u fun e w' => e = .returned (.tuple #[.int .i64 0, .agg #[.int .i64 0, .int .i64 0], errv (5)]) ∧ Below u.heap.size u w' := by
  rw [errv_not (by decide)]; exact best_none cap a p u
theorem best_e4 (a : Option Addr) (n cap : Nat) (p : Int) (u : World) (h : 40 < n) (hm : n ≤ 9223372036854775807) : Calls Tryd.prog 13 #[.slice a n cap, .int .i64 p] u fun e w' => e = .returned (.tuple #[.int .i64 0, .agg #[.int .i64 0, .int .i64 0], errv (4)]) ∧ Below u.heap.size u w' := by
  rw [errv_not (by decide)]; exact best_full a n cap p u h hm

theorem walk (x : P4) (p : Int) (sa : Option Addr) (n cap : Nat) (w : World) (wp : (Lit.int .i64 p).wf = true) (hn : n ≤ 9223372036854775807) (hp : n = 0 ∨ ∃ (b off : Nat) (q : Nat → P4), sa = some ⟨b, off, none⟩ ∧ Prs w b off n q) (he : EnvE w) :
    Calls Tryd.prog 4 #[.agg #[.int .i64 x.a, .int .i64 x.b, .int .i64 x.c, .int .i64 x.d], .int .i64 p, .slice sa n cap] w fun e w' => e = .returned (.bool true) ∧ Below w.heap.size w w' := by
  obtain ⟨a, b, c, d⟩ := x
  have cR := fun u => roff_e a b c d p u
  have cO := fun u => off_e a b c d p u
  have lst : n = 0 ∨ 40 < n ∨ (0 < n ∧ n ≤ 40) := by omega
  by_cases h : pE a b c d = 0
  · have cP : ∀ u, Calls Tryd.prog 8 #[.agg #[.int .i64 a, .int .i64 b, .int .i64 c, .int .i64 d]] u fun e w' => e = .returned (.int .i64 (0)) ∧ Below u.heap.size u w' := fun u => by have g := rprobe_is a b c d u; rwa [h] at g
    have cC : ∀ u, Calls Tryd.prog 9 #[.agg #[.int .i64 a, .int .i64 b, .int .i64 c, .int .i64 d]] u fun e w' => e = .returned (errv (0)) ∧ Below u.heap.size u w' := fun u => by have g := check_e a b c d u; rwa [h] at g
    have cN : ∀ u, Calls Tryd.prog 10 #[.agg #[.int .i64 a, .int .i64 b, .int .i64 c, .int .i64 d]] u fun e w' => e = .returned (.tuple #[.int .i64 (d - a - (c - b)), errv (0)]) ∧ Below u.heap.size u w' := fun u => by have g := round_e a b c d u; rwa [h, if_pos rfl] at g
    obtain ⟨k1, k2, k3, k4, _, _⟩ := pE_zero h
    have A := tmB_t k1
    have B := tmB_t k2
    have E := tmB_t k3
    have D := tmB_t k4
    have rd : d - a - c + b = d - a - (c - b) := by omega
    rcases lst with n0 | n40 | ⟨n0, n40⟩
    · subst n0
      exact noneZ a b c d p 0 _ _ _ _ sa cap w cP cC cN cR cO A.1 A.2 B.1 B.2 E.1 E.2 D.1 D.2 rd he (fun u _ => best_e5 cap sa p u)
    · exact fullZ a b c d p 0 _ _ _ _ sa n cap w cP cC cN cR cO A.1 A.2 B.1 B.2 E.1 E.2 D.1 D.2 rd he (fun u _ => best_e4 sa n cap p u n40 hn) n40 hn
    · rcases hp with h | ⟨b0, off, q, rfl, hP⟩
      · omega
      rcases first_bad (fun i => (q i).e p = 0) n with good | ⟨m, h1, h2, h3⟩
      · exact gZ a b c d p 0 _ _ _ _ (bst q p n) (blo q p n) (bhi q p n) 0 b0 off n cap n q w cP cC cN cR cO A.1 A.2 B.1 B.2 E.1 E.2 D.1 D.2 rd he (fun u hu => by rw [errv_zero]; exact best_any b0 off n cap n q p _ u n0 n40 (hP.on hu) (Nat.le_refl _) good (Or.inl ⟨rfl, rfl⟩)) n0 n40 hP (Nat.le_refl _) good (Or.inl ⟨rfl, rfl, rfl, rfl, rfl⟩)
      · exact gZ a b c d p 0 _ _ _ _ 0 0 0 ((q m).e p) b0 off n cap m q w cP cC cN cR cO A.1 A.2 B.1 B.2 E.1 E.2 D.1 D.2 rd he (fun u hu => by rw [errv_not h2]; exact best_any b0 off n cap m q p _ u n0 n40 (hP.on hu) (by omega) h3 (Or.inr ⟨h1, h2, rfl⟩)) n0 n40 hP (by omega) h3 (Or.inr ⟨h1, h2, rfl, rfl, rfl, rfl⟩)
  · have cP := fun u => rprobe_is a b c d u
    have cC := fun u => check_e a b c d u
    have cN : ∀ u, Calls Tryd.prog 10 #[.agg #[.int .i64 a, .int .i64 b, .int .i64 c, .int .i64 d]] u fun e w' => e = .returned (.tuple #[.int .i64 0, errv (pE a b c d)]) ∧ Below u.heap.size u w' := fun u => by have g := round_e a b c d u; rwa [if_neg h] at g
    have hb : (pE a b c d == 0) = false := by simpa using h
    rcases lst with n0 | n40 | ⟨n0, n40⟩
    · subst n0
      exact noneN a b c d p _ 0 _ _ _ sa cap w cP cC cN cR cO hb he (fun u _ => best_e5 cap sa p u)
    · exact fullN a b c d p _ 0 _ _ _ sa n cap w cP cC cN cR cO hb he (fun u _ => best_e4 sa n cap p u n40 hn) n40 hn
    · rcases hp with h | ⟨b0, off, q, rfl, hP⟩
      · omega
      rcases first_bad (fun i => (q i).e p = 0) n with good | ⟨m, h1, h2, h3⟩
      · exact gN a b c d p _ 0 _ _ _ (bst q p n) (blo q p n) (bhi q p n) 0 b0 off n cap n q w cP cC cN cR cO hb he (fun u hu => by rw [errv_zero]; exact best_any b0 off n cap n q p _ u n0 n40 (hP.on hu) (Nat.le_refl _) good (Or.inl ⟨rfl, rfl⟩)) n0 n40 hP (Nat.le_refl _) good (Or.inl ⟨rfl, rfl, rfl, rfl, rfl⟩)
      · exact gN a b c d p _ 0 _ _ _ 0 0 0 ((q m).e p) b0 off n cap m q w cP cC cN cR cO hb he (fun u hu => by rw [errv_not h2]; exact best_any b0 off n cap m q p _ u n0 n40 (hP.on hu) (by omega) h3 (Or.inr ⟨h1, h2, rfl⟩)) n0 n40 hP (by omega) h3 (Or.inr ⟨h1, h2, rfl, rfl, rfl, rfl⟩)

theorem own : ownKnob Tryd.prog.godebug = none := by kernel_rfl
theorem laidOut : laidOutB Tryd.prog = true := by kernel_rfl
theorem et : Tryd.prog.globalNamed "errors.errorType" = some 0 := by kernel_rfl
theorem rt : (Tryd.prog.cutTypes.find? (·.1 == "internal/reflectlite.rtype")).map (·.2) = some 67 := by kernel_rfl
theorem oneRow : ((List.range 110).filter fun t => Tryd.prog.rowNamed t [101, 114, 114, 111, 114]) = [25] := by kernel_rfl
theorem nTypes : Tryd.prog.types.size = 110 := by kernel_rfl

/-- What the condition on the listed variables gives: the handle of the type error. -/
theorem handle_of {W : World} (h : handlesMet Tryd.prog [("errors.errorType", Rows.laid_errors_errorType)] W) : EnvE W := by
  obtain ⟨name, u, ty, e1, e2, e3, e4, e5⟩ := h _ (List.mem_singleton.2 rfl)
  have en : name = [101, 114, 114, 111, 114] := (Option.some.inj e1).symm
  subst en
  obtain rfl := Option.some.inj (rt.symm.trans e2)
  have hm : ty ∈ (List.range 110).filter fun t => Tryd.prog.rowNamed t [101, 114, 114, 111, 114] := List.mem_filter.2 ⟨List.mem_range.2 (by rw [← nTypes]; exact e3), e4⟩
  rw [oneRow] at hm
  obtain rfl := List.mem_singleton.1 hm
  have hh : typeHandle Tryd.prog 25 = .pointer (some ⟨1, 25, none⟩) := by kernel_rfl
  rw [hh] at e5
  unfold EnvE
  simpa using World.var?_cell et e5 0

theorem env_of {W : World} (hL : laidMetH Tryd.prog Rows.probeTellsRow.laid W) : EnvE W := by
  have h' : laidMet Tryd.prog [] W ∧ handlesMet Tryd.prog [("errors.errorType", Rows.laid_errors_errorType)] W := hL
  exact handle_of h'.2

set_option maxRecDepth 100000 in
theorem contract (H : Type) (enc : TypeId × Value → H) (W : World) (base : Nat) (args : Array Value) (ds gs : List (DataW H)) (before : List MemPlace)
    (hval : ∀ (j : Nat) t v, Tryd.f4.params[j]? = some t → args[j]? = some v → Value.okWide Tryd.prog W .any base t v)
    (hW : DataW.Whole enc Tryd.prog Tryd.f4.params.toList Rows.probeTellsSpec.vars false W args.toList ds gs before) (hL : laidMetH Tryd.prog Rows.probeTellsRow.laid W) (hsh : W.ShapedOpen Tryd.prog) :
    Calls Tryd.prog 4 args W fun e W' => ∃ v, e = .returned v ∧ Rows.probeTellsSpec.post enc Tryd.prog Tryd.f4 false true false false W args v W' := by
  have he := env_of hL
  have hW' := hW
  obtain ⟨p, q, hA0, hV, rfl, hfz, hnd⟩ := hW
  have hA : DataW.TrodAll enc Tryd.prog W 0 (fun _ => true) true Tryd.f4.params.toList args.toList ds p := hA0
  rw [Tryd.params4] at hA hval
  obtain ⟨v0, vs0, d0, ds0, p0, q0, hargs, rfl, rfl, h0, r0⟩ := trodAll_cons hA
  obtain ⟨v1, vs1, d1, ds1, p1, q1, rfl, rfl, rfl, h1, r1⟩ := trodAll_cons r0
  obtain ⟨v2, vs2, d2, ds2, p2, q2, rfl, rfl, rfl, h2, r2⟩ := trodAll_cons r1
  obtain ⟨rfl, rfl, rfl⟩ := trodAll_nil r2
  obtain rfl : args = #[v0, v1, v2] := by cases args; simp_all
  obtain ⟨rfl, rfl⟩ := trodVars_none hV
  have k0 := h0
  have lt0 : ∀ x ∈ p0, x.block < W.heap.size := by obtain ⟨m, hm⟩ := k0; exact DataW.trod_lt m _ _ _ hm
  have k1 := h1
  have lt1 : ∀ x ∈ p1, x.block < W.heap.size := by obtain ⟨m, hm⟩ := k1; exact DataW.trod_lt m _ _ _ hm
  have k2 := h2
  have lt2 : ∀ x ∈ p2, x.block < W.heap.size := by obtain ⟨m, hm⟩ := k2; exact DataW.trod_lt m _ _ _ hm
  obtain ⟨q0, rfl⟩ := open_probe (hval 0 31 v0 rfl rfl) h0
  obtain ⟨n1, rfl, rfl, rfl, wf1⟩ := open_int Tryd.underlying3 (hval 1 3 v1 rfl rfl) h1
  obtain ⟨sa2, sn2, sc2, rfl, mx2, hp2⟩ := open_probes (hval 2 32 v2 rfl rfl) h2
  clear hA0
  refine (walk q0 n1 sa2 sn2 sc2 W wf1 mx2 hp2 he).mono fun e W' ⟨hee, bel⟩ => ?_
  subst hee
  exact ⟨_, rfl, _, _, _, [], _, [], hW', trodAll_mk1 (shut_bool Tryd.underlying4 _), (trodAll_cons_mk (Below.trod laidOut (by kernel_rfl) (of_decide_eq_true (by kernel_rfl)) k0 bel lt0) (trodAll_cons_mk (Below.trod laidOut (by kernel_rfl) (of_decide_eq_true (by kernel_rfl)) k1 bel lt1) (trodAll_cons_mk (Below.trod laidOut (by kernel_rfl) (of_decide_eq_true (by kernel_rfl)) k2 bel lt2) trodAll_mk0))), rfl, bel.frame _, fun h => by cases h⟩

theorem laid_met (os : Os) : laidMetH Tryd.prog Rows.probeTellsRow.laid ((World.doorLaid Tryd.prog 4000 os).forCall (fun _ _ => 0) ⟨#[], #[.agg #[.int .i64 0, .int .i64 0, .int .i64 0, .int .i64 0], .int .i64 0, .slice none 0 0], []⟩).memory :=
  laidMetH_of_parts (laidMet_nil _ _) (by kernel_rfl)

set_option maxRecDepth 100000 in
theorem lifted (os : Os) (started : os.Started) (H : Type) (enc : TypeId × Value → H) (F : Stop.Interp) :
    ReturnsInHanded {} Tryd.checked os 4 .any ((OpenSpec.ofChange Rows.probeTellsSpec).preRow enc Tryd.prog Tryd.f4 Rows.probeTellsRow.domain false Rows.probeTellsRow.laid) (((OpenSpec.ofChange Rows.probeTellsSpec).at F).post enc Tryd.prog Tryd.f4 false true false false) := by
  refine returnsInHanded_of_row (C := Tryd.checked) (s := OpenSpec.ofChange Rows.probeTellsSpec) own started (by kernel_rfl) Tryd.func4
    (witness_row_atRef (enc := enc) (C := Tryd.checked) false (World.doorLaid Tryd.prog 4000 os) #[.agg #[.int .i64 0, .int .i64 0, .int .i64 0, .int .i64 0], .int .i64 0, .slice none 0 0] rfl (by kernel_rfl) (by kernel_rfl) (by kernel_rfl)
      (OpenSpec.preRow_of_B rfl 8 (by kernel_rfl) (by kernel_rfl) (laid_met os))) ?_
  intro W base args ds gs before hval hW _ hcond _ hL hsh _
  exact contract H enc W base args ds gs before hval hW hL hsh

theorem said : Rows.ProbeTellsSaid :=
  OpenClaim.holds_of_cond 4 Tryd.f4 rfl rfl rfl rfl rfl rfl rfl ⟨rfl, rfl, rfl, rfl, rfl⟩ rfl rfl rfl rfl rfl (by kernel_rfl) Tryd.func4 (by kernel_rfl)
    (of_decide_eq_true (by kernel_rfl)) (by unfold Func.isWrapper; first | (rw [if_pos (by decide +kernel)]; kernel_rfl) | (rw [if_neg (by decide +kernel)]; exact ⟨rfl, rfl⟩))
    (fun os started H enc _ F => by rw [OpenClaim.pre_eq_preRow]; exact lifted os started H enc F)

theorem plain (f : FuncId) (fn : Func) (hf : Tryd.pinned.checked.prog.funcNamed "noonmark/noonlaw1.ProbeTells" = some f) (hfn : Tryd.pinned.checked.prog.funcs[f]? = some fn) :
    true = Tryd.pinned.checked.prog.looks [] ∧ ∀ (j : Nat) t, fn.params[j]? = some t → Tryd.pinned.checked.prog.wantsStandIn t = false := by
  obtain rfl : f = 4 := Option.some.inj ((show Tryd.prog.funcNamed "noonmark/noonlaw1.ProbeTells" = some 4 by kernel_rfl).symm.trans hf) |>.symm
  obtain rfl : fn = Tryd.f4 := (Option.some.inj (Tryd.func4.symm.trans hfn)).symm
  refine ⟨by kernel_rfl, fun j t ht => ?_⟩
  rw [Tryd.params4] at ht
  have hm := Array.mem_of_getElem? ht
  have all : ∀ t ∈ (#[31, 3, 32] : Array Nat), Tryd.prog.wantsStandIn t = false := by
    intro t ht
    simp only [List.mem_toArray, List.mem_cons, List.not_mem_nil, or_false] at ht
    rcases ht with rfl | rfl | rfl <;> kernel_rfl
  exact all t hm

theorem card : Rows.ProbeTellsCardSaid :=
  Claim7.holds_tied_plain_at .later [] _ _ _ _ said (fun _ h => by cases h) (by kernel_rfl) (fun _ h => by cases h) probeTells_row_tie rfl ⟨rfl, rfl⟩ (by kernel_rfl) rfl plain (by kernel_rfl)
end Go.Proofs.YtdhgfdbghfefnabDoor.probeTells
namespace Go.Proofs.YtdhgfdbghfefnabDoor
theorem probeTells_holds : Rows.ProbeTellsCardSaid := probeTells.card
#print axioms probeTells_holds
end Go.Proofs.YtdhgfdbghfefnabDoor
