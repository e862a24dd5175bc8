/- Of any spans, and a count of wrong ones: what is in all, what is in the most and in how many, who has nothing of it, and what is sure, are as the document reckons them: the function VoteTells answers true, whatever the list and the number. Condition: errors.errorType holds the handle of the type error. -/
import Derived.Test.YthejaecljkjliabDoorVoteTellsA
import Derived.Test.YthejaecljkjliabDoorVoteTellsB
import Derived.Test.YthejaecljkjliabDoorVoteTellsE
import Derived.Test.YthejaecljkjliabDoorVoteOpen
import Derived.Test.YthejaecljkjliabDoorCards
import Derived.Test.YthejaecljkjliabDoorTie
import Derived.Deep.DeepHandedRow
import Derived.Deep.DeepWitnessRowRef
import Derived.LaidMore
import Derived.MakeChecks
import Derived.Lib.SmallJoins
import Derived.Deep.RegionWith
import Derived.Deep.RegionHeld
import Derived.WalkKit
import Derived.ProofKit
import Derived.OpenShut
import Derived.Outline
import Derived.ShutString
import Derived.ChangeOld
import Derived.Below
import Derived.IntWalk
import Derived.WalkLawsBesides
namespace Go.Proofs.YthejaecljkjliabDoor.voteTells
open Go.ChangeShapes Go.WideShapes Go.ChangeAt Go.RowKit Go.Joins Go.Proofs.YthejaecljkjliabDoor.told
set_option linter.unusedVariables false
set_option linter.unusedSimpArgs false

theorem first_no (g : Nat → Prop) : ∀ n : Nat, (∀ i, i < n → g i) ∨ ∃ m, m < n ∧ ¬ g m ∧ ∀ i, i < m → g i := by
  intro n
  induction n with
  | zero => exact Or.inl fun i h => absurd h (Nat.not_lt_zero _)
  | succ n ih =>
    rcases ih with h | ⟨m, h1, h2, h3⟩
    · by_cases hn : g n
      · exact Or.inl fun i hi => by
          rcases Nat.lt_succ_iff_lt_or_eq.1 hi with h' | rfl
          · exact h i h'
          · exact hn
      · exact Or.inr ⟨n, Nat.lt_succ_self n, hn, h⟩
    · exact Or.inr ⟨m, Nat.lt_succ_of_lt h1, h2, h3⟩

theorem walk (a : Option Addr) (n cap : Nat) (d : Int) (w : World) (hm : n ≤ 9223372036854775807) (hp : n = 0 ∨ ∃ (b off : Nat) (q : Nat → Int × Int), a = some ⟨b, off, none⟩ ∧ Sps w b off n q) (wd : (Lit.int .i64 d).wf = true) (he : EnvE w) :
    Calls Tryd.prog 5 #[.slice a n cap, .int .i64 d] w fun e w' => e = .returned (.bool true) ∧ Below w.heap.size w w' := by
  obtain ⟨q, hH⟩ : ∃ q, Handed w a n q := by
    rcases hp with h | ⟨b, off, q, e, hP⟩
    · exact ⟨fun _ => (0, 0), hm, Or.inl h⟩
    · exact ⟨q, hm, Or.inr ⟨b, off, e, hP⟩⟩
  clear hp
  have cSp := fun u (hu : Below w.heap.size w u) => rspans_any a n cap q u (hH.on hu)
  by_cases h : vE q n = 0
  · obtain ⟨h0, h40, ok⟩ := vE_zero h
    obtain ⟨b, off, rfl, hP⟩ := hH.row h0
    have okl := fun i hi => (okB_t (ok i hi)).1
    obtain ⟨mlo, mhi, m, hM⟩ := most_exists okl h0
    rw [h] at cSp
    have cRM := fun u (hu : Below w.heap.size w u) => rmost_any b off n cap q mlo mhi m u h0 h40 (hP.on hu) ok hM
    have cMo := fun u (hu : Below w.heap.size w u) => most_any (some ⟨b, off, none⟩) n cap q mlo mhi m 0 u (hH.on hu) (Or.inr ⟨h, rfl, hM⟩)
    rw [errn_zero] at cMo
    have cLi := fun u (hu : Below w.heap.size w u) => liars_any b off n cap mlo mhi m q u (hP.on hu) h hM
    have hT : (d < 0 ∧ (∀ u, Below w.heap.size w u → Calls Tryd.prog 23 #[.slice (some ⟨b, off, none⟩) n cap, .int .i64 d] u fun e w' => e = .returned (.tuple #[.agg #[.int .i64 0, .int .i64 0], errv 1]) ∧ Below u.heap.size u w')) ∨ ((n : Int) ≤ d ∧ (∀ u, Below w.heap.size w u → Calls Tryd.prog 23 #[.slice (some ⟨b, off, none⟩) n cap, .int .i64 d] u fun e w' => e = .returned (.tuple #[.agg #[.int .i64 0, .int .i64 0], errv 1]) ∧ Below u.heap.size u w')) ∨ (0 ≤ d ∧ d < n ∧ ∃ rlo rhi : Int, (∀ u, Below w.heap.size w u → Calls Tryd.prog 22 #[.slice (some ⟨b, off, none⟩) n cap, .int .i64 (n - d)] u fun e w' => e = .returned (.tuple #[.agg #[.int .i64 rlo, .int .i64 rhi], .bool false]) ∧ Below u.heap.size u w') ∧ (∀ u, Below w.heap.size w u → Calls Tryd.prog 23 #[.slice (some ⟨b, off, none⟩) n cap, .int .i64 d] u fun e w' => e = .returned (.tuple #[.agg #[.int .i64 0, .int .i64 0], errv 7]) ∧ Below u.heap.size u w')) ∨ (0 ≤ d ∧ d < n ∧ ∃ slo shi : Int, (∀ u, Below w.heap.size w u → Calls Tryd.prog 22 #[.slice (some ⟨b, off, none⟩) n cap, .int .i64 (n - d)] u fun e w' => e = .returned (.tuple #[.agg #[.int .i64 slo, .int .i64 shi], .bool true]) ∧ Below u.heap.size u w') ∧ (∀ u, Below w.heap.size w u → Calls Tryd.prog 23 #[.slice (some ⟨b, off, none⟩) n cap, .int .i64 d] u fun e w' => e = .returned (.tuple #[.agg #[.int .i64 slo, .int .i64 shi], errv 0]) ∧ Below u.heap.size u w')) := by
      by_cases d0 : d < 0
      · exact Or.inl ⟨d0, fun u hu => safe_any (some ⟨b, off, none⟩) n cap q d 0 0 1 u (hH.on hu) (Or.inr (Or.inl ⟨h, Or.inl d0, rfl, rfl, rfl⟩))⟩
      · by_cases d1 : (n : Int) ≤ d
        · exact Or.inr (Or.inl ⟨d1, fun u hu => safe_any (some ⟨b, off, none⟩) n cap q d 0 0 1 u (hH.on hu) (Or.inr (Or.inl ⟨h, Or.inr d1, rfl, rfl, rfl⟩))⟩)
        · rcases safe_ref (q := q) (n := n) ((n : Int) - d) (by omega) with ⟨e, no⟩ | ⟨e, hs⟩
          · refine Or.inr (Or.inr (Or.inl ⟨by omega, by omega, (sf q n ((n : Int) - d) n).2, (sg q n ((n : Int) - d) n).2, fun u hu => ?_, fun u hu => safe_any (some ⟨b, off, none⟩) n cap q d 0 0 7 u (hH.on hu) (Or.inr (Or.inr (Or.inl ⟨h, by omega, by omega, no, rfl, rfl, rfl⟩)))⟩))
            rw [← e]
            exact rsafe_any b off n cap q ((n : Int) - d) u h0 h40 (hP.on hu)
          · refine Or.inr (Or.inr (Or.inr ⟨by omega, by omega, (sf q n ((n : Int) - d) n).2, (sg q n ((n : Int) - d) n).2, fun u hu => ?_, fun u hu => safe_any (some ⟨b, off, none⟩) n cap q d _ _ 0 u (hH.on hu) (Or.inr (Or.inr (Or.inr ⟨h, by omega, by omega, rfl, hs⟩)))⟩))
            rw [← e]
            exact rsafe_any b off n cap q ((n : Int) - d) u h0 h40 (hP.on hu)
    rcases first_no (fun j => (ml q j).1 ≤ (ml q j).2) n with g | ⟨j0, h1, h2, h3⟩
    · exact some_in b off n cap q d mlo mhi m w he h0 h40 hP ok hM.le g cSp (fun u hu => vmeet_any (some ⟨b, off, none⟩) n cap q _ _ 0 u (hH.on hu) (Or.inr (Or.inr (Or.inr ⟨h, by omega, by omega, rfl, by simpa using ml_safe h0 (g (n - 1) (by omega))⟩)))) cRM cMo cLi hT
    · exact none_in b off n cap j0 q d mlo mhi m w he h0 h40 hP ok hM.le h1 h2 h3 cSp (fun u hu => vmeet_any (some ⟨b, off, none⟩) n cap q 0 0 7 u (hH.on hu) (Or.inr (Or.inr (Or.inl ⟨h, by omega, by omega, fun x => by have := ml_none j0 h1 h2 x; omega, rfl, rfl, rfl⟩)))) cRM cMo cLi hT
  · have he0 : (vE q n == 0) = false := by simpa using h
    have cMe := fun u (hu : Below w.heap.size w u) => vmeet_any a n cap q 0 0 (vE q n) u (hH.on hu) (Or.inl ⟨h, rfl, rfl, rfl⟩)
    have cMo := fun u (hu : Below w.heap.size w u) => most_any a n cap q 0 0 0 (vE q n) u (hH.on hu) (Or.inl ⟨h, rfl, rfl, rfl, rfl⟩)
    have cLi := fun u (hu : Below w.heap.size w u) => liars_e a n cap q u (hH.on hu) h
    have cSa := fun u (hu : Below w.heap.size w u) => safe_any a n cap q d 0 0 (vE q n) u (hH.on hu) (Or.inl ⟨h, rfl, rfl, rfl⟩)
    by_cases n0 : n = 0
    · subst n0
      exact empty a cap d _ w he he0 cSp cMe cMo cLi cSa
    · exact wrong a n cap d _ w he (by omega) hm he0 cSp cMe cMo cLi cSa

theorem own : ownKnob Tryd.prog.godebug = none := by kernel_rfl
theorem laidOut : laidOutB Tryd.prog = true := by kernel_rfl
theorem et : Tryd.prog.globalNamed "errors.errorType" = some 0 := by kernel_rfl
theorem rt : (Tryd.prog.cutTypes.find? (·.1 == "internal/reflectlite.rtype")).map (·.2) = some 95 := by kernel_rfl
theorem oneRow : ((List.range 161).filter fun t => Tryd.prog.rowNamed t [101, 114, 114, 111, 114]) = [25] := by kernel_rfl
theorem nTypes : Tryd.prog.types.size = 161 := by kernel_rfl

/-- What the condition on the listed variables gives: the handle of the type error. -/
theorem handle_of {W : World} (h : handlesMet Tryd.prog [("errors.errorType", Rows.laid_errors_errorType)] W) : EnvE W := by
  obtain ⟨name, u, ty, e1, e2, e3, e4, e5⟩ := h _ (List.mem_singleton.2 rfl)
  have en : name = [101, 114, 114, 111, 114] := (Option.some.inj e1).symm
  subst en
  obtain rfl := Option.some.inj (rt.symm.trans e2)
  have hm : ty ∈ (List.range 161).filter fun t => Tryd.prog.rowNamed t [101, 114, 114, 111, 114] := List.mem_filter.2 ⟨List.mem_range.2 (by rw [← nTypes]; exact e3), e4⟩
  rw [oneRow] at hm
  obtain rfl := List.mem_singleton.1 hm
  have hh : typeHandle Tryd.prog 25 = .pointer (some ⟨1, 25, none⟩) := by kernel_rfl
  rw [hh] at e5
  unfold EnvE
  simpa using World.var?_cell et e5 0

theorem env_of {W : World} (hL : laidMetH Tryd.prog Rows.voteTellsRow.laid W) : EnvE W := by
  have h' : laidMet Tryd.prog [] W ∧ handlesMet Tryd.prog [("errors.errorType", Rows.laid_errors_errorType)] W := hL
  exact handle_of h'.2

set_option maxRecDepth 100000 in
theorem contract (H : Type) (enc : TypeId × Value → H) (W : World) (base : Nat) (args : Array Value) (ds gs : List (DataW H)) (before : List MemPlace)
    (hval : ∀ (j : Nat) t v, Tryd.f5.params[j]? = some t → args[j]? = some v → Value.okWide Tryd.prog W .any base t v)
    (hW : DataW.Whole enc Tryd.prog Tryd.f5.params.toList Rows.voteTellsSpec.vars false W args.toList ds gs before) (hL : laidMetH Tryd.prog Rows.voteTellsRow.laid W) (hsh : W.ShapedOpen Tryd.prog) :
    Calls Tryd.prog 5 args W fun e W' => ∃ v, e = .returned v ∧ Rows.voteTellsSpec.post enc Tryd.prog Tryd.f5 false true false false W args v W' := by
  have he := env_of hL
  have hW' := hW
  obtain ⟨p, q, hA0, hV, rfl, hfz, hnd⟩ := hW
  have hA : DataW.TrodAll enc Tryd.prog W 0 (fun _ => true) true Tryd.f5.params.toList args.toList ds p := hA0
  rw [Tryd.params5] at hA hval
  obtain ⟨v0, vs0, d0, ds0, p0, q0, hargs, rfl, rfl, h0, r0⟩ := trodAll_cons hA
  obtain ⟨v1, vs1, d1, ds1, p1, q1, rfl, rfl, rfl, h1, r1⟩ := trodAll_cons r0
  obtain ⟨rfl, rfl, rfl⟩ := trodAll_nil r1
  obtain rfl : args = #[v0, v1] := by cases args; simp_all
  obtain ⟨rfl, rfl⟩ := trodVars_none hV
  have k0 := h0
  have lt0 : ∀ x ∈ p0, x.block < W.heap.size := by obtain ⟨m, hm⟩ := k0; exact DataW.trod_lt m _ _ _ hm
  have k1 := h1
  have lt1 : ∀ x ∈ p1, x.block < W.heap.size := by obtain ⟨m, hm⟩ := k1; exact DataW.trod_lt m _ _ _ hm
  obtain ⟨sa0, sn0, sc0, rfl, mx0, hp0⟩ := open_spans (hval 0 43 v0 rfl rfl) h0
  obtain ⟨n1, rfl, rfl, rfl, wf1⟩ := open_int Tryd.underlying3 (hval 1 3 v1 rfl rfl) h1
  clear hA0
  refine (walk sa0 sn0 sc0 n1 W mx0 hp0 wf1 he).mono fun e W' ⟨hee, bel⟩ => ?_
  subst hee
  exact ⟨_, rfl, _, _, _, [], _, [], hW', trodAll_mk1 (shut_bool Tryd.underlying4 _), (trodAll_cons_mk (Below.trod laidOut (by kernel_rfl) (of_decide_eq_true (by kernel_rfl)) k0 bel lt0) (trodAll_cons_mk (Below.trod laidOut (by kernel_rfl) (of_decide_eq_true (by kernel_rfl)) k1 bel lt1) trodAll_mk0)), rfl, bel.frame _, fun h => by cases h⟩

theorem laid_met (os : Os) : laidMetH Tryd.prog Rows.voteTellsRow.laid ((World.doorLaid Tryd.prog 4000 os).forCall (fun _ _ => 0) ⟨#[], #[.slice none 0 0, .int .i64 0], []⟩).memory :=
  laidMetH_of_parts (laidMet_nil _ _) (by kernel_rfl)

set_option maxRecDepth 100000 in
theorem lifted (os : Os) (started : os.Started) (H : Type) (enc : TypeId × Value → H) (F : Stop.Interp) :
    ReturnsInHanded {} Tryd.checked os 5 .any ((OpenSpec.ofChange Rows.voteTellsSpec).preRow enc Tryd.prog Tryd.f5 Rows.voteTellsRow.domain false Rows.voteTellsRow.laid) (((OpenSpec.ofChange Rows.voteTellsSpec).at F).post enc Tryd.prog Tryd.f5 false true false false) := by
  refine returnsInHanded_of_row (C := Tryd.checked) (s := OpenSpec.ofChange Rows.voteTellsSpec) own started (by kernel_rfl) Tryd.func5
    (witness_row_atRef (enc := enc) (C := Tryd.checked) false (World.doorLaid Tryd.prog 4000 os) #[.slice none 0 0, .int .i64 0] rfl (by kernel_rfl) (by kernel_rfl) (by kernel_rfl)
      (OpenSpec.preRow_of_B rfl 8 (by kernel_rfl) (by kernel_rfl) (laid_met os))) ?_
  intro W base args ds gs before hval hW _ hcond _ hL hsh _
  exact contract H enc W base args ds gs before hval hW hL hsh

theorem said : Rows.VoteTellsSaid :=
  OpenClaim.holds_of_cond 5 Tryd.f5 rfl rfl rfl rfl rfl rfl rfl ⟨rfl, rfl, rfl, rfl, rfl⟩ rfl rfl rfl rfl rfl (by kernel_rfl) Tryd.func5 (by kernel_rfl)
    (of_decide_eq_true (by kernel_rfl)) (by unfold Func.isWrapper; first | (rw [if_pos (by decide +kernel)]; kernel_rfl) | (rw [if_neg (by decide +kernel)]; exact ⟨rfl, rfl⟩))
    (fun os started H enc _ F => by rw [OpenClaim.pre_eq_preRow]; exact lifted os started H enc F)

theorem plain (f : FuncId) (fn : Func) (hf : Tryd.pinned.checked.prog.funcNamed "noonmark/noonlaw1.VoteTells" = some f) (hfn : Tryd.pinned.checked.prog.funcs[f]? = some fn) :
    true = Tryd.pinned.checked.prog.looks [] ∧ ∀ (j : Nat) t, fn.params[j]? = some t → Tryd.pinned.checked.prog.wantsStandIn t = false := by
  obtain rfl : f = 5 := Option.some.inj ((show Tryd.prog.funcNamed "noonmark/noonlaw1.VoteTells" = some 5 by kernel_rfl).symm.trans hf) |>.symm
  obtain rfl : fn = Tryd.f5 := (Option.some.inj (Tryd.func5.symm.trans hfn)).symm
  refine ⟨by kernel_rfl, fun j t ht => ?_⟩
  rw [Tryd.params5] at ht
  have hm := Array.mem_of_getElem? ht
  have all : ∀ t ∈ (#[43, 3] : Array Nat), Tryd.prog.wantsStandIn t = false := by
    intro t ht
    simp only [List.mem_toArray, List.mem_cons, List.not_mem_nil, or_false] at ht
    rcases ht with rfl | rfl <;> kernel_rfl
  exact all t hm

theorem card : Rows.VoteTellsCardSaid :=
  Claim7.holds_tied_plain_at .later [] _ _ _ _ said (fun _ h => by cases h) (by kernel_rfl) (fun _ h => by cases h) voteTells_row_tie rfl ⟨rfl, rfl⟩ (by kernel_rfl) rfl plain (by kernel_rfl)
end Go.Proofs.YthejaecljkjliabDoor.voteTells
namespace Go.Proofs.YthejaecljkjliabDoor
theorem voteTells_holds : Rows.VoteTellsCardSaid := voteTells.card
#print axioms voteTells_holds
end Go.Proofs.YthejaecljkjliabDoor
