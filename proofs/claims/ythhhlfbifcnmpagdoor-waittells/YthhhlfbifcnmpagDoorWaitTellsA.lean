/- The ways through the law WaitTells. -/
import Derived.Test.YthhhlfbifcnmpagDoorWaitDef
import Derived.Test.YthhhlfbifcnmpagDoorRefSpan
import Derived.Test.YthhhlfbifcnmpagDoorRefUp
import Derived.Test.YthhhlfbifcnmpagDoorTold
namespace Go.Proofs.YthhhlfbifcnmpagDoor.waitTells
open Go.ChangeShapes Go.WideShapes Go.ChangeAt Go.RowKit Go.Joins Go.Proofs.YthhhlfbifcnmpagDoor.told
set_option linter.unusedVariables false
set_option linter.unusedSimpArgs false

theorem error_c (f : Int) (w : World) (he : EnvE w) : Calls Tryd.prog 8 #[errc f, .int .i64 f] w fun e w' => e = .returned (.bool true) ∧ Below w.heap.size w w' := error_same f w he
set_option maxRecDepth 100000 in
set_option maxHeartbeats 4000000 in
theorem rwait_any (lo hi t p : Int) (w : World) (h : pfE lo hi t = 0) (p0 : 0 ≤ p) (p1 : p ≤ 1000) :
    Calls Tryd.prog 11 #[.agg #[.int .i64 lo, .int .i64 hi], .int .i64 t, .int .i64 p] w fun o w' => o = .returned (.tuple #[.int .i64 (waN lo hi t p), .int .i64 (waE lo hi t p)]) ∧ Below w.heap.size w w' := by
  have hc : pfE lo hi t = 0 ∧ 0 ≤ p ∧ p ≤ 1000 := ⟨h, p0, p1⟩
  obtain ⟨oA, oB⟩ := pf_zero h
  have oA' := okB_t oA
  have oB' := tiB_t oB
  by_cases c : t < lo
  · have e : waE lo hi t p = 0 := by unfold waE; rw [if_pos hc, if_pos c]
    have en : waN lo hi t p = 0 := by unfold waN; rw [if_pos e, if_pos c]
    rw [e, en]
    clear e en h hc oA oB oA' oB'
    go_enter Tryd.func11, Tryd.ntmps11
    go_wp2
    go_ret2
    exact ⟨rfl, rbel_al (Below.refl _ _)⟩
  · obtain ⟨n1, n2, n3⟩ := need_b h p0 p1 (show lo ≤ t by omega)
    have cU := fun u => rup_same ((t - lo + 1) * (1000000 + p)) 1000000 u n1 (by omega) (by decide) (by decide)
    obtain ⟨R, eR⟩ : ∃ R, R = waR lo t p := ⟨_, rfl⟩
    have cU2 : ∀ u, Calls Tryd.prog 18 #[.int .i64 ((t - lo + 1) * (1000000 + p)), .int .i64 1000000] u fun e w' => e = .returned (.int .i64 R) ∧ w' = u := fun u => by rw [eR]; exact cU u
    have w1 : IntKind.i64.wrap (t - lo) = t - lo := IntWalk.i64_in _ (by omega)
    have w2 : IntKind.i64.wrap (t - lo + 1) = t - lo + 1 := IntWalk.i64_in _ (by omega)
    have w3 : IntKind.i64.wrap (1000000 + p) = 1000000 + p := IntWalk.i64_in _ (by omega)
    have w4 : IntKind.i64.wrap ((t - lo + 1) * (1000000 + p)) = (t - lo + 1) * (1000000 + p) := IntWalk.i64_in _ (by omega)
    by_cases d : R ≤ 1000000000000
    · have e : waE lo hi t p = 0 := by unfold waE; rw [if_pos hc, if_neg c, if_pos (by rw [← eR]; exact d)]
      have en : waN lo hi t p = R := by unfold waN; rw [if_pos e, if_neg c, eR]
      rw [e, en]
      have d2 : ¬ (1000000000000 < R) := by omega
      clear e en h hc oA oB oA' oB' cU eR d
      go_enter Tryd.func11, Tryd.ntmps11
      go_wp2_with (go_at_call 18; refine (cU2 _).mono ?_; rintro e u ⟨rfl, hu⟩; rw [hu]; clear hu)
      go_ret2
      exact ⟨rfl, rbel_al (Below.refl _ _)⟩
    · have e : waE lo hi t p = 1 := by unfold waE; rw [if_pos hc, if_neg c, if_neg (by rw [← eR]; exact d)]
      have en : waN lo hi t p = 0 := by unfold waN; rw [if_neg (by rw [e]; decide)]
      rw [e, en]
      have d2 : 1000000000000 < R := by omega
      clear e en h hc oA oB oA' oB' cU eR d
      go_enter Tryd.func11, Tryd.ntmps11
      go_wp2_with (go_at_call 18; refine (cU2 _).mono ?_; rintro e u ⟨rfl, hu⟩; rw [hu]; clear hu)
      go_ret2
      exact ⟨rfl, rbel_al (Below.refl _ _)⟩
/-- What a call gives: the box stands, and what was there. -/
structure Bx (w u : World) (lo hi : Int) : Prop where
  r : Row u w.heap.size [.int .i64 lo, .int .i64 hi]
  b : Below w.heap.size w u
theorem Bx.on {w u u' : World} {lo hi : Int} (hb : Below u.heap.size u u') (h : Bx w u lo hi) : Bx w u' lo hi := ⟨Row.on hb h.r, rbel_on hb h.b⟩
set_option maxRecDepth 100000 in
set_option maxHeartbeats 8000000 in
theorem bad (lo hi t p : Int) (A B : Bool) (w : World) (he : EnvE w) (C : WtA w) (wl : In64 lo) (wh : In64 hi) (wt : In64 t) (wp : In64 p) (hA : okB lo hi = A) (hB : tiB t = B) (h : A = false ∨ B = false) (hp : p < 0 ∨ (¬ p < 0 ∧ 1000 < p) ∨ (¬ p < 0 ∧ ¬ 1000 < p)) :
    Calls Tryd.prog 3 #[.agg #[.int .i64 lo, .int .i64 hi], .int .i64 t, .int .i64 p] w fun o w' => o = .returned (.bool true) ∧ Below w.heap.size w w' := by
  have e2 : pfE lo hi t = 1 := by unfold pfE; rw [hA, hB, if_neg]; rintro ⟨rfl, rfl⟩; rcases h with h | h <;> cases h
  have e4 : waE lo hi t p = 1 := by unfold waE; rw [if_neg]; rintro ⟨q, _⟩; rw [e2] at q; cases q
  have n4 : waN lo hi t p = 0 := by unfold waN; rw [e4]; rfl
  have cA := fun u => rspan_any lo hi u
  rw [hA] at cA
  have cB := fun u => rtime_any t u
  rw [show timeB t = B from hB] at cB
  have cS := fun u hu => C.stamp lo hi u hu wl wh
  have e1 : stE lo hi = if A = true then 0 else 1 := by unfold stE; rw [hA]
  have n1 : stN lo hi = if A = true then hi else 0 := by unfold stN; rw [hA]
  rw [e1, n1] at cS
  have cP := fun u hu => C.past lo hi t u hu wl wh wt
  have cF := fun u hu => C.future lo hi t u hu wl wh wt
  have cW := fun u hu => C.wait lo hi t p u hu wl wh wt wp
  rw [e2, errc_not (by decide)] at cP cF
  rw [decide_eq_false (by rintro ⟨q, _⟩; cases q)] at cP cF
  rw [e4, n4, errc_not (by decide)] at cW
  have cE0 := fun (u : World) => error_nil u
  have cE1 := fun u (hu : Below w.heap.size w u) => error_errno 1 u (he.below hu)
  clear e1 n1 e2 e4 n4 hA hB wl wh wt wp he
  have h3 : (A = false ∧ B = false) ∨ (A = false ∧ B = true) ∨ (A = true ∧ B = false) := by
    cases A <;> cases B <;> simp_all
  clear h
  rcases h3 with ⟨rfl, rfl⟩ | ⟨rfl, rfl⟩ | ⟨rfl, rfl⟩
  all_goals
    simp only [Bool.false_eq_true, if_false, if_true] at cS
    first
      | rw [errc_zero] at cS
      | rw [errc_not (by decide)] at cS
    rcases hp with d1 | ⟨d1, d2⟩ | ⟨d1, d2⟩
    all_goals
      have cnt : Mark 0 := .mk _
      go_enter Tryd.func3, Tryd.ntmps3
      go_wp2_with (first
        | (go_at_call 5; refine (cA _).mono ?_; rintro o x1 ⟨rfl, hb⟩; have X : Hid (Bx w x1 lo hi) := ⟨Row.on hb (Row.made (W := w) (vs := [.int .i64 lo, .int .i64 hi]) rfl), rbel_on hb (rbel_al (Below.refl _ _))⟩; have b0 := X.out.r.c 0 _ rfl; have b1 := X.out.r.c 1 _ rfl; clear hb)
        | (go_at_call 6; refine (cB _).mono ?_; rintro o x2 ⟨rfl, hu⟩; rw [hu]; clear hu)
        | (go_at_call 7; refine (cS _ X.out.b).mono ?_; rintro o x2 ⟨rfl, hb⟩; have Y : Hid (Bx w x2 lo hi) := X.out.on hb; clear X b0 b1; have X : Hid (Bx w x2 lo hi) := Y; have b0 := X.out.r.c 0 _ rfl; have b1 := X.out.r.c 1 _ rfl; clear hb Y)
        | (go_at_call 9; refine (cP _ X.out.b).mono ?_; rintro o x2 ⟨rfl, hb⟩; have Y : Hid (Bx w x2 lo hi) := X.out.on hb; clear X b0 b1; have X : Hid (Bx w x2 lo hi) := Y; have b0 := X.out.r.c 0 _ rfl; have b1 := X.out.r.c 1 _ rfl; clear hb Y)
        | (go_at_call 10; refine (cF _ X.out.b).mono ?_; rintro o x2 ⟨rfl, hb⟩; have Y : Hid (Bx w x2 lo hi) := X.out.on hb; clear X b0 b1; have X : Hid (Bx w x2 lo hi) := Y; have b0 := X.out.r.c 0 _ rfl; have b1 := X.out.r.c 1 _ rfl; clear hb Y)
        | (go_at_call 12; refine (cW _ X.out.b).mono ?_; rintro o x2 ⟨rfl, hb⟩; have Y : Hid (Bx w x2 lo hi) := X.out.on hb; clear X b0 b1; have X : Hid (Bx w x2 lo hi) := Y; have b0 := X.out.r.c 0 _ rfl; have b1 := X.out.r.c 1 _ rfl; clear hb Y)
        | (go_at_call 8; (first | refine (cE1 _ X.out.b).mono ?_ | refine (cE0 _).mono ?_); rintro o x2 ⟨rfl, hb⟩; have Y : Hid (Bx w x2 lo hi) := X.out.on hb; clear X b0 b1; have X : Hid (Bx w x2 lo hi) := Y; have b0 := X.out.r.c 0 _ rfl; have b1 := X.out.r.c 1 _ rfl; clear hb Y))
      go_ret
      exact ⟨rfl, X.out.b⟩
end Go.Proofs.YthhhlfbifcnmpagDoor.waitTells
