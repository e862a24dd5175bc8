/- The ways through the law WaitTells: what is right. -/
import Derived.Test.YthhhlfbifcnmpagDoorWaitTellsA
namespace Go.Proofs.YthhhlfbifcnmpagDoor.waitTells
open Go.ChangeShapes Go.WideShapes Go.ChangeAt Go.RowKit Go.Joins Go.Proofs.YthhhlfbifcnmpagDoor.told
set_option linter.unusedVariables false
set_option linter.unusedSimpArgs false

set_option maxRecDepth 100000 in
set_option maxHeartbeats 8000000 in
theorem good (lo hi t p n e : Int) (P F : Bool) (w : World) (he : EnvE w) (C : WtA w) (wl : In64 lo) (wh : In64 hi) (wt : In64 t) (wp : In64 p) (h : pfE lo hi t = 0) (hP : decide (t < lo) = P) (hF : decide (hi < t) = F)
    (hn : waN lo hi t p = n) (hE : waE lo hi t p = e) (hp : (p < 0 ∧ n = 0 ∧ e = 1) ∨ (¬ p < 0 ∧ 1000 < p ∧ n = 0 ∧ e = 1) ∨ (¬ p < 0 ∧ ¬ 1000 < p)) :
    Calls Tryd.prog 3 #[.agg #[.int .i64 lo, .int .i64 hi], .int .i64 t, .int .i64 p] w fun o w' => o = .returned (.bool true) ∧ Below w.heap.size w w' := by
  obtain ⟨hA, hB⟩ := pf_zero h
  have cA := fun u => rspan_any lo hi u
  rw [hA] at cA
  have cB := fun u => rtime_any t u
  rw [show timeB t = true from hB] at cB
  have cS := fun u hu => C.stamp lo hi u hu wl wh
  rw [show stE lo hi = 0 by unfold stE; rw [if_pos hA], show stN lo hi = hi by unfold stN; rw [if_pos hA], errc_zero] at cS
  have cP := fun u hu => C.past lo hi t u hu wl wh wt
  have cF := fun u hu => C.future lo hi t u hu wl wh wt
  rw [h, errc_zero] at cP cF
  rw [show decide ((0 : Int) = 0 ∧ t < lo) = P by rw [← hP]; simp] at cP
  rw [show decide ((0 : Int) = 0 ∧ hi < t) = F by rw [← hF]; simp] at cF
  have cW := fun u hu => C.wait lo hi t p u hu wl wh wt wp
  rw [hn, hE] at cW
  have cE0 := fun (u : World) => error_nil u
  have cE1 := fun u (hu : Below w.heap.size w u) => error_errno 1 u (he.below hu)
  have cEe := fun u (hu : Below w.heap.size w u) => error_c e u (he.below hu)
  have cR : Hid (0 ≤ p → p ≤ 1000 → ∀ u, Calls Tryd.prog 11 #[.agg #[.int .i64 lo, .int .i64 hi], .int .i64 t, .int .i64 p] u fun o w' => o = .returned (.tuple #[.int .i64 n, .int .i64 e]) ∧ Below u.heap.size u w') := fun p0 p1 u => by rw [← hn, ← hE]; exact rwait_any lo hi t p u h p0 p1
  clear hA hB wl wh wt wp he h hn hE
  rcases hp with ⟨d1, rfl, rfl⟩ | ⟨d1, d2, rfl, rfl⟩ | ⟨d1, d2⟩
  · rw [errc_not (by decide)] at cW
    clear cEe
    go_enter Tryd.func3, Tryd.ntmps3
    go_wp2_with (first
      | (go_at_call 5; refine (cA _).mono ?_; rintro o x1 ⟨rfl, hb⟩; have X : Hid (Bx w x1 lo hi) := ⟨Row.on hb (Row.made (W := w) (vs := [.int .i64 lo, .int .i64 hi]) rfl), rbel_on hb (rbel_al (Below.refl _ _))⟩; have b0 := X.out.r.c 0 _ rfl; have b1 := X.out.r.c 1 _ rfl; clear hb)
      | (go_at_call 6; refine (cB _).mono ?_; rintro o x2 ⟨rfl, hu⟩; rw [hu]; clear hu)
      | (go_at_call 7; refine (cS _ X.out.b).mono ?_; rintro o x2 ⟨rfl, hb⟩; have Y : Hid (Bx w x2 lo hi) := X.out.on hb; clear X b0 b1; have X : Hid (Bx w x2 lo hi) := Y; have b0 := X.out.r.c 0 _ rfl; have b1 := X.out.r.c 1 _ rfl; clear hb Y)
      | (go_at_call 9; refine (cP _ X.out.b).mono ?_; rintro o x2 ⟨rfl, hb⟩; have Y : Hid (Bx w x2 lo hi) := X.out.on hb; clear X b0 b1; have X : Hid (Bx w x2 lo hi) := Y; have b0 := X.out.r.c 0 _ rfl; have b1 := X.out.r.c 1 _ rfl; clear hb Y)
      | (go_at_call 10; refine (cF _ X.out.b).mono ?_; rintro o x2 ⟨rfl, hb⟩; have Y : Hid (Bx w x2 lo hi) := X.out.on hb; clear X b0 b1; have X : Hid (Bx w x2 lo hi) := Y; have b0 := X.out.r.c 0 _ rfl; have b1 := X.out.r.c 1 _ rfl; clear hb Y)
      | (go_at_call 12; refine (cW _ X.out.b).mono ?_; rintro o x2 ⟨rfl, hb⟩; have Y : Hid (Bx w x2 lo hi) := X.out.on hb; clear X b0 b1; have X : Hid (Bx w x2 lo hi) := Y; have b0 := X.out.r.c 0 _ rfl; have b1 := X.out.r.c 1 _ rfl; clear hb Y)
      | (go_at_call 8; (first | refine (cE1 _ X.out.b).mono ?_ | refine (cE0 _).mono ?_); rintro o x2 ⟨rfl, hb⟩; have Y : Hid (Bx w x2 lo hi) := X.out.on hb; clear X b0 b1; have X : Hid (Bx w x2 lo hi) := Y; have b0 := X.out.r.c 0 _ rfl; have b1 := X.out.r.c 1 _ rfl; clear hb Y))
    go_ret
    exact ⟨rfl, X.out.b⟩
  · rw [errc_not (by decide)] at cW
    clear cEe
    go_enter Tryd.func3, Tryd.ntmps3
    go_wp2_with (first
      | (go_at_call 5; refine (cA _).mono ?_; rintro o x1 ⟨rfl, hb⟩; have X : Hid (Bx w x1 lo hi) := ⟨Row.on hb (Row.made (W := w) (vs := [.int .i64 lo, .int .i64 hi]) rfl), rbel_on hb (rbel_al (Below.refl _ _))⟩; have b0 := X.out.r.c 0 _ rfl; have b1 := X.out.r.c 1 _ rfl; clear hb)
      | (go_at_call 6; refine (cB _).mono ?_; rintro o x2 ⟨rfl, hu⟩; rw [hu]; clear hu)
      | (go_at_call 7; refine (cS _ X.out.b).mono ?_; rintro o x2 ⟨rfl, hb⟩; have Y : Hid (Bx w x2 lo hi) := X.out.on hb; clear X b0 b1; have X : Hid (Bx w x2 lo hi) := Y; have b0 := X.out.r.c 0 _ rfl; have b1 := X.out.r.c 1 _ rfl; clear hb Y)
      | (go_at_call 9; refine (cP _ X.out.b).mono ?_; rintro o x2 ⟨rfl, hb⟩; have Y : Hid (Bx w x2 lo hi) := X.out.on hb; clear X b0 b1; have X : Hid (Bx w x2 lo hi) := Y; have b0 := X.out.r.c 0 _ rfl; have b1 := X.out.r.c 1 _ rfl; clear hb Y)
      | (go_at_call 10; refine (cF _ X.out.b).mono ?_; rintro o x2 ⟨rfl, hb⟩; have Y : Hid (Bx w x2 lo hi) := X.out.on hb; clear X b0 b1; have X : Hid (Bx w x2 lo hi) := Y; have b0 := X.out.r.c 0 _ rfl; have b1 := X.out.r.c 1 _ rfl; clear hb Y)
      | (go_at_call 12; refine (cW _ X.out.b).mono ?_; rintro o x2 ⟨rfl, hb⟩; have Y : Hid (Bx w x2 lo hi) := X.out.on hb; clear X b0 b1; have X : Hid (Bx w x2 lo hi) := Y; have b0 := X.out.r.c 0 _ rfl; have b1 := X.out.r.c 1 _ rfl; clear hb Y)
      | (go_at_call 8; (first | refine (cE1 _ X.out.b).mono ?_ | refine (cE0 _).mono ?_); rintro o x2 ⟨rfl, hb⟩; have Y : Hid (Bx w x2 lo hi) := X.out.on hb; clear X b0 b1; have X : Hid (Bx w x2 lo hi) := Y; have b0 := X.out.r.c 0 _ rfl; have b1 := X.out.r.c 1 _ rfl; clear hb Y))
    go_ret
    exact ⟨rfl, X.out.b⟩
  · have cR2 := cR.out (by omega) (by omega)
    have cnt : Mark 0 := .mk _
    clear cE1
    go_enter Tryd.func3, Tryd.ntmps3
    go_wp2_with (first
      | (go_at_call 5; refine (cA _).mono ?_; rintro o x1 ⟨rfl, hb⟩; have X : Hid (Bx w x1 lo hi) := ⟨Row.on hb (Row.made (W := w) (vs := [.int .i64 lo, .int .i64 hi]) rfl), rbel_on hb (rbel_al (Below.refl _ _))⟩; have b0 := X.out.r.c 0 _ rfl; have b1 := X.out.r.c 1 _ rfl; clear hb)
      | (go_at_call 6; refine (cB _).mono ?_; rintro o x2 ⟨rfl, hu⟩; rw [hu]; clear hu)
      | (go_at_call 7; refine (cS _ X.out.b).mono ?_; rintro o x2 ⟨rfl, hb⟩; have Y : Hid (Bx w x2 lo hi) := X.out.on hb; clear X b0 b1; have X : Hid (Bx w x2 lo hi) := Y; have b0 := X.out.r.c 0 _ rfl; have b1 := X.out.r.c 1 _ rfl; clear hb Y)
      | (go_at_call 9; refine (cP _ X.out.b).mono ?_; rintro o x2 ⟨rfl, hb⟩; have Y : Hid (Bx w x2 lo hi) := X.out.on hb; clear X b0 b1; have X : Hid (Bx w x2 lo hi) := Y; have b0 := X.out.r.c 0 _ rfl; have b1 := X.out.r.c 1 _ rfl; clear hb Y)
      | (go_at_call 10; refine (cF _ X.out.b).mono ?_; rintro o x2 ⟨rfl, hb⟩; have Y : Hid (Bx w x2 lo hi) := X.out.on hb; clear X b0 b1; have X : Hid (Bx w x2 lo hi) := Y; have b0 := X.out.r.c 0 _ rfl; have b1 := X.out.r.c 1 _ rfl; clear hb Y)
      | (go_at_call 12; refine (cW _ X.out.b).mono ?_; rintro o x2 ⟨rfl, hb⟩; have Y : Hid (Bx w x2 lo hi) := X.out.on hb; clear X b0 b1; have X : Hid (Bx w x2 lo hi) := Y; have b0 := X.out.r.c 0 _ rfl; have b1 := X.out.r.c 1 _ rfl; clear hb Y)
      | (go_at_call 11; have cq : Mark 0 := cnt; refine (cR2 _).mono ?_; clear cq cnt; have cnt : Mark 1 := .mk _; rintro o x2 ⟨rfl, hb⟩; have Y : Hid (Bx w x2 lo hi) := X.out.on hb; clear X b0 b1; have X : Hid (Bx w x2 lo hi) := Y; have b0 := X.out.r.c 0 _ rfl; have b1 := X.out.r.c 1 _ rfl; clear hb Y)
      | (go_at_call 8; have cq : Mark 0 := cnt; refine (cE0 _).mono ?_; rintro o x2 ⟨rfl, hb⟩; have Y : Hid (Bx w x2 lo hi) := X.out.on hb; clear X b0 b1; have X : Hid (Bx w x2 lo hi) := Y; have b0 := X.out.r.c 0 _ rfl; have b1 := X.out.r.c 1 _ rfl; clear hb Y; clear cq)
      | (go_at_call 8; have cq : Mark 1 := cnt; refine (cEe _ X.out.b).mono ?_; rintro o x2 ⟨rfl, hb⟩; have Y : Hid (Bx w x2 lo hi) := X.out.on hb; clear X b0 b1; have X : Hid (Bx w x2 lo hi) := Y; have b0 := X.out.r.c 0 _ rfl; have b1 := X.out.r.c 1 _ rfl; clear hb Y; clear cq))
    go_ret
    exact ⟨by simp, X.out.b⟩
theorem all_ways (lo hi t p : Int) (w : World) (he : EnvE w) (C : WtA w) (wl : In64 lo) (wh : In64 hi) (wt : In64 t) (wp : In64 p) :
    Calls Tryd.prog 3 #[.agg #[.int .i64 lo, .int .i64 hi], .int .i64 t, .int .i64 p] w fun o w' => o = .returned (.bool true) ∧ Below w.heap.size w w' := by
  by_cases h : pfE lo hi t = 0
  · refine good lo hi t p _ _ _ _ w he C wl wh wt wp h rfl rfl rfl rfl ?_
    by_cases hp : 0 ≤ p ∧ p ≤ 1000
    · exact Or.inr (Or.inr ⟨by omega, by omega⟩)
    · have e : waE lo hi t p = 1 := by unfold waE; rw [if_neg]; rintro ⟨_, q⟩; exact hp q
      have n : waN lo hi t p = 0 := by unfold waN; rw [e]; rfl
      by_cases q : p < 0
      · exact Or.inl ⟨q, n, e⟩
      · exact Or.inr (Or.inl ⟨q, by omega, n, e⟩)
  · obtain ⟨_, q⟩ := pf_not h
    refine bad lo hi t p _ _ w he C wl wh wt wp rfl rfl ?_ (by omega)
    cases a : okB lo hi with
    | false => exact Or.inl rfl
    | true =>
      cases b : tiB t with
      | false => exact Or.inr rfl
      | true => exact absurd ⟨a, b⟩ q
end Go.Proofs.YthhhlfbifcnmpagDoor.waitTells
