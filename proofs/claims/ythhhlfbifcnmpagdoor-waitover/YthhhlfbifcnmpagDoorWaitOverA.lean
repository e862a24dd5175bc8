/- The ways through the law WaitOver. -/
import Derived.Test.YthhhlfbifcnmpagDoorWaitDef
import Derived.Test.YthhhlfbifcnmpagDoorDriftTrue
import Derived.Test.YthhhlfbifcnmpagDoorSpanHasAny
import Derived.Test.YthhhlfbifcnmpagDoorTold
import Derived.Lib.SmallJoins
namespace Go.Proofs.YthhhlfbifcnmpagDoor.waitOver
open Go.ChangeShapes Go.WideShapes Go.ChangeAt Go.RowKit Go.Joins Go.Proofs.YthhhlfbifcnmpagDoor.told
set_option linter.unusedVariables false
set_option linter.unusedSimpArgs false

theorem fact : waN 10 20 15 0 = 6 ∧ waE 10 20 15 0 = 0 := by decide
/-- Two boxes stand, and what was there. -/
structure Bx (w u : World) (lo hi : Int) : Prop where
  r : Row u w.heap.size [.int .i64 lo, .int .i64 hi]
  b : Below w.heap.size w u
theorem Bx.on {w u u' : World} {lo hi : Int} (hb : Below u.heap.size u u') (h : Bx w u lo hi) : Bx w u' lo hi := ⟨Row.on hb h.r, rbel_on hb h.b⟩
set_option maxRecDepth 100000 in
set_option maxHeartbeats 8000000 in
/-- .. where an error is told ahead. -/
theorem early (lo hi m t p n e f : Int) (P F : Bool) (w : World) (C : WtA w) (wl : In64 lo) (wh : In64 hi) (wt : In64 t) (wp : In64 p) (hP : decide (pfE lo hi t = 0 ∧ t < lo) = P) (hF : decide (pfE lo hi t = 0 ∧ hi < t) = F) (hf : pfE lo hi t = f) (hn : waN lo hi t p = n) (hE : waE lo hi t p = e)
    (h : f = 1 ∨ (f = 0 ∧ e = 1 ∧ P = true ∧ F = false) ∨ (f = 0 ∧ e = 1 ∧ P = false)) :
    Calls Tryd.prog 4 #[.agg #[.int .i64 lo, .int .i64 hi], .int .i64 m, .int .i64 t, .int .i64 p] w fun o w' => o = .returned (.bool true) ∧ Below w.heap.size w w' := by
  have c0 := fun v hv => C.wait 10 20 15 0 v hv (by decide) (by decide) (by decide) (by decide)
  rw [fact.1, fact.2, errc_zero] at c0
  have cP := fun u hu => C.past lo hi t u hu wl wh wt
  have cF := fun u hu => C.future lo hi t u hu wl wh wt
  rw [hP, hf] at cP
  rw [hF, hf] at cF
  have cW := fun u hu => C.wait lo hi t p u hu wl wh wt wp
  rw [hn, hE] at cW
  clear hP hF hf hn hE wl wh wt wp
  have cnt : Mark 0 := .mk _
  rcases h with rfl | ⟨rfl, rfl, rfl, rfl⟩ | ⟨rfl, rfl, rfl⟩
  all_goals
    (try rw [errc_not (by decide)] at cP cF)
    (try rw [errc_zero] at cP cF)
    (try rw [errc_not (by decide)] at cW)
    go_enter Tryd.func4, Tryd.ntmps4
    go_wp2_with (first
      | (go_at_call 12; have cq : Mark 0 := cnt; refine (c0 _ (rbel_al (rbel_al (Below.refl _ _)))).mono ?_; clear cq cnt; have cnt : Mark 1 := .mk _; rintro o x1 ⟨rfl, hb⟩; have X : Hid (Bx w x1 lo hi) := ⟨Row.on hb (Row.al (Row.made (W := w) (vs := [.int .i64 lo, .int .i64 hi]) rfl)), rbel_on hb (rbel_al (rbel_al (Below.refl _ _)))⟩; have b0 := X.out.r.c 0 _ rfl; have b1 := X.out.r.c 1 _ rfl; clear hb)
      | (go_at_call 9; refine (cP _ X.out.b).mono ?_; rintro o x2 ⟨rfl, hb⟩; have Y : Hid (Bx w x2 lo hi) := X.out.on hb; clear X b0 b1; have X : Hid (Bx w x2 lo hi) := Y; have b0 := X.out.r.c 0 _ rfl; have b1 := X.out.r.c 1 _ rfl; clear hb Y)
      | (go_at_call 10; refine (cF _ X.out.b).mono ?_; rintro o x2 ⟨rfl, hb⟩; have Y : Hid (Bx w x2 lo hi) := X.out.on hb; clear X b0 b1; have X : Hid (Bx w x2 lo hi) := Y; have b0 := X.out.r.c 0 _ rfl; have b1 := X.out.r.c 1 _ rfl; clear hb Y)
      | (go_at_call 12; have cq : Mark 1 := cnt; refine (cW _ X.out.b).mono ?_; clear cq; rintro o x2 ⟨rfl, hb⟩; have Y : Hid (Bx w x2 lo hi) := X.out.on hb; clear X b0 b1; have X : Hid (Bx w x2 lo hi) := Y; clear hb Y))
    go_ret
    exact ⟨rfl, X.out.b⟩
set_option maxRecDepth 100000 in
set_option maxHeartbeats 8000000 in
/-- .. where how long to wait is told. -/
theorem late (lo hi m t p n x y : Int) (P F I K : Bool) (w : World) (he : EnvE w) (C : WtA w) (wl : In64 lo) (wh : In64 hi) (wm : In64 m) (wt : In64 t) (wp : In64 p) (hf : pfE lo hi t = 0) (hP : decide (t < lo) = P) (hF : decide (hi < t) = F) (hn : waN lo hi t p = n) (hE : waE lo hi t p = 0)
    (hI : decide (lo ≤ m ∧ m ≤ hi) = I) (hx : Hid (x = n * 1000000 / (1000000 + p))) (hy : Hid (y = (n * 1000000 + (1000000 - p) - 1) / (1000000 - p))) (hK : okB x y = K)
    (h : (K = false ∧ ((P = true ∧ F = false) ∨ P = false)) ∨ (K = true ∧ I = false ∧ ((P = true ∧ F = false) ∨ P = false)) ∨ (K = true ∧ I = true ∧ P = true ∧ F = false ∧ ¬ m ≤ t) ∨ (K = true ∧ I = true ∧ P = false ∧ ¬ m + x ≤ t)) :
    Calls Tryd.prog 4 #[.agg #[.int .i64 lo, .int .i64 hi], .int .i64 m, .int .i64 t, .int .i64 p] w fun o w' => o = .returned (.bool true) ∧ Below w.heap.size w w' := by
  obtain ⟨oA, oB⟩ := pf_zero hf
  obtain ⟨_, p0, p1, _⟩ := wa_zero hE
  have nb := wa_b hE
  rw [hn] at nb
  have rd : rdy n p = true := decide_eq_true ⟨nb.1, nb.2, p0, p1⟩
  have c0 := fun v hv => C.wait 10 20 15 0 v hv (by decide) (by decide) (by decide) (by decide)
  rw [fact.1, fact.2, errc_zero] at c0
  have cP := fun u hu => C.past lo hi t u hu wl wh wt
  have cF := fun u hu => C.future lo hi t u hu wl wh wt
  rw [hf, errc_zero] at cP cF
  rw [show decide ((0 : Int) = 0 ∧ t < lo) = P by rw [← hP]; simp] at cP
  rw [show decide ((0 : Int) = 0 ∧ hi < t) = F by rw [← hF]; simp] at cF
  have cW := fun u hu => C.wait lo hi t p u hu wl wh wt wp
  rw [hn, hE, errc_zero] at cW
  have cI := fun u => has_any lo hi m I u oA hI
  have oA' := okB_t oA
  have fh : pfE lo hi hi = 0 := by unfold pfE; rw [if_pos ⟨oA, decide_eq_true (by omega)⟩]
  have cQ := fun u hu => C.past lo hi hi u hu wl wh wh
  rw [fh, errc_zero, show decide ((0 : Int) = 0 ∧ hi < lo) = false from decide_eq_false (by rintro ⟨_, q⟩; omega)] at cQ
  have cS := fun u hu => C.stamp lo hi u hu wl wh
  rw [show stE lo hi = 0 by unfold stE; rw [if_pos oA], show stN lo hi = hi by unfold stN; rw [if_pos oA], errc_zero] at cS
  have cE1 := fun u (hu : Below w.heap.size w u) => error_errno 1 u (he.below hu)
  have cT0 : K = true → ∀ u, Calls Tryd.prog 13 #[.int .i64 n, .int .i64 p] u fun e w' => e = .returned (.tuple #[.agg #[.int .i64 x, .int .i64 y], .nilIface]) ∧ Below u.heap.size u w' := fun k u => by
    have := true_ok n p u rd (by rw [← hx.out, ← hy.out, hK, k])
    rwa [← hx.out, ← hy.out] at this
  have cT1 : K = false → ∀ u, Calls Tryd.prog 13 #[.int .i64 n, .int .i64 p] u fun e w' => e = .returned (.tuple #[.agg #[.int .i64 0, .int .i64 0], .iface 41 (.int .i64 1)]) ∧ Below u.heap.size u w' := fun k u => true_out n p u rd (by rw [← hx.out, ← hy.out, hK, k])
  have xb : K = true → I = true → IntKind.i64.wrap (m + x) = m + x := fun k i => by
    rw [k] at hK
    rw [i] at hI
    have a := okB_t hK
    have b := of_decide_eq_true hI
    exact IntWalk.i64_in _ (by omega)
  clear hP hF hf hn hE wl wh wt wp wm oA oB p0 p1 nb rd fh hI hx hy hK he oA'
  have cnt : Mark 0 := .mk _
  rcases h with ⟨rfl, h⟩ | ⟨rfl, rfl, h⟩ | ⟨rfl, rfl, rfl, rfl, d1⟩ | ⟨rfl, rfl, rfl, d1⟩
  · have cT := cT1 rfl
    clear cT0 cT1 cQ cS xb
    rcases h with ⟨rfl, rfl⟩ | rfl
    all_goals
      go_enter Tryd.func4, Tryd.ntmps4
      go_wp2_with (first
        | (go_at_call 12; have cq : Mark 0 := cnt; refine (c0 _ (rbel_al (rbel_al (Below.refl _ _)))).mono ?_; clear cq cnt; have cnt : Mark 1 := .mk _; rintro o x1 ⟨rfl, hb⟩; have X : Hid (Bx w x1 lo hi) := ⟨Row.on hb (Row.al (Row.made (W := w) (vs := [.int .i64 lo, .int .i64 hi]) rfl)), rbel_on hb (rbel_al (rbel_al (Below.refl _ _)))⟩; have b0 := X.out.r.c 0 _ rfl; have b1 := X.out.r.c 1 _ rfl; clear hb)
        | (go_at_call 9; have cq : Mark 1 := cnt; refine (cP _ X.out.b).mono ?_; clear cq; rintro o x2 ⟨rfl, hb⟩; have Y : Hid (Bx w x2 lo hi) := X.out.on hb; clear X b0 b1; have X : Hid (Bx w x2 lo hi) := Y; have b0 := X.out.r.c 0 _ rfl; have b1 := X.out.r.c 1 _ rfl; clear hb Y)
        | (go_at_call 10; refine (cF _ X.out.b).mono ?_; rintro o x2 ⟨rfl, hb⟩; have Y : Hid (Bx w x2 lo hi) := X.out.on hb; clear X b0 b1; have X : Hid (Bx w x2 lo hi) := Y; have b0 := X.out.r.c 0 _ rfl; have b1 := X.out.r.c 1 _ rfl; clear hb Y)
        | (go_at_call 12; have cq : Mark 1 := cnt; refine (cW _ X.out.b).mono ?_; clear cq cnt; have cnt : Mark 2 := .mk _; rintro o x2 ⟨rfl, hb⟩; have Y : Hid (Bx w x2 lo hi) := X.out.on hb; clear X b0 b1; have X : Hid (Bx w x2 lo hi) := Y; have b0 := X.out.r.c 0 _ rfl; have b1 := X.out.r.c 1 _ rfl; clear hb Y)
        | (go_at_call 13; refine (cT _).mono ?_; rintro o x3 ⟨rfl, hb⟩; have Y : Hid (Bx w x3 lo hi) := X.out.on hb; clear X b0 b1; have X : Hid (Bx w x3 lo hi) := Y; have b0 := X.out.r.c 0 _ rfl; have b1 := X.out.r.c 1 _ rfl; have nx : w.heap.size < x3.heap.size := X.out.r.lt; clear hb Y)
        | (go_at_call 14; refine (cI _).mono ?_; rintro o x4 ⟨rfl, hb⟩; have Y : Hid (Bx w x4 lo hi) := X.out.on (rbel_on hb (rbel_al (Below.refl _ _))); clear X b0 b1; have X : Hid (Bx w x4 lo hi) := Y; clear hb Y)
        | (go_at_call 8; refine (cE1 _ X.out.b).mono ?_; rintro o x5 ⟨rfl, hb⟩; have Y : Hid (Bx w x5 lo hi) := X.out.on hb; clear X; have X : Hid (Bx w x5 lo hi) := Y; clear hb Y))
      go_ret
      exact ⟨rfl, X.out.b⟩
  · have cT := cT0 rfl
    clear cT0 cT1 cE1 xb
    rcases h with ⟨rfl, rfl⟩ | rfl
    all_goals
      go_enter Tryd.func4, Tryd.ntmps4
      go_wp2_with (first
        | (go_at_call 12; have cq : Mark 0 := cnt; refine (c0 _ (rbel_al (rbel_al (Below.refl _ _)))).mono ?_; clear cq cnt; have cnt : Mark 1 := .mk _; rintro o x1 ⟨rfl, hb⟩; have X : Hid (Bx w x1 lo hi) := ⟨Row.on hb (Row.al (Row.made (W := w) (vs := [.int .i64 lo, .int .i64 hi]) rfl)), rbel_on hb (rbel_al (rbel_al (Below.refl _ _)))⟩; have b0 := X.out.r.c 0 _ rfl; have b1 := X.out.r.c 1 _ rfl; clear hb)
        | (go_at_call 9; have cq : Mark 1 := cnt; refine (cP _ X.out.b).mono ?_; clear cq; rintro o x2 ⟨rfl, hb⟩; have Y : Hid (Bx w x2 lo hi) := X.out.on hb; clear X b0 b1; have X : Hid (Bx w x2 lo hi) := Y; have b0 := X.out.r.c 0 _ rfl; have b1 := X.out.r.c 1 _ rfl; clear hb Y)
        | (go_at_call 10; refine (cF _ X.out.b).mono ?_; rintro o x2 ⟨rfl, hb⟩; have Y : Hid (Bx w x2 lo hi) := X.out.on hb; clear X b0 b1; have X : Hid (Bx w x2 lo hi) := Y; have b0 := X.out.r.c 0 _ rfl; have b1 := X.out.r.c 1 _ rfl; clear hb Y)
        | (go_at_call 12; have cq : Mark 1 := cnt; refine (cW _ X.out.b).mono ?_; clear cq cnt; have cnt : Mark 2 := .mk _; rintro o x2 ⟨rfl, hb⟩; have Y : Hid (Bx w x2 lo hi) := X.out.on hb; clear X b0 b1; have X : Hid (Bx w x2 lo hi) := Y; have b0 := X.out.r.c 0 _ rfl; have b1 := X.out.r.c 1 _ rfl; clear hb Y)
        | (go_at_call 13; refine (cT _).mono ?_; rintro o x3 ⟨rfl, hb⟩; have Y : Hid (Bx w x3 lo hi) := X.out.on hb; clear X b0 b1; have X : Hid (Bx w x3 lo hi) := Y; have b0 := X.out.r.c 0 _ rfl; have b1 := X.out.r.c 1 _ rfl; have nx : w.heap.size < x3.heap.size := X.out.r.lt; clear hb Y)
        | (go_at_call 14; refine (cI _).mono ?_; rintro o x4 ⟨rfl, hb⟩; have Y : Hid (Bx w x4 lo hi) := X.out.on (rbel_on hb (rbel_al (Below.refl _ _))); have rs := Row.on hb (Row.made (W := x3) (vs := [.int .i64 x, .int .i64 y]) rfl); have s0 := rs.c 0 _ rfl; have s1 := rs.c 1 _ rfl; clear X b0 b1; have X : Hid (Bx w x4 lo hi) := Y; have b0 := X.out.r.c 0 _ rfl; have b1 := X.out.r.c 1 _ rfl; clear hb Y rs)
        | (go_at_call 7; refine (cS _ X.out.b).mono ?_; rintro o x2 ⟨rfl, hb⟩; have Y : Hid (Bx w x2 lo hi) := X.out.on hb; clear X b0 b1; have X : Hid (Bx w x2 lo hi) := Y; have b0 := X.out.r.c 0 _ rfl; have b1 := X.out.r.c 1 _ rfl; clear hb Y)
        | (go_at_call 9; have cq : Mark 2 := cnt; refine (cQ _ X.out.b).mono ?_; clear cq; rintro o x6 ⟨rfl, hb⟩; have Y : Hid (Bx w x6 lo hi) := X.out.on hb; clear X; have X : Hid (Bx w x6 lo hi) := Y; clear hb Y))
      go_ret
      exact ⟨rfl, X.out.b⟩
  · have cT := cT0 rfl
    have wx := xb rfl rfl
    clear cT0 cT1 cE1 xb
    go_enter Tryd.func4, Tryd.ntmps4
    go_wp2_with (first
      | (go_at_call 12; have cq : Mark 0 := cnt; refine (c0 _ (rbel_al (rbel_al (Below.refl _ _)))).mono ?_; clear cq cnt; have cnt : Mark 1 := .mk _; rintro o x1 ⟨rfl, hb⟩; have X : Hid (Bx w x1 lo hi) := ⟨Row.on hb (Row.al (Row.made (W := w) (vs := [.int .i64 lo, .int .i64 hi]) rfl)), rbel_on hb (rbel_al (rbel_al (Below.refl _ _)))⟩; have b0 := X.out.r.c 0 _ rfl; have b1 := X.out.r.c 1 _ rfl; clear hb)
      | (go_at_call 9; have cq : Mark 1 := cnt; refine (cP _ X.out.b).mono ?_; clear cq; rintro o x2 ⟨rfl, hb⟩; have Y : Hid (Bx w x2 lo hi) := X.out.on hb; clear X b0 b1; have X : Hid (Bx w x2 lo hi) := Y; have b0 := X.out.r.c 0 _ rfl; have b1 := X.out.r.c 1 _ rfl; clear hb Y)
      | (go_at_call 10; refine (cF _ X.out.b).mono ?_; rintro o x2 ⟨rfl, hb⟩; have Y : Hid (Bx w x2 lo hi) := X.out.on hb; clear X b0 b1; have X : Hid (Bx w x2 lo hi) := Y; have b0 := X.out.r.c 0 _ rfl; have b1 := X.out.r.c 1 _ rfl; clear hb Y)
      | (go_at_call 12; have cq : Mark 1 := cnt; refine (cW _ X.out.b).mono ?_; clear cq cnt; have cnt : Mark 2 := .mk _; rintro o x2 ⟨rfl, hb⟩; have Y : Hid (Bx w x2 lo hi) := X.out.on hb; clear X b0 b1; have X : Hid (Bx w x2 lo hi) := Y; have b0 := X.out.r.c 0 _ rfl; have b1 := X.out.r.c 1 _ rfl; clear hb Y)
      | (go_at_call 13; refine (cT _).mono ?_; rintro o x3 ⟨rfl, hb⟩; have Y : Hid (Bx w x3 lo hi) := X.out.on hb; clear X b0 b1; have X : Hid (Bx w x3 lo hi) := Y; have b0 := X.out.r.c 0 _ rfl; have b1 := X.out.r.c 1 _ rfl; have nx : w.heap.size < x3.heap.size := X.out.r.lt; clear hb Y)
      | (go_at_call 14; refine (cI _).mono ?_; rintro o x4 ⟨rfl, hb⟩; have Y : Hid (Bx w x4 lo hi) := X.out.on (rbel_on hb (rbel_al (Below.refl _ _))); have rs := Row.on hb (Row.made (W := x3) (vs := [.int .i64 x, .int .i64 y]) rfl); have s0 := rs.c 0 _ rfl; have s1 := rs.c 1 _ rfl; clear X b0 b1; have X : Hid (Bx w x4 lo hi) := Y; have b0 := X.out.r.c 0 _ rfl; have b1 := X.out.r.c 1 _ rfl; clear hb Y rs)
      | (go_at_call 7; refine (cS _ X.out.b).mono ?_; rintro o x2 ⟨rfl, hb⟩; have Y : Hid (Bx w x2 lo hi) := X.out.on hb; clear X b0 b1; have X : Hid (Bx w x2 lo hi) := Y; have b0 := X.out.r.c 0 _ rfl; have b1 := X.out.r.c 1 _ rfl; clear hb Y)
      | (go_at_call 9; have cq : Mark 2 := cnt; refine (cQ _ X.out.b).mono ?_; clear cq; rintro o x6 ⟨rfl, hb⟩; have Y : Hid (Bx w x6 lo hi) := X.out.on hb; clear X; have X : Hid (Bx w x6 lo hi) := Y; clear hb Y))
    all_goals
      go_ret
      exact ⟨rfl, X.out.b⟩
  · have cT := cT0 rfl
    have wx := xb rfl rfl
    clear cT0 cT1 cE1 xb
    go_enter Tryd.func4, Tryd.ntmps4
    go_wp2_with (first
      | (go_at_call 12; have cq : Mark 0 := cnt; refine (c0 _ (rbel_al (rbel_al (Below.refl _ _)))).mono ?_; clear cq cnt; have cnt : Mark 1 := .mk _; rintro o x1 ⟨rfl, hb⟩; have X : Hid (Bx w x1 lo hi) := ⟨Row.on hb (Row.al (Row.made (W := w) (vs := [.int .i64 lo, .int .i64 hi]) rfl)), rbel_on hb (rbel_al (rbel_al (Below.refl _ _)))⟩; have b0 := X.out.r.c 0 _ rfl; have b1 := X.out.r.c 1 _ rfl; clear hb)
      | (go_at_call 9; have cq : Mark 1 := cnt; refine (cP _ X.out.b).mono ?_; clear cq; rintro o x2 ⟨rfl, hb⟩; have Y : Hid (Bx w x2 lo hi) := X.out.on hb; clear X b0 b1; have X : Hid (Bx w x2 lo hi) := Y; have b0 := X.out.r.c 0 _ rfl; have b1 := X.out.r.c 1 _ rfl; clear hb Y)
      | (go_at_call 10; refine (cF _ X.out.b).mono ?_; rintro o x2 ⟨rfl, hb⟩; have Y : Hid (Bx w x2 lo hi) := X.out.on hb; clear X b0 b1; have X : Hid (Bx w x2 lo hi) := Y; have b0 := X.out.r.c 0 _ rfl; have b1 := X.out.r.c 1 _ rfl; clear hb Y)
      | (go_at_call 12; have cq : Mark 1 := cnt; refine (cW _ X.out.b).mono ?_; clear cq cnt; have cnt : Mark 2 := .mk _; rintro o x2 ⟨rfl, hb⟩; have Y : Hid (Bx w x2 lo hi) := X.out.on hb; clear X b0 b1; have X : Hid (Bx w x2 lo hi) := Y; have b0 := X.out.r.c 0 _ rfl; have b1 := X.out.r.c 1 _ rfl; clear hb Y)
      | (go_at_call 13; refine (cT _).mono ?_; rintro o x3 ⟨rfl, hb⟩; have Y : Hid (Bx w x3 lo hi) := X.out.on hb; clear X b0 b1; have X : Hid (Bx w x3 lo hi) := Y; have b0 := X.out.r.c 0 _ rfl; have b1 := X.out.r.c 1 _ rfl; have nx : w.heap.size < x3.heap.size := X.out.r.lt; clear hb Y)
      | (go_at_call 14; refine (cI _).mono ?_; rintro o x4 ⟨rfl, hb⟩; have Y : Hid (Bx w x4 lo hi) := X.out.on (rbel_on hb (rbel_al (Below.refl _ _))); have rs := Row.on hb (Row.made (W := x3) (vs := [.int .i64 x, .int .i64 y]) rfl); have s0 := rs.c 0 _ rfl; have s1 := rs.c 1 _ rfl; clear X b0 b1; have X : Hid (Bx w x4 lo hi) := Y; have b0 := X.out.r.c 0 _ rfl; have b1 := X.out.r.c 1 _ rfl; clear hb Y rs)
      | (go_at_call 7; refine (cS _ X.out.b).mono ?_; rintro o x2 ⟨rfl, hb⟩; have Y : Hid (Bx w x2 lo hi) := X.out.on hb; clear X b0 b1; have X : Hid (Bx w x2 lo hi) := Y; have b0 := X.out.r.c 0 _ rfl; have b1 := X.out.r.c 1 _ rfl; clear hb Y)
      | (go_at_call 9; have cq : Mark 2 := cnt; refine (cQ _ X.out.b).mono ?_; clear cq; rintro o x6 ⟨rfl, hb⟩; have Y : Hid (Bx w x6 lo hi) := X.out.on hb; clear X; have X : Hid (Bx w x6 lo hi) := Y; clear hb Y))
    all_goals
      go_ret
      exact ⟨rfl, X.out.b⟩
theorem all_ways (lo hi m t p : Int) (w : World) (he : EnvE w) (C : WtA w) (wl : In64 lo) (wh : In64 hi) (wm : In64 m) (wt : In64 t) (wp : In64 p) :
    Calls Tryd.prog 4 #[.agg #[.int .i64 lo, .int .i64 hi], .int .i64 m, .int .i64 t, .int .i64 p] w fun o w' => o = .returned (.bool true) ∧ Below w.heap.size w w' := by
  by_cases hf : pfE lo hi t = 0
  · obtain ⟨oA, oB⟩ := pf_zero hf
    have oA' := okB_t oA
    have oB' := tiB_t oB
    by_cases hE : waE lo hi t p = 0
    · obtain ⟨_, p0, p1, c⟩ := wa_zero hE
      have nb := wa_b hE
      have xb0 : 0 ≤ waN lo hi t p * 1000000 / (1000000 + p) := Int.ediv_nonneg (by omega) (by omega)
      have xb1 : waN lo hi t p * 1000000 / (1000000 + p) ≤ waN lo hi t p * 1000000 := Int.ediv_le_self _ (by omega)
      refine late lo hi m t p _ _ _ _ _ _ _ w he C wl wh wm wt wp hf rfl rfl rfl hE rfl rfl rfl rfl ?_
      · by_cases cP : t < lo
        · have eP : decide (t < lo) = true := decide_eq_true cP
          have eF : decide (hi < t) = false := decide_eq_false (by omega)
          cases hK : okB (waN lo hi t p * 1000000 / (1000000 + p)) ((waN lo hi t p * 1000000 + (1000000 - p) - 1) / (1000000 - p)) with
          | false => exact Or.inl ⟨rfl, Or.inl ⟨eP, eF⟩⟩
          | true =>
            by_cases cI : lo ≤ m ∧ m ≤ hi
            · exact Or.inr (Or.inr (Or.inl ⟨rfl, decide_eq_true cI, eP, eF, by omega⟩))
            · exact Or.inr (Or.inl ⟨rfl, decide_eq_false cI, Or.inl ⟨eP, eF⟩⟩)
        · have eP : decide (t < lo) = false := decide_eq_false cP
          cases hK : okB (waN lo hi t p * 1000000 / (1000000 + p)) ((waN lo hi t p * 1000000 + (1000000 - p) - 1) / (1000000 - p)) with
          | false => exact Or.inl ⟨rfl, Or.inr eP⟩
          | true =>
            by_cases cI : lo ≤ m ∧ m ≤ hi
            · have wo := wait_over hE (show lo ≤ t by omega)
              exact Or.inr (Or.inr (Or.inr ⟨rfl, decide_eq_true cI, eP, by omega⟩))
            · exact Or.inr (Or.inl ⟨rfl, decide_eq_false cI, Or.inr eP⟩)
    · have e1 := wa_one hE
      refine early lo hi m t p _ _ _ _ _ w C wl wh wt wp rfl rfl rfl rfl rfl ?_
      by_cases cP : t < lo
      · exact Or.inr (Or.inl ⟨hf, e1, decide_eq_true ⟨hf, cP⟩, decide_eq_false (by rintro ⟨_, q⟩; omega)⟩)
      · exact Or.inr (Or.inr ⟨hf, e1, decide_eq_false (by rintro ⟨_, q⟩; exact cP q)⟩)
  · exact early lo hi m t p _ _ _ _ _ w C wl wh wt wp rfl rfl rfl rfl rfl (Or.inl (pf_not hf).1)
end Go.Proofs.YthhhlfbifcnmpagDoor.waitOver
