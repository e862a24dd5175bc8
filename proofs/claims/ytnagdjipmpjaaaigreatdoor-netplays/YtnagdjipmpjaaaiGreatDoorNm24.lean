/- Package net: Wide. What the document's own reckoning (package noonref1) answers: Time, Span, of any numbers. -/
import Derived.Test.YtnagdjipmpjaaaiGreatDoorNm09
import Derived.Test.YtnagdjipmpjaaaiGreatDoorNm23
import Derived.Deep.QuietTactic
import Derived.BigQuiet
import Derived.Test.YtnagdjipmpjaaaiGreatDoorNm01
import Derived.WalkKit
import Derived.Lib.SmallJoins
import Derived.Deep.RegionWith
import Derived.Deep.RegionHeld
import Derived.BigRegion
namespace Go.Proofs.YtnagdjipmpjaaaiGreatDoor
open Go.ChangeShapes Go.WideShapes Go.ChangeAt Go.RowKit Go.Joins
set_option linter.unusedVariables false
set_option linter.unusedSimpArgs false

set_option maxRecDepth 100000 in
set_option maxHeartbeats 8000000 in
theorem nwide_at {u : World} {mb : Nat} {L : Nly} {N : Nn} (hR : NN u mb L N) (hT : N.T) (T : Tb) (hA : AllA (egf (eoN N)) (eoN N).length N.W.n 0 T) :
    Calls Tryz.prog 14 #[.pointer (some ⟨mb, 0, none⟩)] u fun o w' => o = .returned (.tuple #[.int .i64 (wid N.W.n T), .nilIface]) ∧ Below u.heap.size u w' := by
  have HR : Hid (NN u mb L N) := hR
  have h6 := hT.g.i.n6
  have cE : Calls Tryz.prog 16 #[.pointer (some ⟨mb, 0, none⟩)] u fun o w' => ∃ (ea : Option Addr) (ec : Nat), o = .returned (.tuple #[.slice ea (eoN N).length ec, .nilIface]) ∧ EHanded w' ea (eoN N).length (egf (eoN N)) ∧ Below u.heap.size u w' := (nedges_net hR hT).mono fun _ _ ⟨ea, ec, e, h1, h2, _⟩ => ⟨ea, ec, e, h1, h2⟩
  have cB : Hid (∀ (W : World) (ea : Option Addr) (ec : Nat), EHanded W ea (eoN N).length (egf (eoN N)) → Calls Tryz.prog 37 #[.int .i64 N.W.n, .slice ea (eoN N).length ec] W fun o w' => ∃ s h, o = .returned (.tuple #[s, h, .nilIface]) ∧ STab w' s h N.W.n T ∧ Below W.heap.size W w') := fun W ea ec hE => (all_any N.W.n ea (eoN N).length ec (egf (eoN N)) 0 T W hE (Or.inr ⟨egs_e (eoN_egs hT), by rw [Int.toNat_natCast]; exact hA⟩)).mono fun _ _ ⟨s, h, e, h1, h2⟩ => ⟨s, h, by rw [errc_zero] at e; exact e, by have := h1 rfl; rwa [Int.toNat_natCast] at this, h2⟩
  have HA : Hid (AllA (egf (eoN N)) (eoN N).length N.W.n 0 T) := hA
  have HWI : Hid (wid N.W.n T = csum T N.W.n) := (wid_is N.W.n T).trans (csum_is T N.W.n).symm
  clear hR hT hA
  go_enter Tryz.func14, Tryz.ntmps14
  go_upto_region 7 with (first
    | (go_at_call 16; refine cE.mono ?_; rintro o x1 ⟨ea, ec, rfl, hE, hb⟩; have B1 : Hid (Below u.heap.size u x1) := hb; have HE : Hid (EHanded x1 ea (eoN N).length (egf (eoN N))) := hE; have N1 : Hid (NN x1 mb L N) := HR.out.on hb; have n1 := N1.out.r.c 1 _ rfl; have zM1 : mb < x1.heap.size := N1.out.r.lt; clear hb hE)
    | (go_at_call 37; refine (cB.out _ _ _ HE.out).mono ?_; rintro o x2 ⟨s, hh, rfl, hS, hb⟩; have B2 : Hid (Below u.heap.size u x2) := rbel_on hb B1.out; have HS : Hid (STab x2 s hh N.W.n T) := hS; clear hb hS))
  obtain ⟨sb, so, scc, hb, ho, hc, rb, ro, rcc, gb, go, gc, e1, e2, r1, r2⟩ := (show STab x2 s hh N.W.n T from HS.out)
  subst e1
  subst e2
  have Q1 : Hid (∀ i, i < N.W.n → x2.cell? ⟨sb, so + i, none⟩ = some (.slice (some ⟨rb i, ro i, none⟩) N.W.n (rcc i)) ∧ x2.cell? ⟨hb, ho + i, none⟩ = some (.slice (some ⟨gb i, go i, none⟩) N.W.n (gc i))) := r1
  have Q2 : Hid (∀ i k, i < N.W.n → k < N.W.n → x2.cell? ⟨rb i, ro i + k * 2, none⟩ = some (.int .i64 (spLo T i k)) ∧ x2.cell? ⟨rb i, ro i + k * 2 + 1, none⟩ = some (.int .i64 (spHi T i k)) ∧ x2.cell? ⟨gb i, go i + k, none⟩ = some (.bool (T i k).isSome)) := r2
  clear r1 r2 HS B1 HE n1 zM1 cE cB N1
  go_wp2
  go_loopw [8, 35, 9, 10] (fun vs vb _ _ wr => ∃ b : Nat, b ≤ N.W.n ∧ vb = .int .i64 b ∧ vs = .int .i64 (csum T b) ∧ Below x2.heap.size x2 wr) (fun _ vb _ _ _ => N.W.n - (intOf vb).toNat)
  case atStart => exact ⟨0, Nat.zero_le _, rfl, rfl, Below.refl _ _⟩
  case round =>
    obtain ⟨b, hbn, rfl, rfl, hw⟩ := hrel
    have HW : Hid (Below x2.heap.size x2 wr) := hw
    by_cases hlt : b < N.W.n
    · have hl : (b : Int) < N.W.n := by omega
      have sb1 := csum_b HA.out h6 b hbn
      have I0 : Hid (csum T b = csum T b + wcol T b 0) := by
        show csum T b = csum T b + wcol T b 0
        rw [show wcol T b 0 = 0 from rfl]; omega
      have I1 : Hid (csum T (b + 1) = csum T b + wcol T b b) := csum_succ T b
      clear hw
      go_wp2
      go_loopw [8, 39, 10] (fun vs va _ wr => ∃ a : Nat, a ≤ b ∧ va = .int .i64 a ∧ vs = .int .i64 (csum T b + wcol T b a) ∧ Below x2.heap.size x2 wr) (fun _ va _ _ => b - (intOf va).toNat)
      case atStart => exact ⟨0, Nat.zero_le _, rfl, by rw [← I0.out], HW.out⟩
      case round =>
        clear HW
        obtain ⟨a, hab, rfl, rfl, hw⟩ := hrel
        have HW : Hid (Below x2.heap.size x2 wr) := hw
        have on : ∀ (p : Addr) (x : Value), x2.cell? p = some x → wr.cell? p = some x := fun p x e => by rw [hw.cell (World.block_lt_of_cell? _ _ e)]; exact e
        by_cases hlc : a < b
        · have hl2 : (a : Int) < (b : Int) := by omega
          have han : a < N.W.n := by omega
          have hl3 : (a : Int) < N.W.n := by omega
          have a1 := on _ _ (Q1.out a han).1
          have a2 := on _ _ (Q1.out a han).2
          have y1 := World.block_lt_of_cell? _ _ a1
          have y2 := World.block_lt_of_cell? _ _ a2
          obtain ⟨q1, q2, q3⟩ := Q2.out a b han hlt
          have b1 := on _ _ q1
          have b2 := on _ _ q2
          have b3 := on _ _ q3
          have y3 := World.block_lt_of_cell? _ _ b1
          have y4 := World.block_lt_of_cell? _ _ b3
          have rw1 := wcol_b HA.out hlt a (by omega)
          have tb := wt_b HA.out han hlt
          have I2 : Hid (wcol T b (a + 1) = wcol T b a + wt T a b) := wcol_succ T b a
          cases e : (T a b).isSome with
          | false =>
            rw [e] at b3
            have I3 : Hid (wcol T b (a + 1) = wcol T b a) := by
              show wcol T b (a + 1) = wcol T b a
              rw [I2.out]
              unfold wt
              rw [if_neg (by rw [e]; exact fun q => by cases q.2)]
              omega
            clear hw on q1 q2 q3 b1 b2 tb I2
            go_wp2
            go_roundw
            case rel => exact ⟨a + 1, by omega, by go_num, by rw [I3.out], HW.out⟩
            case measure => simp [intOf]; omega
          | true =>
            rw [e] at b3
            obtain ⟨t1, t2, t3⟩ := tb.2.2 e
            have I3 : Hid (wcol T b (a + 1) = wcol T b a + (spHi T a b - spLo T a b)) := by
              show wcol T b (a + 1) = wcol T b a + (spHi T a b - spLo T a b)
              rw [I2.out]
              unfold wt
              rw [if_pos ⟨hlc, e⟩]
            clear hw on q1 q2 q3 tb I2
            generalize spHi T a b = hi at *
            generalize spLo T a b = lo at *
            have w1 : IntKind.i64.wrap (hi - lo) = hi - lo := IntWalk.i64_in _ (by omega)
            have w2 : IntKind.i64.wrap (csum T b + wcol T b a + (hi - lo)) = csum T b + wcol T b a + (hi - lo) := IntWalk.i64_in _ (by omega)
            go_wp2
            go_quiet (fail)
            go_wp2
            go_roundw
            case rel => exact ⟨a + 1, by omega, by go_num, by rw [I3.out, show csum T b + wcol T b a + (hi - lo) = csum T b + (wcol T b a + (hi - lo)) by omega], rbel_drn HW.out⟩
            case measure => simp [intOf]; omega
        · have hl2 : ¬ ((a : Int) < (b : Int)) := by omega
          obtain rfl : a = b := by omega
          clear hw on
          go_wp2
          go_roundw
          case rel => exact ⟨a + 1, by omega, by go_num, by rw [I1.out], HW.out⟩
          case measure => simp [intOf]; omega
    · have hl : ¬ ((b : Int) < N.W.n) := by omega
      obtain rfl : b = N.W.n := by omega
      clear hw
      go_wp2
      go_ret2
      exact ⟨by rw [HWI.out]; rfl, rbel_on HW.out B2.out⟩
end Go.Proofs.YtnagdjipmpjaaaiGreatDoor
namespace Go.Proofs.YtnagdjipmpjaaaiGreatDoor
open Go.ChangeShapes Go.WideShapes Go.ChangeAt Go.RowKit Go.Joins
set_option linter.unusedVariables false

def timeB (n : Int) : Bool := decide (-1000000000000 ≤ n ∧ n ≤ 1000000000000)

theorem rtime_any (n : Int) (w : World) :
    Calls Tryz.prog 61 #[.int .i64 n] w fun e w' => e = .returned (.bool (timeB n)) ∧ w' = w := by
  by_cases h1 : -1000000000000 ≤ n
  · by_cases h2 : n ≤ 1000000000000
    · have e : timeB n = true := decide_eq_true ⟨h1, h2⟩
      rw [e]
      clear e
      go_enter Tryz.func61, Tryz.ntmps61
      go_wp2
      go_ret
      exact ⟨rfl, rfl⟩
    · have e : timeB n = false := decide_eq_false (by omega)
      have h3 : decide (n ≤ 1000000000000) = false := decide_eq_false h2
      rw [e]
      clear e h2
      go_enter Tryz.func61, Tryz.ntmps61
      go_wp2
      go_ret
      exact ⟨rfl, rfl⟩
  · have e : timeB n = false := decide_eq_false (by omega)
    have h3 : decide (-1000000000000 ≤ n) = false := decide_eq_false h1
    rw [e]
    clear e h1
    go_enter Tryz.func61, Tryz.ntmps61
    go_wp2
    go_ret
    exact ⟨rfl, rfl⟩

set_option maxHeartbeats 400000 in
theorem rspan_c (a b : Int) (x y z : Bool) (w : World) (hx : Hid (timeB a = x)) (hy : Hid (timeB b = y)) (hz : decide (a ≤ b) = z) :
    Calls Tryz.prog 102 #[.agg #[.int .i64 a, .int .i64 b]] w fun e w' => e = .returned (.bool (x && y && z)) ∧ Below w.heap.size w w' := by
  have cx : ∀ w, Calls Tryz.prog 61 #[.int .i64 a] w fun e w' => e = .returned (.bool x) ∧ w' = w := by rw [← hx.out]; exact rtime_any a
  have cy : ∀ w, Calls Tryz.prog 61 #[.int .i64 b] w fun e w' => e = .returned (.bool y) ∧ w' = w := by rw [← hy.out]; exact rtime_any b
  clear hx hy
  have cnt : Mark 0 := .mk _
  cases x <;> cases y <;> cases z
  all_goals
    go_enter Tryz.func102, Tryz.ntmps102
    go_wp2_with (first | (go_at_call 61; have cq : Mark 0 := cnt; refine (cx _).mono ?_; clear cq cnt; have cnt : Mark 1 := .mk _; rintro e u ⟨rfl, rfl⟩) | (go_at_call 61; have cq : Mark 1 := cnt; refine (cy _).mono ?_; clear cq cnt; have cnt : Mark 2 := .mk _; rintro e u ⟨rfl, rfl⟩))
    go_ret
    exact ⟨rfl, (Below.refl _ _).alloc (Nat.le_refl _) _⟩

theorem rspan_any (a b : Int) (w : World) :
    Calls Tryz.prog 102 #[.agg #[.int .i64 a, .int .i64 b]] w fun e w' => e = .returned (.bool (okB a b)) ∧ Below w.heap.size w w' := by
  have e : okB a b = (timeB a && timeB b && decide (a ≤ b)) := by
    unfold okB timeB
    rw [Bool.eq_iff_iff]
    simp only [Bool.and_eq_true, decide_eq_true_eq]
    omega
  rw [e]
  exact rspan_c a b _ _ _ w rfl rfl rfl
end Go.Proofs.YtnagdjipmpjaaaiGreatDoor
