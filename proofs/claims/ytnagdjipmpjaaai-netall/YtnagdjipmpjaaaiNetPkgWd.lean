/- Package net: Wide. -/
import Derived.Test.YtnagdjipmpjaaaiNm14
import Derived.Test.YtnagdjipmpjaaaiBoundsAll
import Derived.Test.YtnagdjipmpjaaaiNm16
import Derived.Deep.QuietTactic
import Derived.BigQuiet
namespace Go.Proofs.Ytnagdjipmpjaaai
open Go.ChangeShapes Go.WideShapes Go.ChangeAt Go.RowKit Go.Joins
set_option linter.unusedVariables false
set_option linter.unusedSimpArgs false

set_option maxRecDepth 100000 in
set_option maxHeartbeats 8000000 in
theorem nwide_at {u : World} {mb : Nat} {L : Nly} {N : Nn} (hR : NN u mb L N) (hT : N.T) (T : Tb) (hA : AllA (egf (eoN N)) (eoN N).length N.W.n 0 T) :
    Calls Try.prog 8 #[.pointer (some ⟨mb, 0, none⟩)] u fun o w' => o = .returned (.tuple #[.int .i64 (wid N.W.n T), .nilIface]) ∧ Below u.heap.size u w' := by
  have HR : Hid (NN u mb L N) := hR
  have h6 := hT.g.i.n6
  have cE : Calls Try.prog 19 #[.pointer (some ⟨mb, 0, none⟩)] u fun o w' => ∃ (ea : Option Addr) (ec : Nat), o = .returned (.tuple #[.slice ea (eoN N).length ec, .nilIface]) ∧ EHanded w' ea (eoN N).length (egf (eoN N)) ∧ Below u.heap.size u w' := (nedges_net hR hT).mono fun _ _ ⟨ea, ec, e, h1, h2, _⟩ => ⟨ea, ec, e, h1, h2⟩
  have cB : Hid (∀ (W : World) (ea : Option Addr) (ec : Nat), EHanded W ea (eoN N).length (egf (eoN N)) → Calls Try.prog 21 #[.int .i64 N.W.n, .slice ea (eoN N).length ec] W fun o w' => ∃ s h, o = .returned (.tuple #[s, h, .nilIface]) ∧ STab w' s h N.W.n T ∧ Below W.heap.size W w') := fun W ea ec hE => (all_any N.W.n ea (eoN N).length ec (egf (eoN N)) 0 T W hE (Or.inr ⟨egs_e (eoN_egs hT), by rw [Int.toNat_natCast]; exact hA⟩)).mono fun _ _ ⟨s, h, e, h1, h2⟩ => ⟨s, h, by rw [errc_zero] at e; exact e, by have := h1 rfl; rwa [Int.toNat_natCast] at this, h2⟩
  have HA : Hid (AllA (egf (eoN N)) (eoN N).length N.W.n 0 T) := hA
  have HWI : Hid (wid N.W.n T = csum T N.W.n) := (wid_is N.W.n T).trans (csum_is T N.W.n).symm
  clear hR hT hA
  go_enter Try.func8, Try.ntmps8
  go_upto_region 7 with (first
    | (go_at_call 19; refine cE.mono ?_; rintro o x1 ⟨ea, ec, rfl, hE, hb⟩; have B1 : Hid (Below u.heap.size u x1) := hb; have HE : Hid (EHanded x1 ea (eoN N).length (egf (eoN N))) := hE; have N1 : Hid (NN x1 mb L N) := HR.out.on hb; have n1 := N1.out.r.c 1 _ rfl; have zM1 : mb < x1.heap.size := N1.out.r.lt; clear hb hE)
    | (go_at_call 21; refine (cB.out _ _ _ HE.out).mono ?_; rintro o x2 ⟨s, hh, rfl, hS, hb⟩; have B2 : Hid (Below u.heap.size u x2) := rbel_on hb B1.out; have HS : Hid (STab x2 s hh N.W.n T) := hS; clear hb hS))
  obtain ⟨sb, so, scc, hb, ho, hc, rb, ro, rcc, gb, go, gc, e1, e2, r1, r2⟩ := (show STab x2 s hh N.W.n T from HS.out)
  subst e1
  subst e2
  have Q1 : Hid (∀ i, i < N.W.n → x2.cell? ⟨sb, so + i, none⟩ = some (.slice (some ⟨rb i, ro i, none⟩) N.W.n (rcc i)) ∧ x2.cell? ⟨hb, ho + i, none⟩ = some (.slice (some ⟨gb i, go i, none⟩) N.W.n (gc i))) := r1
  have Q2 : Hid (∀ i k, i < N.W.n → k < N.W.n → x2.cell? ⟨rb i, ro i + k * 2, none⟩ = some (.int .i64 (spLo T i k)) ∧ x2.cell? ⟨rb i, ro i + k * 2 + 1, none⟩ = some (.int .i64 (spHi T i k)) ∧ x2.cell? ⟨gb i, go i + k, none⟩ = some (.bool (T i k).isSome)) := r2
  clear r1 r2 HS B1 HE n1 zM1 cE cB N1
  go_wp2
  go_loopw [8, 35, 9, 10] (fun vs vb _ _ wr => ∃ b : Nat, b ≤ N.W.n ∧ vb = .int .i64 b ∧ vs = .int .i64 (csum T b) ∧ Below x2.heap.size x2 wr) (fun _ vb _ _ _ => N.W.n - (intOf vb).toNat)
  case atStart => exact ⟨0, Nat.zero_le _, rfl, rfl, Below.refl _ _⟩
  case round =>
    obtain ⟨b, hbn, rfl, rfl, hw⟩ := hrel
    have HW : Hid (Below x2.heap.size x2 wr) := hw
    by_cases hlt : b < N.W.n
    · have hl : (b : Int) < N.W.n := by omega
      have sb1 := csum_b HA.out h6 b hbn
      have I0 : Hid (csum T b = csum T b + wcol T b 0) := by
        show csum T b = csum T b + wcol T b 0
        rw [show wcol T b 0 = 0 from rfl]; omega
      have I1 : Hid (csum T (b + 1) = csum T b + wcol T b b) := csum_succ T b
      clear hw
      go_wp2
      go_loopw [8, 39, 10] (fun vs va _ wr => ∃ a : Nat, a ≤ b ∧ va = .int .i64 a ∧ vs = .int .i64 (csum T b + wcol T b a) ∧ Below x2.heap.size x2 wr) (fun _ va _ _ => b - (intOf va).toNat)
      case atStart => exact ⟨0, Nat.zero_le _, rfl, by rw [← I0.out], HW.out⟩
      case round =>
        clear HW
        obtain ⟨a, hab, rfl, rfl, hw⟩ := hrel
        have HW : Hid (Below x2.heap.size x2 wr) := hw
        have on : ∀ (p : Addr) (x : Value), x2.cell? p = some x → wr.cell? p = some x := fun p x e => by rw [hw.cell (World.block_lt_of_cell? _ _ e)]; exact e
        by_cases hlc : a < b
        · have hl2 : (a : Int) < (b : Int) := by omega
          have han : a < N.W.n := by omega
          have hl3 : (a : Int) < N.W.n := by omega
          have a1 := on _ _ (Q1.out a han).1
          have a2 := on _ _ (Q1.out a han).2
          have y1 := World.block_lt_of_cell? _ _ a1
          have y2 := World.block_lt_of_cell? _ _ a2
          obtain ⟨q1, q2, q3⟩ := Q2.out a b han hlt
          have b1 := on _ _ q1
          have b2 := on _ _ q2
          have b3 := on _ _ q3
          have y3 := World.block_lt_of_cell? _ _ b1
          have y4 := World.block_lt_of_cell? _ _ b3
          have rw1 := wcol_b HA.out hlt a (by omega)
          have tb := wt_b HA.out han hlt
          have I2 : Hid (wcol T b (a + 1) = wcol T b a + wt T a b) := wcol_succ T b a
          cases e : (T a b).isSome with
          | false =>
            rw [e] at b3
            have I3 : Hid (wcol T b (a + 1) = wcol T b a) := by
              show wcol T b (a + 1) = wcol T b a
              rw [I2.out]
              unfold wt
              rw [if_neg (by rw [e]; exact fun q => by cases q.2)]
              omega
            clear hw on q1 q2 q3 b1 b2 tb I2
            go_wp2
            go_roundw
            case rel => exact ⟨a + 1, by omega, by go_num, by rw [I3.out], HW.out⟩
            case measure => simp [intOf]; omega
          | true =>
            rw [e] at b3
            obtain ⟨t1, t2, t3⟩ := tb.2.2 e
            have I3 : Hid (wcol T b (a + 1) = wcol T b a + (spHi T a b - spLo T a b)) := by
              show wcol T b (a + 1) = wcol T b a + (spHi T a b - spLo T a b)
              rw [I2.out]
              unfold wt
              rw [if_pos ⟨hlc, e⟩]
            clear hw on q1 q2 q3 tb I2
            generalize spHi T a b = hi at *
            generalize spLo T a b = lo at *
            have w1 : IntKind.i64.wrap (hi - lo) = hi - lo := IntWalk.i64_in _ (by omega)
            have w2 : IntKind.i64.wrap (csum T b + wcol T b a + (hi - lo)) = csum T b + wcol T b a + (hi - lo) := IntWalk.i64_in _ (by omega)
            go_wp2
            go_quiet (fail)
            go_wp2
            go_roundw
            case rel => exact ⟨a + 1, by omega, by go_num, by rw [I3.out, show csum T b + wcol T b a + (hi - lo) = csum T b + (wcol T b a + (hi - lo)) by omega], rbel_drn HW.out⟩
            case measure => simp [intOf]; omega
        · have hl2 : ¬ ((a : Int) < (b : Int)) := by omega
          obtain rfl : a = b := by omega
          clear hw on
          go_wp2
          go_roundw
          case rel => exact ⟨a + 1, by omega, by go_num, by rw [I1.out], HW.out⟩
          case measure => simp [intOf]; omega
    · have hl : ¬ ((b : Int) < N.W.n) := by omega
      obtain rfl : b = N.W.n := by omega
      clear hw
      go_wp2
      go_ret2
      exact ⟨by rw [HWI.out]; rfl, rbel_on HW.out B2.out⟩
end Go.Proofs.Ytnagdjipmpjaaai
