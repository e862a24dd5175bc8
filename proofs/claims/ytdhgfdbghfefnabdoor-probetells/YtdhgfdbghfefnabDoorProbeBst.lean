/- What probe.Best answers of any probes and rate. -/
import Derived.Test.YtdhgfdbghfefnabDoorProbeOff
import Derived.WalkKit
import Derived.ProofKit
import Derived.OpenShut
import Derived.Outline
import Derived.IntWalk
import Derived.Deep.RegionWith
import Derived.Deep.RegionHeld
import Derived.Below
import Derived.WalkLawsBesides
namespace Go.Proofs.YtdhgfdbghfefnabDoor
open Go.ChangeShapes Go.WideShapes Go.ChangeAt Go.RowKit
set_option linter.unusedVariables false
set_option linter.unusedSimpArgs false

/-- n probes lie in a row behind an address. -/
def Prs (w : World) (b off n : Nat) (q : Nat → P4) : Prop := ∀ i, i < n → w.cell? ⟨b, off + i * 4, none⟩ = some (.int .i64 (q i).a) ∧ w.cell? ⟨b, off + i * 4 + 1, none⟩ = some (.int .i64 (q i).b) ∧
  w.cell? ⟨b, off + i * 4 + 2, none⟩ = some (.int .i64 (q i).c) ∧ w.cell? ⟨b, off + i * 4 + 3, none⟩ = some (.int .i64 (q i).d)
theorem Prs.on {W u : World} {b off n : Nat} {q : Nat → P4} (hb : Below W.heap.size W u) (h : Prs W b off n q) : Prs u b off n q := fun i hi => by
  obtain ⟨h0, h1, h2, h3⟩ := h i hi
  exact ⟨by rw [hb.cell (World.block_lt_of_cell? _ _ h0)]; exact h0, by rw [hb.cell (World.block_lt_of_cell? _ _ h1)]; exact h1, by rw [hb.cell (World.block_lt_of_cell? _ _ h2)]; exact h2, by rw [hb.cell (World.block_lt_of_cell? _ _ h3)]; exact h3⟩
def blo (q : Nat → P4) (p : Int) (k : Nat) : Int := if k = 0 then 0 else (q (bst q p k)).lo
def bhi (q : Nat → P4) (p : Int) (k : Nat) : Int := if k = 0 then 0 else (q (bst q p k)).hi p
theorem take3 (q : Nat → P4) (p : Int) (k : Nat) (h : k = 0 ∨ (q k).w p < (q (bst q p k)).w p) : bst q p (k + 1) = k ∧ blo q p (k + 1) = (q k).lo ∧ bhi q p (k + 1) = (q k).hi p := by
  have e := bst_take q p k h
  unfold blo bhi
  rw [if_neg (by omega), if_neg (by omega), e]
  exact ⟨rfl, rfl, rfl⟩
theorem stay3 (q : Nat → P4) (p : Int) (k : Nat) (h0 : ¬ k = 0) (h : (q (bst q p k)).w p ≤ (q k).w p) : bst q p (k + 1) = bst q p k ∧ blo q p (k + 1) = blo q p k ∧ bhi q p (k + 1) = bhi q p k := by
  have e := bst_stay q p k (by omega) h
  unfold blo bhi
  rw [if_neg (show ¬ k + 1 = 0 by omega), if_neg (show ¬ k + 1 = 0 by omega), if_neg h0, if_neg h0, e]
  exact ⟨rfl, rfl, rfl⟩
theorem off_q_ok (q : P4) (p : Int) (w : World) (h : q.e p = 0) :
    Calls Tryd.prog 12 #[.agg #[.int .i64 q.a, .int .i64 q.b, .int .i64 q.c, .int .i64 q.d], .int .i64 p] w fun e w' => e = .returned (.tuple #[.agg #[.int .i64 q.lo, .int .i64 (q.hi p)], .nilIface]) ∧ Below w.heap.size w w' := off_ok _ _ _ _ _ w h
theorem off_q_no (q : P4) (p : Int) (w : World) (h : q.e p ≠ 0) :
    Calls Tryd.prog 12 #[.agg #[.int .i64 q.a, .int .i64 q.b, .int .i64 q.c, .int .i64 q.d], .int .i64 p] w fun e w' => e = .returned (.tuple #[.agg #[.int .i64 0, .int .i64 0], .iface 45 (.int .i64 (q.e p))]) ∧ Below w.heap.size w w' := off_no _ _ _ _ _ w h

set_option maxHeartbeats 1000000 in
theorem best_full (a : Option Addr) (n cap : Nat) (p : Int) (w : World) (h : 40 < n) (hm : n ≤ 9223372036854775807) :
    Calls Tryd.prog 13 #[.slice a n cap, .int .i64 p] w fun e w' => e = .returned (.tuple #[.int .i64 0, .agg #[.int .i64 0, .int .i64 0], .iface 45 (.int .i64 (4))]) ∧ Below w.heap.size w w' := by
  go_enter Tryd.func13, Tryd.ntmps13
  go_wp2
  exact bodyPost_ret (v := _) (by simp [results, Tryd.results13, go_sem, *]) rfl ⟨rfl, by (repeat (first | assumption | exact Below.refl _ _ | refine Below.alloc ?_ (by first | (simp; done) | (simp; omega) | omega) _ | refine Below.setCell ?_ (by first | (with_reducible assumption) | (simp; done) | (simp; omega) | omega) _ | apply Below.drew | apply below_drewN | refine below_tr (by assumption) ?_))⟩

set_option maxHeartbeats 1000000 in
theorem best_none (cap : Nat) (a : Option Addr) (p : Int) (w : World) :
    Calls Tryd.prog 13 #[.slice a 0 cap, .int .i64 p] w fun e w' => e = .returned (.tuple #[.int .i64 0, .agg #[.int .i64 0, .int .i64 0], .iface 45 (.int .i64 (5))]) ∧ Below w.heap.size w w' := by
  go_enter Tryd.func13, Tryd.ntmps13
  go_wp2
  exact bodyPost_ret (v := _) (by simp [results, Tryd.results13, go_sem, *]) rfl ⟨rfl, by (repeat (first | assumption | exact Below.refl _ _ | refine Below.alloc ?_ (by first | (simp; done) | (simp; omega) | omega) _ | refine Below.setCell ?_ (by first | (with_reducible assumption) | (simp; done) | (simp; omega) | omega) _ | apply Below.drew | apply below_drewN | refine below_tr (by assumption) ?_))⟩

set_option maxHeartbeats 4000000 in
theorem best_any (b off n cap m : Nat) (q : Nat → P4) (p : Int) (R : Value) (w : World) (h0 : 0 < n) (h40 : n ≤ 40) (hP : Prs w b off n q) (hmn : m ≤ n) (hgood : ∀ i, i < m → (q i).e p = 0)
    (hR : (m = n ∧ R = .tuple #[.int .i64 (bst q p n), .agg #[.int .i64 (blo q p n), .int .i64 (bhi q p n)], .nilIface]) ∨ (m < n ∧ (q m).e p ≠ 0 ∧ R = .tuple #[.int .i64 0, .agg #[.int .i64 0, .int .i64 0], .iface 45 (.int .i64 ((q m).e p))])) :
    Calls Tryd.prog 13 #[.slice (some ⟨b, off, none⟩) n cap, .int .i64 p] w fun e w' => e = .returned (R) ∧ Below w.heap.size w w' := by
  have hbl : b < w.heap.size := World.block_lt_of_cell? _ _ (hP 0 h0).1
  have HR : Hid ((m = n ∧ R = .tuple #[.int .i64 (bst q p n), .agg #[.int .i64 (blo q p n), .int .i64 (bhi q p n)], .nilIface]) ∨ (m < n ∧ (q m).e p ≠ 0 ∧ R = .tuple #[.int .i64 0, .agg #[.int .i64 0, .int .i64 0], .iface 45 (.int .i64 ((q m).e p))])) := hR
  clear hR
  have hc0 : ((n : Int) == 0) = false := by simp; omega
  go_enter Tryd.func13, Tryd.ntmps13
  go_wp2
  go_loopw [7, 26] (fun bs i wr => ∃ k : Nat, k ≤ m ∧ i = .int .i64 k ∧ bs = .int .i64 (bst q p k) ∧ Row wr w.heap.size [.int .i64 0, .int .i64 0] ∧ Row wr (w.heap.size + 1) [.int .i64 (blo q p k), .int .i64 (bhi q p k)] ∧ Below w.heap.size w wr)
    (fun _ i _ => n - (intOf i).toNat)
  case atStart => exact ⟨0, Nat.zero_le _, rfl, rfl, Row.al (Row.made rfl), Row.made (by simp), rbel_al (rbel_al (Below.refl _ _))⟩
  case round =>
    obtain ⟨k, hkm, rfl, rfl, PR, PL, hw⟩ := hrel
    have cnt : Mark 0 := .mk _
    by_cases hlt : k < n
    · obtain ⟨x0, x1, x2, x3⟩ := (hP.on hw) k hlt
      clear hP
      have zz := hw.size
      replace cR0 := PR.c 0 _ rfl; replace cR1 := PR.c 1 _ rfl; replace zR := PR.lt; replace fR0 := PR.f 0 _ rfl; replace fR1 := PR.f 1 _ rfl
      replace cL0 := PL.c 0 _ rfl; replace cL1 := PL.c 1 _ rfl; replace zL := PL.lt; replace fL0 := PL.f 0 _ rfl; replace fL1 := PL.f 1 _ rfl
      by_cases hk0 : (q k).e p = 0
      · go_wp2_with (first | (go_at_call 12; have cq : Mark 0 := cnt; refine (off_q_ok (q k) p _ hk0).mono ?_; clear cq cnt; have cnt : Mark 1 := .mk _; rintro e u0 ⟨rfl, hb⟩; replace hw : Below w.heap.size w u0 := rbel_on hb (rbel_al (hw)); replace PR : Row u0 (w.heap.size) [.int .i64 (0), .int .i64 (0)] := Row.on hb (Row.al (PR)); replace cR0 := PR.c 0 _ rfl; replace cR1 := PR.c 1 _ rfl; replace zR := PR.lt; replace fR0 := PR.f 0 _ rfl; replace fR1 := PR.f 1 _ rfl; replace PL : Row u0 (w.heap.size + 1) [.int .i64 (blo q p k), .int .i64 (bhi q p k)] := Row.on hb (Row.al (PL)); replace cL0 := PL.c 0 _ rfl; replace cL1 := PL.c 1 _ rfl; replace zL := PL.lt; replace fL0 := PL.f 0 _ rfl; replace fL1 := PL.f 1 _ rfl; replace PE : Row u0 (wr.heap.size) [.int .i64 ((q k).a), .int .i64 ((q k).b), .int .i64 ((q k).c), .int .i64 ((q k).d)] := Row.on hb (Row.made (by simp)); replace cE0 := PE.c 0 _ rfl; replace cE1 := PE.c 1 _ rfl; replace cE2 := PE.c 2 _ rfl; replace cE3 := PE.c 3 _ rfl; replace zE := PE.lt; clear hb))
        have km : k < m := by
          rcases HR.out with ⟨e, _⟩ | ⟨l, ne, _⟩
          · omega
          · exact Nat.lt_of_le_of_ne hkm (fun e => ne (e ▸ hk0))
        have bq := w_bound hk0
        obtain ⟨q1, q2, q3⟩ := bq
        by_cases k0 : k = 0
        · have T : Hid (bst q p (k + 1) = k ∧ blo q p (k + 1) = (q k).lo ∧ bhi q p (k + 1) = (q k).hi p) := take3 q p k (Or.inl k0)
          subst k0
          go_region_with (fail)
          all_goals
            go_wp2
            go_region
            all_goals
              go_wp2
              go_roundw
              case rel =>
                obtain ⟨t1, t2, t3⟩ := T.out
                exact ⟨0 + 1, km, by go_num, by rw [t1]; rfl, Row.dr (Row.dr (Row.al (Row.far (by omega) (Row.far (by omega) (PR))))), by rw [t2, t3]; exact Row.dr (Row.dr (Row.al (Row.put 1 (Row.put 0 (PL))))), rbel_dr (rbel_dr (rbel_al (rbel_put (by omega) (rbel_put (by omega) (hw)))))⟩
              case measure => simp [intOf]; omega
        · have k1 : ((k : Int) == 0) = false := by simpa using k0
          have kb := bst_lt q p k (by omega)
          have bb := w_bound (hgood (bst q p k) (by omega))
          have eb : blo q p k = (q (bst q p k)).lo := if_neg k0
          have eh : bhi q p k = (q (bst q p k)).hi p := if_neg k0
          have EL : Hid (blo q p k = (q (bst q p k)).lo ∧ bhi q p k = (q (bst q p k)).hi p) := ⟨eb, eh⟩
          rw [← eb, ← eh] at bb
          clear eb eh
          obtain ⟨b1, b2, b3⟩ := bb
          have e1 : IntKind.i64.wrap ((q k).hi p - (q k).lo) = (q k).hi p - (q k).lo := IntWalk.i64_in _ (by omega)
          by_cases kl : (q k).hi p - (q k).lo < bhi q p k - blo q p k
          · have kd : decide ((q k).hi p - (q k).lo < bhi q p k - blo q p k) = true := decide_eq_true kl
            have T : Hid (bst q p (k + 1) = k ∧ blo q p (k + 1) = (q k).lo ∧ bhi q p (k + 1) = (q k).hi p) := take3 q p k (Or.inr (by have := EL.out; unfold P4.w; omega))
            go_region_held (fun w' => w'.cell? ⟨u0.heap.size, 0, none⟩ = some (.int .i64 (q k).lo) ∧ w'.cell? ⟨u0.heap.size, 1, none⟩ = some (.int .i64 ((q k).hi p)) ∧ w'.cell? ⟨w.heap.size + 1, 0, none⟩ = some (.int .i64 (blo q p k)) ∧ w'.cell? ⟨w.heap.size + 1, 1, none⟩ = some (.int .i64 (bhi q p k))) (go_keep) (first | (go_at_call 22; have cq : Mark 1 := cnt; refine (wide_is _ _ _ q1 q2 q3).mono ?_; clear cq cnt; have cnt : Mark 2 := .mk _; rintro e u1 ⟨rfl, hb⟩; replace hw : Below w.heap.size w u1 := rbel_on hb (rbel_dr (rbel_al (hw))); replace PR : Row u1 (w.heap.size) [.int .i64 (0), .int .i64 (0)] := Row.on hb (Row.dr (Row.al (PR))); replace cR0 := PR.c 0 _ rfl; replace cR1 := PR.c 1 _ rfl; replace zR := PR.lt; replace fR0 := PR.f 0 _ rfl; replace fR1 := PR.f 1 _ rfl; replace PL : Row u1 (w.heap.size + 1) [.int .i64 (blo q p k), .int .i64 (bhi q p k)] := Row.on hb (Row.dr (Row.al (PL))); replace cL0 := PL.c 0 _ rfl; replace cL1 := PL.c 1 _ rfl; replace zL := PL.lt; replace fL0 := PL.f 0 _ rfl; replace fL1 := PL.f 1 _ rfl; replace PE : Row u1 (wr.heap.size) [.int .i64 ((q k).a), .int .i64 ((q k).b), .int .i64 ((q k).c), .int .i64 ((q k).d)] := Row.on hb (Row.dr (Row.al (PE))); replace cE0 := PE.c 0 _ rfl; replace cE1 := PE.c 1 _ rfl; replace cE2 := PE.c 2 _ rfl; replace cE3 := PE.c 3 _ rfl; replace zE := PE.lt; replace PS : Row u1 (u0.heap.size) [.int .i64 ((q k).lo), .int .i64 ((q k).hi p)] := Row.on hb (Row.dr (Row.made (by simp))); replace cS0 := PS.c 0 _ rfl; replace cS1 := PS.c 1 _ rfl; replace zS := PS.lt; clear hb) | (go_at_call 22; have cq : Mark 2 := cnt; refine (wide_is _ _ _ b1 b2 b3).mono ?_; clear cq cnt; have cnt : Mark 3 := .mk _; rintro e u2 ⟨rfl, hb⟩; replace hw : Below w.heap.size w u2 := rbel_on hb (hw); replace PR : Row u2 (w.heap.size) [.int .i64 (0), .int .i64 (0)] := Row.on hb (PR); replace cR0 := PR.c 0 _ rfl; replace cR1 := PR.c 1 _ rfl; replace zR := PR.lt; replace fR0 := PR.f 0 _ rfl; replace fR1 := PR.f 1 _ rfl; replace PL : Row u2 (w.heap.size + 1) [.int .i64 (blo q p k), .int .i64 (bhi q p k)] := Row.on hb (PL); replace cL0 := PL.c 0 _ rfl; replace cL1 := PL.c 1 _ rfl; replace zL := PL.lt; replace fL0 := PL.f 0 _ rfl; replace fL1 := PL.f 1 _ rfl; replace PE : Row u2 (wr.heap.size) [.int .i64 ((q k).a), .int .i64 ((q k).b), .int .i64 ((q k).c), .int .i64 ((q k).d)] := Row.on hb (PE); replace cE0 := PE.c 0 _ rfl; replace cE1 := PE.c 1 _ rfl; replace cE2 := PE.c 2 _ rfl; replace cE3 := PE.c 3 _ rfl; replace zE := PE.lt; replace PS : Row u2 (u0.heap.size) [.int .i64 ((q k).lo), .int .i64 ((q k).hi p)] := Row.on hb (PS); replace cS0 := PS.c 0 _ rfl; replace cS1 := PS.c 1 _ rfl; replace zS := PS.lt; clear hb))
            go_wp2
            go_region
            all_goals
              go_wp2
              go_roundw
              case rel =>
                obtain ⟨t1, t2, t3⟩ := T.out
                exact ⟨k + 1, km, by go_num, by rw [t1], Row.dr (Row.far (by omega) (Row.far (by omega) (PR))), by rw [t2, t3]; exact Row.dr (Row.put 1 (Row.put 0 (PL))), rbel_dr (rbel_put (by omega) (rbel_put (by omega) (hw)))⟩
              case measure => simp [intOf]; omega
          · have kd : decide ((q k).hi p - (q k).lo < bhi q p k - blo q p k) = false := decide_eq_false kl
            have T : Hid (bst q p (k + 1) = bst q p k ∧ blo q p (k + 1) = blo q p k ∧ bhi q p (k + 1) = bhi q p k) := stay3 q p k k0 (by have := EL.out; unfold P4.w; omega)
            go_region_held (fun w' => w'.cell? ⟨u0.heap.size, 0, none⟩ = some (.int .i64 (q k).lo) ∧ w'.cell? ⟨u0.heap.size, 1, none⟩ = some (.int .i64 ((q k).hi p)) ∧ w'.cell? ⟨w.heap.size + 1, 0, none⟩ = some (.int .i64 (blo q p k)) ∧ w'.cell? ⟨w.heap.size + 1, 1, none⟩ = some (.int .i64 (bhi q p k))) (go_keep) (first | (go_at_call 22; have cq : Mark 1 := cnt; refine (wide_is _ _ _ q1 q2 q3).mono ?_; clear cq cnt; have cnt : Mark 2 := .mk _; rintro e u1 ⟨rfl, hb⟩; replace hw : Below w.heap.size w u1 := rbel_on hb (rbel_dr (rbel_al (hw))); replace PR : Row u1 (w.heap.size) [.int .i64 (0), .int .i64 (0)] := Row.on hb (Row.dr (Row.al (PR))); replace cR0 := PR.c 0 _ rfl; replace cR1 := PR.c 1 _ rfl; replace zR := PR.lt; replace fR0 := PR.f 0 _ rfl; replace fR1 := PR.f 1 _ rfl; replace PL : Row u1 (w.heap.size + 1) [.int .i64 (blo q p k), .int .i64 (bhi q p k)] := Row.on hb (Row.dr (Row.al (PL))); replace cL0 := PL.c 0 _ rfl; replace cL1 := PL.c 1 _ rfl; replace zL := PL.lt; replace fL0 := PL.f 0 _ rfl; replace fL1 := PL.f 1 _ rfl; replace PE : Row u1 (wr.heap.size) [.int .i64 ((q k).a), .int .i64 ((q k).b), .int .i64 ((q k).c), .int .i64 ((q k).d)] := Row.on hb (Row.dr (Row.al (PE))); replace cE0 := PE.c 0 _ rfl; replace cE1 := PE.c 1 _ rfl; replace cE2 := PE.c 2 _ rfl; replace cE3 := PE.c 3 _ rfl; replace zE := PE.lt; replace PS : Row u1 (u0.heap.size) [.int .i64 ((q k).lo), .int .i64 ((q k).hi p)] := Row.on hb (Row.dr (Row.made (by simp))); replace cS0 := PS.c 0 _ rfl; replace cS1 := PS.c 1 _ rfl; replace zS := PS.lt; clear hb) | (go_at_call 22; have cq : Mark 2 := cnt; refine (wide_is _ _ _ b1 b2 b3).mono ?_; clear cq cnt; have cnt : Mark 3 := .mk _; rintro e u2 ⟨rfl, hb⟩; replace hw : Below w.heap.size w u2 := rbel_on hb (hw); replace PR : Row u2 (w.heap.size) [.int .i64 (0), .int .i64 (0)] := Row.on hb (PR); replace cR0 := PR.c 0 _ rfl; replace cR1 := PR.c 1 _ rfl; replace zR := PR.lt; replace fR0 := PR.f 0 _ rfl; replace fR1 := PR.f 1 _ rfl; replace PL : Row u2 (w.heap.size + 1) [.int .i64 (blo q p k), .int .i64 (bhi q p k)] := Row.on hb (PL); replace cL0 := PL.c 0 _ rfl; replace cL1 := PL.c 1 _ rfl; replace zL := PL.lt; replace fL0 := PL.f 0 _ rfl; replace fL1 := PL.f 1 _ rfl; replace PE : Row u2 (wr.heap.size) [.int .i64 ((q k).a), .int .i64 ((q k).b), .int .i64 ((q k).c), .int .i64 ((q k).d)] := Row.on hb (PE); replace cE0 := PE.c 0 _ rfl; replace cE1 := PE.c 1 _ rfl; replace cE2 := PE.c 2 _ rfl; replace cE3 := PE.c 3 _ rfl; replace zE := PE.lt; replace PS : Row u2 (u0.heap.size) [.int .i64 ((q k).lo), .int .i64 ((q k).hi p)] := Row.on hb (PS); replace cS0 := PS.c 0 _ rfl; replace cS1 := PS.c 1 _ rfl; replace zS := PS.lt; clear hb))
            go_wp2
            go_roundw
            case rel =>
              obtain ⟨t1, t2, t3⟩ := T.out
              exact ⟨k + 1, km, by go_num, by rw [t1], PR, by rw [t2, t3]; exact PL, hw⟩
            case measure => simp [intOf]; omega
      · have km : k = m := by
          rcases Nat.lt_or_ge k m with h | h
          · exact absurd (hgood k h) hk0
          · omega
        have hRe : R = .tuple #[.int .i64 0, .agg #[.int .i64 0, .int .i64 0], .iface 45 (.int .i64 ((q k).e p))] := by
          rcases HR.out with ⟨e, _⟩ | ⟨_, _, e⟩
          · omega
          · rw [km]; exact e
        subst hRe
        clear HR km
        go_wp2_with (first | (go_at_call 12; have cq : Mark 0 := cnt; refine (off_q_no (q k) p _ hk0).mono ?_; clear cq cnt; have cnt : Mark 1 := .mk _; rintro e u0 ⟨rfl, hb⟩; replace hw : Below w.heap.size w u0 := rbel_on hb (rbel_al (hw)); replace PR : Row u0 (w.heap.size) [.int .i64 (0), .int .i64 (0)] := Row.on hb (Row.al (PR)); replace cR0 := PR.c 0 _ rfl; replace cR1 := PR.c 1 _ rfl; replace zR := PR.lt; replace fR0 := PR.f 0 _ rfl; replace fR1 := PR.f 1 _ rfl; replace PL : Row u0 (w.heap.size + 1) [.int .i64 (blo q p k), .int .i64 (bhi q p k)] := Row.on hb (Row.al (PL)); replace cL0 := PL.c 0 _ rfl; replace cL1 := PL.c 1 _ rfl; replace zL := PL.lt; replace fL0 := PL.f 0 _ rfl; replace fL1 := PL.f 1 _ rfl; replace PE : Row u0 (wr.heap.size) [.int .i64 ((q k).a), .int .i64 ((q k).b), .int .i64 ((q k).c), .int .i64 ((q k).d)] := Row.on hb (Row.made (by simp)); replace cE0 := PE.c 0 _ rfl; replace cE1 := PE.c 1 _ rfl; replace cE2 := PE.c 2 _ rfl; replace cE3 := PE.c 3 _ rfl; replace zE := PE.lt; clear hb))
        exact bodyPost_ret (v := _) (by simp [results, Tryd.results13, go_sem, *]) rfl ⟨rfl, by (repeat (first | assumption | exact Below.refl _ _ | refine Below.alloc ?_ (by first | (simp; done) | (simp; omega) | omega) _ | refine Below.setCell ?_ (by first | (with_reducible assumption) | (simp; done) | (simp; omega) | omega) _ | apply Below.drew | apply below_drewN | refine below_tr (by assumption) ?_))⟩
    · have km : k = n := by omega
      subst km
      have hRe : R = .tuple #[.int .i64 (bst q p k), .agg #[.int .i64 (blo q p k), .int .i64 (bhi q p k)], .nilIface] := by
        rcases HR.out with ⟨_, e⟩ | ⟨e, _⟩
        · exact e
        · omega
      subst hRe
      clear HR
      have zz := hw.size
      replace cR0 := PR.c 0 _ rfl; replace cR1 := PR.c 1 _ rfl; replace zR := PR.lt; replace fR0 := PR.f 0 _ rfl; replace fR1 := PR.f 1 _ rfl
      replace cL0 := PL.c 0 _ rfl; replace cL1 := PL.c 1 _ rfl; replace zL := PL.lt; replace fL0 := PL.f 0 _ rfl; replace fL1 := PL.f 1 _ rfl
      go_wp2
      go_region
      all_goals
        go_wp2
        exact bodyPost_ret (v := _) (by simp [results, Tryd.results13, go_sem, *]) rfl ⟨rfl, by (repeat (first | assumption | exact Below.refl _ _ | refine Below.alloc ?_ (by first | (simp; done) | (simp; omega) | omega) _ | refine Below.setCell ?_ (by first | (with_reducible assumption) | (simp; done) | (simp; omega) | omega) _ | apply Below.drew | apply below_drewN | refine below_tr (by assumption) ?_))⟩
end Go.Proofs.YtdhgfdbghfefnabDoor
