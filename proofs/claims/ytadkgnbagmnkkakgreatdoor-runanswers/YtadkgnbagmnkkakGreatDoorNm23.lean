/- What leap.Check answers of any leaps. What leap.dayOf and leap.Ahead answer. -/
import Derived.Test.YtadkgnbagmnkkakGreatDoorNm22
import Derived.Test.YtadkgnbagmnkkakGreatDoorNm20
import Derived.Deep.QuietTactic
import Derived.Test.YtadkgnbagmnkkakGreatDoorNm04
import Derived.Test.YtadkgnbagmnkkakGreatDoorCivilLay
namespace Go.Proofs.YtadkgnbagmnkkakGreatDoor
open Go.ChangeShapes Go.WideShapes Go.ChangeAt Go.RowKit
set_option linter.unusedVariables false
set_option linter.unusedSimpArgs false

set_option maxHeartbeats 4000000
theorem lcheck_full (a : Option Addr) (n cap : Nat) (w : World) (hn : 20 < n) (hm : n ≤ 9223372036854775807) :
  Calls Tryz.prog 159 #[.slice a n cap] w fun e w' => e = .returned (.iface 86 (.int .i64 4)) ∧ w' = w := by
 go_enter Tryz.func159, Tryz.ntmps159
 go_wp2
 go_ret
 exact ⟨rfl, rfl⟩
theorem check_none (a : Option Addr) (cap : Nat) (w : World) :
  Calls Tryz.prog 159 #[.slice a 0 cap] w fun e w' => e = .returned .nilIface ∧ w' = w := by
 go_enter Tryz.func159, Tryz.ntmps159
 go_wp2
 refine wp_loop_rounds 1 ?_
 rw [rounds_succ]
 go_wp2
 go_ret
 exact ⟨rfl, rfl⟩
theorem lEr_one {q : Nat → Int × Bool} {i : Nat} (h : (q i).1 < 1 ∨ 84005 ≤ (q i).1) : lEr q i = 1 := by unfold lEr; rw [if_pos h]
theorem lEr_three {q : Nat → Int × Bool} {i : Nat} (h : ¬ ((q i).1 < 1 ∨ 84005 ≤ (q i).1)) (h0 : 0 < i) (h1 : (q i).1 < (q (i - 1)).1 + 2) : lEr q i = 3 := by unfold lEr; rw [if_neg h, if_pos ⟨h0, by omega⟩]
theorem lEr_none {q : Nat → Int × Bool} {i : Nat} (h : ¬ ((q i).1 < 1 ∨ 84005 ≤ (q i).1)) (h1 : i = 0 ∨ ¬ (q i).1 < (q (i - 1)).1 + 2) : lEr q i = 0 := by
 unfold lEr
 rw [if_neg h, if_neg (fun e => by omega)]
theorem lFr_bad {q : Nat → Int × Bool} {k n : Nat} {e : Int} (g : ∀ i, i < k → lEr q i = 0) (hk : k < n) (h : lEr q k = e) (h0 : e ≠ 0) : errc (lFr q n) = .iface 86 (.int .i64 e) := by
 rw [lFr_first g (by rw [h]; exact h0) n hk, h, errc_not h0]
set_option maxRecDepth 100000 in
theorem lcheck_row (b off n cap : Nat) (q : Nat → Int × Bool) (w : World) (h20 : n ≤ 20) (hP : Lsp w b off n q) :
  Calls Tryz.prog 159 #[.slice (some ⟨b, off, none⟩) n cap] w fun e w' => e = .returned (errc (lFr q n)) ∧ Below w.heap.size w w' := by
 have HP : Hid (Lsp w b off n q) := hP
 clear hP
 have cL := fun u => last_any u
 go_enter Tryz.func159, Tryz.ntmps159
 go_wp2
 go_loopw [11] (fun i wr => ∃ k : Nat, k ≤ n ∧ i = .int .i64 k ∧ Below w.heap.size w wr ∧ ∀ i, i < k → lEr q i = 0) (fun i _ => n - (intOf i).toNat)
 case atStart => exact ⟨0, Nat.zero_le _, rfl, Below.refl _ _, fun i hi => by omega⟩
 case round =>
  obtain ⟨k, hk, rfl, hw, hg⟩ := hrel
  have HG : Hid (∀ i, i < k → lEr q i = 0) := hg
  clear hg
  by_cases hlt : k < n
  ·obtain ⟨x0, x1⟩ := (HP.out.on hw) k hlt
   have FB : Hid (∀ e : Int, lEr q k = e → e ≠ 0 → errc (lFr q n) = .iface 86 (.int .i64 e)) := fun e h h0 => lFr_bad HG.out hlt h h0
   have hB : b < wr.heap.size := World.block_lt_of_cell? _ _ x0
   by_cases c1 : (q k).1 < 1
   ·have d1 : decide ((q k).1 < 1) = true := decide_eq_true c1
    have E : Hid (.iface 86 (.int .i64 1) = errc (lFr q n)) := (FB.out 1 (lEr_one (Or.inl c1)) (by decide)).symm
    go_wp2
    go_quiet (fail)
    go_wp2
    go_ret
    exact ⟨congrArg Ending.returned E.out, rbel_drn (rbel_al hw)⟩
   ·have d1 : decide ((q k).1 < 1) = false := decide_eq_false c1
    by_cases c2 : 84005 ≤ (q k).1
    ·have d2 : decide (84005 ≤ (q k).1) = true := decide_eq_true c2
     have E : Hid (.iface 86 (.int .i64 1) = errc (lFr q n)) := (FB.out 1 (lEr_one (Or.inr c2)) (by decide)).symm
     go_wp2
     go_quiet (first | (go_at_call 160; refine Calls.quiet_of_same (cL _)))
     go_wp2
     go_ret
     exact ⟨congrArg Ending.returned E.out, rbel_drn (rbel_al hw)⟩
    ·have d2 : decide (84005 ≤ (q k).1) = false := decide_eq_false c2
     by_cases c3 : k = 0
     ·have Z : Hid (lEr q k = 0) := lEr_none (by omega) (Or.inl c3)
      subst c3
      simp only [Nat.zero_mul, Nat.add_zero] at x0 x1
      have d3 : decide (0 < (0 : Int)) = false := rfl
      go_wp2
      go_quiet (first | (go_at_call 160; refine Calls.quiet_of_same (cL _)))
      go_wp2
      go_quiet (fail)
      go_wp2
      go_roundw
      case rel => exact ⟨1, by omega, by go_num, rbel_drn (rbel_al hw), fun i hi => by
       have e : i = 0 := by omega
       rw [e]; exact Z.out⟩
      case measure => simp [intOf]; omega
     ·obtain ⟨j, rfl⟩ : ∃ j, k = j + 1 := ⟨k - 1, by omega⟩
      obtain ⟨y0, y1⟩ := (HP.out.on hw) j (by omega)
      have pj := lEr_zero (HG.out j (by omega))
      obtain ⟨p1, p2, _⟩ := pj
      have d3 : decide (0 < ((j + 1 : Nat) : Int)) = true := decide_eq_true (by omega)
      have ej : ((j + 1 : Nat) : Int) - 1 = (j : Int) := by omega
      have jn : (j : Int) < (n : Int) := by omega
      have wa : IntKind.i64.wrap ((q j).1 + 2) = (q j).1 + 2 := IntWalk.i64_in _ (by omega)
      have wb : IntKind.i64.wrap (((j + 1 : Nat) : Int) - 1) = (j : Int) := by rw [ej]; exact IntWalk.i64_in _ (by omega)
      by_cases c4 : (q (j + 1)).1 < (q j).1 + 2
      ·have d4 : decide ((q (j + 1)).1 < (q j).1 + 2) = true := decide_eq_true c4
       have E : Hid (.iface 86 (.int .i64 3) = errc (lFr q n)) := (FB.out 3 (lEr_three (by omega) (by omega) c4) (by decide)).symm
       go_wp2
       go_quiet (first | (go_at_call 160; refine Calls.quiet_of_same (cL _)))
       go_wp2
       go_quiet (fail)
       go_wp2
       go_ret
       exact ⟨congrArg Ending.returned E.out, rbel_drn (rbel_al hw)⟩
      ·have d4 : decide ((q (j + 1)).1 < (q j).1 + 2) = false := decide_eq_false c4
       have Z : Hid (lEr q (j + 1) = 0) := lEr_none (by omega) (Or.inr c4)
       go_wp2
       go_quiet (first | (go_at_call 160; refine Calls.quiet_of_same (cL _)))
       go_wp2
       go_quiet (fail)
       go_wp2
       go_roundw
       case rel => exact ⟨j + 1 + 1, by omega, by go_num, rbel_drn (rbel_al hw), fun i hi => by
        by_cases e : i = j + 1
        ·rw [e]; exact Z.out
        ·exact HG.out i (by omega)⟩
       case measure => simp [intOf]; omega
  ·have kn : k = n := by omega
   subst kn
   have E : Hid (.nilIface = errc (lFr q k)) := by show _ = _; rw [lFr_ok HG.out, errc_zero]
   go_wp2
   go_ret
   exact ⟨congrArg Ending.returned E.out, hw⟩
set_option maxHeartbeats 2000000
theorem check_all (a : Option Addr) (n cap : Nat) (q : Nat → Int × Bool) (w : World) (hH : LHanded w a n q) :
  Calls Tryz.prog 159 #[.slice a n cap] w fun e w' => e = .returned (errc (lE q n)) ∧ Below w.heap.size w w' := by
 by_cases h : 20 < n
 ·have E : errc (lE q n) = .iface 86 (.int .i64 4) := by unfold lE; rw [if_pos h]; exact errc_not (by decide)
  rw [E]
  exact (lcheck_full a n cap w h hH.1).mono fun e w' ⟨h1, h2⟩ => ⟨h1, by rw [h2]; exact Below.refl _ _⟩
 ·have E : lE q n = lFr q n := if_neg h
  rw [E]
  rcases hH.2 with rfl | ⟨b, off, rfl, hP⟩
  ·exact (check_none a cap w).mono fun e w' ⟨h1, h2⟩ => ⟨h1, by rw [h2]; exact Below.refl _ _⟩
  ·exact lcheck_row b off n cap q w (by omega) hP

theorem search_gr (g : Nat) (cb : Array Value) (N k : Nat) (p : Nat → Bool) (w : World) (eg : ∀ args w, (callFunc g args).run Tryz.prog w = .ok (.enter g args) w) (hN : N < 1000000) (hk : k ≤ N)
  (hf : ∀ u i, Gr w u → i < N → Calls Tryz.prog g (#[.int .i64 i] ++ cb) u fun e w' => e = .returned (.bool (p i)) ∧ Gr u w')
  (h1 : ∀ i, i < k → p i = false) (h2 : ∀ i, k ≤ i → i < N → p i = true) :
  Calls Tryz.prog 161 #[.int .i64 N, .func (.func g) #[] cb] w fun e w' => e = .returned (.int .i64 k) ∧ Gr w w' := by
 have h := Any.sort_Search Tryz.search g cb N p w eg (by omega)
  (fun m os i hi => hf _ i ⟨m, os, rfl⟩ hi)
  (fun a b hab hb h => by
   by_cases c : b < k
   ·have := h1 a (by omega); rw [this] at h; cases h
   ·exact h2 b (by omega) hb)
 rw [gcount_first p N k hk h1 h2] at h
 exact h

theorem day1_any (a : Option Addr) (n cap : Nat) (q : Nat → Int × Bool) (x : Int) (i B C : Nat) (w : World) (h20 : n ≤ 20) (hH : LHanded w a n q) (hi : i < 84005) (hn : w.cell? ⟨B, 0, none⟩ = some (.int .i64 x)) (hl : w.cell? ⟨C, 0, none⟩ = some (.slice a n cap)) :
  Calls Tryz.prog 162 (#[.int .i64 i] ++ #[.pointer (some ⟨B, 0, none⟩), .pointer (some ⟨C, 0, none⟩)]) w fun e w' => e = .returned (.bool (decide (x < bg q n (i + 1)))) ∧ Gr w w' := by
 have cB : ∀ m os, Calls Tryz.prog 130 #[.slice a n cap, .int .i64 ((i : Int) + 1)] (Go.Sort.grow (w.drewN m) os) fun e w' => e = .returned (.int .i64 (bg q n (i + 1))) ∧ Gr (Go.Sort.grow (w.drewN m) os) w' := fun m os =>
  begin_any a n cap q ((i : Int) + 1) _ h20 (hH.on (Gr.below ⟨m, os, rfl⟩)) (by omega) (by omega)
 have gn : ∀ m os, (Go.Sort.grow (w.drewN m) os).cell? ⟨B, 0, none⟩ = some (.int .i64 x) := cell_grown (World.block_lt_of_cell? _ _ hn) hn
 have gl : ∀ m os, (Go.Sort.grow (w.drewN m) os).cell? ⟨C, 0, none⟩ = some (.slice a n cap) := cell_grown (World.block_lt_of_cell? _ _ hl) hl
 generalize bg q n ((i : Int) + 1) = v at *
 clear hH
 have w2 : IntKind.i64.wrap ((i : Int) + 1) = (i : Int) + 1 := IntWalk.i64_in _ (by omega)
 go_enter Tryz.func162, Tryz.ntmps162
 go_wp2
 have mixed : Tryz.prog.follows .mixedOrders = true := by kernel_rfl
 go_quiet_grown (first | (go_at_call 130; refine Calls.grown_of (cB _ _)))
 go_wp2
 go_ret
 exact ⟨rfl, Gr.grown Gr.refl _ _⟩
theorem day1_enters : ∀ args w, (callFunc 162 args).run Tryz.prog w = .ok (.enter 162 args) w := enters_of Tryz.func162 (by kernel_rfl) rfl
theorem search_day (a : Option Addr) (n cap : Nat) (q : Nat → Int × Bool) (x : Int) (D B C : Nat) (w : World) (h20 : n ≤ 20) (hL : Lps q n) (hH : LHanded w a n q) (hD : D ≤ 84005) (hd : IsDay q n x D) (hn : w.cell? ⟨B, 0, none⟩ = some (.int .i64 x)) (hl : w.cell? ⟨C, 0, none⟩ = some (.slice a n cap)) :
  Calls Tryz.prog 161 #[.int .i64 84005, .func (.func 162) #[] #[.pointer (some ⟨B, 0, none⟩), .pointer (some ⟨C, 0, none⟩)]] w fun e w' => e = .returned (.int .i64 D) ∧ Gr w w' :=
 search_gr 162 _ 84005 D (fun i => decide (x < bg q n (i + 1))) w day1_enters (by decide) hD
  (fun u i hu hi => day1_any a n cap q x i B C u h20 (hH.on hu.below) hi (by rw [hu.below.cell (World.block_lt_of_cell? _ _ hn)]; exact hn) (by rw [hu.below.cell (World.block_lt_of_cell? _ _ hl)]; exact hl))
  (fun i hi => decide_eq_false (by
   obtain ⟨d1, d2⟩ := hd
   by_cases c : i + 1 = D
   ·have : ((i : Int) + 1) = (D : Int) := by omega
    rw [this]; omega
   ·have := bg_lt hL (show ((i : Int) + 1) < (D : Int) by omega); omega))
  (fun i h1 h2 => decide_eq_true (by
   obtain ⟨d1, d2⟩ := hd
   by_cases c : i = D
   ·subst c; exact d2
   ·have := bg_lt hL (show ((D : Int) + 1) < ((i : Int) + 1) by omega); omega))

theorem day_no (a : Option Addr) (n cap : Nat) (q : Nat → Int × Bool) (x e : Int) (w : World) (hH : LHanded w a n q) (wx : In64 x) (h : sE q n x e) :
  Calls Tryz.prog 126 #[.slice a n cap, .int .i64 x] w fun r w' => r = .returned (.tuple #[.int .i64 0, errc e]) ∧ Below w.heap.size w w' := by
 have bel : Below w.heap.size w ((w.alloc (.cells #[.slice a n cap] 129)).alloc (.cells #[.int .i64 x] 3)) := rbel_al (rbel_al (Below.refl _ _))
 have cC := check_all a n cap q _ (hH.on bel)
 rcases h with ⟨hE, rfl⟩ | ⟨hE, hx, rfl⟩
 ·rw [errc_not hE] at cC
  rw [errc_not hE]
  clear hH
  generalize lE q n = e at *
  go_enter Tryz.func126, Tryz.ntmps126
  go_wp2_with (go_at_call 159; refine cC.mono ?_; rintro r u ⟨rfl, hb⟩; have hw : Below w.heap.size w u := rbel_on hb bel; clear hb)
  go_ret2
  exact ⟨rfl, hw⟩
 ·obtain ⟨h20, hL⟩ := lE_zero hE
  rw [hE, errc_zero] at cC
  rw [errc_not (by decide)]
  by_cases h0 : x < 0
  ·have d0 : decide (x < 0) = true := decide_eq_true h0
   clear hH hE hx
   go_enter Tryz.func126, Tryz.ntmps126
   go_wp2_with (go_at_call 159; refine cC.mono ?_; rintro r u ⟨rfl, hb⟩; have hw : Below w.heap.size w u := rbel_on hb bel; have PL : Row u w.heap.size [.slice a n cap] := Row.on hb (Row.al (Row.made rfl)); have PX : Row u (w.heap.size + 1) [.int .i64 x] := Row.on hb (Row.made (by simp)); have cL := PL.c 0 _ rfl; have cX := PX.c 0 _ rfl; clear hb)
   go_quiet (fail)
   go_wp2
   go_ret2
   exact ⟨rfl, rbel_drn hw⟩
  ·have d0 : decide (x < 0) = false := decide_eq_false h0
   have h1 : bg q n 84006 ≤ x := by
    apply Classical.byContradiction
    intro k
    exact hx ⟨by omega, by omega⟩
   have d1 : decide (bg q n 84006 ≤ x) = true := decide_eq_true h1
   have HH : Hid (LHanded w a n q) := hH
   have cB := fun u (hu : LHanded u a n q) => begin_any a n cap q 84006 u h20 hu (by omega) (by omega)
   have cZ := fun u => last_any u
   generalize bg q n 84006 = v at *
   clear hH hE hx
   go_enter Tryz.func126, Tryz.ntmps126
   go_wp2_with (go_at_call 159; refine cC.mono ?_; rintro r u ⟨rfl, hb⟩; have hw : Below w.heap.size w u := rbel_on hb bel; have PL : Row u w.heap.size [.slice a n cap] := Row.on hb (Row.al (Row.made rfl)); have PX : Row u (w.heap.size + 1) [.int .i64 x] := Row.on hb (Row.made (by simp)); have cL := cell_grown PL.lt (PL.c 0 _ rfl); have cX := cell_grown PX.lt (PX.c 0 _ rfl); have cBg : ∀ m os, Calls Tryz.prog 130 #[.slice a n cap, .int .i64 84006] (Go.Sort.grow (u.drewN m) os) fun e w' => e = .returned (.int .i64 v) ∧ Gr (Go.Sort.grow (u.drewN m) os) w' := (fun m os => cB _ (HH.out.on (rbel_on (Gr.below ⟨m, os, rfl⟩) hw))); clear hb)
   have mixed : Tryz.prog.follows .mixedOrders = true := by kernel_rfl
   go_quiet_grown (first | (go_at_call 160; refine Calls.grown_of ((cZ _).mono (fun r w' h => ⟨h.1, Gr.same h.2⟩))) | (go_at_call 130; refine Calls.grown_of (cBg _ _)))
   go_wp2
   go_ret2
   exact ⟨rfl, rbel_on (Gr.below (Gr.grown Gr.refl _ _)) hw⟩
theorem day_ok (a : Option Addr) (n cap : Nat) (q : Nat → Int × Bool) (x : Int) (D : Nat) (w : World) (hH : LHanded w a n q) (hE : lE q n = 0) (hx : inS q n x) (hD : D ≤ 84005) (hd : IsDay q n x D) :
  Calls Tryz.prog 126 #[.slice a n cap, .int .i64 x] w fun r w' => r = .returned (.tuple #[.int .i64 D, .nilIface]) ∧ Below w.heap.size w w' := by
 have hmf : ∀ (fn : Go.Fn) (first cap : Array Value) (w : World), (Instr.makeFunc fn first cap).run Tryz.prog w = .ok (.func fn first cap) w := fun _ _ _ _ => rfl
 have bel : Below w.heap.size w ((w.alloc (.cells #[.slice a n cap] 129)).alloc (.cells #[.int .i64 x] 3)) := rbel_al (rbel_al (Below.refl _ _))
 have cC := check_all a n cap q _ (hH.on bel)
 rw [hE, errc_zero] at cC
 obtain ⟨h20, hL⟩ := lE_zero hE
 obtain ⟨x0, x1⟩ := hx
 have d0 : decide (x < 0) = false := decide_eq_false (by omega)
 have d1 : decide (bg q n 84006 ≤ x) = false := decide_eq_false (by omega)
 have HH : Hid (LHanded w a n q) := hH
 have cB := fun u (hu : LHanded u a n q) => begin_any a n cap q 84006 u h20 hu (by omega) (by omega)
 have cS := fun B C u hu h1 h2 => search_day a n cap q x D B C u h20 hL hu hD hd h1 h2
 have cZ := fun u => last_any u
 generalize bg q n 84006 = v at *
 clear hH hE hL hd
 go_enter Tryz.func126, Tryz.ntmps126
 go_wp2_with (go_at_call 159; refine cC.mono ?_; rintro r u ⟨rfl, hb⟩; have hw : Below w.heap.size w u := rbel_on hb bel; have PL : Row u w.heap.size [.slice a n cap] := Row.on hb (Row.al (Row.made rfl)); have PX : Row u (w.heap.size + 1) [.int .i64 x] := Row.on hb (Row.made (by simp)); have cL := cell_grown PL.lt (PL.c 0 _ rfl); have cX := cell_grown PX.lt (PX.c 0 _ rfl); have cBg : ∀ m os, Calls Tryz.prog 130 #[.slice a n cap, .int .i64 84006] (Go.Sort.grow (u.drewN m) os) fun e w' => e = .returned (.int .i64 v) ∧ Gr (Go.Sort.grow (u.drewN m) os) w' := (fun m os => cB _ (HH.out.on (rbel_on (Gr.below ⟨m, os, rfl⟩) hw))); clear hb)
 have mixed : Tryz.prog.follows .mixedOrders = true := by kernel_rfl
 go_quiet_grown (first | (go_at_call 160; refine Calls.grown_of ((cZ _).mono (fun r w' h => ⟨h.1, Gr.same h.2⟩))) | (go_at_call 130; refine Calls.grown_of (cBg _ _)))
 have hw2 : Below w.heap.size w (Go.Sort.grow (u.drewN nq) osq) := rbel_on (Gr.below (Gr.grown Gr.refl _ _)) hw
 have cS2 := cS (w.heap.size + 1) w.heap.size _ (HH.out.on hw2) (cX nq osq) (cL nq osq)
 clear cS cB cBg PL PX
 generalize Go.Sort.grow (u.drewN nq) osq = W at *
 go_wp2_with (first | (go_at_call 160; refine (cZ _).mono ?_; rintro r u1 ⟨rfl, hu⟩; rw [hu]; clear hu) | (go_at_call 161; refine cS2.mono ?_; rintro r u2 ⟨rfl, hg⟩; have hw3 : Below w.heap.size w u2 := rbel_on hg.below hw2))
 go_ret2
 exact ⟨rfl, hw3⟩
theorem IsDay.nat {q : Nat → Int × Bool} {n : Nat} {x D : Int} (L : Lps q n) (hx : inS q n x) (h : IsDay q n x D) : ∃ k : Nat, D = k ∧ k ≤ 84005 := by
 obtain ⟨d, d0, d1, hd⟩ := day_some L x hx.1 hx.2
 have := IsDay.one L h hd
 exact ⟨D.toNat, by omega, by omega⟩
end Go.Proofs.YtadkgnbagmnkkakGreatDoor
