/- What leap.dayOf and leap.Ahead answer. -/
import Derived.Test.YthaajbdppmdhaacDoorLeapChk
import Derived.Test.YthaajbdppmdhaacDoorLeapDef
import Derived.Test.YthaajbdppmdhaacDoorCivilLay
namespace Go.Proofs.YthaajbdppmdhaacDoor
open Go.ChangeShapes Go.WideShapes Go.ChangeAt Go.RowKit
set_option linter.unusedVariables false
set_option linter.unusedSimpArgs false

theorem check_all (a : Option Addr) (n cap : Nat) (q : Nat → Int × Bool) (w : World) (hH : LHanded w a n q) :
    Calls Tryd.prog 28 #[.slice a n cap] w fun e w' => e = .returned (errc (lE q n)) ∧ Below w.heap.size w w' := by
  by_cases h : 20 < n
  · have E : errc (lE q n) = .iface 81 (.int .i64 4) := by unfold lE; rw [if_pos h]; exact errc_not (by decide)
    rw [E]
    exact (check_full a n cap w h hH.1).mono fun e w' ⟨h1, h2⟩ => ⟨h1, by rw [h2]; exact Below.refl _ _⟩
  · have E : lE q n = lFr q n := if_neg h
    rw [E]
    rcases hH.2 with rfl | ⟨b, off, rfl, hP⟩
    · exact (check_none a cap w).mono fun e w' ⟨h1, h2⟩ => ⟨h1, by rw [h2]; exact Below.refl _ _⟩
    · exact check_row b off n cap q w (by omega) hP

/-- sort.Search with a closure that lays blocks of its own alone: the first place at which it says yes. -/
theorem search_gr (g : Nat) (cb : Array Value) (N k : Nat) (p : Nat → Bool) (w : World) (eg : ∀ args w, (callFunc g args).run Tryd.prog w = .ok (.enter g args) w) (hN : N < 1000000) (hk : k ≤ N)
    (hf : ∀ u i, Gr w u → i < N → Calls Tryd.prog g (#[.int .i64 i] ++ cb) u fun e w' => e = .returned (.bool (p i)) ∧ Gr u w')
    (h1 : ∀ i, i < k → p i = false) (h2 : ∀ i, k ≤ i → i < N → p i = true) :
    Calls Tryd.prog 58 #[.int .i64 N, .func (.func g) #[] cb] w fun e w' => e = .returned (.int .i64 k) ∧ Gr w w' := by
  have h := Any.sort_Search Tryd.search g cb N p w eg (by omega)
    (fun m os i hi => hf _ i ⟨m, os, rfl⟩ hi)
    (fun a b hab hb h => by
      by_cases c : b < k
      · have := h1 a (by omega); rw [this] at h; cases h
      · exact h2 b (by omega) hb)
  rw [gcount_first p N k hk h1 h2] at h
  exact h

set_option maxHeartbeats 1000000 in
theorem day1_any (a : Option Addr) (n cap : Nat) (q : Nat → Int × Bool) (x : Int) (i B C : Nat) (w : World) (h20 : n ≤ 20) (hH : LHanded w a n q) (hi : i < 84005) (hn : w.cell? ⟨B, 0, none⟩ = some (.int .i64 x)) (hl : w.cell? ⟨C, 0, none⟩ = some (.slice a n cap)) :
    Calls Tryd.prog 82 (#[.int .i64 i] ++ #[.pointer (some ⟨B, 0, none⟩), .pointer (some ⟨C, 0, none⟩)]) w fun e w' => e = .returned (.bool (decide (x < bg q n (i + 1)))) ∧ Gr w w' := by
  have cB : ∀ m os, Calls Tryd.prog 68 #[.slice a n cap, .int .i64 ((i : Int) + 1)] (Go.Sort.grow (w.drewN m) os) fun e w' => e = .returned (.int .i64 (bg q n (i + 1))) ∧ Gr (Go.Sort.grow (w.drewN m) os) w' := fun m os =>
    begin_any a n cap q ((i : Int) + 1) _ h20 (hH.on (Gr.below ⟨m, os, rfl⟩)) (by omega) (by omega)
  have gn : ∀ m os, (Go.Sort.grow (w.drewN m) os).cell? ⟨B, 0, none⟩ = some (.int .i64 x) := cell_grown (World.block_lt_of_cell? _ _ hn) hn
  have gl : ∀ m os, (Go.Sort.grow (w.drewN m) os).cell? ⟨C, 0, none⟩ = some (.slice a n cap) := cell_grown (World.block_lt_of_cell? _ _ hl) hl
  generalize bg q n ((i : Int) + 1) = v at *
  clear hH
  have w2 : IntKind.i64.wrap ((i : Int) + 1) = (i : Int) + 1 := IntWalk.i64_in _ (by omega)
  go_enter Tryd.func82, Tryd.ntmps82
  go_wp2
  have mixed : Tryd.prog.follows .mixedOrders = true := by kernel_rfl
  go_quiet_grown (first | (go_at_call 68; refine Calls.grown_of (cB _ _)))
  go_wp2
  go_ret
  exact ⟨rfl, Gr.grown Gr.refl _ _⟩
theorem day1_enters : ∀ args w, (callFunc 82 args).run Tryd.prog w = .ok (.enter 82 args) w := enters_of Tryd.func82 (by kernel_rfl) rfl
theorem search_day (a : Option Addr) (n cap : Nat) (q : Nat → Int × Bool) (x : Int) (D B C : Nat) (w : World) (h20 : n ≤ 20) (hL : Lps q n) (hH : LHanded w a n q) (hD : D ≤ 84005) (hd : IsDay q n x D) (hn : w.cell? ⟨B, 0, none⟩ = some (.int .i64 x)) (hl : w.cell? ⟨C, 0, none⟩ = some (.slice a n cap)) :
    Calls Tryd.prog 58 #[.int .i64 84005, .func (.func 82) #[] #[.pointer (some ⟨B, 0, none⟩), .pointer (some ⟨C, 0, none⟩)]] w fun e w' => e = .returned (.int .i64 D) ∧ Gr w w' :=
  search_gr 82 _ 84005 D (fun i => decide (x < bg q n (i + 1))) w day1_enters (by decide) hD
    (fun u i hu hi => day1_any a n cap q x i B C u h20 (hH.on hu.below) hi (by rw [hu.below.cell (World.block_lt_of_cell? _ _ hn)]; exact hn) (by rw [hu.below.cell (World.block_lt_of_cell? _ _ hl)]; exact hl))
    (fun i hi => decide_eq_false (by
      obtain ⟨d1, d2⟩ := hd
      by_cases c : i + 1 = D
      · have : ((i : Int) + 1) = (D : Int) := by omega
        rw [this]; omega
      · have := bg_lt hL (show ((i : Int) + 1) < (D : Int) by omega); omega))
    (fun i h1 h2 => decide_eq_true (by
      obtain ⟨d1, d2⟩ := hd
      by_cases c : i = D
      · subst c; exact d2
      · have := bg_lt hL (show ((D : Int) + 1) < ((i : Int) + 1) by omega); omega))

theorem ret_e2 {x y : Int} {a b : Value} (h : a = b) (hx : x = y) : Ending.returned (.tuple #[.int .i64 x, a]) = .returned (.tuple #[.int .i64 y, b]) := by rw [h, hx]
set_option maxHeartbeats 2000000 in
/-- Of leaps that are wrong, and of numbers that are no second. -/
theorem day_no (a : Option Addr) (n cap : Nat) (q : Nat → Int × Bool) (x e : Int) (w : World) (hH : LHanded w a n q) (wx : In64 x) (h : sE q n x e) :
    Calls Tryd.prog 72 #[.slice a n cap, .int .i64 x] w fun r w' => r = .returned (.tuple #[.int .i64 0, errc e]) ∧ Below w.heap.size w w' := by
  have bel : Below w.heap.size w ((w.alloc (.cells #[.slice a n cap] 60)).alloc (.cells #[.int .i64 x] 3)) := rbel_al (rbel_al (Below.refl _ _))
  have cC := check_all a n cap q _ (hH.on bel)
  rcases h with ⟨hE, rfl⟩ | ⟨hE, hx, rfl⟩
  · rw [errc_not hE] at cC
    rw [errc_not hE]
    clear hH
    generalize lE q n = e at *
    go_enter Tryd.func72, Tryd.ntmps72
    go_wp2_with (go_at_call 28; refine cC.mono ?_; rintro r u ⟨rfl, hb⟩; have hw : Below w.heap.size w u := rbel_on hb bel; clear hb)
    go_ret2
    exact ⟨rfl, hw⟩
  · obtain ⟨h20, hL⟩ := lE_zero hE
    rw [hE, errc_zero] at cC
    rw [errc_not (by decide)]
    by_cases h0 : x < 0
    · have d0 : decide (x < 0) = true := decide_eq_true h0
      clear hH hE hx
      go_enter Tryd.func72, Tryd.ntmps72
      go_wp2_with (go_at_call 28; refine cC.mono ?_; rintro r u ⟨rfl, hb⟩; have hw : Below w.heap.size w u := rbel_on hb bel; have PL : Row u w.heap.size [.slice a n cap] := Row.on hb (Row.al (Row.made rfl)); have PX : Row u (w.heap.size + 1) [.int .i64 x] := Row.on hb (Row.made (by simp)); have cL := PL.c 0 _ rfl; have cX := PX.c 0 _ rfl; clear hb)
      go_quiet (fail)
      go_wp2
      go_ret2
      exact ⟨rfl, rbel_drn hw⟩
    · have d0 : decide (x < 0) = false := decide_eq_false h0
      have h1 : bg q n 84006 ≤ x := by
        apply Classical.byContradiction
        intro k
        exact hx ⟨by omega, by omega⟩
      have d1 : decide (bg q n 84006 ≤ x) = true := decide_eq_true h1
      have HH : Hid (LHanded w a n q) := hH
      have cB := fun u (hu : LHanded u a n q) => begin_any a n cap q 84006 u h20 hu (by omega) (by omega)
      have cZ := fun u => last_any u
      generalize bg q n 84006 = v at *
      clear hH hE hx
      go_enter Tryd.func72, Tryd.ntmps72
      go_wp2_with (go_at_call 28; refine cC.mono ?_; rintro r u ⟨rfl, hb⟩; have hw : Below w.heap.size w u := rbel_on hb bel; have PL : Row u w.heap.size [.slice a n cap] := Row.on hb (Row.al (Row.made rfl)); have PX : Row u (w.heap.size + 1) [.int .i64 x] := Row.on hb (Row.made (by simp)); have cL := cell_grown PL.lt (PL.c 0 _ rfl); have cX := cell_grown PX.lt (PX.c 0 _ rfl); have cBg : ∀ m os, Calls Tryd.prog 68 #[.slice a n cap, .int .i64 84006] (Go.Sort.grow (u.drewN m) os) fun e w' => e = .returned (.int .i64 v) ∧ Gr (Go.Sort.grow (u.drewN m) os) w' := (fun m os => cB _ (HH.out.on (rbel_on (Gr.below ⟨m, os, rfl⟩) hw))); clear hb)
      have mixed : Tryd.prog.follows .mixedOrders = true := by kernel_rfl
      go_quiet_grown (first | (go_at_call 57; refine Calls.grown_of ((cZ _).mono (fun r w' h => ⟨h.1, Gr.same h.2⟩))) | (go_at_call 68; refine Calls.grown_of (cBg _ _)))
      go_wp2
      go_ret2
      exact ⟨rfl, rbel_on (Gr.below (Gr.grown Gr.refl _ _)) hw⟩
set_option maxHeartbeats 2000000 in
theorem day_ok (a : Option Addr) (n cap : Nat) (q : Nat → Int × Bool) (x : Int) (D : Nat) (w : World) (hH : LHanded w a n q) (hE : lE q n = 0) (hx : inS q n x) (hD : D ≤ 84005) (hd : IsDay q n x D) :
    Calls Tryd.prog 72 #[.slice a n cap, .int .i64 x] w fun r w' => r = .returned (.tuple #[.int .i64 D, .nilIface]) ∧ Below w.heap.size w w' := by
  have hmf : ∀ (fn : Fn) (first cap : Array Value) (w : World), (Instr.makeFunc fn first cap).run Tryd.prog w = .ok (.func fn first cap) w := fun _ _ _ _ => rfl
  have bel : Below w.heap.size w ((w.alloc (.cells #[.slice a n cap] 60)).alloc (.cells #[.int .i64 x] 3)) := rbel_al (rbel_al (Below.refl _ _))
  have cC := check_all a n cap q _ (hH.on bel)
  rw [hE, errc_zero] at cC
  obtain ⟨h20, hL⟩ := lE_zero hE
  obtain ⟨x0, x1⟩ := hx
  have d0 : decide (x < 0) = false := decide_eq_false (by omega)
  have d1 : decide (bg q n 84006 ≤ x) = false := decide_eq_false (by omega)
  have HH : Hid (LHanded w a n q) := hH
  have cB := fun u (hu : LHanded u a n q) => begin_any a n cap q 84006 u h20 hu (by omega) (by omega)
  have cS := fun B C u hu h1 h2 => search_day a n cap q x D B C u h20 hL hu hD hd h1 h2
  have cZ := fun u => last_any u
  generalize bg q n 84006 = v at *
  clear hH hE hL hd
  go_enter Tryd.func72, Tryd.ntmps72
  go_wp2_with (go_at_call 28; refine cC.mono ?_; rintro r u ⟨rfl, hb⟩; have hw : Below w.heap.size w u := rbel_on hb bel; have PL : Row u w.heap.size [.slice a n cap] := Row.on hb (Row.al (Row.made rfl)); have PX : Row u (w.heap.size + 1) [.int .i64 x] := Row.on hb (Row.made (by simp)); have cL := cell_grown PL.lt (PL.c 0 _ rfl); have cX := cell_grown PX.lt (PX.c 0 _ rfl); have cBg : ∀ m os, Calls Tryd.prog 68 #[.slice a n cap, .int .i64 84006] (Go.Sort.grow (u.drewN m) os) fun e w' => e = .returned (.int .i64 v) ∧ Gr (Go.Sort.grow (u.drewN m) os) w' := (fun m os => cB _ (HH.out.on (rbel_on (Gr.below ⟨m, os, rfl⟩) hw))); clear hb)
  have mixed : Tryd.prog.follows .mixedOrders = true := by kernel_rfl
  go_quiet_grown (first | (go_at_call 57; refine Calls.grown_of ((cZ _).mono (fun r w' h => ⟨h.1, Gr.same h.2⟩))) | (go_at_call 68; refine Calls.grown_of (cBg _ _)))
  have hw2 : Below w.heap.size w (Go.Sort.grow (u.drewN nq) osq) := rbel_on (Gr.below (Gr.grown Gr.refl _ _)) hw
  have cS2 := cS (w.heap.size + 1) w.heap.size _ (HH.out.on hw2) (cX nq osq) (cL nq osq)
  clear cS cB cBg PL PX
  generalize Go.Sort.grow (u.drewN nq) osq = W at *
  go_wp2_with (first | (go_at_call 57; refine (cZ _).mono ?_; rintro r u1 ⟨rfl, hu⟩; rw [hu]; clear hu) | (go_at_call 58; refine cS2.mono ?_; rintro r u2 ⟨rfl, hg⟩; have hw3 : Below w.heap.size w u2 := rbel_on hg.below hw2))
  go_ret2
  exact ⟨rfl, hw3⟩
theorem IsDay.nat {q : Nat → Int × Bool} {n : Nat} {x D : Int} (L : Lps q n) (hx : inS q n x) (h : IsDay q n x D) : ∃ k : Nat, D = k ∧ k ≤ 84005 := by
  obtain ⟨d, d0, d1, hd⟩ := day_some L x hx.1 hx.2
  have := IsDay.one L h hd
  exact ⟨D.toNat, by omega, by omega⟩
set_option maxHeartbeats 2000000 in
theorem ahead_any (a : Option Addr) (n cap : Nat) (q : Nat → Int × Bool) (x v e : Int) (w : World) (hH : LHanded w a n q) (wx : In64 x) (h : AheadA q n x v e) :
    Calls Tryd.prog 37 #[.slice a n cap, .int .i64 x] w fun r w' => r = .returned (.tuple #[.int .i64 v, errc e]) ∧ Below w.heap.size w w' := by
  rcases h with ⟨hs, rfl⟩ | ⟨hE, hx, rfl, D, hD, rfl⟩
  · have c := day_no a n cap q x e w hH wx hs
    have h0 := sE_not hs
    rw [errc_not h0] at c
    rw [errc_not h0]
    clear hs hH
    go_enter Tryd.func37, Tryd.ntmps37
    go_wp2_with (go_at_call 72; refine c.mono ?_; rintro r u ⟨rfl, hb⟩)
    go_ret2
    exact ⟨rfl, hb⟩
  · obtain ⟨h20, hL⟩ := lE_zero hE
    obtain ⟨k, rfl, hk⟩ := hD.nat hL hx
    have c := day_ok a n cap q x k w hH hE hx hk hD
    have cM := fun u (hu : LHanded u a n q) => more_any a n cap q k u h20 hu
    have HH : Hid (LHanded w a n q) := hH
    rw [errc_zero]
    generalize mor q n k = v at *
    clear hH hE hL hD hx
    go_enter Tryd.func37, Tryd.ntmps37
    go_wp2_with (first | (go_at_call 72; refine c.mono ?_; rintro r u ⟨rfl, hb⟩) | (go_at_call 74; refine (cM _ (HH.out.on hb)).mono ?_; rintro r u2 ⟨rfl, hg⟩; have hw : Below w.heap.size w u2 := rbel_on hg.below hb))
    go_ret2
    exact ⟨rfl, hw⟩
end Go.Proofs.YthaajbdppmdhaacDoor
