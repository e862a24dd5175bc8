/- What leap.Smear answers. -/
import Derived.Test.YthaajbdppmdhaacDoorLeapDay
namespace Go.Proofs.YthaajbdppmdhaacDoor
open Go.ChangeShapes Go.WideShapes Go.ChangeAt Go.RowKit
set_option linter.unusedVariables false
set_option linter.unusedSimpArgs false

theorem sret {a b : Int} {v : Value} (h : a = b) : Ending.returned (.tuple #[.int .i64 a, v]) = .returned (.tuple #[.int .i64 b, v]) := by rw [h]
set_option maxHeartbeats 2000000 in
theorem smear_no (a : Option Addr) (n cap : Nat) (q : Nat → Int × Bool) (x e : Int) (w : World) (hH : LHanded w a n q) (wx : In64 x) (h : sE q n x e) :
    Calls Tryd.prog 38 #[.slice a n cap, .int .i64 x] w fun r w' => r = .returned (.tuple #[.int .i64 0, errc e]) ∧ Below w.heap.size w w' := by
  have c := ahead_any a n cap q x 0 e w hH wx (Or.inl ⟨h, rfl⟩)
  have h0 := sE_not h
  rw [errc_not h0] at c
  rw [errc_not h0]
  clear h hH
  go_enter Tryd.func38, Tryd.ntmps38
  go_wp2_with (go_at_call 37; refine c.mono ?_; rintro r u ⟨rfl, hb⟩)
  go_ret2
  exact ⟨rfl, hb⟩
set_option maxHeartbeats 2000000 in
theorem smear_none (a : Option Addr) (cap : Nat) (q : Nat → Int × Bool) (x v : Int) (w : World) (hH : LHanded w a 0 q) (wx : In64 x) (hE : lE q 0 = 0) (hx : inS q 0 x) (hS : Smr q 0 x v) :
    Calls Tryd.prog 38 #[.slice a 0 cap, .int .i64 x] w fun r w' => r = .returned (.tuple #[.int .i64 v, .nilIface]) ∧ Below w.heap.size w w' := by
  rcases hS with ⟨i, hi, _⟩ | ⟨_, D, hD, rfl⟩
  · omega
  have c := ahead_any a 0 cap q x (mor q 0 D) 0 w hH wx (Or.inr ⟨hE, hx, rfl, D, hD, rfl⟩)
  rw [errc_zero] at c
  obtain ⟨x0, x1⟩ := hx
  have xb : x ≤ 9000000000 := by
    have ml := mor_le (q := q) 0 84006
    unfold bg at x1; omega
  have ml := mor_le (q := q) 0 D
  obtain ⟨m1, m2⟩ := ml
  generalize mor q 0 D = M at *
  clear hH hE hD x1
  go_enter Tryd.func38, Tryd.ntmps38
  go_wp2_with (go_at_call 37; refine c.mono ?_; rintro r u ⟨rfl, hb⟩)
  refine wp_loop_rounds 1 ?_
  rw [rounds_succ]
  go_wp2
  go_ret2
  exact ⟨rfl, hb⟩
set_option maxRecDepth 100000 in
set_option maxHeartbeats 8000000 in
theorem smear_row (b off n cap : Nat) (q : Nat → Int × Bool) (x v : Int) (w : World) (hH : LHanded w (some ⟨b, off, none⟩) n q) (hP : Lsp w b off n q) (wx : In64 x) (hE : lE q n = 0) (hx : inS q n x) (hS : Smr q n x v) :
    Calls Tryd.prog 38 #[.slice (some ⟨b, off, none⟩) n cap, .int .i64 x] w fun r w' => r = .returned (.tuple #[.int .i64 v, .nilIface]) ∧ Below w.heap.size w w' := by
  obtain ⟨h20, hL⟩ := lE_zero hE
  obtain ⟨D, hD0, hD1, hD⟩ := day_some hL x hx.1 hx.2
  have c := ahead_any (some ⟨b, off, none⟩) n cap q x (mor q n D) 0 w hH wx (Or.inr ⟨hE, hx, rfl, D, hD, rfl⟩)
  rw [errc_zero] at c
  obtain ⟨x0, x1⟩ := hx
  have xb : x ≤ 9000000000 := by
    have ml := mor_le (q := q) n 84006
    unfold bg at x1; omega
  have EV : Hid ((∀ i, i < n → ¬ Win q n i x) → 1000 * (x - mor q n D) = v) := fun no => (smr_one hL hS (Or.inr ⟨no, D, hD, rfl⟩)).symm
  have ml := mor_le (q := q) n D
  obtain ⟨m1, m2⟩ := ml
  have HS : Hid (Smr q n x v) := hS
  have HP : Hid (Lsp w b off n q) := hP
  have HL : Hid (Lps q n) := hL
  have HH : Hid (LHanded w (some ⟨b, off, none⟩) n q) := hH
  generalize mor q n D = A at *
  clear hH hE hD x1 hS hP hL
  go_enter Tryd.func38, Tryd.ntmps38
  go_wp2_with (go_at_call 37; refine c.mono ?_; rintro r u ⟨rfl, hb⟩)
  go_loopw [23] (fun i wr => ∃ k : Nat, k ≤ n ∧ i = .int .i64 k ∧ Below w.heap.size w wr ∧ ∀ i, i < k → ¬ Win q n i x) (fun i _ => n - (intOf i).toNat)
  case atStart => exact ⟨0, Nat.zero_le _, rfl, hb, fun i hi => by omega⟩
  case round =>
    obtain ⟨k, hk, rfl, hw, hg0⟩ := hrel
    have HG : Hid (∀ i, i < k → ¬ Win q n i x) := hg0
    clear hg0 hb
    by_cases hlt : k < n
    · obtain ⟨x0', x1⟩ := (HP.out.on hw) k hlt
      obtain ⟨r1, r2⟩ := HL.out.rng k hlt
      have cY := fun u => by_any (q k).1 (q k).2 u
      have cB := fun u (hu : Below w.heap.size w u) => begin_any (some ⟨b, off, none⟩) n cap q (q k).1 u h20 (HH.out.on hu) (by omega) (by omega)
      have cM := fun u (hu : Below w.heap.size w u) => more_any (some ⟨b, off, none⟩) n cap q (q k).1 u h20 (HH.out.on hu)
      have ml := mor_le (q := q) n (q k).1
      obtain ⟨N, hN⟩ : ∃ N, bg q n (q k).1 + 43200 = N := ⟨_, rfl⟩
      obtain ⟨M, hM⟩ : ∃ M, mor q n (q k).1 = M := ⟨_, rfl⟩
      have cN : ∀ u, Below w.heap.size w u → Calls Tryd.prog 68 #[.slice (some ⟨b, off, none⟩) n cap, .int .i64 (q k).1] u fun e w' => e = .returned (.int .i64 (N - 43200)) ∧ Gr u w' := fun u hu => by
        have := cB u hu
        rwa [show bg q n (q k).1 = N - 43200 by omega] at this
      clear cB
      rw [hM] at ml cM
      obtain ⟨l1, l2⟩ := ml
      have n1 : 0 ≤ N := by rw [← hN]; unfold bg; rw [hM]; omega
      have n2 : N ≤ 9000000000 := by rw [← hN]; unfold bg; rw [hM]; omega
      cases hb : (q k).2 with
      | true =>
        rw [hb] at x1 cY
        rw [show sgn true = 1 from rfl] at cY
        have eL : lng q n (q k).1 = 86401 := by unfold lng; rw [lj_at n HL.out k hlt, hb]; rfl
        have WN : Hid (Win q n k x ↔ (N ≤ x ∧ x < N + 86401)) := by show _ ↔ _; unfold Win; rw [eL, hN]
        have WV : Hid (winV q n k x = 1000 * (N - M) + 86400000 * (x - N) / 86401) := by
          show _ = _
          unfold winV
          rw [eL, hN, show 86400 * (q k).1 + 43200 = N - M by rw [← hN, ← hM]; unfold bg; omega]
        clear eL
        clear hN hM
        by_cases c1 : N ≤ x
        · by_cases c2 : x < N + 86401
          · have AN : Hid (∀ z, Smr q n x z → z = winV q n k x) := fun z hz => smr_one HL.out hz (Or.inl ⟨k, hlt, WN.out.2 ⟨c1, c2⟩, rfl⟩)
            have VV : Hid (1000 * (N - M) + 86400000 * (x - N) / 86401 = v) := by show _ = _; rw [AN.out v HS.out, WV.out]
            have t1 : (86400000 * (x - N)).tdiv 86401 = 86400000 * (x - N) / 86401 := Int.tdiv_eq_ediv_of_nonneg (by omega)
            have b1 : 0 ≤ 86400000 * (x - N) / 86401 := by omega
            have b2 : 86400000 * (x - N) / 86401 ≤ 86400000 := by omega
            have w1 : IntKind.i64.wrap (N - M) = N - M := IntWalk.i64_in _ (by omega)
            have w2 : IntKind.i64.wrap (1000 * (N - M)) = 1000 * (N - M) := IntWalk.i64_in _ (by omega)
            have w3 : IntKind.i64.wrap (x - N) = x - N := IntWalk.i64_in _ (by omega)
            have w4 : IntKind.i64.wrap (86400000 * (x - N)) = 86400000 * (x - N) := IntWalk.i64_in _ (by omega)
            have w5 : IntKind.i64.wrap ((86400000 * (x - N)).tdiv 86401) = 86400000 * (x - N) / 86401 := by rw [t1]; exact IntWalk.i64_in _ (by omega)
            have w7 : IntKind.i64.wrap (86400000 * (x - N) / 86401) = 86400000 * (x - N) / 86401 := IntWalk.i64_in _ (by omega)
            have w6 : IntKind.i64.wrap (1000 * (N - M) + 86400000 * (x - N) / 86401) = 1000 * (N - M) + 86400000 * (x - N) / 86401 := IntWalk.i64_in _ (by omega)
            go_wp2_with (first | (go_at_call 68; refine (cN _ (rbel_al hw)).mono ?_; rintro r u1 ⟨rfl, hg⟩; have hw1 : Below w.heap.size w u1 := rbel_on hg.below (rbel_al hw); have P1 : Row u1 wr.heap.size [.int .i64 (q k).1, .bool true] := Row.on hg.below (Row.made rfl); have p10 := P1.c 0 _ rfl; have p11 := P1.c 1 _ rfl; clear hg) | (go_at_call 75; refine (cY _).mono ?_; rintro r u2 ⟨rfl, hg⟩; have hw2 : Below w.heap.size w u2 := rbel_on hg.below hw1; have P2 := Row.on hg.below P1; have p20 := cell_grown P2.lt (P2.c 0 _ rfl); clear hg))
            have mixed : Tryd.prog.follows .mixedOrders = true := by kernel_rfl
            have cMg : ∀ m os, Calls Tryd.prog 74 #[.slice (some ⟨b, off, none⟩) n cap, .int .i64 (q k).1] (Go.Sort.grow (u2.drewN m) os) fun e w' => e = .returned (.int .i64 M) ∧ Gr (Go.Sort.grow (u2.drewN m) os) w' := fun m os => cM _ (rbel_on (Gr.below ⟨m, os, rfl⟩) hw2)
            go_quiet_grown (first | (go_at_call 74; refine Calls.grown_of (cMg _ _)))
            go_wp2
            go_ret2
            exact ⟨by first | exact sret VV.out | exact sret (by rw [w6]; exact VV.out) | exact sret (by rw [w7, w6]; exact VV.out), rbel_on (Gr.below (Gr.grown Gr.refl _ _)) hw2⟩
          · have NO : Hid (¬ Win q n k x) := fun z => c2 (WN.out.1 z).2
            go_wp2_with (first | (go_at_call 68; refine (cN _ (rbel_al hw)).mono ?_; rintro r u1 ⟨rfl, hg⟩; have hw1 : Below w.heap.size w u1 := rbel_on hg.below (rbel_al hw); have P1 : Row u1 wr.heap.size [.int .i64 (q k).1, .bool true] := Row.on hg.below (Row.made rfl); have p10 := P1.c 0 _ rfl; have p11 := P1.c 1 _ rfl; clear hg) | (go_at_call 75; refine (cY _).mono ?_; rintro r u2 ⟨rfl, hg⟩; have hw2 : Below w.heap.size w u2 := rbel_on hg.below hw1; clear hg))
            go_roundw
            case rel => exact ⟨k + 1, by omega, by go_num, hw2, fun i hi => by
              by_cases e : i = k
              · rw [e]; exact NO.out
              · exact HG.out i (by omega)⟩
            case measure => simp [intOf]; omega
        · have NO : Hid (¬ Win q n k x) := fun z => c1 (WN.out.1 z).1
          go_wp2_with (first | (go_at_call 68; refine (cN _ (rbel_al hw)).mono ?_; rintro r u1 ⟨rfl, hg⟩; have hw1 : Below w.heap.size w u1 := rbel_on hg.below (rbel_al hw); have P1 : Row u1 wr.heap.size [.int .i64 (q k).1, .bool true] := Row.on hg.below (Row.made rfl); have p10 := P1.c 0 _ rfl; have p11 := P1.c 1 _ rfl; clear hg) | (go_at_call 75; refine (cY _).mono ?_; rintro r u2 ⟨rfl, hg⟩; have hw2 : Below w.heap.size w u2 := rbel_on hg.below hw1; clear hg))
          go_roundw
          case rel => exact ⟨k + 1, by omega, by go_num, hw2, fun i hi => by
            by_cases e : i = k
            · rw [e]; exact NO.out
            · exact HG.out i (by omega)⟩
          case measure => simp [intOf]; omega
      | false =>
        rw [hb] at x1 cY
        rw [show sgn false = (-1) from rfl] at cY
        have eL : lng q n (q k).1 = 86399 := by unfold lng; rw [lj_at n HL.out k hlt, hb]; rfl
        have WN : Hid (Win q n k x ↔ (N ≤ x ∧ x < N + 86399)) := by show _ ↔ _; unfold Win; rw [eL, hN]
        have WV : Hid (winV q n k x = 1000 * (N - M) + 86400000 * (x - N) / 86399) := by
          show _ = _
          unfold winV
          rw [eL, hN, show 86400 * (q k).1 + 43200 = N - M by rw [← hN, ← hM]; unfold bg; omega]
        clear eL
        clear hN hM
        by_cases c1 : N ≤ x
        · by_cases c2 : x < N + 86399
          · have AN : Hid (∀ z, Smr q n x z → z = winV q n k x) := fun z hz => smr_one HL.out hz (Or.inl ⟨k, hlt, WN.out.2 ⟨c1, c2⟩, rfl⟩)
            have VV : Hid (1000 * (N - M) + 86400000 * (x - N) / 86399 = v) := by show _ = _; rw [AN.out v HS.out, WV.out]
            have t1 : (86400000 * (x - N)).tdiv 86399 = 86400000 * (x - N) / 86399 := Int.tdiv_eq_ediv_of_nonneg (by omega)
            have b1 : 0 ≤ 86400000 * (x - N) / 86399 := by omega
            have b2 : 86400000 * (x - N) / 86399 ≤ 86400000 := by omega
            have w1 : IntKind.i64.wrap (N - M) = N - M := IntWalk.i64_in _ (by omega)
            have w2 : IntKind.i64.wrap (1000 * (N - M)) = 1000 * (N - M) := IntWalk.i64_in _ (by omega)
            have w3 : IntKind.i64.wrap (x - N) = x - N := IntWalk.i64_in _ (by omega)
            have w4 : IntKind.i64.wrap (86400000 * (x - N)) = 86400000 * (x - N) := IntWalk.i64_in _ (by omega)
            have w5 : IntKind.i64.wrap ((86400000 * (x - N)).tdiv 86399) = 86400000 * (x - N) / 86399 := by rw [t1]; exact IntWalk.i64_in _ (by omega)
            have w7 : IntKind.i64.wrap (86400000 * (x - N) / 86399) = 86400000 * (x - N) / 86399 := IntWalk.i64_in _ (by omega)
            have w6 : IntKind.i64.wrap (1000 * (N - M) + 86400000 * (x - N) / 86399) = 1000 * (N - M) + 86400000 * (x - N) / 86399 := IntWalk.i64_in _ (by omega)
            go_wp2_with (first | (go_at_call 68; refine (cN _ (rbel_al hw)).mono ?_; rintro r u1 ⟨rfl, hg⟩; have hw1 : Below w.heap.size w u1 := rbel_on hg.below (rbel_al hw); have P1 : Row u1 wr.heap.size [.int .i64 (q k).1, .bool false] := Row.on hg.below (Row.made rfl); have p10 := P1.c 0 _ rfl; have p11 := P1.c 1 _ rfl; clear hg) | (go_at_call 75; refine (cY _).mono ?_; rintro r u2 ⟨rfl, hg⟩; have hw2 : Below w.heap.size w u2 := rbel_on hg.below hw1; have P2 := Row.on hg.below P1; have p20 := cell_grown P2.lt (P2.c 0 _ rfl); clear hg))
            have mixed : Tryd.prog.follows .mixedOrders = true := by kernel_rfl
            have cMg : ∀ m os, Calls Tryd.prog 74 #[.slice (some ⟨b, off, none⟩) n cap, .int .i64 (q k).1] (Go.Sort.grow (u2.drewN m) os) fun e w' => e = .returned (.int .i64 M) ∧ Gr (Go.Sort.grow (u2.drewN m) os) w' := fun m os => cM _ (rbel_on (Gr.below ⟨m, os, rfl⟩) hw2)
            go_quiet_grown (first | (go_at_call 74; refine Calls.grown_of (cMg _ _)))
            go_wp2
            go_ret2
            exact ⟨by first | exact sret VV.out | exact sret (by rw [w6]; exact VV.out) | exact sret (by rw [w7, w6]; exact VV.out), rbel_on (Gr.below (Gr.grown Gr.refl _ _)) hw2⟩
          · have NO : Hid (¬ Win q n k x) := fun z => c2 (WN.out.1 z).2
            go_wp2_with (first | (go_at_call 68; refine (cN _ (rbel_al hw)).mono ?_; rintro r u1 ⟨rfl, hg⟩; have hw1 : Below w.heap.size w u1 := rbel_on hg.below (rbel_al hw); have P1 : Row u1 wr.heap.size [.int .i64 (q k).1, .bool false] := Row.on hg.below (Row.made rfl); have p10 := P1.c 0 _ rfl; have p11 := P1.c 1 _ rfl; clear hg) | (go_at_call 75; refine (cY _).mono ?_; rintro r u2 ⟨rfl, hg⟩; have hw2 : Below w.heap.size w u2 := rbel_on hg.below hw1; clear hg))
            go_roundw
            case rel => exact ⟨k + 1, by omega, by go_num, hw2, fun i hi => by
              by_cases e : i = k
              · rw [e]; exact NO.out
              · exact HG.out i (by omega)⟩
            case measure => simp [intOf]; omega
        · have NO : Hid (¬ Win q n k x) := fun z => c1 (WN.out.1 z).1
          go_wp2_with (first | (go_at_call 68; refine (cN _ (rbel_al hw)).mono ?_; rintro r u1 ⟨rfl, hg⟩; have hw1 : Below w.heap.size w u1 := rbel_on hg.below (rbel_al hw); have P1 : Row u1 wr.heap.size [.int .i64 (q k).1, .bool false] := Row.on hg.below (Row.made rfl); have p10 := P1.c 0 _ rfl; have p11 := P1.c 1 _ rfl; clear hg) | (go_at_call 75; refine (cY _).mono ?_; rintro r u2 ⟨rfl, hg⟩; have hw2 : Below w.heap.size w u2 := rbel_on hg.below hw1; clear hg))
          go_roundw
          case rel => exact ⟨k + 1, by omega, by go_num, hw2, fun i hi => by
            by_cases e : i = k
            · rw [e]; exact NO.out
            · exact HG.out i (by omega)⟩
          case measure => simp [intOf]; omega
    · have kn : k = n := by omega
      subst kn
      have E : Hid (1000 * (x - A) = v) := EV.out HG.out
      go_wp2
      go_ret2
      exact ⟨sret E.out, hw⟩
theorem smear_any (a : Option Addr) (n cap : Nat) (q : Nat → Int × Bool) (x v e : Int) (w : World) (hH : LHanded w a n q) (wx : In64 x) (h : SmearA q n x v e) :
    Calls Tryd.prog 38 #[.slice a n cap, .int .i64 x] w fun r w' => r = .returned (.tuple #[.int .i64 v, errc e]) ∧ Below w.heap.size w w' := by
  rcases h with ⟨hs, rfl⟩ | ⟨hE, hx, rfl, hS⟩
  · exact smear_no a n cap q x e w hH wx hs
  · rw [errc_zero]
    rcases hH.2 with rfl | ⟨b, off, rfl, hP⟩
    · exact smear_none a cap q x v w hH wx hE hx hS
    · exact smear_row b off n cap q x v w hH hP wx hE hx hS
end Go.Proofs.YthaajbdppmdhaacDoor
