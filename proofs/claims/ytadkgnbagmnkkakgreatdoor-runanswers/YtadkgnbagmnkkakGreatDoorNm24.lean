/- What package leap reckons of hours, minutes and seconds: numbers, label, split. What leap.Utc answers. What leap.checkNumbers answers of a label's numbers, by the table ends. What leap.Print answers. The table ends of package leap, cell by cell. -/
import Derived.Test.YtadkgnbagmnkkakGreatDoorNm04
import Derived.Test.YtadkgnbagmnkkakGreatDoorNm22
import Derived.WalkKit
import Derived.ProofKit
import Derived.OpenShut
import Derived.Outline
import Derived.IntWalk
import Derived.Below
import Derived.WalkLawsBesides
import Derived.Deep.QuietTactic
import Derived.BigQuiet
import Derived.ChangeKeysEq
import Derived.Laws.StructEq
import Derived.Test.YtadkgnbagmnkkakGreatDoorNm23
import Derived.Test.YtadkgnbagmnkkakGreatDoorNm21
namespace Go.Proofs.YtadkgnbagmnkkakGreatDoor
open Go.ChangeShapes Go.WideShapes Go.ChangeAt Go.RowKit
set_option linter.unusedVariables false
set_option linter.unusedSimpArgs false

set_option maxHeartbeats 1000000
abbrev hms (h i s : Int) : Value := .agg #[.int .i64 h, .int .i64 i, .int .i64 s]
theorem numbers_any (y m d h i s : Int) (w : World) :
  Calls Tryz.prog 169 #[lbl y m d h i s] w fun e w' => e = .returned (hms h i s) ∧ Gr w w' := by
 go_enter Tryz.func169, Tryz.ntmps169
 go_wp2
 exact bodyPost_ret (v := hms h i s) (by simp [results, Tryz.results169, go_sem, *]) rfl ⟨rfl, by repeat (first | exact Gr.refl | apply Gr.al)⟩
theorem label_any (y m d h i s : Int) (w : World) :
  Calls Tryz.prog 128 #[.agg #[.int .i64 y, .int .i64 m, .int .i64 d], hms h i s] w fun e w' => e = .returned (lbl y m d h i s) ∧ Gr w w' := by
 go_enter Tryz.func128, Tryz.ntmps128
 go_wp2
 exact bodyPost_ret (v := lbl y m d h i s) (by simp [results, Tryz.results128, go_sem, *]) rfl ⟨rfl, by repeat (first | exact Gr.refl | apply Gr.al)⟩
theorem ret_h {h i s h' i' s' : Int} (a : h = h') (b : i = i') (c : s = s') : Ending.returned (hms h i s) = .returned (hms h' i' s') := by rw [a, b, c]
theorem split_any (s : Int) (w : World) (h0 : 0 ≤ s) (h1 : s ≤ 86400) :
  Calls Tryz.prog 129 #[.int .i64 s] w fun e w' => e = .returned (hms (lab s).1 (lab s).2.1 (lab s).2.2) ∧ Gr w w' := by
 have T : Hid (min s 86399 / 60 / 60 = (lab s).1 ∧ min s 86399 / 60 % 60 = (lab s).2.1 ∧ s - 60 * (min s 86399 / 60) = (lab s).2.2) := by
  show _ ∧ _ ∧ _
  unfold lab
  split
  ·subst s; decide
  ·refine ⟨?_, ?_, ?_⟩ <;> simp only <;> omega
 go_enter Tryz.func129, Tryz.ntmps129
 go_wp2
 exact bodyPost_ret (v := hms (min s 86399 / 60 / 60) (min s 86399 / 60 % 60) (s - 60 * (min s 86399 / 60))) (by simp [results, Tryz.results129, go_sem, *]) rfl ⟨ret_h T.out.1 T.out.2.1 T.out.2.2, by repeat (first | exact Gr.refl | apply Gr.al)⟩
set_option maxHeartbeats 4000000
set_option maxRecDepth 100000
theorem utc_no (a : Option Addr) (n cap : Nat) (q : Nat → Int × Bool) (x e : Int) (w : World) (hH : LHanded w a n q) (wx : In64 x) (h : sE q n x e) :
  Calls Tryz.prog 95 #[.slice a n cap, .int .i64 x] w fun r w' => r = .returned (.tuple #[lbl 0 0 0 0 0 0, errc e]) ∧ Below w.heap.size w w' := by
 have c := fun u (hu : Below w.heap.size w u) => day_no a n cap q x e u (hH.on hu) wx h
 have h0 := sE_not h
 rw [errc_not h0] at c
 rw [errc_not h0]
 clear h hH
 go_enter Tryz.func95, Tryz.ntmps95
 go_wp2_with (go_at_call 126; refine (c _ (rbel_al (Below.refl _ _))).mono ?_; rintro r u ⟨rfl, hb⟩; have hw : Below w.heap.size w u := rbel_on hb (rbel_al (Below.refl _ _)); have PR : Row u w.heap.size [.int .i64 0, .int .i64 0, .int .i64 0, .int .i64 0, .int .i64 0, .int .i64 0] := Row.on hb (Row.made rfl); have cR0 := PR.c 0 _ rfl; have cR1 := PR.c 1 _ rfl; have cR2 := PR.c 2 _ rfl; have cR3 := PR.c 3 _ rfl; have cR4 := PR.c 4 _ rfl; have cR5 := PR.c 5 _ rfl; have fR0 := PR.f 0 _ rfl; have fR1 := PR.f 1 _ rfl; have fR2 := PR.f 2 _ rfl; have fR3 := PR.f 3 _ rfl; have fR4 := PR.f 4 _ rfl; have fR5 := PR.f 5 _ rfl; clear hb)
 exact bodyPost_ret (v := .tuple #[lbl 0 0 0 0 0 0, .iface 86 (.int .i64 e)]) (by simp [results, Tryz.results95, go_sem, *]) rfl ⟨rfl, by (repeat (first | (with_reducible assumption) | refine Below.setCell ?_ (by first | (simp; done) | (simp; omega) | omega) _ | apply Below.drew | apply rbel_drn))⟩
theorem utc_ok (a : Option Addr) (n cap : Nat) (q : Nat → Int × Bool) (x y m d h i s : Int) (w : World) (hH : LHanded w a n q) (he : EnvA w) (hE : lE q n = 0) (hx : inS q n x) (hU : UtcL q n x y m d h i s) :
  Calls Tryz.prog 95 #[.slice a n cap, .int .i64 x] w fun r w' => r = .returned (.tuple #[lbl y m d h i s, .nilIface]) ∧ Below w.heap.size w w' := by
 obtain ⟨h20, hL⟩ := lE_zero hE
 obtain ⟨ok, hD, rfl, rfl, rfl⟩ := hU
 obtain ⟨D, eD, hk⟩ := hD.nat hL hx
 rw [eD] at hD
 have pl := hD.place hL
 have ll := lng_le hL D
 obtain ⟨p1, p2⟩ := pl
 have c := fun u (hu : Below w.heap.size w u) => day_ok a n cap q x D u (hH.on hu) hE hx hk hD
 have cB := fun u (hu : Below w.heap.size w u) => begin_any a n cap q D u h20 (hH.on hu) (by omega) (by omega)
 have cO := fun u (hu : Below w.heap.size w u) => of_day D y m d u (he.below hu) ok eD
 rw [eD]
 obtain ⟨x0, x1⟩ := hx
 have ml := mor_le (q := q) n 84006
 have xb : x ≤ 9000000000 := by unfold bg at x1; omega
 obtain ⟨t, ht⟩ : ∃ t, t = x - bg q n D := ⟨_, rfl⟩
 have cS := fun u => split_any t u (by omega) (by omega)
 have ws : IntKind.i64.wrap t = t := IntWalk.i64_in _ (by omega)
 have e9 : bg q n D = x - t := by omega
 have e8 : x - (x - t) = t := by omega
 rw [e9] at cB
 rw [← ht]
 generalize (lab t).1 = H at *
 generalize (lab t).2.1 = I at *
 generalize (lab t).2.2 = S at *
 have cL := fun u => label_any y m d H I S u
 clear hH hE hL hD ll ml x1 ok e9 ht p1 p2 he
 have ws2 : IntKind.i64.wrap (x - (x - t)) = t := by rw [e8]; exact ws
 go_enter Tryz.func95, Tryz.ntmps95
 go_wp2_with (first | (go_at_call 126; refine (c _ (rbel_al (Below.refl _ _))).mono ?_; rintro r u ⟨rfl, hb⟩; have hw : Below w.heap.size w u := rbel_on hb (rbel_al (Below.refl _ _)); have PR : Row u w.heap.size [.int .i64 0, .int .i64 0, .int .i64 0, .int .i64 0, .int .i64 0, .int .i64 0] := Row.on hb (Row.made rfl); clear hb) | (go_at_call 127; refine (cO _ hw).mono ?_; rintro r u1 ⟨rfl, hb⟩; have hw1 : Below w.heap.size w u1 := rbel_on hb hw; have PR1 := Row.on hb PR; have zR := PR1.lt; clear hb PR hw))
 have PR2 : Row (u1.alloc (.cells #[.int .i64 y, .int .i64 m, .int .i64 d] 79)) w.heap.size [.int .i64 0, .int .i64 0, .int .i64 0, .int .i64 0, .int .i64 0, .int .i64 0] := Row.al PR1
 have PD2 : Row (u1.alloc (.cells #[.int .i64 y, .int .i64 m, .int .i64 d] 79)) u1.heap.size [.int .i64 y, .int .i64 m, .int .i64 d] := Row.made rfl
 have hw2 : Below w.heap.size w (u1.alloc (.cells #[.int .i64 y, .int .i64 m, .int .i64 d] 79)) := rbel_al hw1
 generalize u1.alloc (.cells #[.int .i64 y, .int .i64 m, .int .i64 d] 79) = W at *
 generalize u1.heap.size = B at *
 have g0 := PD2.c 0 _ rfl
 have g1 := PD2.c 1 _ rfl
 have g2 := PD2.c 2 _ rfl
 have n1 : ¬ (w.heap.size = B) := by omega
 have n2 : ¬ (B = w.heap.size) := by omega
 clear PR1 hw1
 have cnt : Mark 0 := .mk _
 go_region_held (fun w' => w'.cell? ⟨B, 0, none⟩ = some (.int .i64 y) ∧ w'.cell? ⟨B, 1, none⟩ = some (.int .i64 m) ∧ w'.cell? ⟨B, 2, none⟩ = some (.int .i64 d)) (go_keep) (first
  | (go_at_call 130; have cq : Mark 0 := cnt; refine (cB _ (rbel_dr hw2)).mono ?_; clear cq cnt; have cnt : Mark 1 := .mk _; rintro r u2 ⟨rfl, hg⟩; have hw3 : Below w.heap.size w u2 := rbel_on hg.below (rbel_dr hw2); have PR3 := Row.on hg.below (Row.dr PR2); have PD3 := Row.on hg.below (Row.dr PD2); have k0 := PD3.c 0 _ rfl; have k1 := PD3.c 1 _ rfl; have k2 := PD3.c 2 _ rfl; clear hg)
  | (go_at_call 129; have cq : Mark 1 := cnt; refine (cS _).mono ?_; clear cq cnt; have cnt : Mark 2 := .mk _; rintro r u3 ⟨rfl, hg⟩; have hw4 : Below w.heap.size w u3 := rbel_on hg.below hw3; have PR4 := Row.on hg.below PR3; have PD4 := Row.on hg.below PD3; have l0 := PD4.c 0 _ rfl; have l1 := PD4.c 1 _ rfl; have l2 := PD4.c 2 _ rfl; clear hg)
  | (go_at_call 128; have cq : Mark 2 := cnt; refine (cL _).mono ?_; clear cq cnt; have cnt : Mark 3 := .mk _; rintro r u4 ⟨rfl, hg⟩; have hw5 : Below w.heap.size w u4 := rbel_on hg.below hw4; have PR5 := Row.on hg.below PR4; have PD5 := Row.on hg.below PD4; have n0 := PD5.c 0 _ rfl; have n1 := PD5.c 1 _ rfl; have n2 := PD5.c 2 _ rfl; have cR0 := PR5.c 0 _ rfl; have cR1 := PR5.c 1 _ rfl; have cR2 := PR5.c 2 _ rfl; have cR3 := PR5.c 3 _ rfl; have cR4 := PR5.c 4 _ rfl; have cR5 := PR5.c 5 _ rfl; have fR0 := PR5.f 0 _ rfl; have fR1 := PR5.f 1 _ rfl; have fR2 := PR5.f 2 _ rfl; have fR3 := PR5.f 3 _ rfl; have fR4 := PR5.f 4 _ rfl; have fR5 := PR5.f 5 _ rfl; clear hg))
 all_goals
  go_wp2
  exact bodyPost_ret (v := .tuple #[lbl y m d H I S, .nilIface]) (by simp [results, Tryz.results95, go_sem, *]) rfl ⟨rfl, by (repeat (first | (with_reducible assumption) | refine Below.setCell ?_ (by first | (simp; done) | (simp; omega) | omega) _ | apply Below.drew | apply rbel_drn))⟩
theorem utc_any (a : Option Addr) (n cap : Nat) (q : Nat → Int × Bool) (x y m d h i s e : Int) (w : World) (hH : LHanded w a n q) (he : EnvA w) (wx : In64 x) (hU : UtcA q n x y m d h i s e) :
  Calls Tryz.prog 95 #[.slice a n cap, .int .i64 x] w fun r w' => r = .returned (.tuple #[lbl y m d h i s, errc e]) ∧ Below w.heap.size w w' := by
 rcases hU with ⟨hs, rfl, rfl, rfl, rfl, rfl, rfl⟩ | ⟨hE, hx, rfl, hU⟩
 ·exact utc_no a n cap q x e w hH wx hs
 ·exact utc_ok a n cap q x y m d h i s w hH he hE hx hU
def EnvN (w : World) : Prop := w.cell? ⟨4, 0, none⟩ = some (.int .i64 24) ∧ w.cell? ⟨4, 1, none⟩ = some (.int .i64 60) ∧ w.cell? ⟨4, 2, none⟩ = some (.int .i64 61)
theorem EnvN.below {w w' : World} (h : EnvN w) (hb : Below w.heap.size w w') : EnvN w' :=
 ⟨by rw [hb.cell (World.block_lt_of_cell? _ _ h.1)]; exact h.1, by rw [hb.cell (World.block_lt_of_cell? _ _ h.2.1)]; exact h.2.1, by rw [hb.cell (World.block_lt_of_cell? _ _ h.2.2)]; exact h.2.2⟩
def eH (h i s : Int) : Int := if okH h i s = true then 0 else 1
theorem eH_ok {h i s : Int} (o : okH h i s = true) : eH h i s = 0 := if_pos o
theorem eH_no {h i s : Int} (o : okH h i s = false) : eH h i s = 1 := if_neg (by rw [o]; decide)
theorem eH_bad {h i s : Int} (o : ¬ (0 ≤ h ∧ h ≤ 23 ∧ 0 ≤ i ∧ i ≤ 59 ∧ 0 ≤ s ∧ s ≤ 60)) : .iface 86 (.int .i64 1) = errc (eH h i s) := by
 rw [eH_no (decide_eq_false o), errc_not (by decide)]
theorem eH_good {h i s : Int} (o : 0 ≤ h ∧ h ≤ 23 ∧ 0 ≤ i ∧ i ≤ 59 ∧ 0 ≤ s ∧ s ≤ 60) : .nilIface = errc (eH h i s) := by
 rw [eH_ok (decide_eq_true o), errc_zero]

set_option maxRecDepth 100000 in
set_option maxHeartbeats 4000000 in
theorem hands_any (y m d h i s : Int) (w : World) (he : EnvN w) :
  Calls Tryz.prog 132 #[lbl y m d h i s] w fun e w' => e = .returned (errc (eH h i s)) ∧ Below w.heap.size w w' := by
 have cN := fun u => numbers_any y m d h i s u
 have ix0 : ∀ w, (Instr.index 235 (.agg #[.int .i64 h, .int .i64 i, .int .i64 s]) (.int .i64 0)).run Tryz.prog w = .ok (.int .i64 h) w := fun _ => by kernel_rfl
 have ix1 : ∀ w, (Instr.index 235 (.agg #[.int .i64 h, .int .i64 i, .int .i64 s]) (.int .i64 1)).run Tryz.prog w = .ok (.int .i64 i) w := fun _ => by kernel_rfl
 have ix2 : ∀ w, (Instr.index 235 (.agg #[.int .i64 h, .int .i64 i, .int .i64 s]) (.int .i64 2)).run Tryz.prog w = .ok (.int .i64 s) w := fun _ => by kernel_rfl
 have HE : Hid (EnvN w) := he
 clear he
 go_enter Tryz.func132, Tryz.ntmps132
 go_wp2_with (go_at_call 169; refine (cN _).mono ?_; rintro e u ⟨rfl, hg⟩; have hw : Below w.heap.size w u := rbel_on hg.below (rbel_al (Below.refl _ _)); clear hg)
 have hE := HE.out.below hw
 obtain ⟨e0, e1, e2⟩ := hE
 go_loopw [7] (fun i' wr => ∃ k : Nat, k ≤ 3 ∧ i' = .int .i64 k ∧ wr = u ∧ Hid ((1 ≤ k → 0 ≤ h ∧ h ≤ 23) ∧ (2 ≤ k → 0 ≤ i ∧ i ≤ 59) ∧ (3 ≤ k → 0 ≤ s ∧ s ≤ 60))) (fun i _ => 3 - (intOf i).toNat)
 case atStart => exact ⟨0, Nat.zero_le _, rfl, rfl, (⟨fun k => by omega, fun k => by omega, fun k => by omega⟩ : _ ∧ _ ∧ _)⟩
 case round =>
  obtain ⟨k, hk, rfl, rfl, HK⟩ := hrel
  have hc : k = 0 ∨ k = 1 ∨ k = 2 ∨ k = 3 := by omega
  rcases hc with rfl | rfl | rfl | rfl
  ·by_cases c1 : h < 0
   ·have E : Hid (.iface 86 (.int .i64 1) = errc (eH h i s)) := eH_bad (by omega)
    go_wp2
    go_ret
    exact ⟨congrArg Ending.returned E.out, hw⟩
   ·by_cases c2 : 24 ≤ h
    ·have E : Hid (.iface 86 (.int .i64 1) = errc (eH h i s)) := eH_bad (by omega)
     go_wp2
     go_ret
     exact ⟨congrArg Ending.returned E.out, hw⟩
    ·go_wp2
     go_roundw
     case rel => exact ⟨1, by omega, rfl, trivial, (⟨fun k => by omega, fun k => by omega, fun k => by omega⟩ : _ ∧ _ ∧ _)⟩
     case measure => simp [intOf]
  ·have q1 := HK.out.1 (by omega)
   by_cases c1 : i < 0
   ·have E : Hid (.iface 86 (.int .i64 1) = errc (eH h i s)) := eH_bad (by omega)
    go_wp2
    go_ret
    exact ⟨congrArg Ending.returned E.out, hw⟩
   ·by_cases c2 : 60 ≤ i
    ·have E : Hid (.iface 86 (.int .i64 1) = errc (eH h i s)) := eH_bad (by omega)
     go_wp2
     go_ret
     exact ⟨congrArg Ending.returned E.out, hw⟩
    ·go_wp2
     go_roundw
     case rel => exact ⟨2, by omega, rfl, trivial, (⟨fun k => by omega, fun k => by omega, fun k => by omega⟩ : _ ∧ _ ∧ _)⟩
     case measure => simp [intOf]
  ·have q1 := HK.out.1 (by omega)
   have q2 := HK.out.2.1 (by omega)
   by_cases c1 : s < 0
   ·have E : Hid (.iface 86 (.int .i64 1) = errc (eH h i s)) := eH_bad (by omega)
    go_wp2
    go_ret
    exact ⟨congrArg Ending.returned E.out, hw⟩
   ·by_cases c2 : 61 ≤ s
    ·have E : Hid (.iface 86 (.int .i64 1) = errc (eH h i s)) := eH_bad (by omega)
     go_wp2
     go_ret
     exact ⟨congrArg Ending.returned E.out, hw⟩
    ·go_wp2
     go_roundw
     case rel => exact ⟨3, by omega, rfl, trivial, (⟨fun k => by omega, fun k => by omega, fun k => by omega⟩ : _ ∧ _ ∧ _)⟩
     case measure => simp [intOf]
  ·have q1 := HK.out.1 (by omega)
   have q2 := HK.out.2.1 (by omega)
   have q3 := HK.out.2.2 (by omega)
   have E : Hid (.nilIface = errc (eH h i s)) := eH_good (by omega)
   go_wp2
   go_ret
   exact ⟨congrArg Ending.returned E.out, hw⟩

set_option maxHeartbeats 8000000
theorem lpr_ok {y m d : Int} (h : okD y m d = true) (u : World) (he : EnvA u) (ht : EnvT u) : Calls Tryz.prog 131 #[.agg #[.int .i64 y, .int .i64 m, .int .i64 d]] u fun e w' => e = .returned (.tuple #[.string (dtext y m d), .nilIface]) ∧ Below u.heap.size u w' := by
 obtain ⟨a, b, c⟩ := ok64 h
 have k := print_any y m d u a b c he ht
 rwa [if_pos h, eD_ok h, errc_zero] at k
theorem lprint_date (y m d h i s : Int) (w : World) (he : EnvA w) (ht : EnvT w) (wy : In64 y) (wm : In64 m) (wd : In64 d) (o : okD y m d = false) :
  Calls Tryz.prog 96 #[lbl y m d h i s] w fun r w' => r = .returned (.tuple #[.string ⟨#[]⟩, .iface 86 (.int .i64 1)]) ∧ Below w.heap.size w w' := by
 have bel : Below w.heap.size w (w.alloc (.cells #[.int .i64 y, .int .i64 m, .int .i64 d, .int .i64 h, .int .i64 i, .int .i64 s] 81)) := rbel_al (Below.refl _ _)
 have cP := fun u (hu : Below w.heap.size w u) => print_any y m d u wy wm wd (he.below hu) (ht.below hu)
 rw [eD_no o, errc_not (by decide), if_neg (by rw [o]; decide)] at cP
 clear he ht
 go_enter Tryz.func96, Tryz.ntmps96
 go_wp2_with (go_at_call 131; refine (cP _ bel).mono ?_; rintro r u ⟨rfl, hb⟩; have hw : Below w.heap.size w u := rbel_on hb bel; have P0 : Row u w.heap.size [.int .i64 y, .int .i64 m, .int .i64 d, .int .i64 h, .int .i64 i, .int .i64 s] := Row.on hb (Row.made rfl); have c0 := P0.c 0 _ rfl; have c1 := P0.c 1 _ rfl; have c2 := P0.c 2 _ rfl; have c3 := P0.c 3 _ rfl; have c4 := P0.c 4 _ rfl; have c5 := P0.c 5 _ rfl; clear hb)
 go_ret2
 exact ⟨rfl, hw⟩
theorem lprint_hands (y m d h i s : Int) (w : World) (he : EnvA w) (ht : EnvT w) (hN : EnvN w) (o : okD y m d = true) (o2 : okH h i s = false) :
  Calls Tryz.prog 96 #[lbl y m d h i s] w fun r w' => r = .returned (.tuple #[.string ⟨#[]⟩, .iface 86 (.int .i64 1)]) ∧ Below w.heap.size w w' := by
 have bel : Below w.heap.size w (w.alloc (.cells #[.int .i64 y, .int .i64 m, .int .i64 d, .int .i64 h, .int .i64 i, .int .i64 s] 81)) := rbel_al (Below.refl _ _)
 have cP := fun u (hu : Below w.heap.size w u) => lpr_ok o u (he.below hu) (ht.below hu)
 have cK := fun u (hu : Below w.heap.size w u) => hands_any y m d h i s u (hN.below hu)
 rw [eH_no o2, errc_not (by decide)] at cK
 generalize dtext y m d = T at *
 clear he ht
 go_enter Tryz.func96, Tryz.ntmps96
 go_wp2_with (first | (go_at_call 131; refine (cP _ bel).mono ?_; rintro r u ⟨rfl, hb⟩; have hw : Below w.heap.size w u := rbel_on hb bel; have P0 : Row u w.heap.size [.int .i64 y, .int .i64 m, .int .i64 d, .int .i64 h, .int .i64 i, .int .i64 s] := Row.on hb (Row.made rfl); have c0 := P0.c 0 _ rfl; have c1 := P0.c 1 _ rfl; have c2 := P0.c 2 _ rfl; have c3 := P0.c 3 _ rfl; have c4 := P0.c 4 _ rfl; have c5 := P0.c 5 _ rfl; clear hb) | (go_at_call 132; refine (cK _ hw).mono ?_; rintro r u1 ⟨rfl, hb⟩; have hw1 : Below w.heap.size w u1 := rbel_on hb hw; have P1 : Row u1 w.heap.size [.int .i64 y, .int .i64 m, .int .i64 d, .int .i64 h, .int .i64 i, .int .i64 s] := Row.on hb P0; have k0 := P1.c 0 _ rfl; have k1 := P1.c 1 _ rfl; have k2 := P1.c 2 _ rfl; have k3 := P1.c 3 _ rfl; have k4 := P1.c 4 _ rfl; have k5 := P1.c 5 _ rfl; clear hb))
 go_ret2
 exact ⟨rfl, hw1⟩
theorem lret {a b : ByteArray} {v : Value} (h : a = b) : Ending.returned (.tuple #[.string a, v]) = .returned (.tuple #[.string b, v]) := by rw [h]
set_option maxRecDepth 100000 in
theorem lprint_ok (y m d h i s : Int) (w : World) (he : EnvA w) (ht : EnvT w) (hN : EnvN w) (o : okD y m d = true) (o2 : okH h i s = true) :
  Calls Tryz.prog 96 #[lbl y m d h i s] w fun r w' => r = .returned (.tuple #[.string (ltext y m d h i s), .nilIface]) ∧ Below w.heap.size w w' := by
 have bel : Below w.heap.size w (w.alloc (.cells #[.int .i64 y, .int .i64 m, .int .i64 d, .int .i64 h, .int .i64 i, .int .i64 s] 81)) := rbel_al (Below.refl _ _)
 have cP := fun u (hu : Below w.heap.size w u) => lpr_ok o u (he.below hu) (ht.below hu)
 have cK := fun u (hu : Below w.heap.size w u) => hands_any y m d h i s u (hN.below hu)
 rw [eH_ok o2, errc_zero] at cK
 obtain ⟨a1, a2, a3, a4, a5, a6⟩ := okH_t o2
 have cH := fun u hu => two_any h u (by omega) (by omega) hu
 have cI := fun u hu => two_any i u (by omega) (by omega) hu
 have cS := fun u hu => two_any s u (by omega) (by omega) hu
 have E : Hid (dtext y m d ++ ⟨#[84]⟩ ++ ⟨(d2 h).toArray⟩ ++ ⟨#[58]⟩ ++ ⟨(d2 i).toArray⟩ ++ ⟨#[58]⟩ ++ ⟨(d2 s).toArray⟩ = ltext y m d h i s) := by
  show _ = _
  unfold dtext ltext
  rw [show (⟨#[84]⟩ : ByteArray) = ⟨[84].toArray⟩ from rfl, show (⟨#[58]⟩ : ByteArray) = ⟨[58].toArray⟩ from rfl, app_is, app_is, app_is, app_is, app_is, app_is]
 have s0 : (dtext y m d).size = 10 := rfl
 have s1 : (⟨(d2 h).toArray⟩ : ByteArray).size = 2 := rfl
 have s2 : (⟨(d2 i).toArray⟩ : ByteArray).size = 2 := rfl
 have s3 : (⟨(d2 s).toArray⟩ : ByteArray).size = 2 := rfl
 generalize (⟨(d2 h).toArray⟩ : ByteArray) = th at *
 generalize (⟨(d2 i).toArray⟩ : ByteArray) = ti at *
 generalize (⟨(d2 s).toArray⟩ : ByteArray) = ts at *
 generalize dtext y m d = T at *
 have HT : Hid (EnvT w) := ht
 clear he ht o o2 a1 a2 a3 a4 a5 a6
 have cnt : Mark 0 := .mk _
 go_enter Tryz.func96, Tryz.ntmps96
 go_wp2_with (first | (go_at_call 131; refine (cP _ bel).mono ?_; rintro r u ⟨rfl, hb⟩; have hw : Below w.heap.size w u := rbel_on hb bel; have P0 : Row u w.heap.size [.int .i64 y, .int .i64 m, .int .i64 d, .int .i64 h, .int .i64 i, .int .i64 s] := Row.on hb (Row.made rfl); have c0 := P0.c 0 _ rfl; have c1 := P0.c 1 _ rfl; have c2 := P0.c 2 _ rfl; have c3 := P0.c 3 _ rfl; have c4 := P0.c 4 _ rfl; have c5 := P0.c 5 _ rfl; clear hb) | (go_at_call 132; refine (cK _ hw).mono ?_; rintro r u1 ⟨rfl, hb⟩; have hw1 : Below w.heap.size w u1 := rbel_on hb hw; have P1 : Row u1 w.heap.size [.int .i64 y, .int .i64 m, .int .i64 d, .int .i64 h, .int .i64 i, .int .i64 s] := Row.on hb P0; have k0 := P1.c 0 _ rfl; have k1 := P1.c 1 _ rfl; have k2 := P1.c 2 _ rfl; have k3 := P1.c 3 _ rfl; have k4 := P1.c 4 _ rfl; have k5 := P1.c 5 _ rfl; clear hb))
 clear P0 cP cK c0 c1 c2 c3 c4 c5
 go_region_held (fun w' => w'.cell? ⟨w.heap.size, 3, none⟩ = some (.int .i64 h) ∧ w'.cell? ⟨w.heap.size, 4, none⟩ = some (.int .i64 i) ∧ w'.cell? ⟨w.heap.size, 5, none⟩ = some (.int .i64 s)) (go_keep) (first
  | (go_at_call 133; have cq : Mark 0 := cnt; refine (cH _ (HT.out.below (rbel_dr hw1))).mono ?_; clear cq cnt; have cnt : Mark 1 := .mk _; rintro r u2 ⟨rfl, hb⟩; have hw2 : Below w.heap.size w u2 := rbel_on hb (rbel_dr hw1); have Q0 : Row u2 w.heap.size [.int .i64 y, .int .i64 m, .int .i64 d, .int .i64 h, .int .i64 i, .int .i64 s] := Row.on hb (Row.dr P1); have q0_3 := Q0.c 3 _ rfl; have q0_4 := Q0.c 4 _ rfl; have q0_5 := Q0.c 5 _ rfl; clear hb)
  | (go_at_call 133; have cq : Mark 1 := cnt; refine (cI _ (HT.out.below hw2)).mono ?_; clear cq cnt; have cnt : Mark 2 := .mk _; rintro r u3 ⟨rfl, hb⟩; have hw3 : Below w.heap.size w u3 := rbel_on hb hw2; have Q1 : Row u3 w.heap.size [.int .i64 y, .int .i64 m, .int .i64 d, .int .i64 h, .int .i64 i, .int .i64 s] := Row.on hb Q0; have q1_3 := Q1.c 3 _ rfl; have q1_4 := Q1.c 4 _ rfl; have q1_5 := Q1.c 5 _ rfl; clear hb)
  | (go_at_call 133; have cq : Mark 2 := cnt; refine (cS _ (HT.out.below hw3)).mono ?_; clear cq cnt; have cnt : Mark 3 := .mk _; rintro r u4 ⟨rfl, hb⟩; have hw4 : Below w.heap.size w u4 := rbel_on hb hw3; have Q2 : Row u4 w.heap.size [.int .i64 y, .int .i64 m, .int .i64 d, .int .i64 h, .int .i64 i, .int .i64 s] := Row.on hb Q1; have q2_3 := Q2.c 3 _ rfl; have q2_4 := Q2.c 4 _ rfl; have q2_5 := Q2.c 5 _ rfl; clear hb))
 all_goals
  go_wp2
  go_ret2
  exact ⟨lret E.out, hw4⟩
theorem lprint_any (y m d h i s : Int) (w : World) (he : EnvA w) (ht : EnvT w) (hN : EnvN w) (wy : In64 y) (wm : In64 m) (wd : In64 d) :
  Calls Tryz.prog 96 #[lbl y m d h i s] w fun r w' => r = .returned (.tuple #[.string (if (okD y m d && okH h i s) = true then ltext y m d h i s else ⟨#[]⟩), errc (if (okD y m d && okH h i s) = true then 0 else 1)]) ∧ Below w.heap.size w w' := by
 cases o : okD y m d with
 | false =>
  rw [Bool.false_and, if_neg (by decide), if_neg (by decide), errc_not (by decide)]
  exact lprint_date y m d h i s w he ht wy wm wd o
 | true =>
  rw [Bool.true_and]
  cases o2 : okH h i s with
  | false =>
   rw [if_neg (by decide), if_neg (by decide), errc_not (by decide)]
   exact lprint_hands y m d h i s w he ht hN o o2
  | true =>
   rw [if_pos rfl, if_pos rfl, errc_zero]
   exact lprint_ok y m d h i s w he ht hN o o2
end Go.Proofs.YtadkgnbagmnkkakGreatDoor
namespace Go.Proofs.YtadkgnbagmnkkakGreatDoor
open Go.ChangeShapes Go.WideShapes Go.ChangeAt Go.RowKit
set_option linter.unusedVariables false

def endsTab : List Int := [24, 60, 61]
theorem EnvN.of_cells {w : World} (h : ∀ k, k < endsTab.length → w.cell? ⟨4, k, none⟩ = some (.int .i64 (endsTab.getD k 0))) : EnvN w := ⟨h 0 (by decide), h 1 (by decide), h 2 (by decide)⟩
end Go.Proofs.YtadkgnbagmnkkakGreatDoor
