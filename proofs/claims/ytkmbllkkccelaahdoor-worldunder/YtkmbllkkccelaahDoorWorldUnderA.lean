/- The ways through the law WorldUnder. -/
import Derived.Test.YtkmbllkkccelaahDoorWorldDefD
import Derived.Test.YtkmbllkkccelaahDoorTold
import Derived.Lib.SmallJoins
import Derived.OwnWalk
import Derived.BigQuiet
import Derived.Deep.QuietTactic
import Derived.Deep.RegionWith
import Derived.Deep.CutRange
import Derived.Deep.CutBlock
import Derived.IntWalk
namespace Go.Proofs.YtkmbllkkccelaahDoor.worldUnder
open Go.ChangeShapes Go.WideShapes Go.ChangeAt Go.RowKit Go.Joins Go.Proofs.YtkmbllkkccelaahDoor.told
set_option linter.unusedVariables false
set_option linter.unusedSimpArgs false

set_option maxHeartbeats 400000 in
theorem error_nil4 (w : World) :
    Calls Tryd.prog 7 #[.nilIface, .int .i64 4] w fun e w' => e = .returned (.bool false) ∧ Below w.heap.size w w' := by
  go_enter Tryd.func7, Tryd.ntmps7
  go_wp2_with (go_at_call 21; refine (told_nil _).mono ?_; rintro e u ⟨rfl, hb⟩)
  go_ret
  exact ⟨rfl, hb⟩
/-- The law's letter, and its world with letters under way. -/
def lU : Lt := ⟨0, 1, false, 0, 0, 0⟩
def uS (i : Nat) : Ws := { ws0 2 (fun _ => 0) (fun _ => 0) with under := List.replicate (min i 40) lU }
theorem uS_len (i : Nat) : (uS i).under.length = min i 40 := by simp [uS]
theorem uS_rd (i : Nat) : (uS i).rd (0 : Int).toNat = 0 := by simp [uS, Ws.rd, ws0]
theorem hs01 (i : Nat) : (uS i).hs 0 ∧ (uS i).hs 1 := ⟨⟨by decide, by show (0 : Int) < 2; decide⟩, ⟨by decide, by show (1 : Int) < 2; decide⟩⟩
theorem uS_ask {i : Nat} (h : i < 40) : DoR (uS i) 2 0 1 (uS (i + 1)) none 0 := by
  refine Or.inr (Or.inr (Or.inr (Or.inr (Or.inr (Or.inl ⟨rfl, hs01 i, by decide, by rw [uS_len]; omega, ?_, rfl, rfl⟩)))))
  rw [uS_rd]
  have e1 : min i 40 = i := by omega
  have e2 : min (i + 1) 40 = i + 1 := by omega
  simp [uS, e1, e2, List.replicate_succ', lU]
theorem uS_full {i : Nat} (h : ¬ i < 40) : DoR (uS i) 2 0 1 (uS (i + 1)) none 4 := by
  refine Or.inr (Or.inr (Or.inr (Or.inr (Or.inl ⟨rfl, hs01 i, by decide, by rw [uS_len]; omega, ?_, rfl, rfl⟩))))
  have e1 : min i 40 = 40 := by omega
  have e2 : min (i + 1) 40 = 40 := by omega
  simp [uS, e1, e2]
theorem beU : BeE 2 (fun _ => 0) 2 (fun _ => 0) 0 0 := Or.inr (Or.inr (Or.inr ⟨by omega, rfl, fun i hi => by simp, rfl⟩))
theorem row2 {W : World} {B : Nat} (r : Row W B [.int .i64 0, .int .i64 0]) : NHanded W (some ⟨B, 0, none⟩) 2 (fun _ => 0) := ⟨by omega, Or.inr ⟨B, 0, rfl, fun i hi => by
  have : i = 0 ∨ i = 1 := by omega
  rcases this with rfl | rfl
  · exact r.c 0 _ rfl
  · exact r.c 1 _ rfl⟩⟩
set_option maxRecDepth 100000 in
set_option maxHeartbeats 40000000 in
theorem all_ways (k x : Int) (w : World) (hg : EnvE w) (C : WpD w) (hk : In64 k) (hx : In64 x) :
    Calls Tryd.prog 3 #[.int .i64 k, .int .i64 x] w fun o w' => o = .returned (.bool true) ∧ Below w.heap.size w w' := by
  have HE : Hid (∀ u, Below w.heap.size w u → EnvE u) := fun u hu => hg.below hu
  have HX : Hid (In64 x) := hx
  have cN : Hid (Calls Tryd.prog 5 #[.slice (some ⟨w.heap.size, 0, none⟩) 2 2, .slice (some ⟨w.heap.size + 1, 0, none⟩) 2 2, .int .i64 0] ((w.alloc (.cells #[.int .i64 0, .int .i64 0] 3)).alloc (.cells #[.int .i64 0, .int .i64 0] 3)) fun o w' => ∃ b F, o = .returned (.tuple #[.pointer (some ⟨b, 0, none⟩), .nilIface]) ∧ Dwd w C w' b F (uS 0)) := Dwd.made C (rbel_al (rbel_al (Below.refl _ _))) (row2 (Row.al (Row.made (vs := [.int .i64 0, .int .i64 0]) rfl))) (row2 (Row.made (vs := [.int .i64 0, .int .i64 0]) (by simp))) (by decide) beU
  clear hg hx
  by_cases hk0 : 0 ≤ k ∧ k ≤ 45
  case neg =>
    have hk1 : k < 0 ∨ (¬ k < 0 ∧ 45 < k) := by omega
    clear HE HX hk0
    rcases hk1 with h1 | ⟨h0, h1⟩
    · have d1 : decide (k < 0) = true := decide_eq_true h1
      go_enter Tryd.func3, Tryd.ntmps3
      go_wp2_with (go_at_call 5; refine cN.out.mono ?_; rintro o u0 ⟨b, F, rfl, hd⟩; have HW : Hid (Below w.heap.size w u0) := hd.hw; clear hd)
      go_ret
      exact ⟨rfl, HW.out⟩
    · have d0 : decide (k < 0) = false := decide_eq_false h0
      have d1 : decide (45 < k) = true := decide_eq_true h1
      go_enter Tryd.func3, Tryd.ntmps3
      go_wp2_with (go_at_call 5; refine cN.out.mono ?_; rintro o u0 ⟨b, F, rfl, hd⟩; have HW : Hid (Below w.heap.size w u0) := hd.hw; clear hd)
      go_ret
      exact ⟨rfl, HW.out⟩
  obtain ⟨n, rfl⟩ : ∃ n : Nat, k = n := ⟨k.toNat, by omega⟩
  have n45 : n ≤ 45 := by omega
  have d0 : decide ((n : Int) < 0) = false := decide_eq_false (by omega)
  have d1 : decide (45 < (n : Int)) = false := decide_eq_false (by omega)
  have d0' : ¬ ((n : Int) < 0) := by omega
  have d1' : ¬ (45 < (n : Int)) := by omega
  go_enter Tryd.func3, Tryd.ntmps3
  go_wp2_with (go_at_call 5; refine cN.out.mono ?_; rintro o u0 ⟨b, F, rfl, hd⟩; have G0 : Hid (Dwd w C u0 b F (uS 0)) := hd; clear hd)
  clear cN
  go_loopw [7, 8, 9, 10] (fun vi _ _ _ wr => ∃ (i : Nat) (F : Nat → Prop), i ≤ n ∧ vi = .int .i64 i ∧ Dwd w C wr b F (uS i)) (fun i _ _ _ _ => n - (intOf i).toNat)
  case atStart => exact ⟨0, F, Nat.zero_le _, rfl, G0.out⟩
  case round =>
    clear G0
    obtain ⟨i, F, hi, rfl, hd⟩ := hrel
    have G : Hid (Dwd w C wr b F (uS i)) := hd
    clear hd
    by_cases hin : i < n
    · have hl : (i : Int) < n := by omega
      have dl : decide ((i : Int) < n) = true := decide_eq_true hl
      by_cases h40 : i < 40
      · have l40 : (i : Int) < 40 := by omega
        have e40 : decide ((i : Int) < 40) = true := decide_eq_true l40
        have g40 : ¬ (40 ≤ (i : Int)) := by omega
        have f40 : decide (40 ≤ (i : Int)) = false := decide_eq_false g40
        have cD := G.out.act (by decide) (by decide) (by decide) (uS_ask h40)
        rw [errc_zero] at cD
        go_wp2_with (first
          | (go_at_call 6; refine cD.mono ?_; rintro o x1 ⟨pv, F1, rfl, _, hd, _, _⟩; have G1 : Hid (Dwd w C x1 b F1 (uS (i + 1))) := hd; clear hd)
          | (go_at_call 7; refine (error_nil4 _).mono ?_; rintro o x2 ⟨rfl, hb⟩; have G2 : Hid (Dwd w C x2 b F1 (uS (i + 1))) := G1.out.on hb; clear hb))
        go_roundw
        case rel => exact ⟨i + 1, F1, by omega, by go_num, G2.out⟩
        case measure => simp [intOf]; omega
      · have l40 : ¬ ((i : Int) < 40) := by omega
        have e40 : decide ((i : Int) < 40) = false := decide_eq_false l40
        have g40 : 40 ≤ (i : Int) := by omega
        have f40 : decide (40 ≤ (i : Int)) = true := decide_eq_true g40
        have cD := G.out.act (by decide) (by decide) (by decide) (uS_full h40)
        rw [errc_not (by decide)] at cD
        go_wp2_with (first
          | (go_at_call 6; refine cD.mono ?_; rintro o x1 ⟨pv, F1, rfl, _, hd, _, _⟩; have G1 : Hid (Dwd w C x1 b F1 (uS (i + 1))) := hd; clear hd)
          | (go_at_call 7; refine (error_errno 4 _ (HE.out _ G1.out.hw)).mono ?_; rintro o x2 ⟨rfl, hb⟩; have G2 : Hid (Dwd w C x2 b F1 (uS (i + 1))) := G1.out.on hb; clear hb))
        go_roundw
        case rel => exact ⟨i + 1, F1, by omega, by go_num, G2.out⟩
        case measure => simp [intOf]; omega
    · have hl : ¬ ((i : Int) < n) := by omega
      have dl : decide ((i : Int) < n) = false := decide_eq_false hl
      have e' : n = i := by omega
      subst e'
      clear hin hi
      obtain ⟨M, hM⟩ : ∃ M, M = min n 40 := ⟨_, rfl⟩
      have cU : Hid (∀ u F, Dwd w C u b F (uS n) → Calls Tryd.prog 8 #[.pointer (some ⟨b, 0, none⟩)] u fun o w' => ∃ (la : Option Addr) (cap : Nat), o = .returned (.slice la M cap) ∧ Below u.heap.size u w') := fun u F g => (C.way b F (uS n) u g.h g.i).mono (by
        rintro o w' ⟨la, cap, rfl, _, hb⟩
        exact ⟨la, cap, by rw [uS_len, hM], hb⟩)
      by_cases hx : 0 ≤ x ∧ x < M
      case neg =>
        have hD : DoR (uS n) 5 x 0 (uS n) none 5 := Or.inr (Or.inr (Or.inr (Or.inr (Or.inr (Or.inr (Or.inl ⟨Or.inr (Or.inr rfl), by rw [uS_len, ← hM]; omega, rfl, rfl, rfl⟩))))))
        have cD : Hid (∀ u F, Dwd w C u b F (uS n) → Calls Tryd.prog 6 #[.pointer (some ⟨b, 0, none⟩), .agg #[.int .i64 5, .int .i64 x, .int .i64 0]] u fun o w' => ∃ pv, o = .returned (.tuple #[pv, .iface 54 (.int .i64 5)]) ∧ Below w.heap.size w w') := fun u F g => (g.act (by decide) HX.out (by decide) hD).mono (by
          rintro o w' ⟨pv, F', rfl, _, h, _, _⟩
          exact ⟨pv, by rw [errc_not (by decide)], h.hw⟩)
        have hx2 : x < 0 ∨ (¬ x < 0 ∧ (M : Int) ≤ x) := by omega
        have hM2 : (((M : Int) == n) = true) ∨ (((M : Int) == n) = false ∧ decide (40 < (n : Int)) = true ∧ ((M : Int) == 40) = true) := by
          by_cases c : n ≤ 40
          · exact Or.inl (by simp; omega)
          · exact Or.inr ⟨by simp; omega, by simp; omega, by simp; omega⟩
        clear hx hD hM HX
        rcases hx2 with hx3 | ⟨hx4, hx3⟩
        · have dx : decide (x < 0) = true := decide_eq_true hx3
          rcases hM2 with q1 | ⟨q1, q2, q3⟩
          all_goals
            go_wp2_with (first
              | (go_at_call 8; refine (cU.out _ _ G.out).mono ?_; rintro o x1 ⟨la, cap, rfl, hb⟩; have G1 : Hid (Dwd w C x1 b F (uS n)) := G.out.on hb; clear hb)
              | (go_at_call 6; refine (cD.out _ _ G1.out).mono ?_; rintro o x2 ⟨pv, rfl, hb⟩; have W2 : Hid (Below w.heap.size w x2) := hb; clear hb)
              | (go_at_call 7; refine (error_errno 5 _ (HE.out _ W2.out)).mono ?_; rintro o x3 ⟨rfl, hb⟩; have W3 : Hid (Below w.heap.size w x3) := rbel_on hb W2.out; clear hb))
            go_ret
            exact ⟨rfl, W3.out⟩
        · have dx : decide (x < 0) = false := decide_eq_false hx4
          have dy : decide ((M : Int) ≤ x) = true := decide_eq_true hx3
          rcases hM2 with q1 | ⟨q1, q2, q3⟩
          all_goals
            go_wp2_with (first
              | (go_at_call 8; refine (cU.out _ _ G.out).mono ?_; rintro o x1 ⟨la, cap, rfl, hb⟩; have G1 : Hid (Dwd w C x1 b F (uS n)) := G.out.on hb; clear hb)
              | (go_at_call 6; refine (cD.out _ _ G1.out).mono ?_; rintro o x2 ⟨pv, rfl, hb⟩; have W2 : Hid (Below w.heap.size w x2) := hb; clear hb)
              | (go_at_call 7; refine (error_errno 5 _ (HE.out _ W2.out)).mono ?_; rintro o x3 ⟨rfl, hb⟩; have W3 : Hid (Below w.heap.size w x3) := rbel_on hb W2.out; clear hb))
            go_ret
            exact ⟨rfl, W3.out⟩
      have hD : DoR (uS n) 5 x 0 (uS n) (some lU) 0 := Or.inr (Or.inr (Or.inr (Or.inr (Or.inr (Or.inr (Or.inr (Or.inr (Or.inr (Or.inl ⟨rfl, by rw [uS_len, ← hM]; omega, rfl, by
        simp only [uS]
        rw [List.getElem?_replicate, if_pos (by omega)], rfl⟩)))))))))
      have cD : Hid (∀ u F, Dwd w C u b F (uS n) → Calls Tryd.prog 6 #[.pointer (some ⟨b, 0, none⟩), .agg #[.int .i64 5, .int .i64 x, .int .i64 0]] u fun o w' => ∃ g F', o = .returned (.tuple #[.pointer (some ⟨g, 0, none⟩), .nilIface]) ∧ Row w' g (ltc lU) ∧ Dwd w C w' b F' (uS n)) := fun u F g => (g.act (by decide) HX.out (by decide) hD).mono (by
        rintro o w' ⟨pv, F', rfl, hc, h, _, _⟩
        rcases hc with ⟨e, _⟩ | ⟨l, g', e, rfl, hr, _, _⟩
        · cases e
        · cases e
          exact ⟨g', F', by rw [errc_zero], hr, h⟩)
      obtain ⟨S2, hD2, hS2⟩ : ∃ S2, DoR (uS n) 4 x 0 S2 none 0 ∧ S2.under.length = M - 1 := ⟨_, Or.inr (Or.inr (Or.inr (Or.inr (Or.inr (Or.inr (Or.inr (Or.inr (Or.inl ⟨rfl, by rw [uS_len, ← hM]; omega, rfl, rfl, rfl⟩)))))))), by
        show ((uS n).under.eraseIdx x.toNat).length = M - 1
        rw [List.length_eraseIdx, uS_len, ← hM, if_pos (by omega)]⟩
      obtain ⟨M', hM'⟩ : ∃ M', M = M' + 1 := ⟨M - 1, by omega⟩
      have cL : Hid (∀ u F, Dwd w C u b F (uS n) → Calls Tryd.prog 6 #[.pointer (some ⟨b, 0, none⟩), .agg #[.int .i64 4, .int .i64 x, .int .i64 0]] u fun o w' => ∃ pv F', o = .returned (.tuple #[pv, .nilIface]) ∧ Dwd w C w' b F' S2) := fun u F g => (g.act (by decide) HX.out (by decide) hD2).mono (by
        rintro o w' ⟨pv, F', rfl, hc, h, _, _⟩
        exact ⟨pv, F', by rw [errc_zero], h⟩)
      have cU2 : Hid (∀ u F, Dwd w C u b F S2 → Calls Tryd.prog 8 #[.pointer (some ⟨b, 0, none⟩)] u fun o w' => ∃ (la : Option Addr) (cap : Nat), o = .returned (.slice la M' cap) ∧ Below u.heap.size u w') := fun u F g => (C.way b F S2 u g.h g.i).mono (by
        rintro o w' ⟨la, cap, rfl, _, hb⟩
        exact ⟨la, cap, by rw [hS2, hM']; rfl, hb⟩)
      have dx' : ¬ x < 0 := by omega
      have dx : decide (x < 0) = false := decide_eq_false dx'
      have dy' : ¬ ((M : Int) ≤ x) := by omega
      have dy : decide ((M : Int) ≤ x) = false := decide_eq_false dy'
      have wm : IntKind.i64.wrap ((M : Int) - 1) = (M' : Int) := by rw [IntWalk.i64_in _ (by omega)]; omega
      have qm : ((M' : Int) == (M : Int) - 1) = true := by simp; omega
      have m45 : M ≤ 45 := by omega
      clear hx hD hD2 hS2 hM HX hM' HE
      have cnt : Mark 0 := .mk _
      go_wp2_with (first
        | (go_at_call 8; have cq : Mark 0 := cnt; refine (cU.out _ _ G.out).mono ?_; clear cq cnt; have cnt : Mark 1 := .mk _; rintro o x1 ⟨la, cap, rfl, hb⟩; have G1 : Hid (Dwd w C x1 b F (uS n)) := G.out.on hb; clear hb)
        | (go_at_call 6; have cq : Mark 1 := cnt; refine (cD.out _ _ G1.out).mono ?_; clear cq cnt; have cnt : Mark 2 := .mk _; rintro o x2 ⟨g, F2, rfl, hr, hd⟩; have R2 : Hid (Row x2 g (ltc lU)) := hr; have G2 : Hid (Dwd w C x2 b F2 (uS n)) := hd; clear hr hd)
        | (go_at_call 8; have cq : Mark 2 := cnt; refine (cU.out _ _ G2.out).mono ?_; clear cq cnt; have cnt : Mark 3 := .mk _; rintro o x3 ⟨la3, cap3, rfl, hb⟩; have G3 : Hid (Dwd w C x3 b F2 (uS n)) := G2.out.on hb; have c3 : x3.cell? ⟨g, 1, none⟩ = some (.int .i64 1) := (Row.on hb R2.out).c 1 _ rfl; clear hb)
        | (go_at_call 6; have cq : Mark 3 := cnt; refine (cL.out _ _ G3.out).mono ?_; clear cq cnt; have cnt : Mark 4 := .mk _; rintro o x4 ⟨pv, F4, rfl, hd⟩; have G4 : Hid (Dwd w C x4 b F4 S2) := hd; clear hd)
        | (go_at_call 8; have cq : Mark 4 := cnt; refine (cU2.out _ _ G4.out).mono ?_; clear cq cnt; have cnt : Mark 5 := .mk _; rintro o x5 ⟨la5, cap5, rfl, hb⟩; have W5 : Hid (Below w.heap.size w x5) := rbel_on hb G4.out.hw; clear hb))
      go_ret
      exact ⟨rfl, W5.out⟩
end Go.Proofs.YtkmbllkkccelaahDoor.worldUnder
