/- From what package leap must answer to the law LeapBack. -/
import Derived.Test.YthaajbdppmdhaadDoorLeapBackA
import Derived.Test.YthaajbdppmdhaadDoorLeapBackB
import Derived.Test.YthaajbdppmdhaadDoorLeapBackC1
import Derived.Lib.Strings
namespace Go.Proofs.YthaajbdppmdhaadDoor.leapBack
open Go.ChangeShapes Go.WideShapes Go.ChangeAt Go.RowKit
set_option linter.unusedVariables false

def q1 : Nat → Int × Bool := fun _ => (1, true)
theorem q1_lE : lE q1 1 = 0 := by decide +kernel
theorem q1_in : inS q1 1 172800 := by unfold inS; decide +kernel
theorem q1_utc : UtcL q1 1 172800 1970 1 2 23 59 60 := by
  refine ⟨by decide +kernel, ?_, by decide +kernel, by decide +kernel, by decide +kernel⟩
  rw [show dnum 1970 1 2 = 1 by decide +kernel]
  unfold IsDay
  decide +kernel
theorem q1_handed {u : World} {b : Nat} (h : Row u b [.int .i64 1, .bool true]) : LHanded u (some ⟨b, 0, none⟩) 1 q1 :=
  ⟨by omega, Or.inr ⟨b, 0, rfl, fun i hi => by
    obtain rfl : i = 0 := by omega
    exact ⟨h.c 0 _ rfl, h.c 1 _ rfl⟩⟩⟩
theorem h64 {h i s : Int} (o : okH h i s = true) : In64 h ∧ In64 i ∧ In64 s := by
  obtain ⟨o1, o2, o3, o4, o5, o6⟩ := okH_t o
  exact ⟨WalkArith.wf_i64 (by omega), WalkArith.wf_i64 (by omega), WalkArith.wf_i64 (by omega)⟩
theorem print_lab {w : World} (LT : LpT w) {y m d h i s : Int} (ok : okD y m d = true) (oh : okH h i s = true) : ∀ u, Below w.heap.size w u → Calls Tryd.prog 7 #[lbl y m d h i s] u fun r w' => r = .returned (.tuple #[.string (ltext y m d h i s), .nilIface]) ∧ Below u.heap.size u w' := fun u hu => by
  obtain ⟨a, b, c⟩ := ok64 ok
  obtain ⟨a', b', c'⟩ := h64 oh
  have k := LT.print y m d h i s u hu a b c a' b' c'
  rw [ok, oh] at k
  exact k
theorem parse_lab {w : World} (LT : LpT w) {y m d h i s : Int} (ok : okD y m d = true) (oh : okH h i s = true) : ∀ u, Below w.heap.size w u → Calls Tryd.prog 6 #[.string (ltext y m d h i s)] u fun r w' => r = .returned (.tuple #[lbl y m d h i s, .nilIface]) ∧ Below u.heap.size u w' := fun u hu =>
  LT.parse _ y m d h i s 0 u hu (by rw [ltext_size]; decide) (ltext_read ok oh)
/-- What is known of a second that there is. -/
theorem known {w : World} (L : Lp w) (LS : LpS w) (LT : LpT w) {a : Option Addr} {n cap : Nat} {q : Nat → Int × Bool} (hH : LHanded w a n q) {N : Int} (wN : In64 N) (z : lE q n = 0) (x : inS q n N) {y m d h i s sm : Int} (hU : UtcL q n N y m d h i s) (hS : Smr q n N sm) :
    (∀ u, Below w.heap.size w u → Calls Tryd.prog 5 #[.slice a n cap, .int .i64 N] u fun r w' => r = .returned (.tuple #[lbl y m d h i s, .nilIface]) ∧ Below u.heap.size u w') ∧
    (∀ u, Below w.heap.size w u → Calls Tryd.prog 8 #[.slice a n cap, lbl y m d h i s] u fun r w' => r = .returned (.tuple #[.int .i64 N, .nilIface]) ∧ Below u.heap.size u w') ∧
    (∀ u, Below w.heap.size w u → Calls Tryd.prog 9 #[.slice a n cap, .int .i64 N] u fun r w' => r = .returned (.tuple #[.int .i64 sm, .nilIface]) ∧ Below u.heap.size u w') := by
  have hL := lps_of z
  obtain ⟨ok, oh, _, _⟩ := hU.hands hL
  obtain ⟨a1, b1, c1⟩ := ok64 ok
  obtain ⟨a2, b2, c2⟩ := h64 oh
  exact ⟨fun u hu => L.utc a n cap q N y m d h i s 0 u hu (hH.on hu) wN (Or.inr ⟨z, x, rfl, hU⟩),
    fun u hu => LT.tai a n cap q y m d h i s N 0 u hu (hH.on hu) a1 b1 c1 a2 b2 c2 (Or.inr ⟨z, hU.tai hL⟩),
    fun u hu => LS.smear a n cap q N sm 0 u hu (hH.on hu) wN (Or.inr ⟨z, x, rfl, hS⟩)⟩
/-- The text of a label. -/
theorem okT_t {t : ByteArray} (o : okT t = true) : okD (yr (t.extract 0 10)) (mo (t.extract 0 10)) (da (t.extract 0 10)) = true ∧ okH (hr t) (mi t) (se t) = true := by
  unfold okT at o
  rw [Bool.and_eq_true] at o
  exact o
theorem out_err {q : Nat → Int × Bool} {n : Nat} {N : Int} (h : ¬ (lE q n = 0 ∧ inS q n N)) : ∃ e, e ≠ 0 ∧ sE q n N e := by
  by_cases z : lE q n = 0
  · exact ⟨1, by decide, Or.inr ⟨z, fun x => h ⟨z, x⟩, rfl⟩⟩
  · exact ⟨_, z, Or.inl ⟨z, rfl⟩⟩
set_option maxHeartbeats 2000000 in
theorem all_ways (a : Option Addr) (n cap : Nat) (q : Nat → Int × Bool) (N M : Int) (t : ByteArray) (w : World) (L : Lp w) (LS : LpS w) (LT : LpT w) (hH : LHanded w a n q) (wN : In64 N) (wM : In64 M) (ht : t.size ≤ maxLen)
    (cN : ∀ (y m d : Int) (u : World), Below w.heap.size w u → okD y m d = true → Calls Tryd.prog 10 #[.agg #[.int .i64 y, .int .i64 m, .int .i64 d]] u fun e w' => e = .returned (.tuple #[.int .i64 (dnum y m d), .nilIface]) ∧ Below u.heap.size u w') :
    Calls Tryd.prog 3 #[.slice a n cap, .int .i64 N, .int .i64 M, .string t] w fun e w' => e = .returned (.bool true) ∧ Below w.heap.size w w' := by
  have kF : ∀ u, Below w.heap.size w u → Row u w.heap.size [.int .i64 1, .bool true] → Calls Tryd.prog 5 #[.slice (some ⟨w.heap.size, 0, none⟩) 1 1, .int .i64 172800] u fun e w' => e = .returned (.tuple #[lbl 1970 1 2 23 59 60, .nilIface]) ∧ Below u.heap.size u w' := fun u hu hr => L.utc _ 1 1 q1 172800 1970 1 2 23 59 60 0 u hu (q1_handed hr) (by decide) (Or.inr ⟨q1_lE, q1_in, rfl, q1_utc⟩)
  obtain ⟨py, pm, pd, ph, pi, ps, e0, hR⟩ := rl_some t
  have kP := fun u (hu : Below w.heap.size w u) => LT.parse t py pm pd ph pi ps e0 u hu ht hR
  have kPP : e0 = 0 → ∀ u, Below w.heap.size w u → Calls Tryd.prog 7 #[lbl py pm pd ph pi ps] u fun r w' => r = .returned (.tuple #[.string t, .nilIface]) ∧ Below u.heap.size u w' := fun z => by
    rcases hR with ⟨_, k, _⟩ | ⟨_, _, k, _⟩ | ⟨sh, o, _, e1, e2, e3, e4, e5, e6⟩
    · rw [k] at z; cases z
    · rw [k] at z; cases z
    · obtain ⟨o1, o2⟩ := okT_t o
      have k := print_lab LT o1 o2
      rw [lread_text sh] at k
      rw [e1, e2, e3, e4, e5, e6]
      exact k
  by_cases g : lE q n = 0 ∧ inS q n N
  · obtain ⟨z, x⟩ := g
    have hL := lps_of z
    have h20 := (lE_zero z).1
    obtain ⟨y, m, d, h, i, s, hU⟩ := utc_some hL x
    obtain ⟨sa, hS⟩ := smr_some hL N x.1 x.2
    obtain ⟨ok, oh, ol, es⟩ := hU.hands hL
    obtain ⟨kU, kT, kS⟩ := known L LS LT hH (cap := cap) wN z x hU hS
    have kPr := print_lab LT ok oh
    have kPa := parse_lab LT ok oh
    -- the second one
    have later : ∀ (hlt : N < M) (x' : inS q n M) {y' m' d' h' i' s' sb : Int}, UtcL q n M y' m' d' h' i' s' → Smr q n M sb → okD y' m' d' = true → okH h' i' s' = true → sa ≤ sb ∧ Op.bytesLess (ltext y' m' d' h' i' s').toList (ltext y m d h i s).toList = false ∧ ((ltext y' m' d' h' i' s').toList == (ltext y m d h i s).toList) = false := by
      intro hlt x' y' m' d' h' i' s' sb hU' hS' ok' oh'
      have bl := ltext_less ok ok' oh oh' (hU.later hL hU' hlt)
      refine ⟨smr_mono hL (by omega) hS hS', ?_, ?_⟩
      · rw [Lib.toList_data, Lib.toList_data]; exact bl_asym _ _ bl
      · rw [Lib.toList_data, Lib.toList_data]
        apply Bool.eq_false_iff.2
        intro k
        rw [eq_of_beq k, bl_irr] at bl
        cases bl
    by_cases s60 : s = 60
    · obtain ⟨rfl, rfl, k, hk, k1, k2⟩ := hU.sixty hL s60
      subst s60
      obtain ⟨b, off, rfl, hP⟩ : ∃ b off : Nat, a = some ⟨b, off, none⟩ ∧ Lsp w b off n q := by
        rcases hH.2 with e | h
        · omega
        · exact h
      have hh : hasL q n (dnum y m d) = true := hasL_at k1 k2 n hk
      have kN := fun u (hu : Below w.heap.size w u) => cN y m d u hu ok
      by_cases g' : lE q n = 0 ∧ inS q n M
      · obtain ⟨_, x'⟩ := g'
        obtain ⟨y', m', d', h', i', s', hU'⟩ := utc_some hL x'
        obtain ⟨sb, hS'⟩ := smr_some hL M x'.1 x'.2
        obtain ⟨ok', oh', _, _⟩ := hU'.hands hL
        obtain ⟨kM, _, kSb⟩ := known L LS LT hH (cap := cap) wM z x' hU' hS'
        by_cases c : M ≤ N
        · by_cases h0 : e0 = 0
          · subst h0
            exact not_ok60 b off q n cap N M py pm pd ph pi ps t y m d sa _ (dnum y m d) y' m' d' h' i' s' w kF kP (kPP rfl) kU kT kS kPr kPa h20 hP hh kN kM c
          · rw [errc_not h0] at kP
            exact not_no60 b off q n cap N M py pm pd ph pi ps t e0 y m d sa _ (dnum y m d) y' m' d' h' i' s' w kF kP kU kT kS kPr kPa h20 hP hh kN kM c
        · obtain ⟨l1, l2, l3⟩ := later (by omega) x' hU' hS' ok' oh'
          by_cases h0 : e0 = 0
          · subst h0
            exact later_ok60 b off q n cap N M py pm pd ph pi ps t y m d sa _ (dnum y m d) y' m' d' h' i' s' sb _ w kF kP (kPP rfl) kU kT kS kPr kPa h20 hP hh kN kM (by omega) l1 l2 l3 kSb (print_lab LT ok' oh')
          · rw [errc_not h0] at kP
            exact later_no60 b off q n cap N M py pm pd ph pi ps t e0 y m d sa _ (dnum y m d) y' m' d' h' i' s' sb _ w kF kP kU kT kS kPr kPa h20 hP hh kN kM (by omega) l1 l2 l3 kSb (print_lab LT ok' oh')
      · obtain ⟨e2, ne, sx⟩ := out_err g'
        have kM := fun u (hu : Below w.heap.size w u) => L.utc (some ⟨b, off, none⟩) n cap q M 0 0 0 0 0 0 e2 u hu (hH.on hu) wM (Or.inl ⟨sx, rfl, rfl, rfl, rfl, rfl, rfl⟩)
        rw [errc_not ne] at kM
        by_cases h0 : e0 = 0
        · subst h0
          exact err_ok60 b off q n cap N M py pm pd ph pi ps t y m d sa _ (dnum y m d) e2 w kF kP (kPP rfl) kU kT kS kPr kPa h20 hP hh kN kM
        · rw [errc_not h0] at kP
          exact err_no60 b off q n cap N M py pm pd ph pi ps t e0 y m d sa _ (dnum y m d) e2 w kF kP kU kT kS kPr kPa h20 hP hh kN kM
    · have n60 : (s == 60) = false := by simpa using s60
      by_cases g' : lE q n = 0 ∧ inS q n M
      · obtain ⟨_, x'⟩ := g'
        obtain ⟨y', m', d', h', i', s', hU'⟩ := utc_some hL x'
        obtain ⟨sb, hS'⟩ := smr_some hL M x'.1 x'.2
        obtain ⟨ok', oh', _, _⟩ := hU'.hands hL
        obtain ⟨kM, _, kSb⟩ := known L LS LT hH (cap := cap) wM z x' hU' hS'
        by_cases c : M ≤ N
        · by_cases h0 : e0 = 0
          · subst h0
            exact not_ok a n cap N M py pm pd ph pi ps t y m d h i s sa _ y' m' d' h' i' s' w kF kP (kPP rfl) n60 kU kT kS kPr kPa kM c
          · rw [errc_not h0] at kP
            exact not_no a n cap N M py pm pd ph pi ps t e0 y m d h i s sa _ y' m' d' h' i' s' w kF kP n60 kU kT kS kPr kPa kM c
        · obtain ⟨l1, l2, l3⟩ := later (by omega) x' hU' hS' ok' oh'
          by_cases h0 : e0 = 0
          · subst h0
            exact later_ok a n cap N M py pm pd ph pi ps t y m d h i s sa _ y' m' d' h' i' s' sb _ w kF kP (kPP rfl) n60 kU kT kS kPr kPa kM (by omega) l1 l2 l3 kSb (print_lab LT ok' oh')
          · rw [errc_not h0] at kP
            exact later_no a n cap N M py pm pd ph pi ps t e0 y m d h i s sa _ y' m' d' h' i' s' sb _ w kF kP n60 kU kT kS kPr kPa kM (by omega) l1 l2 l3 kSb (print_lab LT ok' oh')
      · obtain ⟨e2, ne, sx⟩ := out_err g'
        have kM := fun u (hu : Below w.heap.size w u) => L.utc a n cap q M 0 0 0 0 0 0 e2 u hu (hH.on hu) wM (Or.inl ⟨sx, rfl, rfl, rfl, rfl, rfl, rfl⟩)
        rw [errc_not ne] at kM
        by_cases h0 : e0 = 0
        · subst h0
          exact err_ok a n cap N M py pm pd ph pi ps t y m d h i s sa _ e2 w kF kP (kPP rfl) n60 kU kT kS kPr kPa kM
        · rw [errc_not h0] at kP
          exact err_no a n cap N M py pm pd ph pi ps t e0 y m d h i s sa _ e2 w kF kP n60 kU kT kS kPr kPa kM
  · obtain ⟨e1, ne, sx⟩ := out_err g
    have kU := fun u (hu : Below w.heap.size w u) => L.utc a n cap q N 0 0 0 0 0 0 e1 u hu (hH.on hu) wN (Or.inl ⟨sx, rfl, rfl, rfl, rfl, rfl, rfl⟩)
    rw [errc_not ne] at kU
    by_cases h0 : e0 = 0
    · subst h0
      exact out_ok a n cap N M py pm pd ph pi ps t e1 w kF kP (kPP rfl) kU
    · rw [errc_not h0] at kP
      exact out_no a n cap N M py pm pd ph pi ps t e0 e1 w kF kP kU
end Go.Proofs.YthaajbdppmdhaadDoor.leapBack
