/- What the document's own reckoning (package noonref1) answers of leaps: Long, More, Begin, DayOf. What the document's own reckoning (package noonref1) answers of leaps: Second, Utc. What the document's own reckoning (package noonref1) answers of labels: Hands, Tai. What the document's own reckoning (package noonref1) answers of leaps: Leaps. What the document's own reckoning (package noonref1) answers of smeared time: Smear. What the document's own reckoning (package noonref1) answers: Smear of any leaps, LabelText. What the document's own reckoning (package noonref1) answers of texts: ReadLabel. -/
import Derived.Test.YthaajbdppmdhaacDoorLeapSpn
import Derived.WalkKit
import Derived.ProofKit
import Derived.OpenShut
import Derived.Outline
import Derived.IntWalk
import Derived.Below
import Derived.WalkLawsBesides
import Derived.BigQuiet
import Derived.Test.YthaajbdppmdhaacDoorCivilRefs
import Derived.Test.YthaajbdppmdhaacDoorLeapText
import Derived.Deep.RegionWith
import Derived.Deep.RegionHeld
import Derived.Test.YthaajbdppmdhaacDoorLeapLp
namespace Go.Proofs.YthaajbdppmdhaacDoor
open Go.ChangeShapes Go.WideShapes Go.ChangeAt Go.RowKit
set_option linter.unusedVariables false
set_option linter.unusedSimpArgs false

theorem lne_b {a b : Int} (h : ¬ a = b) : (a == b) = false := by simpa using h
set_option maxHeartbeats 2000000 in
theorem rlong_row (b off n cap : Nat) (q : Nat → Int × Bool) (d : Int) (w : World) (h20 : n ≤ 20) (hL : Lps q n) (hP : Lsp w b off n q) :
    Calls Tryd.prog 65 #[.slice (some ⟨b, off, none⟩) n cap, .int .i64 d] w fun e w' => e = .returned (.int .i64 (lng q n d)) ∧ w' = w := by
  have LA : Hid (∀ i, i < n → (q i).1 = d → lng q n d = 86400 + sgn (q i).2) := fun i hi e => by
    have := lj_at n hL i hi
    unfold lng; rw [← e, this]
  have LN : Hid ((∀ i, i < n → (q i).1 ≠ d) → lng q n d = 86400) := fun h => by unfold lng; rw [lj_none d n h]; rfl
  clear hL
  go_enter Tryd.func65, Tryd.ntmps65
  go_wp2
  go_loopw [5] (fun i wr => ∃ k : Nat, k ≤ n ∧ i = .int .i64 k ∧ wr = w ∧ ∀ i, i < k → (q i).1 ≠ d) (fun i _ => n - (intOf i).toNat)
  case atStart => exact ⟨0, Nat.zero_le _, rfl, rfl, fun i hi => by omega⟩
  case round =>
    obtain ⟨k, hk, rfl, rfl, hno⟩ := hrel
    have HN : Hid (∀ i, i < k → (q i).1 ≠ d) := hno
    clear hno
    by_cases hlt : k < n
    · obtain ⟨x0, x1⟩ := hP k hlt
      clear hP
      by_cases c : (q k).1 = d
      · have R := LA.out k hlt c
        have R : Hid (lng q n d = 86400 + sgn (q k).2) := R
        rw [c] at x0
        cases hb : (q k).2 with
        | true =>
          rw [hb] at x1 R
          clear c
          go_wp2
          go_ret
          exact ⟨by rw [R.out]; rfl, rfl⟩
        | false =>
          rw [hb] at x1 R
          clear c
          go_wp2
          go_ret
          exact ⟨by rw [R.out]; rfl, rfl⟩
      · have c2 := lne_b c
        go_wp2
        go_roundw
        case rel => exact ⟨k + 1, by omega, by go_num, trivial, fun i hi => by
          by_cases e : i = k
          · rw [e]; exact c
          · exact HN.out i (by omega)⟩
        case measure => simp [intOf]; omega
    · have kn : k = n := by omega
      subst kn
      have R : Hid (lng q k d = 86400) := LN.out HN.out
      go_wp2
      go_ret
      exact ⟨by rw [R.out]; rfl, rfl⟩
set_option maxHeartbeats 2000000 in
theorem rmore_row (b off n cap : Nat) (q : Nat → Int × Bool) (d : Int) (w : World) (h20 : n ≤ 20) (hL : Lps q n) (hP : Lsp w b off n q) :
    Calls Tryd.prog 33 #[.slice (some ⟨b, off, none⟩) n cap, .int .i64 d] w fun e w' => e = .returned (.int .i64 (mor q n d)) ∧ w' = w := by
  have cL : ∀ i, i < n → Calls Tryd.prog 65 #[.slice (some ⟨b, off, none⟩) n cap, .int .i64 (q i).1] w fun e w' => e = .returned (.int .i64 (86400 + sgn (q i).2)) ∧ w' = w := fun i hi => by
    have h := rlong_row b off n cap q (q i).1 w h20 hL hP
    rwa [show lng q n (q i).1 = 86400 + sgn (q i).2 by unfold lng; rw [lj_at n hL i hi]] at h
  clear hL
  go_enter Tryd.func33, Tryd.ntmps33
  go_wp2
  go_loopw [5, 6] (fun v i wr => ∃ k : Nat, k ≤ n ∧ i = .int .i64 k ∧ v = .int .i64 (mor q k d) ∧ wr = w) (fun _ i _ => n - (intOf i).toNat)
  case atStart => exact ⟨0, Nat.zero_le _, rfl, rfl, rfl⟩
  case round =>
    obtain ⟨k, hk, rfl, rfl, rfl⟩ := hrel
    obtain ⟨m1, m2⟩ := mor_le (q := q) k d
    by_cases hlt : k < n
    · obtain ⟨x0, x1⟩ := hP k hlt
      have cK := cL k hlt
      clear hP cL
      have MS : Hid (mor q (k + 1) d = mor q k d + if (q k).1 < d then sgn (q k).2 else 0) := rfl
      obtain ⟨s1, s2⟩ := sgn_le (q k).2
      by_cases c : (q k).1 < d
      · have MS : Hid (mor q (k + 1) d = mor q k d + sgn (q k).2) := MS.out.trans (by rw [if_pos c])
        go_wp2_with (go_at_call 65; refine cK.mono ?_; rintro e u ⟨rfl, hu⟩; rw [hu]; clear hu)
        go_roundw
        case rel => exact ⟨k + 1, by omega, by go_num, by rw [MS.out]; congr 1; omega, trivial⟩
        case measure => simp [intOf]; omega
      · have MS : Hid (mor q (k + 1) d = mor q k d) := MS.out.trans (by rw [if_neg c]; omega)
        go_wp2
        go_roundw
        case rel => exact ⟨k + 1, by omega, by go_num, by rw [MS.out], trivial⟩
        case measure => simp [intOf]; omega
    · have kn : k = n := by omega
      subst kn
      go_wp2
      go_ret
      exact ⟨rfl, rfl⟩
set_option maxHeartbeats 1000000 in
theorem rlong_none (a : Option Addr) (cap : Nat) (q : Nat → Int × Bool) (d : Int) (w : World) :
    Calls Tryd.prog 65 #[.slice a 0 cap, .int .i64 d] w fun e w' => e = .returned (.int .i64 (lng q 0 d)) ∧ w' = w := by
  go_enter Tryd.func65, Tryd.ntmps65
  go_wp2
  refine wp_loop_rounds 1 ?_
  rw [rounds_succ]
  go_wp2
  go_ret
  exact ⟨rfl, rfl⟩
set_option maxHeartbeats 1000000 in
theorem rmore_none (a : Option Addr) (cap : Nat) (q : Nat → Int × Bool) (d : Int) (w : World) :
    Calls Tryd.prog 33 #[.slice a 0 cap, .int .i64 d] w fun e w' => e = .returned (.int .i64 (mor q 0 d)) ∧ w' = w := by
  go_enter Tryd.func33, Tryd.ntmps33
  go_wp2
  refine wp_loop_rounds 1 ?_
  rw [rounds_succ]
  go_wp2
  go_ret
  exact ⟨rfl, rfl⟩
theorem rlong_any (a : Option Addr) (n cap : Nat) (q : Nat → Int × Bool) (d : Int) (w : World) (h20 : n ≤ 20) (hL : Lps q n) (hH : LHanded w a n q) :
    Calls Tryd.prog 65 #[.slice a n cap, .int .i64 d] w fun e w' => e = .returned (.int .i64 (lng q n d)) ∧ w' = w := by
  rcases hH.2 with rfl | ⟨b, off, rfl, hP⟩
  · exact rlong_none a cap q d w
  · exact rlong_row b off n cap q d w h20 hL hP
theorem rmore_any (a : Option Addr) (n cap : Nat) (q : Nat → Int × Bool) (d : Int) (w : World) (h20 : n ≤ 20) (hL : Lps q n) (hH : LHanded w a n q) :
    Calls Tryd.prog 33 #[.slice a n cap, .int .i64 d] w fun e w' => e = .returned (.int .i64 (mor q n d)) ∧ w' = w := by
  rcases hH.2 with rfl | ⟨b, off, rfl, hP⟩
  · exact rmore_none a cap q d w
  · exact rmore_row b off n cap q d w h20 hL hP
set_option maxHeartbeats 1000000 in
theorem rbegin_any (a : Option Addr) (n cap : Nat) (q : Nat → Int × Bool) (d : Int) (w : World) (h20 : n ≤ 20) (hL : Lps q n) (hH : LHanded w a n q) (h0 : 0 ≤ d) (h1 : d ≤ 100000) :
    Calls Tryd.prog 66 #[.slice a n cap, .int .i64 d] w fun e w' => e = .returned (.int .i64 (bg q n d)) ∧ w' = w := by
  have cM := rmore_any a n cap q d w h20 hL hH
  have ml := mor_le (q := q) n d
  have B : Hid (bg q n d = 86400 * d + mor q n d) := rfl
  obtain ⟨m1, m2⟩ := ml
  clear hL hH
  go_enter Tryd.func66, Tryd.ntmps66
  go_wp2_with (go_at_call 33; refine cM.mono ?_; rintro e u ⟨rfl, hu⟩; rw [hu]; clear hu)
  go_ret
  exact ⟨by rw [B.out]; rfl, rfl⟩
set_option maxHeartbeats 2000000 in
theorem rday_any (a : Option Addr) (n cap : Nat) (q : Nat → Int × Bool) (x d : Int) (w : World) (h20 : n ≤ 20) (hL : Lps q n) (hH : LHanded w a n q) (h0 : 0 ≤ x) (hd0 : 0 ≤ d) (h1 : d ≤ 84005) (hd : IsDay q n x d) :
    Calls Tryd.prog 34 #[.slice a n cap, .int .i64 x] w fun e w' => e = .returned (.int .i64 d) ∧ w' = w := by
  have cB := fun (k : Int) (k0 : 0 ≤ k) (k1 : k ≤ 100000) => rbegin_any a n cap q k w h20 hL hH k0 k1
  have g := day_ge hL h0 hd
  have B1 : Hid (∀ k, k < d → bg q n (k + 1) ≤ x) := fun k hk => by
    have p := hd.1
    by_cases e : k + 1 = d
    · rw [e]; exact p
    · have := bg_lt hL (show k + 1 < d by omega); omega
  have B2 : Hid (x < bg q n (d + 1)) := hd.2
  have q0 : x.tdiv 86401 = x / 86401 := Int.tdiv_eq_ediv_of_nonneg h0
  have q1 : 0 ≤ x / 86401 := by omega
  have xb : x ≤ 9223372036854775807 := by
    have := hd.2
    have := mor_le (q := q) n (d + 1)
    unfold bg at *
    omega
  clear hL hH hd
  go_enter Tryd.func34, Tryd.ntmps34
  go_wp2
  go_loopw [5] (fun i wr => ∃ k : Int, x / 86401 ≤ k ∧ k ≤ d ∧ i = .int .i64 k ∧ wr = w) (fun i _ => (d - intOf i).toNat)
  case atStart => exact ⟨x / 86401, Int.le_refl _, g, rfl, rfl⟩
  case round =>
    obtain ⟨k, hk, hkd, rfl, rfl⟩ := hrel
    have cK := cB (k + 1) (by omega) (by omega)
    by_cases hlt : k < d
    · have le := B1.out k hlt
      go_wp2_with (go_at_call 66; refine cK.mono ?_; rintro e u ⟨rfl, hu⟩; rw [hu]; clear hu)
      go_roundw
      case rel => exact ⟨k + 1, by omega, by omega, by go_num, trivial⟩
      case measure => simp [intOf]; omega
    · have kn : k = d := by omega
      subst kn
      have gt : ¬ (bg q n (k + 1) ≤ x) := by have := B2.out; omega
      go_wp2_with (go_at_call 66; refine cK.mono ?_; rintro e u ⟨rfl, hu⟩; rw [hu]; clear hu)
      go_ret
      exact ⟨rfl, rfl⟩
end Go.Proofs.YthaajbdppmdhaacDoor
namespace Go.Proofs.YthaajbdppmdhaacDoor
open Go.ChangeShapes Go.WideShapes Go.ChangeAt Go.RowKit
set_option linter.unusedVariables false
set_option linter.unusedSimpArgs false

theorem last_bg (q : Nat → Int × Bool) (n : Nat) : bg q n (84005 + 1) = bg q n 84006 := rfl
set_option maxHeartbeats 1000000 in
theorem rsecond_any (a : Option Addr) (n cap : Nat) (q : Nat → Int × Bool) (x : Int) (w : World) (h20 : n ≤ 20) (hL : Lps q n) (hH : LHanded w a n q) :
    Calls Tryd.prog 31 #[.slice a n cap, .int .i64 x] w fun e w' => e = .returned (.bool (decide (0 ≤ x ∧ x < bg q n 84006))) ∧ Below w.heap.size w w' := by
  have cB := fun u (hu : Below w.heap.size w u) => rbegin_any a n cap q 84006 u h20 hL (hH.on hu) (by omega) (by omega)
  have cL := fun u => rlast_any u
  clear hL hH
  by_cases h0 : 0 ≤ x
  · by_cases h1 : x < bg q n 84006
    · have T : Hid (decide (0 ≤ x ∧ x < bg q n 84006) = true) := decide_eq_true ⟨h0, h1⟩
      have t1 : decide (x < bg q n 84006) = true := decide_eq_true h1
      go_enter Tryd.func31, Tryd.ntmps31
      go_wp2_with (first | (go_at_call 20; refine (cL _).mono ?_; rintro e u0 ⟨rfl, hb⟩) | (go_at_call 66; refine (cB _ hb).mono ?_; rintro e u ⟨rfl, hu⟩; rw [hu]; clear hu))
      go_ret
      exact ⟨by rw [T.out]; first | rfl | simp [t1], hb⟩
    · have T : Hid (decide (0 ≤ x ∧ x < bg q n 84006) = false) := decide_eq_false (fun h => h1 h.2)
      have t1 : decide (x < bg q n 84006) = false := decide_eq_false h1
      go_enter Tryd.func31, Tryd.ntmps31
      go_wp2_with (first | (go_at_call 20; refine (cL _).mono ?_; rintro e u0 ⟨rfl, hb⟩) | (go_at_call 66; refine (cB _ hb).mono ?_; rintro e u ⟨rfl, hu⟩; rw [hu]; clear hu))
      go_ret
      exact ⟨by rw [T.out]; first | rfl | simp [t1], hb⟩
  · have T : Hid (decide (0 ≤ x ∧ x < bg q n 84006) = false) := decide_eq_false (fun h => h0 h.1)
    go_enter Tryd.func31, Tryd.ntmps31
    go_wp2
    go_ret
    have t0 : decide (0 ≤ x) = false := decide_eq_false (by omega)
    exact ⟨by first | (rw [T.out]; rfl) | simp [t0], Below.refl _ _⟩
set_option maxHeartbeats 2000000 in
theorem rutc_any (a : Option Addr) (n cap : Nat) (q : Nat → Int × Bool) (x D y m d s : Int) (w : World) (h20 : n ≤ 20) (hL : Lps q n) (hH : LHanded w a n q) (h0 : 0 ≤ x) (hD0 : 0 ≤ D) (hD1 : D ≤ 84005) (hD : IsDay q n x D) (ok : okD y m d = true) (hn : dnum y m d = D) (hs : s = x - bg q n D) :
    Calls Tryd.prog 32 #[.slice a n cap, .int .i64 x] w fun e w' => e = .returned (.agg #[.int .i64 y, .int .i64 m, .int .i64 d, .int .i64 (lab s).1, .int .i64 (lab s).2.1, .int .i64 (lab s).2.2]) ∧ Below w.heap.size w w' := by
  have cD := fun u (hu : Below w.heap.size w u) => rday_any a n cap q x D u h20 hL (hH.on hu) h0 hD0 hD1 hD
  have cB := fun u (hu : Below w.heap.size w u) => rbegin_any a n cap q D u h20 hL (hH.on hu) hD0 (by omega)
  have cO := fun u => rof_any D y m d u ok hn
  have pl := hD.place hL
  have ll := lng_le hL D
  have ml := mor_le (q := q) n D
  obtain ⟨p1, p2⟩ := pl
  rw [← hs] at p1 p2
  have bs : bg q n D = x - s := by omega
  have xb : x ≤ 9223372036854775807 := by unfold bg at bs; omega
  rw [bs] at cB
  have s1 : s ≤ 86400 := by omega
  clear hL hH hD hn ok ll ml bs p2 hs
  have e9 : x - (x - s) = s := by omega
  by_cases c : s = 86400
  · have T : Hid (lab s = (23, 59, 60)) := if_pos c
    subst c
    go_enter Tryd.func32, Tryd.ntmps32
    go_wp2_with (first | (go_at_call 34; refine (cD _ (rbel_al (Below.refl _ _))).mono ?_; rintro e u ⟨rfl, hu⟩; rw [hu]; clear hu) | (go_at_call 66; refine (cB _ (rbel_al (Below.refl _ _))).mono ?_; rintro e u ⟨rfl, hu⟩; rw [hu]; clear hu) | (go_at_call 21; refine (cO _).mono ?_; rintro e u0 ⟨rfl, hb⟩; have hw : Below w.heap.size w u0 := rbel_on hb (rbel_al (Below.refl _ _)); have PR : Row u0 w.heap.size [.int .i64 0, .int .i64 0, .int .i64 0, .int .i64 0, .int .i64 0, .int .i64 0] := Row.on hb (Row.made rfl); have cR0 := PR.c 0 _ rfl; have cR1 := PR.c 1 _ rfl; have cR2 := PR.c 2 _ rfl; have cR3 := PR.c 3 _ rfl; have cR4 := PR.c 4 _ rfl; have cR5 := PR.c 5 _ rfl; have fR0 := PR.f 0 _ rfl; have fR1 := PR.f 1 _ rfl; have fR2 := PR.f 2 _ rfl; have fR3 := PR.f 3 _ rfl; have fR4 := PR.f 4 _ rfl; have fR5 := PR.f 5 _ rfl; have zR := PR.lt))
    exact bodyPost_ret (v := .agg #[.int .i64 y, .int .i64 m, .int .i64 d, .int .i64 23, .int .i64 59, .int .i64 60]) (by simp [results, Tryd.results32, go_sem, *]) rfl ⟨by rw [T.out], by (repeat (first | assumption | refine Below.setCell ?_ (by first | (simp; done) | (simp; omega) | omega) _ | apply Below.drew))⟩
  · have T : Hid (lab s = (s / 3600, s % 3600 / 60, s % 60)) := if_neg c
    have c2 := lne_b c
    have t1 : s.tdiv 3600 = s / 3600 := Int.tdiv_eq_ediv_of_nonneg p1
    have t2 : s.tmod 3600 = s % 3600 := Int.tmod_eq_emod_of_nonneg p1
    have t3 : s.tmod 60 = s % 60 := Int.tmod_eq_emod_of_nonneg p1
    have t4 : (s % 3600).tdiv 60 = s % 3600 / 60 := Int.tdiv_eq_ediv_of_nonneg (by omega)
    go_enter Tryd.func32, Tryd.ntmps32
    go_wp2_with (first | (go_at_call 34; refine (cD _ (rbel_al (Below.refl _ _))).mono ?_; rintro e u ⟨rfl, hu⟩; rw [hu]; clear hu) | (go_at_call 66; refine (cB _ (rbel_al (Below.refl _ _))).mono ?_; rintro e u ⟨rfl, hu⟩; rw [hu]; clear hu) | (go_at_call 21; refine (cO _).mono ?_; rintro e u0 ⟨rfl, hb⟩; have hw : Below w.heap.size w u0 := rbel_on hb (rbel_al (Below.refl _ _)); have PR : Row u0 w.heap.size [.int .i64 0, .int .i64 0, .int .i64 0, .int .i64 0, .int .i64 0, .int .i64 0] := Row.on hb (Row.made rfl); have cR0 := PR.c 0 _ rfl; have cR1 := PR.c 1 _ rfl; have cR2 := PR.c 2 _ rfl; have cR3 := PR.c 3 _ rfl; have cR4 := PR.c 4 _ rfl; have cR5 := PR.c 5 _ rfl; have fR0 := PR.f 0 _ rfl; have fR1 := PR.f 1 _ rfl; have fR2 := PR.f 2 _ rfl; have fR3 := PR.f 3 _ rfl; have fR4 := PR.f 4 _ rfl; have fR5 := PR.f 5 _ rfl; have zR := PR.lt))
    exact bodyPost_ret (v := .agg #[.int .i64 y, .int .i64 m, .int .i64 d, .int .i64 (s / 3600), .int .i64 (s % 3600 / 60), .int .i64 (s % 60)]) (by simp [results, Tryd.results32, go_sem, *]) rfl ⟨by rw [T.out], by (repeat (first | assumption | refine Below.setCell ?_ (by first | (simp; done) | (simp; omega) | omega) _ | apply Below.drew))⟩
end Go.Proofs.YthaajbdppmdhaacDoor
namespace Go.Proofs.YthaajbdppmdhaacDoor
open Go.ChangeShapes Go.WideShapes Go.ChangeAt Go.RowKit
set_option linter.unusedVariables false
set_option linter.unusedSimpArgs false

set_option maxHeartbeats 4000000 in
theorem rhands_any (y m d h i s : Int) (w : World) :
    Calls Tryd.prog 39 #[.agg #[.int .i64 y, .int .i64 m, .int .i64 d, .int .i64 h, .int .i64 i, .int .i64 s]] w fun e w' => e = .returned (.bool (okD y m d && okH h i s)) ∧ Below w.heap.size w w' := by
  have cD := fun u => rdate_any y m d u
  cases o : okD y m d with
  | false =>
    rw [o] at cD
    go_enter Tryd.func39, Tryd.ntmps39
    go_wp2_with (go_at_call 14; refine (cD _).mono ?_; rintro e u0 ⟨rfl, hb⟩; have hw : Below w.heap.size w u0 := rbel_on hb (rbel_al (Below.refl _ _)); have P : Row u0 w.heap.size [.int .i64 y, .int .i64 m, .int .i64 d, .int .i64 h, .int .i64 i, .int .i64 s] := Row.on hb (Row.made rfl); have c0 := P.c 0 _ rfl; have c1 := P.c 1 _ rfl; have c2 := P.c 2 _ rfl; have c3 := P.c 3 _ rfl; have c4 := P.c 4 _ rfl; have c5 := P.c 5 _ rfl)
    go_ret
    exact ⟨rfl, hw⟩
  | true =>
    rw [o] at cD
    by_cases a1 : 0 ≤ h
    · by_cases a2 : h ≤ 23
      · by_cases a3 : 0 ≤ i
        · by_cases a4 : i ≤ 59
          · by_cases a5 : 0 ≤ s
            · by_cases a6 : s ≤ 60
              · have T : Hid (okH h i s = true) := decide_eq_true ⟨a1, a2, a3, a4, a5, a6⟩
                have t6 : decide (s ≤ 60) = true := decide_eq_true a6
                go_enter Tryd.func39, Tryd.ntmps39
                go_wp2_with (go_at_call 14; refine (cD _).mono ?_; rintro e u0 ⟨rfl, hb⟩; have hw : Below w.heap.size w u0 := rbel_on hb (rbel_al (Below.refl _ _)); have P : Row u0 w.heap.size [.int .i64 y, .int .i64 m, .int .i64 d, .int .i64 h, .int .i64 i, .int .i64 s] := Row.on hb (Row.made rfl); have c0 := P.c 0 _ rfl; have c1 := P.c 1 _ rfl; have c2 := P.c 2 _ rfl; have c3 := P.c 3 _ rfl; have c4 := P.c 4 _ rfl; have c5 := P.c 5 _ rfl)
                go_ret
                exact ⟨by rw [T.out]; first | rfl | simp [t6], hw⟩
              · have T : Hid (okH h i s = false) := decide_eq_false (fun q => a6 (by omega))
                have f1 : decide (s ≤ 60) = false := decide_eq_false a6
                go_enter Tryd.func39, Tryd.ntmps39
                go_wp2_with (go_at_call 14; refine (cD _).mono ?_; rintro e u0 ⟨rfl, hb⟩; have hw : Below w.heap.size w u0 := rbel_on hb (rbel_al (Below.refl _ _)); have P : Row u0 w.heap.size [.int .i64 y, .int .i64 m, .int .i64 d, .int .i64 h, .int .i64 i, .int .i64 s] := Row.on hb (Row.made rfl); have c0 := P.c 0 _ rfl; have c1 := P.c 1 _ rfl; have c2 := P.c 2 _ rfl; have c3 := P.c 3 _ rfl; have c4 := P.c 4 _ rfl; have c5 := P.c 5 _ rfl)
                go_ret
                exact ⟨by rw [T.out]; first | rfl | simp [f1], hw⟩
            · have T : Hid (okH h i s = false) := decide_eq_false (fun q => a5 (by omega))
              have f1 : decide (0 ≤ s) = false := decide_eq_false a5
              go_enter Tryd.func39, Tryd.ntmps39
              go_wp2_with (go_at_call 14; refine (cD _).mono ?_; rintro e u0 ⟨rfl, hb⟩; have hw : Below w.heap.size w u0 := rbel_on hb (rbel_al (Below.refl _ _)); have P : Row u0 w.heap.size [.int .i64 y, .int .i64 m, .int .i64 d, .int .i64 h, .int .i64 i, .int .i64 s] := Row.on hb (Row.made rfl); have c0 := P.c 0 _ rfl; have c1 := P.c 1 _ rfl; have c2 := P.c 2 _ rfl; have c3 := P.c 3 _ rfl; have c4 := P.c 4 _ rfl; have c5 := P.c 5 _ rfl)
              go_ret
              exact ⟨by rw [T.out]; first | rfl | simp [f1], hw⟩
          · have T : Hid (okH h i s = false) := decide_eq_false (fun q => a4 (by omega))
            have f1 : decide (i ≤ 59) = false := decide_eq_false a4
            go_enter Tryd.func39, Tryd.ntmps39
            go_wp2_with (go_at_call 14; refine (cD _).mono ?_; rintro e u0 ⟨rfl, hb⟩; have hw : Below w.heap.size w u0 := rbel_on hb (rbel_al (Below.refl _ _)); have P : Row u0 w.heap.size [.int .i64 y, .int .i64 m, .int .i64 d, .int .i64 h, .int .i64 i, .int .i64 s] := Row.on hb (Row.made rfl); have c0 := P.c 0 _ rfl; have c1 := P.c 1 _ rfl; have c2 := P.c 2 _ rfl; have c3 := P.c 3 _ rfl; have c4 := P.c 4 _ rfl; have c5 := P.c 5 _ rfl)
            go_ret
            exact ⟨by rw [T.out]; first | rfl | simp [f1], hw⟩
        · have T : Hid (okH h i s = false) := decide_eq_false (fun q => a3 (by omega))
          have f1 : decide (0 ≤ i) = false := decide_eq_false a3
          go_enter Tryd.func39, Tryd.ntmps39
          go_wp2_with (go_at_call 14; refine (cD _).mono ?_; rintro e u0 ⟨rfl, hb⟩; have hw : Below w.heap.size w u0 := rbel_on hb (rbel_al (Below.refl _ _)); have P : Row u0 w.heap.size [.int .i64 y, .int .i64 m, .int .i64 d, .int .i64 h, .int .i64 i, .int .i64 s] := Row.on hb (Row.made rfl); have c0 := P.c 0 _ rfl; have c1 := P.c 1 _ rfl; have c2 := P.c 2 _ rfl; have c3 := P.c 3 _ rfl; have c4 := P.c 4 _ rfl; have c5 := P.c 5 _ rfl)
          go_ret
          exact ⟨by rw [T.out]; first | rfl | simp [f1], hw⟩
      · have T : Hid (okH h i s = false) := decide_eq_false (fun q => a2 (by omega))
        have f1 : decide (h ≤ 23) = false := decide_eq_false a2
        go_enter Tryd.func39, Tryd.ntmps39
        go_wp2_with (go_at_call 14; refine (cD _).mono ?_; rintro e u0 ⟨rfl, hb⟩; have hw : Below w.heap.size w u0 := rbel_on hb (rbel_al (Below.refl _ _)); have P : Row u0 w.heap.size [.int .i64 y, .int .i64 m, .int .i64 d, .int .i64 h, .int .i64 i, .int .i64 s] := Row.on hb (Row.made rfl); have c0 := P.c 0 _ rfl; have c1 := P.c 1 _ rfl; have c2 := P.c 2 _ rfl; have c3 := P.c 3 _ rfl; have c4 := P.c 4 _ rfl; have c5 := P.c 5 _ rfl)
        go_ret
        exact ⟨by rw [T.out]; first | rfl | simp [f1], hw⟩
    · have T : Hid (okH h i s = false) := decide_eq_false (fun q => a1 (by omega))
      have f1 : decide (0 ≤ h) = false := decide_eq_false a1
      go_enter Tryd.func39, Tryd.ntmps39
      go_wp2_with (go_at_call 14; refine (cD _).mono ?_; rintro e u0 ⟨rfl, hb⟩; have hw : Below w.heap.size w u0 := rbel_on hb (rbel_al (Below.refl _ _)); have P : Row u0 w.heap.size [.int .i64 y, .int .i64 m, .int .i64 d, .int .i64 h, .int .i64 i, .int .i64 s] := Row.on hb (Row.made rfl); have c0 := P.c 0 _ rfl; have c1 := P.c 1 _ rfl; have c2 := P.c 2 _ rfl; have c3 := P.c 3 _ rfl; have c4 := P.c 4 _ rfl; have c5 := P.c 5 _ rfl)
      go_ret
      exact ⟨by rw [T.out]; first | rfl | simp [f1], hw⟩

/-- The number of a label: what must be answered. -/
def TaiR (q : Nat → Int × Bool) (n : Nat) (y m d h i s v e : Int) : Prop :=
  ((okD y m d && okH h i s) = false ∧ v = 0 ∧ e = 1) ∨ ((okD y m d && okH h i s) = true ∧ ¬ okL (lng q n (dnum y m d)) h i s ∧ v = 0 ∧ e = 5) ∨
  ((okD y m d && okH h i s) = true ∧ okL (lng q n (dnum y m d)) h i s ∧ v = bg q n (dnum y m d) + sec h i s ∧ e = 0)
set_option maxRecDepth 100000 in
set_option maxHeartbeats 4000000 in
theorem rtai_any (a : Option Addr) (n cap : Nat) (q : Nat → Int × Bool) (y m d h i s v e : Int) (w : World) (h20 : n ≤ 20) (hL : Lps q n) (hH : LHanded w a n q) (hR : TaiR q n y m d h i s v e) :
    Calls Tryd.prog 29 #[.slice a n cap, .agg #[.int .i64 y, .int .i64 m, .int .i64 d, .int .i64 h, .int .i64 i, .int .i64 s]] w fun x w' => x = .returned (.tuple #[.int .i64 v, .int .i64 e]) ∧ Below w.heap.size w w' := by
  have cH := fun u => rhands_any y m d h i s u
  cases o : (okD y m d && okH h i s) with
  | false =>
    rw [o] at cH
    obtain ⟨rfl, rfl⟩ : v = 0 ∧ e = 1 := by
      rcases hR with ⟨_, k⟩ | ⟨k, _⟩ | ⟨k, _⟩
      · exact k
      · rw [o] at k; cases k
      · rw [o] at k; cases k
    clear hR
    go_enter Tryd.func29, Tryd.ntmps29
    go_wp2_with (first | (go_at_call 39; refine (cH _).mono ?_; rintro x u0 ⟨rfl, hb⟩; have hw : Below w.heap.size w u0 := rbel_on hb (rbel_al (Below.refl _ _)); have P : Row u0 w.heap.size [.int .i64 y, .int .i64 m, .int .i64 d, .int .i64 h, .int .i64 i, .int .i64 s] := Row.on hb (Row.made rfl); have c0 := P.c 0 _ rfl; have c1x := P.c 1 _ rfl; have c2x := P.c 2 _ rfl; have c3x := P.c 3 _ rfl; have c4x := P.c 4 _ rfl; have c5x := P.c 5 _ rfl; clear hb))
    go_ret2
    exact ⟨rfl, hw⟩
  | true =>
    rw [o] at cH
    unfold TaiR at hR
    have od : okD y m d = true := by rw [Bool.and_eq_true] at o; exact o.1
    have oh : okH h i s = true := by rw [Bool.and_eq_true] at o; exact o.2
    obtain ⟨b1, b2, b3, b4, b5, b6⟩ := (of_decide_eq_true oh : 0 ≤ h ∧ h ≤ 23 ∧ 0 ≤ i ∧ i ≤ 59 ∧ 0 ≤ s ∧ s ≤ 60)
    have rg := dnum_range od
    have cN := fun u => rnum_any y m d u od
    generalize dnum y m d = D at *
    have cL := fun u (hu : Below w.heap.size w u) => rlong_any a n cap q D u h20 hL (hH.on hu)
    have cB := fun u (hu : Below w.heap.size w u) => rbegin_any a n cap q D u h20 hL (hH.on hu) (by omega) (by omega)
    have ll := lng_le hL D
    have ml := mor_le (q := q) n D
    have bb : 0 ≤ bg q n D + 20 ∧ bg q n D ≤ 8000000000 := by unfold bg; omega
    obtain ⟨l1, l2⟩ := ll
    obtain ⟨g1, g2⟩ := bb
    have HR : Hid _ := hR
    clear hR hL hH ml rg od oh
    generalize bg q n D = B at *
    generalize lng q n D = L at *
    have SE : Hid (sec h i s = h * 3600 + i * 60 + s) := rfl
    have bad : Hid (¬ okL L h i s → v = 0 ∧ e = 5) := fun k => by
      rcases HR.out with ⟨k2, _⟩ | ⟨_, _, k2⟩ | ⟨_, k2, _⟩
      · rw [o] at k2; cases k2
      · exact k2
      · exact absurd k2 k
    have good : Hid (okL L h i s → v = B + (h * 3600 + i * 60 + s) ∧ e = 0) := fun k => by
      rcases HR.out with ⟨k2, _⟩ | ⟨_, k2, _⟩ | ⟨_, _, k2⟩
      · rw [o] at k2; cases k2
      · exact absurd k k2
      · exact k2
    clear HR o
    by_cases c : s = 60
    · by_cases c1 : h = 23
      · by_cases c2 : i = 59
        · by_cases c3 : L = 86401
          · have mk : Mark 0 := .mk _
            obtain ⟨rfl, rfl⟩ := good.out ⟨by omega, by omega, by omega, by omega, by omega, by omega, fun _ => ⟨c1, c2, c3⟩, by rw [SE.out]; omega⟩
            subst c c1 c2 c3
            clear bad good SE
            go_enter Tryd.func29, Tryd.ntmps29
            go_wp2_with (first | (go_at_call 39; refine (cH _).mono ?_; rintro x u0 ⟨rfl, hb⟩; have hw : Below w.heap.size w u0 := rbel_on hb (rbel_al (Below.refl _ _)); have P : Row u0 w.heap.size [.int .i64 y, .int .i64 m, .int .i64 d, .int .i64 23, .int .i64 59, .int .i64 60] := Row.on hb (Row.made rfl); have c0 := P.c 0 _ rfl; have c1x := P.c 1 _ rfl; have c2x := P.c 2 _ rfl; have c3x := P.c 3 _ rfl; have c4x := P.c 4 _ rfl; have c5x := P.c 5 _ rfl; clear hb) | (go_at_call 15; refine (cN _).mono ?_; rintro x u1 ⟨rfl, hb⟩; replace hw : Below w.heap.size w u1 := rbel_on hb hw; replace P : Row u1 w.heap.size [.int .i64 y, .int .i64 m, .int .i64 d, .int .i64 23, .int .i64 59, .int .i64 60] := Row.on hb P; replace c0 := P.c 0 _ rfl; replace c1x := P.c 1 _ rfl; replace c2x := P.c 2 _ rfl; replace c3x := P.c 3 _ rfl; replace c4x := P.c 4 _ rfl; replace c5x := P.c 5 _ rfl; clear hb) | (go_at_call 65; have cq : Mark 0 := mk; refine (cL _ hw).mono ?_; clear cq mk; have mk : Mark 1 := .mk _; rintro x u ⟨rfl, hu⟩; rw [hu]; clear hu) | (go_at_call 65; have cq : Mark 1 := mk; refine (cL _ hw).mono ?_; clear cq mk; have mk : Mark 2 := .mk _; rintro x u ⟨rfl, hu⟩; rw [hu]; clear hu) | (go_at_call 66; refine (cB _ hw).mono ?_; rintro x u ⟨rfl, hu⟩; rw [hu]; clear hu))
            go_ret2
            exact ⟨rfl, hw⟩
          · have mk : Mark 0 := .mk _
            obtain ⟨rfl, rfl⟩ := bad.out (fun k => c3 (k.2.2.2.2.2.2.1 c).2.2)
            have c4 := lne_b c3
            subst c c1 c2
            clear bad good SE
            go_enter Tryd.func29, Tryd.ntmps29
            go_wp2_with (first | (go_at_call 39; refine (cH _).mono ?_; rintro x u0 ⟨rfl, hb⟩; have hw : Below w.heap.size w u0 := rbel_on hb (rbel_al (Below.refl _ _)); have P : Row u0 w.heap.size [.int .i64 y, .int .i64 m, .int .i64 d, .int .i64 23, .int .i64 59, .int .i64 60] := Row.on hb (Row.made rfl); have c0 := P.c 0 _ rfl; have c1x := P.c 1 _ rfl; have c2x := P.c 2 _ rfl; have c3x := P.c 3 _ rfl; have c4x := P.c 4 _ rfl; have c5x := P.c 5 _ rfl; clear hb) | (go_at_call 15; refine (cN _).mono ?_; rintro x u1 ⟨rfl, hb⟩; replace hw : Below w.heap.size w u1 := rbel_on hb hw; replace P : Row u1 w.heap.size [.int .i64 y, .int .i64 m, .int .i64 d, .int .i64 23, .int .i64 59, .int .i64 60] := Row.on hb P; replace c0 := P.c 0 _ rfl; replace c1x := P.c 1 _ rfl; replace c2x := P.c 2 _ rfl; replace c3x := P.c 3 _ rfl; replace c4x := P.c 4 _ rfl; replace c5x := P.c 5 _ rfl; clear hb) | (go_at_call 65; have cq : Mark 0 := mk; refine (cL _ hw).mono ?_; clear cq mk; have mk : Mark 1 := .mk _; rintro x u ⟨rfl, hu⟩; rw [hu]; clear hu) | (go_at_call 65; have cq : Mark 1 := mk; refine (cL _ hw).mono ?_; clear cq mk; have mk : Mark 2 := .mk _; rintro x u ⟨rfl, hu⟩; rw [hu]; clear hu) | (go_at_call 66; refine (cB _ hw).mono ?_; rintro x u ⟨rfl, hu⟩; rw [hu]; clear hu))
            go_ret2
            exact ⟨rfl, hw⟩
        · have mk : Mark 0 := .mk _
          obtain ⟨rfl, rfl⟩ := bad.out (fun k => c2 (k.2.2.2.2.2.2.1 c).2.1)
          have c4 := lne_b c2
          subst c c1
          clear bad good SE
          go_enter Tryd.func29, Tryd.ntmps29
          go_wp2_with (first | (go_at_call 39; refine (cH _).mono ?_; rintro x u0 ⟨rfl, hb⟩; have hw : Below w.heap.size w u0 := rbel_on hb (rbel_al (Below.refl _ _)); have P : Row u0 w.heap.size [.int .i64 y, .int .i64 m, .int .i64 d, .int .i64 23, .int .i64 i, .int .i64 60] := Row.on hb (Row.made rfl); have c0 := P.c 0 _ rfl; have c1x := P.c 1 _ rfl; have c2x := P.c 2 _ rfl; have c3x := P.c 3 _ rfl; have c4x := P.c 4 _ rfl; have c5x := P.c 5 _ rfl; clear hb) | (go_at_call 15; refine (cN _).mono ?_; rintro x u1 ⟨rfl, hb⟩; replace hw : Below w.heap.size w u1 := rbel_on hb hw; replace P : Row u1 w.heap.size [.int .i64 y, .int .i64 m, .int .i64 d, .int .i64 23, .int .i64 i, .int .i64 60] := Row.on hb P; replace c0 := P.c 0 _ rfl; replace c1x := P.c 1 _ rfl; replace c2x := P.c 2 _ rfl; replace c3x := P.c 3 _ rfl; replace c4x := P.c 4 _ rfl; replace c5x := P.c 5 _ rfl; clear hb) | (go_at_call 65; have cq : Mark 0 := mk; refine (cL _ hw).mono ?_; clear cq mk; have mk : Mark 1 := .mk _; rintro x u ⟨rfl, hu⟩; rw [hu]; clear hu) | (go_at_call 65; have cq : Mark 1 := mk; refine (cL _ hw).mono ?_; clear cq mk; have mk : Mark 2 := .mk _; rintro x u ⟨rfl, hu⟩; rw [hu]; clear hu) | (go_at_call 66; refine (cB _ hw).mono ?_; rintro x u ⟨rfl, hu⟩; rw [hu]; clear hu))
          go_ret2
          exact ⟨rfl, hw⟩
      · have mk : Mark 0 := .mk _
        obtain ⟨rfl, rfl⟩ := bad.out (fun k => c1 (k.2.2.2.2.2.2.1 c).1)
        have c4 := lne_b c1
        subst c
        clear bad good SE
        go_enter Tryd.func29, Tryd.ntmps29
        go_wp2_with (first | (go_at_call 39; refine (cH _).mono ?_; rintro x u0 ⟨rfl, hb⟩; have hw : Below w.heap.size w u0 := rbel_on hb (rbel_al (Below.refl _ _)); have P : Row u0 w.heap.size [.int .i64 y, .int .i64 m, .int .i64 d, .int .i64 h, .int .i64 i, .int .i64 60] := Row.on hb (Row.made rfl); have c0 := P.c 0 _ rfl; have c1x := P.c 1 _ rfl; have c2x := P.c 2 _ rfl; have c3x := P.c 3 _ rfl; have c4x := P.c 4 _ rfl; have c5x := P.c 5 _ rfl; clear hb) | (go_at_call 15; refine (cN _).mono ?_; rintro x u1 ⟨rfl, hb⟩; replace hw : Below w.heap.size w u1 := rbel_on hb hw; replace P : Row u1 w.heap.size [.int .i64 y, .int .i64 m, .int .i64 d, .int .i64 h, .int .i64 i, .int .i64 60] := Row.on hb P; replace c0 := P.c 0 _ rfl; replace c1x := P.c 1 _ rfl; replace c2x := P.c 2 _ rfl; replace c3x := P.c 3 _ rfl; replace c4x := P.c 4 _ rfl; replace c5x := P.c 5 _ rfl; clear hb) | (go_at_call 65; have cq : Mark 0 := mk; refine (cL _ hw).mono ?_; clear cq mk; have mk : Mark 1 := .mk _; rintro x u ⟨rfl, hu⟩; rw [hu]; clear hu) | (go_at_call 65; have cq : Mark 1 := mk; refine (cL _ hw).mono ?_; clear cq mk; have mk : Mark 2 := .mk _; rintro x u ⟨rfl, hu⟩; rw [hu]; clear hu) | (go_at_call 66; refine (cB _ hw).mono ?_; rintro x u ⟨rfl, hu⟩; rw [hu]; clear hu))
        go_ret2
        exact ⟨rfl, hw⟩
    · have c4 := lne_b c
      by_cases c5 : L ≤ h * 3600 + i * 60 + s
      · have mk : Mark 1 := .mk _
        obtain ⟨rfl, rfl⟩ := bad.out (fun k => by have q8 := k.2.2.2.2.2.2.2; rw [SE.out] at q8; omega)
        clear bad good SE
        go_enter Tryd.func29, Tryd.ntmps29
        go_wp2_with (first | (go_at_call 39; refine (cH _).mono ?_; rintro x u0 ⟨rfl, hb⟩; have hw : Below w.heap.size w u0 := rbel_on hb (rbel_al (Below.refl _ _)); have P : Row u0 w.heap.size [.int .i64 y, .int .i64 m, .int .i64 d, .int .i64 h, .int .i64 i, .int .i64 s] := Row.on hb (Row.made rfl); have c0 := P.c 0 _ rfl; have c1x := P.c 1 _ rfl; have c2x := P.c 2 _ rfl; have c3x := P.c 3 _ rfl; have c4x := P.c 4 _ rfl; have c5x := P.c 5 _ rfl; clear hb) | (go_at_call 15; refine (cN _).mono ?_; rintro x u1 ⟨rfl, hb⟩; replace hw : Below w.heap.size w u1 := rbel_on hb hw; replace P : Row u1 w.heap.size [.int .i64 y, .int .i64 m, .int .i64 d, .int .i64 h, .int .i64 i, .int .i64 s] := Row.on hb P; replace c0 := P.c 0 _ rfl; replace c1x := P.c 1 _ rfl; replace c2x := P.c 2 _ rfl; replace c3x := P.c 3 _ rfl; replace c4x := P.c 4 _ rfl; replace c5x := P.c 5 _ rfl; clear hb) | (go_at_call 65; have cq : Mark 0 := mk; refine (cL _ hw).mono ?_; clear cq mk; have mk : Mark 1 := .mk _; rintro x u ⟨rfl, hu⟩; rw [hu]; clear hu) | (go_at_call 65; have cq : Mark 1 := mk; refine (cL _ hw).mono ?_; clear cq mk; have mk : Mark 2 := .mk _; rintro x u ⟨rfl, hu⟩; rw [hu]; clear hu) | (go_at_call 66; refine (cB _ hw).mono ?_; rintro x u ⟨rfl, hu⟩; rw [hu]; clear hu))
        go_ret2
        exact ⟨rfl, hw⟩
      · have mk : Mark 1 := .mk _
        obtain ⟨rfl, rfl⟩ := good.out ⟨by omega, by omega, by omega, by omega, by omega, by omega, fun k => absurd k c, by rw [SE.out]; omega⟩
        clear bad good SE
        go_enter Tryd.func29, Tryd.ntmps29
        go_wp2_with (first | (go_at_call 39; refine (cH _).mono ?_; rintro x u0 ⟨rfl, hb⟩; have hw : Below w.heap.size w u0 := rbel_on hb (rbel_al (Below.refl _ _)); have P : Row u0 w.heap.size [.int .i64 y, .int .i64 m, .int .i64 d, .int .i64 h, .int .i64 i, .int .i64 s] := Row.on hb (Row.made rfl); have c0 := P.c 0 _ rfl; have c1x := P.c 1 _ rfl; have c2x := P.c 2 _ rfl; have c3x := P.c 3 _ rfl; have c4x := P.c 4 _ rfl; have c5x := P.c 5 _ rfl; clear hb) | (go_at_call 15; refine (cN _).mono ?_; rintro x u1 ⟨rfl, hb⟩; replace hw : Below w.heap.size w u1 := rbel_on hb hw; replace P : Row u1 w.heap.size [.int .i64 y, .int .i64 m, .int .i64 d, .int .i64 h, .int .i64 i, .int .i64 s] := Row.on hb P; replace c0 := P.c 0 _ rfl; replace c1x := P.c 1 _ rfl; replace c2x := P.c 2 _ rfl; replace c3x := P.c 3 _ rfl; replace c4x := P.c 4 _ rfl; replace c5x := P.c 5 _ rfl; clear hb) | (go_at_call 65; have cq : Mark 0 := mk; refine (cL _ hw).mono ?_; clear cq mk; have mk : Mark 1 := .mk _; rintro x u ⟨rfl, hu⟩; rw [hu]; clear hu) | (go_at_call 65; have cq : Mark 1 := mk; refine (cL _ hw).mono ?_; clear cq mk; have mk : Mark 2 := .mk _; rintro x u ⟨rfl, hu⟩; rw [hu]; clear hu) | (go_at_call 66; refine (cB _ hw).mono ?_; rintro x u ⟨rfl, hu⟩; rw [hu]; clear hu))
        go_ret2
        exact ⟨rfl, hw⟩
end Go.Proofs.YthaajbdppmdhaacDoor
namespace Go.Proofs.YthaajbdppmdhaacDoor
open Go.ChangeShapes Go.WideShapes Go.ChangeAt Go.RowKit
set_option linter.unusedVariables false
set_option linter.unusedSimpArgs false

set_option maxHeartbeats 1000000 in
theorem rleaps_full (a : Option Addr) (n cap : Nat) (w : World) (h : 20 < n) (hm : n ≤ 9223372036854775807) :
    Calls Tryd.prog 27 #[.slice a n cap] w fun e w' => e = .returned (.int .i64 4) ∧ Below w.heap.size w w' := by
  go_enter Tryd.func27, Tryd.ntmps27
  go_wp2
  go_ret
  exact ⟨rfl, Below.refl _ _⟩
set_option maxHeartbeats 1000000 in
theorem rleaps_none (a : Option Addr) (cap : Nat) (w : World) :
    Calls Tryd.prog 27 #[.slice a 0 cap] w fun e w' => e = .returned (.int .i64 0) ∧ Below w.heap.size w w' := by
  go_enter Tryd.func27, Tryd.ntmps27
  go_wp2
  refine wp_loop_rounds 1 ?_
  rw [rounds_succ]
  go_wp2
  go_ret
  exact ⟨rfl, Below.refl _ _⟩
set_option maxHeartbeats 4000000 in
set_option maxRecDepth 100000 in
theorem rleaps_row (b off n cap m : Nat) (q : Nat → Int × Bool) (R : Int) (w : World) (h20 : n ≤ 20) (hP : Lsp w b off n q) (hmn : m ≤ n) (hgood : ∀ i, i < m → lEr q i = 0) (hR : (m = n ∧ R = 0) ∨ (m < n ∧ lEr q m ≠ 0 ∧ R = lEr q m)) :
    Calls Tryd.prog 27 #[.slice (some ⟨b, off, none⟩) n cap] w fun e w' => e = .returned (.int .i64 R) ∧ Below w.heap.size w w' := by
  have HR : Hid ((m = n ∧ R = 0) ∨ (m < n ∧ lEr q m ≠ 0 ∧ R = lEr q m)) := hR
  have HG : Hid (∀ i, i < m → lEr q i = 0) := hgood
  have HP : Hid (Lsp w b off n q) := hP
  have cL := fun u => rlast_any u
  clear hR hgood hP
  go_enter Tryd.func27, Tryd.ntmps27
  go_wp2
  go_loopw [3] (fun i wr => ∃ k : Nat, k ≤ m ∧ i = .int .i64 k ∧ Below w.heap.size w wr) (fun i _ => n - (intOf i).toNat)
  case atStart => exact ⟨0, Nat.zero_le _, rfl, Below.refl _ _⟩
  case round =>
    obtain ⟨k, hkm, rfl, hw⟩ := hrel
    have zz := hw.size
    by_cases hlt : k < n
    · obtain ⟨x0, x1⟩ := (HP.out.on hw) k hlt
      have LE : Hid (lEr q k = if (q k).1 < 1 ∨ 84005 ≤ (q k).1 then 1 else if 0 < k ∧ (q k).1 - 2 < (q (k - 1)).1 then 3 else 0) := rfl
      have BAD : Hid (lEr q k ≠ 0 → R = lEr q k) := fun ne => by
        rcases HR.out with ⟨e, _⟩ | ⟨l, n2, e⟩
        · exact absurd (HG.out k (by omega)) ne
        · by_cases c : k = m
          · rw [c]; exact e
          · exact absurd (HG.out k (by omega)) ne
      have OK : Hid (lEr q k = 0 → k < m) := fun z => by
        rcases HR.out with ⟨e, _⟩ | ⟨l, n2, e⟩
        · omega
        · exact Nat.lt_of_le_of_ne hkm (fun c => n2 (c ▸ z))
      have hl3 : (k : Int) < n := by omega
      by_cases c1 : (q k).1 < 1
      · have E : Hid (R = 1) := by
          have := LE.out.trans (if_pos (Or.inl c1))
          show R = 1
          rw [BAD.out (by rw [this]; decide), this]
        have d1 : decide ((q k).1 < 1) = true := decide_eq_true c1
        go_wp2
        go_quiet (fail)
        all_goals
          go_wp2
          go_ret
          exact ⟨by rw [E.out]; rfl, rbel_drn hw⟩
      · have d1 : decide ((q k).1 < 1) = false := decide_eq_false c1
        by_cases c2 : 84005 ≤ (q k).1
        · have E : Hid (R = 1) := by
            have := LE.out.trans (if_pos (Or.inr c2))
            show R = 1
            rw [BAD.out (by rw [this]; decide), this]
          have d2 : decide (84005 ≤ (q k).1) = true := decide_eq_true c2
          go_wp2
          go_region_held (fun w' => w'.cell? ⟨b, off + k * 2, none⟩ = some (.int .i64 (q k).1)) (go_keep) (first | (go_at_call 20; refine (cL _).mono ?_; rintro e u1 ⟨rfl, hb⟩; replace hw : Below w.heap.size w u1 := rbel_on hb (rbel_dr hw); replace x0 := ((HP.out.on hw) k hlt).1; clear hb))
          all_goals
            go_wp2
            go_ret
            exact ⟨by rw [E.out]; rfl, hw⟩
        · have d2 : decide (84005 ≤ (q k).1) = false := decide_eq_false c2
          by_cases c3 : 0 < k
          · obtain ⟨j, rfl⟩ : ∃ j, k = j + 1 := ⟨k - 1, by omega⟩
            obtain ⟨y0, y1⟩ := (HP.out.on hw) j (by omega)
            have ej : ((j + 1 : Nat) : Int) - 1 = j := by omega
            by_cases c4 : (q (j + 1)).1 - 2 < (q j).1
            · have E : Hid (R = 3) := by
                have := LE.out.trans ((if_neg (by omega)).trans (if_pos ⟨c3, by simpa using c4⟩))
                show R = 3
                rw [BAD.out (by rw [this]; decide), this]
              have d4 : decide ((q (j + 1)).1 - 2 < (q j).1) = true := decide_eq_true c4
              go_wp2
              go_region_held (fun w' => w'.cell? ⟨b, off + (j + 1) * 2, none⟩ = some (.int .i64 (q (j + 1)).1)) (go_keep) (first | (go_at_call 20; refine (cL _).mono ?_; rintro e u1 ⟨rfl, hb⟩; replace hw : Below w.heap.size w u1 := rbel_on hb (rbel_dr hw); replace x0 := ((HP.out.on hw) (j + 1) hlt).1; replace y0 := ((HP.out.on hw) j (by omega)).1; clear hb))
              all_goals
                go_wp2
                go_quiet (fail)
                go_wp2
                go_ret
                exact ⟨by rw [E.out]; rfl, rbel_drn hw⟩
            · have d4 : decide ((q (j + 1)).1 - 2 < (q j).1) = false := decide_eq_false c4
              have km : Hid (j + 1 < m) := OK.out (LE.out.trans ((if_neg (by omega)).trans (if_neg (fun h => c4 (by simpa using h.2)))))
              go_wp2
              go_region_held (fun w' => w'.cell? ⟨b, off + (j + 1) * 2, none⟩ = some (.int .i64 (q (j + 1)).1)) (go_keep) (first | (go_at_call 20; refine (cL _).mono ?_; rintro e u1 ⟨rfl, hb⟩; replace hw : Below w.heap.size w u1 := rbel_on hb (rbel_dr hw); replace x0 := ((HP.out.on hw) (j + 1) hlt).1; replace y0 := ((HP.out.on hw) j (by omega)).1; clear hb))
              all_goals
                go_wp2
                go_quiet (fail)
                go_wp2
                go_roundw
                case rel => exact ⟨j + 1 + 1, km.out, by go_num, rbel_drn hw⟩
                case measure => simp [intOf]; omega
          · have k0 : k = 0 := by omega
            have km : Hid (0 < m) := by have := OK.out (LE.out.trans ((if_neg (by omega)).trans (if_neg (fun h => c3 h.1)))); show 0 < m; omega
            subst k0
            clear c3 OK BAD LE
            have x00 : wr.cell? ⟨b, off, none⟩ = some (.int .i64 (q 0).1) := by simpa using x0
            clear x0 x1
            go_wp2
            go_region_held (fun w' => w'.cell? ⟨b, off, none⟩ = some (.int .i64 (q 0).1)) (go_keep) (first | (go_at_call 20; refine (cL _).mono ?_; rintro e u1 ⟨rfl, hb⟩; replace hw : Below w.heap.size w u1 := rbel_on hb (rbel_dr hw); replace x00 : u1.cell? ⟨b, off, none⟩ = some (.int .i64 (q 0).1) := (by simpa using ((HP.out.on hw) 0 hlt).1); clear hb))
            all_goals
              go_wp2
              go_quiet (fail)
              go_wp2
              go_roundw
              case rel => exact ⟨0 + 1, km.out, by go_num, rbel_drn hw⟩
              case measure => simp [intOf]; omega
    · have kn : Hid (R = 0) := by
        rcases HR.out with ⟨_, e⟩ | ⟨l, _, _⟩
        · exact e
        · omega
      go_wp2
      go_ret
      exact ⟨by rw [kn.out]; rfl, hw⟩
theorem rleaps_any (a : Option Addr) (n cap : Nat) (q : Nat → Int × Bool) (w : World) (hH : LHanded w a n q) :
    Calls Tryd.prog 27 #[.slice a n cap] w fun e w' => e = .returned (.int .i64 (lE q n)) ∧ Below w.heap.size w w' := by
  obtain ⟨hm, hs⟩ := hH
  by_cases h20 : 20 < n
  · rw [show lE q n = 4 from if_pos h20]
    exact rleaps_full a n cap w h20 hm
  · rw [show lE q n = lFr q n from if_neg h20]
    rcases hs with rfl | ⟨b, off, rfl, hP⟩
    · exact rleaps_none a cap w
    · rcases first_lEr q n with g | ⟨m, h1, h2, h3⟩
      · rw [lFr_ok g]
        exact rleaps_row b off n cap n q 0 w (by omega) hP (Nat.le_refl _) g (Or.inl ⟨rfl, rfl⟩)
      · rw [lFr_first h3 h2 n h1]
        exact rleaps_row b off n cap m q _ w (by omega) hP (by omega) h3 (Or.inr ⟨h1, h2, rfl⟩)
end Go.Proofs.YthaajbdppmdhaacDoor
namespace Go.Proofs.YthaajbdppmdhaacDoor
open Go.ChangeShapes Go.WideShapes Go.ChangeAt Go.RowKit
set_option linter.unusedVariables false
set_option linter.unusedSimpArgs false

set_option maxHeartbeats 4000000 in
set_option maxRecDepth 100000 in
theorem rsmear_row (b off n cap : Nat) (q : Nat → Int × Bool) (x v D : Int) (w : World) (h20 : n ≤ 20) (hL : Lps q n) (hP : Lsp w b off n q) (h0 : 0 ≤ x) (hD0 : 0 ≤ D) (hD1 : D ≤ 84005) (hD : IsDay q n x D) (hS : Smr q n x v) :
    Calls Tryd.prog 35 #[.slice (some ⟨b, off, none⟩) n cap, .int .i64 x] w fun e w' => e = .returned (.int .i64 v) ∧ Below w.heap.size w w' := by
  have hH : LHanded w (some ⟨b, off, none⟩) n q := ⟨by omega, Or.inr ⟨b, off, rfl, hP⟩⟩
  have cB := fun (k : Nat) (hk : k < n) => rbegin_any (some ⟨b, off, none⟩) n cap q (q k).1 w h20 hL hH (by have := hL.rng k hk; omega) (by have := hL.rng k hk; omega)
  have cG := fun (k : Nat) (hk : k < n) u (hu : Below w.heap.size w u) => rlong_any (some ⟨b, off, none⟩) n cap q (q k).1 u h20 hL (hH.on hu)
  have cD := rday_any (some ⟨b, off, none⟩) n cap q x D w h20 hL hH h0 hD0 hD1 hD
  have cM := rmore_any (some ⟨b, off, none⟩) n cap q D w h20 hL hH
  have xb : x ≤ 8000000000 := by
    have := hD.2
    have := mor_le (q := q) n (D + 1)
    unfold bg at *
    omega
  have RG : Hid (∀ k, k < n → 1 ≤ (q k).1 ∧ (q k).1 < 84005) := hL.rng
  have LL : Hid (∀ d, 86399 ≤ lng q n d ∧ lng q n d ≤ 86401) := fun d => lng_le hL d
  have ML := mor_le (q := q) n D
  obtain ⟨m1, m2⟩ := ML
  have WV : Hid (∀ k, k < n → Win q n k x → v = winV q n k x) := fun k hk wk => smr_one hL hS (Or.inl ⟨k, hk, wk, rfl⟩)
  have NV : Hid ((∀ k, k < n → ¬ Win q n k x) → v = 1000 * (x - mor q n D)) := fun no => smr_one hL hS (Or.inr ⟨no, D, hD, rfl⟩)
  have HP : Hid (Lsp w b off n q) := hP
  have BB : Hid (∀ k, k < n → -20 ≤ bg q n (q k).1 ∧ bg q n (q k).1 ≤ 8000000000) := fun k hk => by
    have := hL.rng k hk
    have := mor_le (q := q) n (q k).1
    unfold bg
    omega
  clear hS hL hP hH hD
  go_enter Tryd.func35, Tryd.ntmps35
  go_wp2
  go_loopw [5] (fun i wr => ∃ k : Nat, k ≤ n ∧ i = .int .i64 k ∧ wr = w ∧ ∀ i, i < k → ¬ Win q n i x) (fun i _ => n - (intOf i).toNat)
  case atStart => exact ⟨0, Nat.zero_le _, rfl, rfl, fun i hi => by omega⟩
  case round =>
    obtain ⟨k, hk, rfl, rfl, hno⟩ := hrel
    have HNO : Hid (∀ i, i < k → ¬ Win q n i x) := hno
    clear hno
    by_cases hlt : k < n
    · obtain ⟨x0, x1⟩ := HP.out k hlt
      obtain ⟨r1, r2⟩ := RG.out k hlt
      obtain ⟨l1, l2⟩ := LL.out (q k).1
      obtain ⟨b1, b2⟩ := BB.out k hlt
      have cK := cB k hlt
      have cN := cG k hlt
      have WK := WV.out k hlt
      have WK : Hid (Win q n k x → v = winV q n k x) := WK
      have WD : Hid (Win q n k x ↔ bg q n (q k).1 + 43200 ≤ x ∧ x < bg q n (q k).1 + 43200 + lng q n (q k).1) := Iff.rfl
      have VD : Hid (winV q n k x = 1000 * (86400 * (q k).1 + 43200) + 86400000 * (x - (bg q n (q k).1 + 43200)) / lng q n (q k).1) := rfl
      have NX : Hid (¬ Win q n k x → ∀ i, i < k + 1 → ¬ Win q n i x) := fun h i hi => by
        by_cases e : i = k
        · rw [e]; exact h
        · exact HNO.out i (by omega)
      clear cB cG cD cM
      generalize bg q n (q k).1 = B at *
      generalize lng q n (q k).1 = L at *
      have hl3 : (k : Int) < n := by omega
      have mk : Mark 0 := .mk _
      by_cases a1 : 0 ≤ x - (B + 43200)
      · by_cases a2 : x - (B + 43200) < L
        · have E : Hid (v = 1000 * (86400 * (q k).1 + 43200) + 86400000 * (x - (B + 43200)) / L) := (WK.out (WD.out.2 ⟨by omega, by omega⟩)).trans VD.out
          have t1 : (86400000 * (x - (B + 43200))).tdiv L = 86400000 * (x - (B + 43200)) / L := Int.tdiv_eq_ediv_of_nonneg (by omega)
          have lz : ¬ (L = 0) := by omega
          have qb : 0 ≤ 86400000 * (x - (B + 43200)) / L ∧ 86400000 * (x - (B + 43200)) / L ≤ 86400000 := ⟨Int.ediv_nonneg (by omega) (by omega), Int.ediv_le_of_le_mul (by omega) (Int.mul_le_mul_of_nonneg_left (by omega) (by omega))⟩
          obtain ⟨q1, q2⟩ := qb
          have w1 : IntKind.i64.wrap (86400000 * (x - (B + 43200)) / L) = 86400000 * (x - (B + 43200)) / L := IntWalk.i64_in _ (by omega)
          go_wp2_with (first | (go_at_call 66; refine cK.mono ?_; rintro e u ⟨rfl, hu⟩; rw [hu]; clear hu) | (go_at_call 65; refine (cN _ (Below.refl _ _)).mono ?_; rintro e u ⟨rfl, hu⟩; rw [hu]; clear hu))
          go_quiet (first | (go_at_call 65; refine Calls.quiet_of_same (cN _ ?_); exact rbel_drn (Below.refl _ _)))
          all_goals
            go_wp2
            go_ret
            exact ⟨by rw [E.out]; first | rfl | simp, rbel_drn (Below.refl _ _)⟩
        · have f2 : decide (x - (B + 43200) < L) = false := decide_eq_false a2
          have NW := NX.out (fun h => by have := WD.out.1 h; omega)
          have NW : Hid (∀ i, i < k + 1 → ¬ Win q n i x) := NW
          go_wp2_with (first | (go_at_call 66; refine cK.mono ?_; rintro e u ⟨rfl, hu⟩; rw [hu]; clear hu) | (go_at_call 65; refine (cN _ (Below.refl _ _)).mono ?_; rintro e u ⟨rfl, hu⟩; rw [hu]; clear hu))
          go_roundw
          case rel => exact ⟨k + 1, by omega, by go_num, trivial, NW.out⟩
          case measure => simp [intOf]; omega
      · have NW := NX.out (fun h => by have := WD.out.1 h; omega)
        have NW : Hid (∀ i, i < k + 1 → ¬ Win q n i x) := NW
        go_wp2_with (first | (go_at_call 66; refine cK.mono ?_; rintro e u ⟨rfl, hu⟩; rw [hu]; clear hu))
        go_roundw
        case rel => exact ⟨k + 1, by omega, by go_num, trivial, NW.out⟩
        case measure => simp [intOf]; omega
    · have kn : k = n := by omega
      subst kn
      have E : Hid (v = 1000 * (x - mor q k D)) := NV.out HNO.out
      go_wp2_with (first | (go_at_call 34; refine cD.mono ?_; rintro e u ⟨rfl, hu⟩; rw [hu]; clear hu) | (go_at_call 33; refine cM.mono ?_; rintro e u ⟨rfl, hu⟩; rw [hu]; clear hu))
      go_ret
      exact ⟨by rw [E.out]; rfl, Below.refl _ _⟩
end Go.Proofs.YthaajbdppmdhaacDoor
namespace Go.Proofs.YthaajbdppmdhaacDoor
open Go.ChangeShapes Go.WideShapes Go.ChangeAt Go.RowKit Go.Joins
set_option linter.unusedVariables false
set_option linter.unusedSimpArgs false

theorem ret_l {a b : Int} (h : a = b) : Ending.returned (.int .i64 a) = .returned (.int .i64 b) := by rw [h]
theorem same_below {u w' : World} {e x : Ending} (h : e = x ∧ w' = u) : e = x ∧ Below u.heap.size u w' := ⟨h.1, by rw [h.2]; exact Below.refl _ _⟩
set_option maxHeartbeats 1000000 in
theorem rsmear_none (a : Option Addr) (cap : Nat) (q : Nat → Int × Bool) (x v D : Int) (w : World) (h0 : 0 ≤ x) (hD0 : 0 ≤ D) (hD1 : D ≤ 84005) (hD : IsDay q 0 x D) (hS : Smr q 0 x v) :
    Calls Tryd.prog 35 #[.slice a 0 cap, .int .i64 x] w fun e w' => e = .returned (.int .i64 v) ∧ Below w.heap.size w w' := by
  have hL : Lps q 0 := ⟨fun i hi => by omega, fun i hi => by omega⟩
  have hH : LHanded w a 0 q := ⟨by omega, Or.inl rfl⟩
  have cD := rday_any a 0 cap q x D w (by omega) hL hH h0 hD0 hD1 hD
  have cM := rmore_any a 0 cap q D w (by omega) hL hH
  have m0 : mor q 0 D = 0 := rfl
  rw [m0] at cM
  have E : Hid (1000 * x = v) := by
    show _ = _
    have := smr_one hL hS (Or.inr ⟨fun i hi => by omega, D, hD, rfl⟩)
    rw [m0] at this; omega
  have xb : x ≤ 8000000000 := by
    have := hD.2
    have := mor_le (q := q) 0 (D + 1)
    unfold bg at *
    omega
  clear hS hL hH hD
  go_enter Tryd.func35, Tryd.ntmps35
  go_wp2
  refine wp_loop_rounds 1 ?_
  rw [rounds_succ]
  go_wp2_with (first | (go_at_call 34; refine cD.mono ?_; rintro e u ⟨rfl, hu⟩; rw [hu]; clear hu) | (go_at_call 33; refine cM.mono ?_; rintro e u ⟨rfl, hu⟩; rw [hu]; clear hu))
  go_ret
  exact ⟨ret_l E.out, Below.refl _ _⟩
theorem rsmear_any (a : Option Addr) (n cap : Nat) (q : Nat → Int × Bool) (x v D : Int) (w : World) (h20 : n ≤ 20) (hL : Lps q n) (hH : LHanded w a n q) (h0 : 0 ≤ x) (hD0 : 0 ≤ D) (hD1 : D ≤ 84005) (hD : IsDay q n x D) (hS : Smr q n x v) :
    Calls Tryd.prog 35 #[.slice a n cap, .int .i64 x] w fun e w' => e = .returned (.int .i64 v) ∧ Below w.heap.size w w' := by
  rcases hH.2 with e | ⟨b, off, rfl, hP⟩
  · subst e; exact rsmear_none a cap q x v D w h0 hD0 hD1 hD hS
  · exact rsmear_row b off n cap q x v D w h20 hL hP h0 hD0 hD1 hD hS

set_option maxHeartbeats 2000000 in
theorem rltext_any (y m d h i s : Int) (w : World) (ok : okD y m d = true) (oh : okH h i s = true) :
    Calls Tryd.prog 40 #[lbl y m d h i s] w fun e w' => e = .returned (.string (ltext y m d h i s)) ∧ Below w.heap.size w w' := by
  obtain ⟨a1, a2, a3, a4, a5, a6⟩ := okH_t oh
  have cD := fun u => rtext_any y m d u ok
  have c1 := fun u => rpad2 h u (by omega) (by omega)
  have c2 := fun u => rpad2 i u (by omega) (by omega)
  have c3 := fun u => rpad2 s u (by omega) (by omega)
  have E : Hid (dtext y m d ++ ⟨#[84]⟩ ++ ⟨(d2 h).toArray⟩ ++ ⟨#[58]⟩ ++ ⟨(d2 i).toArray⟩ ++ ⟨#[58]⟩ ++ ⟨(d2 s).toArray⟩ = ltext y m d h i s) := by
    show _ = _
    apply ByteArray.ext
    apply Array.toList_inj.1
    simp only [ByteArray.data_append, Array.toList_append]
    simp [dtext, ltext]
  have z0 : (dtext y m d).size = 10 := rfl
  have z1 : (⟨(d2 h).toArray⟩ : ByteArray).size = 2 := rfl
  have z2 : (⟨(d2 i).toArray⟩ : ByteArray).size = 2 := rfl
  have z3 : (⟨(d2 s).toArray⟩ : ByteArray).size = 2 := rfl
  generalize dtext y m d = t0 at *
  generalize (⟨(d2 h).toArray⟩ : ByteArray) = t1 at *
  generalize (⟨(d2 i).toArray⟩ : ByteArray) = t2 at *
  generalize (⟨(d2 s).toArray⟩ : ByteArray) = t3 at *
  have mk : Mark 0 := .mk _
  clear ok oh a1 a2 a3 a4 a5 a6
  go_enter Tryd.func40, Tryd.ntmps40
  go_wp2_with (first | (go_at_call 16; refine (cD _).mono ?_; rintro e u0 ⟨rfl, hb⟩; have hw : Below w.heap.size w u0 := rbel_on hb (rbel_al (Below.refl _ _)); have P : Row u0 w.heap.size [.int .i64 y, .int .i64 m, .int .i64 d, .int .i64 h, .int .i64 i, .int .i64 s] := Row.on hb (Row.made rfl); have q3 := P.c 3 _ rfl; have q4 := P.c 4 _ rfl; have q5 := P.c 5 _ rfl; clear hb) | (go_at_call 52; have cq : Mark 0 := mk; refine (c1 _).mono ?_; clear cq mk; have mk : Mark 1 := .mk _; rintro e u ⟨rfl, hu⟩; rw [hu]; clear hu) | (go_at_call 52; have cq : Mark 1 := mk; refine (c2 _).mono ?_; clear cq mk; have mk : Mark 2 := .mk _; rintro e u ⟨rfl, hu⟩; rw [hu]; clear hu) | (go_at_call 52; have cq : Mark 2 := mk; refine (c3 _).mono ?_; clear cq mk; have mk : Mark 3 := .mk _; rintro e u ⟨rfl, hu⟩; rw [hu]; clear hu))
  go_ret
  exact ⟨str_is E.out, hw⟩
end Go.Proofs.YthaajbdppmdhaacDoor
namespace Go.Proofs.YthaajbdppmdhaacDoor
open Go.ChangeShapes Go.WideShapes Go.ChangeAt Go.RowKit Go.Joins
set_option linter.unusedVariables false
set_option linter.unusedSimpArgs false

set_option maxRecDepth 100000 in
set_option maxHeartbeats 4000000 in
theorem rlab_len (t : ByteArray)  (w : World)
    (hs : t.size ≤ 9223372036854775807) (h : ¬ t.size = 19) :
    Calls Tryd.prog 42 #[.string t] w fun e w' => e = .returned (.tuple #[lbl 0 0 0 0 0 0, .int .i64 2]) ∧ Below w.heap.size w w' := by
  have h1 : (((t.size : Nat) : Int) == 19) = false := by simp; omega
  go_enter Tryd.func42, Tryd.ntmps42
  go_wp2
  exact bodyPost_ret (v := _) (by simp [results, Tryd.results42, go_sem, *]) rfl ⟨rfl, by (repeat (first | (with_reducible assumption) | (with_reducible exact Below.refl _ _) | (with_reducible refine rbel_put (by first | exact Nat.le_refl _ | omega) ?_) | (with_reducible refine rbel_al ?_)))⟩

set_option maxRecDepth 100000 in
set_option maxHeartbeats 4000000 in
theorem rlab_10 (t : ByteArray)  (w : World)
    (hs : t.size = 19)
    (h10 : ¬ t[10].toNat = 84) :
    Calls Tryd.prog 42 #[.string t] w fun e w' => e = .returned (.tuple #[lbl 0 0 0 0 0 0, .int .i64 2]) ∧ Below w.heap.size w w' := by
  have g10 : (((t[10].toNat : Nat) : Int) == 84) = false := by simp; omega
  go_enter Tryd.func42, Tryd.ntmps42
  go_wp2
  exact bodyPost_ret (v := _) (by simp [results, Tryd.results42, go_sem, *]) rfl ⟨rfl, by (repeat (first | (with_reducible assumption) | (with_reducible exact Below.refl _ _) | (with_reducible refine rbel_put (by first | exact Nat.le_refl _ | omega) ?_) | (with_reducible refine rbel_al ?_)))⟩

set_option maxRecDepth 100000 in
set_option maxHeartbeats 4000000 in
theorem rlab_13 (t : ByteArray)  (w : World)
    (hs : t.size = 19)
    (h10 : t[10].toNat = 84)
    (h13 : ¬ t[13].toNat = 58) :
    Calls Tryd.prog 42 #[.string t] w fun e w' => e = .returned (.tuple #[lbl 0 0 0 0 0 0, .int .i64 2]) ∧ Below w.heap.size w w' := by
  have g13 : (((t[13].toNat : Nat) : Int) == 58) = false := by simp; omega
  have g10 : ((t[10].toNat : Nat) : Int) = 84 := by omega
  go_enter Tryd.func42, Tryd.ntmps42
  go_wp2
  exact bodyPost_ret (v := _) (by simp [results, Tryd.results42, go_sem, *]) rfl ⟨rfl, by (repeat (first | (with_reducible assumption) | (with_reducible exact Below.refl _ _) | (with_reducible refine rbel_put (by first | exact Nat.le_refl _ | omega) ?_) | (with_reducible refine rbel_al ?_)))⟩

set_option maxRecDepth 100000 in
set_option maxHeartbeats 4000000 in
theorem rlab_16 (t : ByteArray)  (w : World)
    (hs : t.size = 19)
    (h10 : t[10].toNat = 84)
    (h13 : t[13].toNat = 58)
    (h16 : ¬ t[16].toNat = 58) :
    Calls Tryd.prog 42 #[.string t] w fun e w' => e = .returned (.tuple #[lbl 0 0 0 0 0 0, .int .i64 2]) ∧ Below w.heap.size w w' := by
  have g16 : (((t[16].toNat : Nat) : Int) == 58) = false := by simp; omega
  have g10 : ((t[10].toNat : Nat) : Int) = 84 := by omega
  have g13 : ((t[13].toNat : Nat) : Int) = 58 := by omega
  go_enter Tryd.func42, Tryd.ntmps42
  go_wp2
  exact bodyPost_ret (v := _) (by simp [results, Tryd.results42, go_sem, *]) rfl ⟨rfl, by (repeat (first | (with_reducible assumption) | (with_reducible exact Below.refl _ _) | (with_reducible refine rbel_put (by first | exact Nat.le_refl _ | omega) ?_) | (with_reducible refine rbel_al ?_)))⟩

set_option maxRecDepth 100000 in
set_option maxHeartbeats 4000000 in
theorem rlab_d (t : ByteArray) (dy dm dd e0 a b c : Int) (y : Bool) (x : Bool) (z : Bool) (w : World)
    (hs : t.size = 19)
    (h10 : t[10].toNat = 84)
    (h13 : t[13].toNat = 58)
    (h16 : t[16].toNat = 58)
    (cR : ∀ u, Calls Tryd.prog 25 #[.string (t.extract 0 10)] u fun e w' => e = .returned (.tuple #[.agg #[.int .i64 dy, .int .i64 dm, .int .i64 dd], .int .i64 2]) ∧ Below u.heap.size u w')
    (cA : ∀ u, Calls Tryd.prog 62 #[.string (t.extract 11 13)] u fun e w' => e = .returned (.tuple #[.int .i64 a, .bool x]) ∧ Below u.heap.size u w')
    (cB : ∀ u, Calls Tryd.prog 62 #[.string (t.extract 14 16)] u fun e w' => e = .returned (.tuple #[.int .i64 b, .bool y]) ∧ Below u.heap.size u w')
    (cC : ∀ u, Calls Tryd.prog 62 #[.string (t.extract 17 19)] u fun e w' => e = .returned (.tuple #[.int .i64 c, .bool z]) ∧ Below u.heap.size u w') :
    Calls Tryd.prog 42 #[.string t] w fun e w' => e = .returned (.tuple #[lbl 0 0 0 0 0 0, .int .i64 2]) ∧ Below w.heap.size w w' := by
  have g10 : ((t[10].toNat : Nat) : Int) = 84 := by omega
  have g13 : ((t[13].toNat : Nat) : Int) = 58 := by omega
  have g16 : ((t[16].toNat : Nat) : Int) = 58 := by omega
  have cnt : Mark 0 := .mk _
  go_enter Tryd.func42, Tryd.ntmps42
  go_wp2_with (first | (go_at_call 25; have cq : Mark 0 := cnt; refine (cR _).mono ?_; clear cq cnt; have cnt : Mark 1 := .mk _; rintro e u0 ⟨rfl, hb⟩; replace hw : Below w.heap.size w u0 := rbel_on hb (rbel_al (Below.refl _ _)); replace PR : Row u0 (w.heap.size) [.int .i64 (0), .int .i64 (0), .int .i64 (0), .int .i64 (0), .int .i64 (0), .int .i64 (0)] := Row.on hb (Row.made (by simp)); replace cR0 := PR.c 0 _ rfl; replace cR1 := PR.c 1 _ rfl; replace cR2 := PR.c 2 _ rfl; replace cR3 := PR.c 3 _ rfl; replace cR4 := PR.c 4 _ rfl; replace cR5 := PR.c 5 _ rfl; replace zR := PR.lt; replace fR0 := PR.f 0 _ rfl; replace fR1 := PR.f 1 _ rfl; replace fR2 := PR.f 2 _ rfl; replace fR3 := PR.f 3 _ rfl; replace fR4 := PR.f 4 _ rfl; replace fR5 := PR.f 5 _ rfl; have y0_R_0 : w.heap.size < u0.heap.size := (by omega); have n0_R_0 : ¬ (u0.heap.size = w.heap.size) := (by omega); have m0_R_0 : ¬ (w.heap.size = u0.heap.size) := (by omega); clear hb) | (go_at_call 62; have cq : Mark 1 := cnt; refine (cA _).mono ?_; clear cq cnt; have cnt : Mark 2 := .mk _; rintro e u1 ⟨rfl, hb⟩; replace hw : Below w.heap.size w u1 := rbel_on hb (rbel_al (hw)); replace PR : Row u1 (w.heap.size) [.int .i64 (0), .int .i64 (0), .int .i64 (0), .int .i64 (0), .int .i64 (0), .int .i64 (0)] := Row.on hb (Row.al (PR)); replace cR0 := PR.c 0 _ rfl; replace cR1 := PR.c 1 _ rfl; replace cR2 := PR.c 2 _ rfl; replace cR3 := PR.c 3 _ rfl; replace cR4 := PR.c 4 _ rfl; replace cR5 := PR.c 5 _ rfl; replace zR := PR.lt; replace fR0 := PR.f 0 _ rfl; replace fR1 := PR.f 1 _ rfl; replace fR2 := PR.f 2 _ rfl; replace fR3 := PR.f 3 _ rfl; replace fR4 := PR.f 4 _ rfl; replace fR5 := PR.f 5 _ rfl; replace PD : Row u1 (u0.heap.size) [.int .i64 (dy), .int .i64 (dm), .int .i64 (dd)] := Row.on hb (Row.made (by simp)); replace cD0 := PD.c 0 _ rfl; replace cD1 := PD.c 1 _ rfl; replace cD2 := PD.c 2 _ rfl; replace zD := PD.lt; clear hb) | (go_at_call 62; have cq : Mark 2 := cnt; refine (cB _).mono ?_; clear cq cnt; have cnt : Mark 3 := .mk _; rintro e u2 ⟨rfl, hb⟩; replace hw : Below w.heap.size w u2 := rbel_on hb (hw); replace PR : Row u2 (w.heap.size) [.int .i64 (0), .int .i64 (0), .int .i64 (0), .int .i64 (0), .int .i64 (0), .int .i64 (0)] := Row.on hb (PR); replace cR0 := PR.c 0 _ rfl; replace cR1 := PR.c 1 _ rfl; replace cR2 := PR.c 2 _ rfl; replace cR3 := PR.c 3 _ rfl; replace cR4 := PR.c 4 _ rfl; replace cR5 := PR.c 5 _ rfl; replace zR := PR.lt; replace fR0 := PR.f 0 _ rfl; replace fR1 := PR.f 1 _ rfl; replace fR2 := PR.f 2 _ rfl; replace fR3 := PR.f 3 _ rfl; replace fR4 := PR.f 4 _ rfl; replace fR5 := PR.f 5 _ rfl; replace PD : Row u2 (u0.heap.size) [.int .i64 (dy), .int .i64 (dm), .int .i64 (dd)] := Row.on hb (PD); replace cD0 := PD.c 0 _ rfl; replace cD1 := PD.c 1 _ rfl; replace cD2 := PD.c 2 _ rfl; replace zD := PD.lt; clear hb) | (go_at_call 62; have cq : Mark 3 := cnt; refine (cC _).mono ?_; clear cq cnt; have cnt : Mark 4 := .mk _; rintro e u3 ⟨rfl, hb⟩; replace hw : Below w.heap.size w u3 := rbel_on hb (hw); replace PR : Row u3 (w.heap.size) [.int .i64 (0), .int .i64 (0), .int .i64 (0), .int .i64 (0), .int .i64 (0), .int .i64 (0)] := Row.on hb (PR); replace cR0 := PR.c 0 _ rfl; replace cR1 := PR.c 1 _ rfl; replace cR2 := PR.c 2 _ rfl; replace cR3 := PR.c 3 _ rfl; replace cR4 := PR.c 4 _ rfl; replace cR5 := PR.c 5 _ rfl; replace zR := PR.lt; replace fR0 := PR.f 0 _ rfl; replace fR1 := PR.f 1 _ rfl; replace fR2 := PR.f 2 _ rfl; replace fR3 := PR.f 3 _ rfl; replace fR4 := PR.f 4 _ rfl; replace fR5 := PR.f 5 _ rfl; replace PD : Row u3 (u0.heap.size) [.int .i64 (dy), .int .i64 (dm), .int .i64 (dd)] := Row.on hb (PD); replace cD0 := PD.c 0 _ rfl; replace cD1 := PD.c 1 _ rfl; replace cD2 := PD.c 2 _ rfl; replace zD := PD.lt; clear hb))
  clear g10 g13 g16 h10 h13 h16 cR cA cB cC
  exact bodyPost_ret (v := _) (by simp [results, Tryd.results42, go_sem, *]) rfl ⟨rfl, by (repeat (first | (with_reducible assumption) | (with_reducible exact Below.refl _ _) | (with_reducible refine rbel_put (by first | exact Nat.le_refl _ | omega) ?_) | (with_reducible refine rbel_al ?_)))⟩

set_option maxRecDepth 100000 in
set_option maxHeartbeats 4000000 in
theorem rlab_x (t : ByteArray) (dy dm dd e0 a b c : Int) (y : Bool) (z : Bool) (w : World)
    (hs : t.size = 19)
    (h10 : t[10].toNat = 84)
    (h13 : t[13].toNat = 58)
    (h16 : t[16].toNat = 58)
    (he : (e0 == 2) = false)
    (cR : ∀ u, Calls Tryd.prog 25 #[.string (t.extract 0 10)] u fun e w' => e = .returned (.tuple #[.agg #[.int .i64 dy, .int .i64 dm, .int .i64 dd], .int .i64 e0]) ∧ Below u.heap.size u w')
    (cA : ∀ u, Calls Tryd.prog 62 #[.string (t.extract 11 13)] u fun e w' => e = .returned (.tuple #[.int .i64 a, .bool false]) ∧ Below u.heap.size u w')
    (cB : ∀ u, Calls Tryd.prog 62 #[.string (t.extract 14 16)] u fun e w' => e = .returned (.tuple #[.int .i64 b, .bool y]) ∧ Below u.heap.size u w')
    (cC : ∀ u, Calls Tryd.prog 62 #[.string (t.extract 17 19)] u fun e w' => e = .returned (.tuple #[.int .i64 c, .bool z]) ∧ Below u.heap.size u w') :
    Calls Tryd.prog 42 #[.string t] w fun e w' => e = .returned (.tuple #[lbl 0 0 0 0 0 0, .int .i64 2]) ∧ Below w.heap.size w w' := by
  have g10 : ((t[10].toNat : Nat) : Int) = 84 := by omega
  have g13 : ((t[13].toNat : Nat) : Int) = 58 := by omega
  have g16 : ((t[16].toNat : Nat) : Int) = 58 := by omega
  have cnt : Mark 0 := .mk _
  go_enter Tryd.func42, Tryd.ntmps42
  go_wp2_with (first | (go_at_call 25; have cq : Mark 0 := cnt; refine (cR _).mono ?_; clear cq cnt; have cnt : Mark 1 := .mk _; rintro e u0 ⟨rfl, hb⟩; replace hw : Below w.heap.size w u0 := rbel_on hb (rbel_al (Below.refl _ _)); replace PR : Row u0 (w.heap.size) [.int .i64 (0), .int .i64 (0), .int .i64 (0), .int .i64 (0), .int .i64 (0), .int .i64 (0)] := Row.on hb (Row.made (by simp)); replace cR0 := PR.c 0 _ rfl; replace cR1 := PR.c 1 _ rfl; replace cR2 := PR.c 2 _ rfl; replace cR3 := PR.c 3 _ rfl; replace cR4 := PR.c 4 _ rfl; replace cR5 := PR.c 5 _ rfl; replace zR := PR.lt; replace fR0 := PR.f 0 _ rfl; replace fR1 := PR.f 1 _ rfl; replace fR2 := PR.f 2 _ rfl; replace fR3 := PR.f 3 _ rfl; replace fR4 := PR.f 4 _ rfl; replace fR5 := PR.f 5 _ rfl; have y0_R_0 : w.heap.size < u0.heap.size := (by omega); have n0_R_0 : ¬ (u0.heap.size = w.heap.size) := (by omega); have m0_R_0 : ¬ (w.heap.size = u0.heap.size) := (by omega); clear hb) | (go_at_call 62; have cq : Mark 1 := cnt; refine (cA _).mono ?_; clear cq cnt; have cnt : Mark 2 := .mk _; rintro e u1 ⟨rfl, hb⟩; replace hw : Below w.heap.size w u1 := rbel_on hb (rbel_al (hw)); replace PR : Row u1 (w.heap.size) [.int .i64 (0), .int .i64 (0), .int .i64 (0), .int .i64 (0), .int .i64 (0), .int .i64 (0)] := Row.on hb (Row.al (PR)); replace cR0 := PR.c 0 _ rfl; replace cR1 := PR.c 1 _ rfl; replace cR2 := PR.c 2 _ rfl; replace cR3 := PR.c 3 _ rfl; replace cR4 := PR.c 4 _ rfl; replace cR5 := PR.c 5 _ rfl; replace zR := PR.lt; replace fR0 := PR.f 0 _ rfl; replace fR1 := PR.f 1 _ rfl; replace fR2 := PR.f 2 _ rfl; replace fR3 := PR.f 3 _ rfl; replace fR4 := PR.f 4 _ rfl; replace fR5 := PR.f 5 _ rfl; replace PD : Row u1 (u0.heap.size) [.int .i64 (dy), .int .i64 (dm), .int .i64 (dd)] := Row.on hb (Row.made (by simp)); replace cD0 := PD.c 0 _ rfl; replace cD1 := PD.c 1 _ rfl; replace cD2 := PD.c 2 _ rfl; replace zD := PD.lt; clear hb) | (go_at_call 62; have cq : Mark 2 := cnt; refine (cB _).mono ?_; clear cq cnt; have cnt : Mark 3 := .mk _; rintro e u2 ⟨rfl, hb⟩; replace hw : Below w.heap.size w u2 := rbel_on hb (hw); replace PR : Row u2 (w.heap.size) [.int .i64 (0), .int .i64 (0), .int .i64 (0), .int .i64 (0), .int .i64 (0), .int .i64 (0)] := Row.on hb (PR); replace cR0 := PR.c 0 _ rfl; replace cR1 := PR.c 1 _ rfl; replace cR2 := PR.c 2 _ rfl; replace cR3 := PR.c 3 _ rfl; replace cR4 := PR.c 4 _ rfl; replace cR5 := PR.c 5 _ rfl; replace zR := PR.lt; replace fR0 := PR.f 0 _ rfl; replace fR1 := PR.f 1 _ rfl; replace fR2 := PR.f 2 _ rfl; replace fR3 := PR.f 3 _ rfl; replace fR4 := PR.f 4 _ rfl; replace fR5 := PR.f 5 _ rfl; replace PD : Row u2 (u0.heap.size) [.int .i64 (dy), .int .i64 (dm), .int .i64 (dd)] := Row.on hb (PD); replace cD0 := PD.c 0 _ rfl; replace cD1 := PD.c 1 _ rfl; replace cD2 := PD.c 2 _ rfl; replace zD := PD.lt; clear hb) | (go_at_call 62; have cq : Mark 3 := cnt; refine (cC _).mono ?_; clear cq cnt; have cnt : Mark 4 := .mk _; rintro e u3 ⟨rfl, hb⟩; replace hw : Below w.heap.size w u3 := rbel_on hb (hw); replace PR : Row u3 (w.heap.size) [.int .i64 (0), .int .i64 (0), .int .i64 (0), .int .i64 (0), .int .i64 (0), .int .i64 (0)] := Row.on hb (PR); replace cR0 := PR.c 0 _ rfl; replace cR1 := PR.c 1 _ rfl; replace cR2 := PR.c 2 _ rfl; replace cR3 := PR.c 3 _ rfl; replace cR4 := PR.c 4 _ rfl; replace cR5 := PR.c 5 _ rfl; replace zR := PR.lt; replace fR0 := PR.f 0 _ rfl; replace fR1 := PR.f 1 _ rfl; replace fR2 := PR.f 2 _ rfl; replace fR3 := PR.f 3 _ rfl; replace fR4 := PR.f 4 _ rfl; replace fR5 := PR.f 5 _ rfl; replace PD : Row u3 (u0.heap.size) [.int .i64 (dy), .int .i64 (dm), .int .i64 (dd)] := Row.on hb (PD); replace cD0 := PD.c 0 _ rfl; replace cD1 := PD.c 1 _ rfl; replace cD2 := PD.c 2 _ rfl; replace zD := PD.lt; clear hb))
  clear g10 g13 g16 h10 h13 h16 cR cA cB cC
  exact bodyPost_ret (v := _) (by simp [results, Tryd.results42, go_sem, *]) rfl ⟨rfl, by (repeat (first | (with_reducible assumption) | (with_reducible exact Below.refl _ _) | (with_reducible refine rbel_put (by first | exact Nat.le_refl _ | omega) ?_) | (with_reducible refine rbel_al ?_)))⟩

set_option maxRecDepth 100000 in
set_option maxHeartbeats 4000000 in
theorem rlab_y (t : ByteArray) (dy dm dd e0 a b c : Int) (z : Bool) (w : World)
    (hs : t.size = 19)
    (h10 : t[10].toNat = 84)
    (h13 : t[13].toNat = 58)
    (h16 : t[16].toNat = 58)
    (he : (e0 == 2) = false)
    (cR : ∀ u, Calls Tryd.prog 25 #[.string (t.extract 0 10)] u fun e w' => e = .returned (.tuple #[.agg #[.int .i64 dy, .int .i64 dm, .int .i64 dd], .int .i64 e0]) ∧ Below u.heap.size u w')
    (cA : ∀ u, Calls Tryd.prog 62 #[.string (t.extract 11 13)] u fun e w' => e = .returned (.tuple #[.int .i64 a, .bool true]) ∧ Below u.heap.size u w')
    (cB : ∀ u, Calls Tryd.prog 62 #[.string (t.extract 14 16)] u fun e w' => e = .returned (.tuple #[.int .i64 b, .bool false]) ∧ Below u.heap.size u w')
    (cC : ∀ u, Calls Tryd.prog 62 #[.string (t.extract 17 19)] u fun e w' => e = .returned (.tuple #[.int .i64 c, .bool z]) ∧ Below u.heap.size u w') :
    Calls Tryd.prog 42 #[.string t] w fun e w' => e = .returned (.tuple #[lbl 0 0 0 0 0 0, .int .i64 2]) ∧ Below w.heap.size w w' := by
  have g10 : ((t[10].toNat : Nat) : Int) = 84 := by omega
  have g13 : ((t[13].toNat : Nat) : Int) = 58 := by omega
  have g16 : ((t[16].toNat : Nat) : Int) = 58 := by omega
  have cnt : Mark 0 := .mk _
  go_enter Tryd.func42, Tryd.ntmps42
  go_wp2_with (first | (go_at_call 25; have cq : Mark 0 := cnt; refine (cR _).mono ?_; clear cq cnt; have cnt : Mark 1 := .mk _; rintro e u0 ⟨rfl, hb⟩; replace hw : Below w.heap.size w u0 := rbel_on hb (rbel_al (Below.refl _ _)); replace PR : Row u0 (w.heap.size) [.int .i64 (0), .int .i64 (0), .int .i64 (0), .int .i64 (0), .int .i64 (0), .int .i64 (0)] := Row.on hb (Row.made (by simp)); replace cR0 := PR.c 0 _ rfl; replace cR1 := PR.c 1 _ rfl; replace cR2 := PR.c 2 _ rfl; replace cR3 := PR.c 3 _ rfl; replace cR4 := PR.c 4 _ rfl; replace cR5 := PR.c 5 _ rfl; replace zR := PR.lt; replace fR0 := PR.f 0 _ rfl; replace fR1 := PR.f 1 _ rfl; replace fR2 := PR.f 2 _ rfl; replace fR3 := PR.f 3 _ rfl; replace fR4 := PR.f 4 _ rfl; replace fR5 := PR.f 5 _ rfl; have y0_R_0 : w.heap.size < u0.heap.size := (by omega); have n0_R_0 : ¬ (u0.heap.size = w.heap.size) := (by omega); have m0_R_0 : ¬ (w.heap.size = u0.heap.size) := (by omega); clear hb) | (go_at_call 62; have cq : Mark 1 := cnt; refine (cA _).mono ?_; clear cq cnt; have cnt : Mark 2 := .mk _; rintro e u1 ⟨rfl, hb⟩; replace hw : Below w.heap.size w u1 := rbel_on hb (rbel_al (hw)); replace PR : Row u1 (w.heap.size) [.int .i64 (0), .int .i64 (0), .int .i64 (0), .int .i64 (0), .int .i64 (0), .int .i64 (0)] := Row.on hb (Row.al (PR)); replace cR0 := PR.c 0 _ rfl; replace cR1 := PR.c 1 _ rfl; replace cR2 := PR.c 2 _ rfl; replace cR3 := PR.c 3 _ rfl; replace cR4 := PR.c 4 _ rfl; replace cR5 := PR.c 5 _ rfl; replace zR := PR.lt; replace fR0 := PR.f 0 _ rfl; replace fR1 := PR.f 1 _ rfl; replace fR2 := PR.f 2 _ rfl; replace fR3 := PR.f 3 _ rfl; replace fR4 := PR.f 4 _ rfl; replace fR5 := PR.f 5 _ rfl; replace PD : Row u1 (u0.heap.size) [.int .i64 (dy), .int .i64 (dm), .int .i64 (dd)] := Row.on hb (Row.made (by simp)); replace cD0 := PD.c 0 _ rfl; replace cD1 := PD.c 1 _ rfl; replace cD2 := PD.c 2 _ rfl; replace zD := PD.lt; clear hb) | (go_at_call 62; have cq : Mark 2 := cnt; refine (cB _).mono ?_; clear cq cnt; have cnt : Mark 3 := .mk _; rintro e u2 ⟨rfl, hb⟩; replace hw : Below w.heap.size w u2 := rbel_on hb (hw); replace PR : Row u2 (w.heap.size) [.int .i64 (0), .int .i64 (0), .int .i64 (0), .int .i64 (0), .int .i64 (0), .int .i64 (0)] := Row.on hb (PR); replace cR0 := PR.c 0 _ rfl; replace cR1 := PR.c 1 _ rfl; replace cR2 := PR.c 2 _ rfl; replace cR3 := PR.c 3 _ rfl; replace cR4 := PR.c 4 _ rfl; replace cR5 := PR.c 5 _ rfl; replace zR := PR.lt; replace fR0 := PR.f 0 _ rfl; replace fR1 := PR.f 1 _ rfl; replace fR2 := PR.f 2 _ rfl; replace fR3 := PR.f 3 _ rfl; replace fR4 := PR.f 4 _ rfl; replace fR5 := PR.f 5 _ rfl; replace PD : Row u2 (u0.heap.size) [.int .i64 (dy), .int .i64 (dm), .int .i64 (dd)] := Row.on hb (PD); replace cD0 := PD.c 0 _ rfl; replace cD1 := PD.c 1 _ rfl; replace cD2 := PD.c 2 _ rfl; replace zD := PD.lt; clear hb) | (go_at_call 62; have cq : Mark 3 := cnt; refine (cC _).mono ?_; clear cq cnt; have cnt : Mark 4 := .mk _; rintro e u3 ⟨rfl, hb⟩; replace hw : Below w.heap.size w u3 := rbel_on hb (hw); replace PR : Row u3 (w.heap.size) [.int .i64 (0), .int .i64 (0), .int .i64 (0), .int .i64 (0), .int .i64 (0), .int .i64 (0)] := Row.on hb (PR); replace cR0 := PR.c 0 _ rfl; replace cR1 := PR.c 1 _ rfl; replace cR2 := PR.c 2 _ rfl; replace cR3 := PR.c 3 _ rfl; replace cR4 := PR.c 4 _ rfl; replace cR5 := PR.c 5 _ rfl; replace zR := PR.lt; replace fR0 := PR.f 0 _ rfl; replace fR1 := PR.f 1 _ rfl; replace fR2 := PR.f 2 _ rfl; replace fR3 := PR.f 3 _ rfl; replace fR4 := PR.f 4 _ rfl; replace fR5 := PR.f 5 _ rfl; replace PD : Row u3 (u0.heap.size) [.int .i64 (dy), .int .i64 (dm), .int .i64 (dd)] := Row.on hb (PD); replace cD0 := PD.c 0 _ rfl; replace cD1 := PD.c 1 _ rfl; replace cD2 := PD.c 2 _ rfl; replace zD := PD.lt; clear hb))
  clear g10 g13 g16 h10 h13 h16 cR cA cB cC
  exact bodyPost_ret (v := _) (by simp [results, Tryd.results42, go_sem, *]) rfl ⟨rfl, by (repeat (first | (with_reducible assumption) | (with_reducible exact Below.refl _ _) | (with_reducible refine rbel_put (by first | exact Nat.le_refl _ | omega) ?_) | (with_reducible refine rbel_al ?_)))⟩

set_option maxRecDepth 100000 in
set_option maxHeartbeats 4000000 in
theorem rlab_z (t : ByteArray) (dy dm dd e0 a b c : Int) (w : World)
    (hs : t.size = 19)
    (h10 : t[10].toNat = 84)
    (h13 : t[13].toNat = 58)
    (h16 : t[16].toNat = 58)
    (he : (e0 == 2) = false)
    (cR : ∀ u, Calls Tryd.prog 25 #[.string (t.extract 0 10)] u fun e w' => e = .returned (.tuple #[.agg #[.int .i64 dy, .int .i64 dm, .int .i64 dd], .int .i64 e0]) ∧ Below u.heap.size u w')
    (cA : ∀ u, Calls Tryd.prog 62 #[.string (t.extract 11 13)] u fun e w' => e = .returned (.tuple #[.int .i64 a, .bool true]) ∧ Below u.heap.size u w')
    (cB : ∀ u, Calls Tryd.prog 62 #[.string (t.extract 14 16)] u fun e w' => e = .returned (.tuple #[.int .i64 b, .bool true]) ∧ Below u.heap.size u w')
    (cC : ∀ u, Calls Tryd.prog 62 #[.string (t.extract 17 19)] u fun e w' => e = .returned (.tuple #[.int .i64 c, .bool false]) ∧ Below u.heap.size u w') :
    Calls Tryd.prog 42 #[.string t] w fun e w' => e = .returned (.tuple #[lbl 0 0 0 0 0 0, .int .i64 2]) ∧ Below w.heap.size w w' := by
  have g10 : ((t[10].toNat : Nat) : Int) = 84 := by omega
  have g13 : ((t[13].toNat : Nat) : Int) = 58 := by omega
  have g16 : ((t[16].toNat : Nat) : Int) = 58 := by omega
  have cnt : Mark 0 := .mk _
  go_enter Tryd.func42, Tryd.ntmps42
  go_wp2_with (first | (go_at_call 25; have cq : Mark 0 := cnt; refine (cR _).mono ?_; clear cq cnt; have cnt : Mark 1 := .mk _; rintro e u0 ⟨rfl, hb⟩; replace hw : Below w.heap.size w u0 := rbel_on hb (rbel_al (Below.refl _ _)); replace PR : Row u0 (w.heap.size) [.int .i64 (0), .int .i64 (0), .int .i64 (0), .int .i64 (0), .int .i64 (0), .int .i64 (0)] := Row.on hb (Row.made (by simp)); replace cR0 := PR.c 0 _ rfl; replace cR1 := PR.c 1 _ rfl; replace cR2 := PR.c 2 _ rfl; replace cR3 := PR.c 3 _ rfl; replace cR4 := PR.c 4 _ rfl; replace cR5 := PR.c 5 _ rfl; replace zR := PR.lt; replace fR0 := PR.f 0 _ rfl; replace fR1 := PR.f 1 _ rfl; replace fR2 := PR.f 2 _ rfl; replace fR3 := PR.f 3 _ rfl; replace fR4 := PR.f 4 _ rfl; replace fR5 := PR.f 5 _ rfl; have y0_R_0 : w.heap.size < u0.heap.size := (by omega); have n0_R_0 : ¬ (u0.heap.size = w.heap.size) := (by omega); have m0_R_0 : ¬ (w.heap.size = u0.heap.size) := (by omega); clear hb) | (go_at_call 62; have cq : Mark 1 := cnt; refine (cA _).mono ?_; clear cq cnt; have cnt : Mark 2 := .mk _; rintro e u1 ⟨rfl, hb⟩; replace hw : Below w.heap.size w u1 := rbel_on hb (rbel_al (hw)); replace PR : Row u1 (w.heap.size) [.int .i64 (0), .int .i64 (0), .int .i64 (0), .int .i64 (0), .int .i64 (0), .int .i64 (0)] := Row.on hb (Row.al (PR)); replace cR0 := PR.c 0 _ rfl; replace cR1 := PR.c 1 _ rfl; replace cR2 := PR.c 2 _ rfl; replace cR3 := PR.c 3 _ rfl; replace cR4 := PR.c 4 _ rfl; replace cR5 := PR.c 5 _ rfl; replace zR := PR.lt; replace fR0 := PR.f 0 _ rfl; replace fR1 := PR.f 1 _ rfl; replace fR2 := PR.f 2 _ rfl; replace fR3 := PR.f 3 _ rfl; replace fR4 := PR.f 4 _ rfl; replace fR5 := PR.f 5 _ rfl; replace PD : Row u1 (u0.heap.size) [.int .i64 (dy), .int .i64 (dm), .int .i64 (dd)] := Row.on hb (Row.made (by simp)); replace cD0 := PD.c 0 _ rfl; replace cD1 := PD.c 1 _ rfl; replace cD2 := PD.c 2 _ rfl; replace zD := PD.lt; clear hb) | (go_at_call 62; have cq : Mark 2 := cnt; refine (cB _).mono ?_; clear cq cnt; have cnt : Mark 3 := .mk _; rintro e u2 ⟨rfl, hb⟩; replace hw : Below w.heap.size w u2 := rbel_on hb (hw); replace PR : Row u2 (w.heap.size) [.int .i64 (0), .int .i64 (0), .int .i64 (0), .int .i64 (0), .int .i64 (0), .int .i64 (0)] := Row.on hb (PR); replace cR0 := PR.c 0 _ rfl; replace cR1 := PR.c 1 _ rfl; replace cR2 := PR.c 2 _ rfl; replace cR3 := PR.c 3 _ rfl; replace cR4 := PR.c 4 _ rfl; replace cR5 := PR.c 5 _ rfl; replace zR := PR.lt; replace fR0 := PR.f 0 _ rfl; replace fR1 := PR.f 1 _ rfl; replace fR2 := PR.f 2 _ rfl; replace fR3 := PR.f 3 _ rfl; replace fR4 := PR.f 4 _ rfl; replace fR5 := PR.f 5 _ rfl; replace PD : Row u2 (u0.heap.size) [.int .i64 (dy), .int .i64 (dm), .int .i64 (dd)] := Row.on hb (PD); replace cD0 := PD.c 0 _ rfl; replace cD1 := PD.c 1 _ rfl; replace cD2 := PD.c 2 _ rfl; replace zD := PD.lt; clear hb) | (go_at_call 62; have cq : Mark 3 := cnt; refine (cC _).mono ?_; clear cq cnt; have cnt : Mark 4 := .mk _; rintro e u3 ⟨rfl, hb⟩; replace hw : Below w.heap.size w u3 := rbel_on hb (hw); replace PR : Row u3 (w.heap.size) [.int .i64 (0), .int .i64 (0), .int .i64 (0), .int .i64 (0), .int .i64 (0), .int .i64 (0)] := Row.on hb (PR); replace cR0 := PR.c 0 _ rfl; replace cR1 := PR.c 1 _ rfl; replace cR2 := PR.c 2 _ rfl; replace cR3 := PR.c 3 _ rfl; replace cR4 := PR.c 4 _ rfl; replace cR5 := PR.c 5 _ rfl; replace zR := PR.lt; replace fR0 := PR.f 0 _ rfl; replace fR1 := PR.f 1 _ rfl; replace fR2 := PR.f 2 _ rfl; replace fR3 := PR.f 3 _ rfl; replace fR4 := PR.f 4 _ rfl; replace fR5 := PR.f 5 _ rfl; replace PD : Row u3 (u0.heap.size) [.int .i64 (dy), .int .i64 (dm), .int .i64 (dd)] := Row.on hb (PD); replace cD0 := PD.c 0 _ rfl; replace cD1 := PD.c 1 _ rfl; replace cD2 := PD.c 2 _ rfl; replace zD := PD.lt; clear hb))
  clear g10 g13 g16 h10 h13 h16 cR cA cB cC
  exact bodyPost_ret (v := _) (by simp [results, Tryd.results42, go_sem, *]) rfl ⟨rfl, by (repeat (first | (with_reducible assumption) | (with_reducible exact Below.refl _ _) | (with_reducible refine rbel_put (by first | exact Nat.le_refl _ | omega) ?_) | (with_reducible refine rbel_al ?_)))⟩

set_option maxRecDepth 100000 in
set_option maxHeartbeats 4000000 in
theorem rlab_no (t : ByteArray) (dy dm dd e0 a b c : Int) (w : World)
    (hs : t.size = 19)
    (h10 : t[10].toNat = 84)
    (h13 : t[13].toNat = 58)
    (h16 : t[16].toNat = 58)
    (he : (e0 == 2) = false)
    (cR : ∀ u, Calls Tryd.prog 25 #[.string (t.extract 0 10)] u fun e w' => e = .returned (.tuple #[.agg #[.int .i64 dy, .int .i64 dm, .int .i64 dd], .int .i64 e0]) ∧ Below u.heap.size u w')
    (cA : ∀ u, Calls Tryd.prog 62 #[.string (t.extract 11 13)] u fun e w' => e = .returned (.tuple #[.int .i64 a, .bool true]) ∧ Below u.heap.size u w')
    (cB : ∀ u, Calls Tryd.prog 62 #[.string (t.extract 14 16)] u fun e w' => e = .returned (.tuple #[.int .i64 b, .bool true]) ∧ Below u.heap.size u w')
    (cC : ∀ u, Calls Tryd.prog 62 #[.string (t.extract 17 19)] u fun e w' => e = .returned (.tuple #[.int .i64 c, .bool true]) ∧ Below u.heap.size u w')
    (cH : ∀ u, Calls Tryd.prog 39 #[lbl dy dm dd a b c] u fun e w' => e = .returned (.bool false) ∧ Below u.heap.size u w') :
    Calls Tryd.prog 42 #[.string t] w fun e w' => e = .returned (.tuple #[lbl 0 0 0 0 0 0, .int .i64 1]) ∧ Below w.heap.size w w' := by
  have g10 : ((t[10].toNat : Nat) : Int) = 84 := by omega
  have g13 : ((t[13].toNat : Nat) : Int) = 58 := by omega
  have g16 : ((t[16].toNat : Nat) : Int) = 58 := by omega
  have cnt : Mark 0 := .mk _
  go_enter Tryd.func42, Tryd.ntmps42
  go_wp2_with (first | (go_at_call 25; have cq : Mark 0 := cnt; refine (cR _).mono ?_; clear cq cnt; have cnt : Mark 1 := .mk _; rintro e u0 ⟨rfl, hb⟩; replace hw : Below w.heap.size w u0 := rbel_on hb (rbel_al (Below.refl _ _)); replace PR : Row u0 (w.heap.size) [.int .i64 (0), .int .i64 (0), .int .i64 (0), .int .i64 (0), .int .i64 (0), .int .i64 (0)] := Row.on hb (Row.made (by simp)); replace cR0 := PR.c 0 _ rfl; replace cR1 := PR.c 1 _ rfl; replace cR2 := PR.c 2 _ rfl; replace cR3 := PR.c 3 _ rfl; replace cR4 := PR.c 4 _ rfl; replace cR5 := PR.c 5 _ rfl; replace zR := PR.lt; replace fR0 := PR.f 0 _ rfl; replace fR1 := PR.f 1 _ rfl; replace fR2 := PR.f 2 _ rfl; replace fR3 := PR.f 3 _ rfl; replace fR4 := PR.f 4 _ rfl; replace fR5 := PR.f 5 _ rfl; have y0_R_0 : w.heap.size < u0.heap.size := (by omega); have n0_R_0 : ¬ (u0.heap.size = w.heap.size) := (by omega); have m0_R_0 : ¬ (w.heap.size = u0.heap.size) := (by omega); clear hb) | (go_at_call 62; have cq : Mark 1 := cnt; refine (cA _).mono ?_; clear cq cnt; have cnt : Mark 2 := .mk _; rintro e u1 ⟨rfl, hb⟩; replace hw : Below w.heap.size w u1 := rbel_on hb (rbel_al (hw)); replace PR : Row u1 (w.heap.size) [.int .i64 (0), .int .i64 (0), .int .i64 (0), .int .i64 (0), .int .i64 (0), .int .i64 (0)] := Row.on hb (Row.al (PR)); replace cR0 := PR.c 0 _ rfl; replace cR1 := PR.c 1 _ rfl; replace cR2 := PR.c 2 _ rfl; replace cR3 := PR.c 3 _ rfl; replace cR4 := PR.c 4 _ rfl; replace cR5 := PR.c 5 _ rfl; replace zR := PR.lt; replace fR0 := PR.f 0 _ rfl; replace fR1 := PR.f 1 _ rfl; replace fR2 := PR.f 2 _ rfl; replace fR3 := PR.f 3 _ rfl; replace fR4 := PR.f 4 _ rfl; replace fR5 := PR.f 5 _ rfl; replace PD : Row u1 (u0.heap.size) [.int .i64 (dy), .int .i64 (dm), .int .i64 (dd)] := Row.on hb (Row.made (by simp)); replace cD0 := PD.c 0 _ rfl; replace cD1 := PD.c 1 _ rfl; replace cD2 := PD.c 2 _ rfl; replace zD := PD.lt; clear hb) | (go_at_call 62; have cq : Mark 2 := cnt; refine (cB _).mono ?_; clear cq cnt; have cnt : Mark 3 := .mk _; rintro e u2 ⟨rfl, hb⟩; replace hw : Below w.heap.size w u2 := rbel_on hb (hw); replace PR : Row u2 (w.heap.size) [.int .i64 (0), .int .i64 (0), .int .i64 (0), .int .i64 (0), .int .i64 (0), .int .i64 (0)] := Row.on hb (PR); replace cR0 := PR.c 0 _ rfl; replace cR1 := PR.c 1 _ rfl; replace cR2 := PR.c 2 _ rfl; replace cR3 := PR.c 3 _ rfl; replace cR4 := PR.c 4 _ rfl; replace cR5 := PR.c 5 _ rfl; replace zR := PR.lt; replace fR0 := PR.f 0 _ rfl; replace fR1 := PR.f 1 _ rfl; replace fR2 := PR.f 2 _ rfl; replace fR3 := PR.f 3 _ rfl; replace fR4 := PR.f 4 _ rfl; replace fR5 := PR.f 5 _ rfl; replace PD : Row u2 (u0.heap.size) [.int .i64 (dy), .int .i64 (dm), .int .i64 (dd)] := Row.on hb (PD); replace cD0 := PD.c 0 _ rfl; replace cD1 := PD.c 1 _ rfl; replace cD2 := PD.c 2 _ rfl; replace zD := PD.lt; clear hb) | (go_at_call 62; have cq : Mark 3 := cnt; refine (cC _).mono ?_; clear cq cnt; have cnt : Mark 4 := .mk _; rintro e u3 ⟨rfl, hb⟩; replace hw : Below w.heap.size w u3 := rbel_on hb (hw); replace PR : Row u3 (w.heap.size) [.int .i64 (0), .int .i64 (0), .int .i64 (0), .int .i64 (0), .int .i64 (0), .int .i64 (0)] := Row.on hb (PR); replace cR0 := PR.c 0 _ rfl; replace cR1 := PR.c 1 _ rfl; replace cR2 := PR.c 2 _ rfl; replace cR3 := PR.c 3 _ rfl; replace cR4 := PR.c 4 _ rfl; replace cR5 := PR.c 5 _ rfl; replace zR := PR.lt; replace fR0 := PR.f 0 _ rfl; replace fR1 := PR.f 1 _ rfl; replace fR2 := PR.f 2 _ rfl; replace fR3 := PR.f 3 _ rfl; replace fR4 := PR.f 4 _ rfl; replace fR5 := PR.f 5 _ rfl; replace PD : Row u3 (u0.heap.size) [.int .i64 (dy), .int .i64 (dm), .int .i64 (dd)] := Row.on hb (PD); replace cD0 := PD.c 0 _ rfl; replace cD1 := PD.c 1 _ rfl; replace cD2 := PD.c 2 _ rfl; replace zD := PD.lt; have y3_R_0 : w.heap.size < u3.heap.size := (by omega); have n3_R_0 : ¬ (u3.heap.size = w.heap.size) := (by omega); have m3_R_0 : ¬ (w.heap.size = u3.heap.size) := (by omega); have y3_D_0 : u0.heap.size < u3.heap.size := (by omega); have n3_D_0 : ¬ (u3.heap.size = u0.heap.size) := (by omega); have m3_D_0 : ¬ (u0.heap.size = u3.heap.size) := (by omega); clear hb) | (go_at_call 39; have cq : Mark 4 := cnt; refine (cH _).mono ?_; clear cq cnt; have cnt : Mark 5 := .mk _; rintro e u4 ⟨rfl, hb⟩; replace hw : Below w.heap.size w u4 := rbel_on hb (rbel_al (hw)); replace PR : Row u4 (w.heap.size) [.int .i64 (0), .int .i64 (0), .int .i64 (0), .int .i64 (0), .int .i64 (0), .int .i64 (0)] := Row.on hb (Row.al (PR)); replace cR0 := PR.c 0 _ rfl; replace cR1 := PR.c 1 _ rfl; replace cR2 := PR.c 2 _ rfl; replace cR3 := PR.c 3 _ rfl; replace cR4 := PR.c 4 _ rfl; replace cR5 := PR.c 5 _ rfl; replace zR := PR.lt; replace fR0 := PR.f 0 _ rfl; replace fR1 := PR.f 1 _ rfl; replace fR2 := PR.f 2 _ rfl; replace fR3 := PR.f 3 _ rfl; replace fR4 := PR.f 4 _ rfl; replace fR5 := PR.f 5 _ rfl; replace PD : Row u4 (u0.heap.size) [.int .i64 (dy), .int .i64 (dm), .int .i64 (dd)] := Row.on hb (Row.al (PD)); replace cD0 := PD.c 0 _ rfl; replace cD1 := PD.c 1 _ rfl; replace cD2 := PD.c 2 _ rfl; replace zD := PD.lt; replace PL : Row u4 (u3.heap.size) [.int .i64 (dy), .int .i64 (dm), .int .i64 (dd), .int .i64 (a), .int .i64 (b), .int .i64 (c)] := Row.on hb (Row.made (by simp)); replace cL0 := PL.c 0 _ rfl; replace cL1 := PL.c 1 _ rfl; replace cL2 := PL.c 2 _ rfl; replace cL3 := PL.c 3 _ rfl; replace cL4 := PL.c 4 _ rfl; replace cL5 := PL.c 5 _ rfl; replace zL := PL.lt; clear hb))
  clear g10 g13 g16 h10 h13 h16 cR cA cB cC cH
  exact bodyPost_ret (v := _) (by simp [results, Tryd.results42, go_sem, *]) rfl ⟨rfl, by (repeat (first | (with_reducible assumption) | (with_reducible exact Below.refl _ _) | (with_reducible refine rbel_put (by first | exact Nat.le_refl _ | omega) ?_) | (with_reducible refine rbel_al ?_)))⟩

set_option maxRecDepth 100000 in
set_option maxHeartbeats 4000000 in
theorem rlab_ok (t : ByteArray) (dy dm dd e0 a b c : Int) (w : World)
    (hs : t.size = 19)
    (h10 : t[10].toNat = 84)
    (h13 : t[13].toNat = 58)
    (h16 : t[16].toNat = 58)
    (he : (e0 == 2) = false)
    (cR : ∀ u, Calls Tryd.prog 25 #[.string (t.extract 0 10)] u fun e w' => e = .returned (.tuple #[.agg #[.int .i64 dy, .int .i64 dm, .int .i64 dd], .int .i64 e0]) ∧ Below u.heap.size u w')
    (cA : ∀ u, Calls Tryd.prog 62 #[.string (t.extract 11 13)] u fun e w' => e = .returned (.tuple #[.int .i64 a, .bool true]) ∧ Below u.heap.size u w')
    (cB : ∀ u, Calls Tryd.prog 62 #[.string (t.extract 14 16)] u fun e w' => e = .returned (.tuple #[.int .i64 b, .bool true]) ∧ Below u.heap.size u w')
    (cC : ∀ u, Calls Tryd.prog 62 #[.string (t.extract 17 19)] u fun e w' => e = .returned (.tuple #[.int .i64 c, .bool true]) ∧ Below u.heap.size u w')
    (cH : ∀ u, Calls Tryd.prog 39 #[lbl dy dm dd a b c] u fun e w' => e = .returned (.bool true) ∧ Below u.heap.size u w') :
    Calls Tryd.prog 42 #[.string t] w fun e w' => e = .returned (.tuple #[lbl dy dm dd a b c, .int .i64 0]) ∧ Below w.heap.size w w' := by
  have g10 : ((t[10].toNat : Nat) : Int) = 84 := by omega
  have g13 : ((t[13].toNat : Nat) : Int) = 58 := by omega
  have g16 : ((t[16].toNat : Nat) : Int) = 58 := by omega
  have cnt : Mark 0 := .mk _
  go_enter Tryd.func42, Tryd.ntmps42
  go_wp2_with (first | (go_at_call 25; have cq : Mark 0 := cnt; refine (cR _).mono ?_; clear cq cnt; have cnt : Mark 1 := .mk _; rintro e u0 ⟨rfl, hb⟩; replace hw : Below w.heap.size w u0 := rbel_on hb (rbel_al (Below.refl _ _)); replace PR : Row u0 (w.heap.size) [.int .i64 (0), .int .i64 (0), .int .i64 (0), .int .i64 (0), .int .i64 (0), .int .i64 (0)] := Row.on hb (Row.made (by simp)); replace cR0 := PR.c 0 _ rfl; replace cR1 := PR.c 1 _ rfl; replace cR2 := PR.c 2 _ rfl; replace cR3 := PR.c 3 _ rfl; replace cR4 := PR.c 4 _ rfl; replace cR5 := PR.c 5 _ rfl; replace zR := PR.lt; replace fR0 := PR.f 0 _ rfl; replace fR1 := PR.f 1 _ rfl; replace fR2 := PR.f 2 _ rfl; replace fR3 := PR.f 3 _ rfl; replace fR4 := PR.f 4 _ rfl; replace fR5 := PR.f 5 _ rfl; have y0_R_0 : w.heap.size < u0.heap.size := (by omega); have n0_R_0 : ¬ (u0.heap.size = w.heap.size) := (by omega); have m0_R_0 : ¬ (w.heap.size = u0.heap.size) := (by omega); clear hb) | (go_at_call 62; have cq : Mark 1 := cnt; refine (cA _).mono ?_; clear cq cnt; have cnt : Mark 2 := .mk _; rintro e u1 ⟨rfl, hb⟩; replace hw : Below w.heap.size w u1 := rbel_on hb (rbel_al (hw)); replace PR : Row u1 (w.heap.size) [.int .i64 (0), .int .i64 (0), .int .i64 (0), .int .i64 (0), .int .i64 (0), .int .i64 (0)] := Row.on hb (Row.al (PR)); replace cR0 := PR.c 0 _ rfl; replace cR1 := PR.c 1 _ rfl; replace cR2 := PR.c 2 _ rfl; replace cR3 := PR.c 3 _ rfl; replace cR4 := PR.c 4 _ rfl; replace cR5 := PR.c 5 _ rfl; replace zR := PR.lt; replace fR0 := PR.f 0 _ rfl; replace fR1 := PR.f 1 _ rfl; replace fR2 := PR.f 2 _ rfl; replace fR3 := PR.f 3 _ rfl; replace fR4 := PR.f 4 _ rfl; replace fR5 := PR.f 5 _ rfl; replace PD : Row u1 (u0.heap.size) [.int .i64 (dy), .int .i64 (dm), .int .i64 (dd)] := Row.on hb (Row.made (by simp)); replace cD0 := PD.c 0 _ rfl; replace cD1 := PD.c 1 _ rfl; replace cD2 := PD.c 2 _ rfl; replace zD := PD.lt; clear hb) | (go_at_call 62; have cq : Mark 2 := cnt; refine (cB _).mono ?_; clear cq cnt; have cnt : Mark 3 := .mk _; rintro e u2 ⟨rfl, hb⟩; replace hw : Below w.heap.size w u2 := rbel_on hb (hw); replace PR : Row u2 (w.heap.size) [.int .i64 (0), .int .i64 (0), .int .i64 (0), .int .i64 (0), .int .i64 (0), .int .i64 (0)] := Row.on hb (PR); replace cR0 := PR.c 0 _ rfl; replace cR1 := PR.c 1 _ rfl; replace cR2 := PR.c 2 _ rfl; replace cR3 := PR.c 3 _ rfl; replace cR4 := PR.c 4 _ rfl; replace cR5 := PR.c 5 _ rfl; replace zR := PR.lt; replace fR0 := PR.f 0 _ rfl; replace fR1 := PR.f 1 _ rfl; replace fR2 := PR.f 2 _ rfl; replace fR3 := PR.f 3 _ rfl; replace fR4 := PR.f 4 _ rfl; replace fR5 := PR.f 5 _ rfl; replace PD : Row u2 (u0.heap.size) [.int .i64 (dy), .int .i64 (dm), .int .i64 (dd)] := Row.on hb (PD); replace cD0 := PD.c 0 _ rfl; replace cD1 := PD.c 1 _ rfl; replace cD2 := PD.c 2 _ rfl; replace zD := PD.lt; clear hb) | (go_at_call 62; have cq : Mark 3 := cnt; refine (cC _).mono ?_; clear cq cnt; have cnt : Mark 4 := .mk _; rintro e u3 ⟨rfl, hb⟩; replace hw : Below w.heap.size w u3 := rbel_on hb (hw); replace PR : Row u3 (w.heap.size) [.int .i64 (0), .int .i64 (0), .int .i64 (0), .int .i64 (0), .int .i64 (0), .int .i64 (0)] := Row.on hb (PR); replace cR0 := PR.c 0 _ rfl; replace cR1 := PR.c 1 _ rfl; replace cR2 := PR.c 2 _ rfl; replace cR3 := PR.c 3 _ rfl; replace cR4 := PR.c 4 _ rfl; replace cR5 := PR.c 5 _ rfl; replace zR := PR.lt; replace fR0 := PR.f 0 _ rfl; replace fR1 := PR.f 1 _ rfl; replace fR2 := PR.f 2 _ rfl; replace fR3 := PR.f 3 _ rfl; replace fR4 := PR.f 4 _ rfl; replace fR5 := PR.f 5 _ rfl; replace PD : Row u3 (u0.heap.size) [.int .i64 (dy), .int .i64 (dm), .int .i64 (dd)] := Row.on hb (PD); replace cD0 := PD.c 0 _ rfl; replace cD1 := PD.c 1 _ rfl; replace cD2 := PD.c 2 _ rfl; replace zD := PD.lt; have y3_R_0 : w.heap.size < u3.heap.size := (by omega); have n3_R_0 : ¬ (u3.heap.size = w.heap.size) := (by omega); have m3_R_0 : ¬ (w.heap.size = u3.heap.size) := (by omega); have y3_D_0 : u0.heap.size < u3.heap.size := (by omega); have n3_D_0 : ¬ (u3.heap.size = u0.heap.size) := (by omega); have m3_D_0 : ¬ (u0.heap.size = u3.heap.size) := (by omega); clear hb) | (go_at_call 39; have cq : Mark 4 := cnt; refine (cH _).mono ?_; clear cq cnt; have cnt : Mark 5 := .mk _; rintro e u4 ⟨rfl, hb⟩; replace hw : Below w.heap.size w u4 := rbel_on hb (rbel_al (hw)); replace PR : Row u4 (w.heap.size) [.int .i64 (0), .int .i64 (0), .int .i64 (0), .int .i64 (0), .int .i64 (0), .int .i64 (0)] := Row.on hb (Row.al (PR)); replace cR0 := PR.c 0 _ rfl; replace cR1 := PR.c 1 _ rfl; replace cR2 := PR.c 2 _ rfl; replace cR3 := PR.c 3 _ rfl; replace cR4 := PR.c 4 _ rfl; replace cR5 := PR.c 5 _ rfl; replace zR := PR.lt; replace fR0 := PR.f 0 _ rfl; replace fR1 := PR.f 1 _ rfl; replace fR2 := PR.f 2 _ rfl; replace fR3 := PR.f 3 _ rfl; replace fR4 := PR.f 4 _ rfl; replace fR5 := PR.f 5 _ rfl; replace PD : Row u4 (u0.heap.size) [.int .i64 (dy), .int .i64 (dm), .int .i64 (dd)] := Row.on hb (Row.al (PD)); replace cD0 := PD.c 0 _ rfl; replace cD1 := PD.c 1 _ rfl; replace cD2 := PD.c 2 _ rfl; replace zD := PD.lt; replace PL : Row u4 (u3.heap.size) [.int .i64 (dy), .int .i64 (dm), .int .i64 (dd), .int .i64 (a), .int .i64 (b), .int .i64 (c)] := Row.on hb (Row.made (by simp)); replace cL0 := PL.c 0 _ rfl; replace cL1 := PL.c 1 _ rfl; replace cL2 := PL.c 2 _ rfl; replace cL3 := PL.c 3 _ rfl; replace cL4 := PL.c 4 _ rfl; replace cL5 := PL.c 5 _ rfl; replace zL := PL.lt; clear hb))
  clear g10 g13 g16 h10 h13 h16 cR cA cB cC cH
  exact bodyPost_ret (v := _) (by simp [results, Tryd.results42, go_sem, *]) rfl ⟨rfl, by (repeat (first | (with_reducible assumption) | (with_reducible exact Below.refl _ _) | (with_reducible refine rbel_put (by first | exact Nat.le_refl _ | omega) ?_) | (with_reducible refine rbel_al ?_)))⟩

theorem plain_below {s : ByteArray} {a : Int} {x : Bool} (c : ∀ u, Calls Tryd.prog 62 #[.string s] u fun e w' => e = .returned (.tuple #[.int .i64 a, .bool x]) ∧ w' = u) : ∀ u, Calls Tryd.prog 62 #[.string s] u fun e w' => e = .returned (.tuple #[.int .i64 a, .bool x]) ∧ Below u.heap.size u w' := fun u => (c u).mono fun _ _ h => same_below h
theorem okD_zero : okD 0 0 0 = false := decide_eq_false (by omega)
set_option maxHeartbeats 1000000 in
theorem rlab_any (t : ByteArray) (y m d h i s e : Int) (w : World) (hs : t.size ≤ 9223372036854775807) (hR : RL t y m d h i s e) :
    Calls Tryd.prog 42 #[.string t] w fun x w' => x = .returned (.tuple #[lbl y m d h i s, .int .i64 e]) ∧ Below w.heap.size w w' := by
  have no : ¬ LShp t → e = 2 ∧ y = 0 ∧ m = 0 ∧ d = 0 ∧ h = 0 ∧ i = 0 ∧ s = 0 := fun c => by
    rcases hR with ⟨_, k⟩ | ⟨k, _⟩ | ⟨k, _⟩
    · exact k
    · exact absurd k c
    · exact absurd k c
  by_cases h19 : t.size = 19
  · by_cases h10 : t[10].toNat = 84
    · by_cases h13 : t[13].toNat = 58
      · by_cases h16 : t[16].toNat = 58
        · obtain ⟨a, x, x1, x2, cA⟩ := plain_at (t.extract 11 13) (by simp; omega)
          obtain ⟨b, y', y1, y2, cB⟩ := plain_at (t.extract 14 16) (by simp; omega)
          obtain ⟨c, z, z1, z2, cC⟩ := plain_at (t.extract 17 19) (by simp; omega)
          replace cA := plain_below cA
          replace cB := plain_below cB
          replace cC := plain_below cC
          obtain ⟨dy, dm, dd, e0, hD⟩ : ∃ dy dm dd e0, RD (t.extract 0 10) dy dm dd e0 := by
            by_cases c : Shp (t.extract 0 10)
            · cases o : okD (yr (t.extract 0 10)) (mo (t.extract 0 10)) (da (t.extract 0 10)) with
              | true => exact ⟨_, _, _, _, Or.inr (Or.inr ⟨c, o, rfl, rfl, rfl, rfl⟩)⟩
              | false => exact ⟨_, _, _, _, Or.inr (Or.inl ⟨c, o, rfl, rfl, rfl, rfl⟩)⟩
            · exact ⟨_, _, _, _, Or.inl ⟨c, rfl, rfl, rfl, rfl⟩⟩
          have cR := fun u => rread_any (t.extract 0 10) dy dm dd e0 u (by simp; omega) hD
          have cH := fun u => rhands_any dy dm dd a b c u
          by_cases sh : Shp (t.extract 0 10)
          · have e02 : (e0 == 2) = false := by
              rcases hD with ⟨k, _⟩ | ⟨_, _, rfl, _⟩ | ⟨_, _, rfl, _⟩
              · exact absurd sh k
              · rfl
              · rfl
            cases x with
            | false =>
              obtain ⟨rfl, rfl, rfl, rfl, rfl, rfl, rfl⟩ := no (fun ⟨_, _, _, _, _, p, _, _⟩ => absurd (x1.2 p) (by decide))
              exact rlab_x t dy dm dd e0 a b c y' z w h19 h10 h13 h16 e02 cR cA cB cC
            | true =>
              cases y' with
              | false =>
                obtain ⟨rfl, rfl, rfl, rfl, rfl, rfl, rfl⟩ := no (fun ⟨_, _, _, _, _, _, p, _⟩ => absurd (y1.2 p) (by decide))
                exact rlab_y t dy dm dd e0 a b c z w h19 h10 h13 h16 e02 cR cA cB cC
              | true =>
                cases z with
                | false =>
                  obtain ⟨rfl, rfl, rfl, rfl, rfl, rfl, rfl⟩ := no (fun ⟨_, _, _, _, _, _, _, p⟩ => absurd (z1.2 p) (by decide))
                  exact rlab_z t dy dm dd e0 a b c w h19 h10 h13 h16 e02 cR cA cB cC
                | true =>
                  have ls : LShp t := ⟨h19, h10, h13, h16, sh, x1.1 rfl, y1.1 rfl, z1.1 rfl⟩
                  have ea : a = hr t := x2 rfl
                  have eb : b = mi t := y2 rfl
                  have ec : c = se t := z2 rfl
                  have ok : (okD dy dm dd && okH a b c) = okT t := by
                    unfold okT
                    rw [ea, eb, ec]
                    rcases hD with ⟨k, _⟩ | ⟨_, o, _, rfl, rfl, rfl⟩ | ⟨_, o, _, e1, e2, e3⟩
                    · exact absurd sh k
                    · rw [o, okD_zero]
                    · rw [e1, e2, e3]
                  rw [ok] at cH
                  rcases hR with ⟨k, _⟩ | ⟨_, o, rfl, rfl, rfl, rfl, rfl, rfl, rfl⟩ | ⟨_, o, rfl, ey, em, ed, eh, ei, es⟩
                  · exact absurd ls k
                  · rw [o] at cH
                    exact rlab_no t dy dm dd e0 a b c w h19 h10 h13 h16 e02 cR cA cB cC cH
                  · rw [o] at cH ok
                    have od : dy = y ∧ dm = m ∧ dd = d := by
                      rw [Bool.and_eq_true] at ok
                      rcases hD with ⟨k, _⟩ | ⟨_, _, _, rfl, rfl, rfl⟩ | ⟨_, _, _, e1, e2, e3⟩
                      · exact absurd sh k
                      · exact absurd ok.1 (by rw [okD_zero]; decide)
                      · exact ⟨e1.trans ey.symm, e2.trans em.symm, e3.trans ed.symm⟩
                    obtain ⟨rfl, rfl, rfl⟩ := od
                    obtain rfl : a = h := by rw [ea, eh]
                    obtain rfl : b = i := by rw [eb, ei]
                    obtain rfl : c = s := by rw [ec, es]
                    exact rlab_ok t dy dm dd e0 a b c w h19 h10 h13 h16 e02 cR cA cB cC cH
          · obtain ⟨rfl, rfl, rfl, rfl, rfl, rfl, rfl⟩ := no (fun ⟨_, _, _, _, p, _⟩ => sh p)
            rcases hD with ⟨_, rfl, _⟩ | ⟨k, _⟩ | ⟨k, _⟩
            · exact rlab_d t dy dm dd 2 a b c y' x z w h19 h10 h13 h16 cR cA cB cC
            · exact absurd k sh
            · exact absurd k sh
        · obtain ⟨rfl, rfl, rfl, rfl, rfl, rfl, rfl⟩ := no (fun ⟨_, _, _, p, _⟩ => h16 p)
          exact rlab_16 t w h19 h10 h13 h16
      · obtain ⟨rfl, rfl, rfl, rfl, rfl, rfl, rfl⟩ := no (fun ⟨_, _, p, _⟩ => h13 p)
        exact rlab_13 t w h19 h10 h13
    · obtain ⟨rfl, rfl, rfl, rfl, rfl, rfl, rfl⟩ := no (fun ⟨_, p, _⟩ => h10 p)
      exact rlab_10 t w h19 h10
  · obtain ⟨rfl, rfl, rfl, rfl, rfl, rfl, rfl⟩ := no (fun ⟨p, _⟩ => h19 p)
    exact rlab_len t w hs h19
end Go.Proofs.YthaajbdppmdhaacDoor
