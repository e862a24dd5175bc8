/- What package order answers: isPlace, Surely; slices.Contains of numbers. -/
import Derived.Test.YtbghpjmjhhjcgagDoorOrdPkgK
import Derived.Test.YtbghpjmjhhjcgagDoorOrdDefS
import Derived.Test.YtbghpjmjhhjcgagDoorOrdDefC
import Derived.Test.YtbghpjmjhhjcgagDoorOwnInts
import Derived.BigQuiet
import Derived.Deep.QuietTactic
import Derived.IntWalk
namespace Go.Proofs.YtbghpjmjhhjcgagDoor
open Go.ChangeShapes Go.WideShapes Go.ChangeAt Go.RowKit Go.Joins
set_option linter.unusedVariables false
set_option linter.unusedSimpArgs false

/-- Is it a place? -/
def plcB (n : Nat) (i : Int) : Bool := decide (0 ≤ i ∧ i < n)
theorem isPlace_any (a : Option Addr) (n cap : Nat) (i : Int) (w : World) (hn : n ≤ 9223372036854775807) : Calls Tryd.prog 39 #[.slice a n cap, .int .i64 i] w fun e w' => e = .returned (.bool (plcB n i)) ∧ w' = w := by
  by_cases h1 : 0 ≤ i
  · by_cases h2 : i < n
    · rw [show plcB n i = true from decide_eq_true ⟨h1, h2⟩]
      go_enter Tryd.func39, Tryd.ntmps39
      go_wp2
      go_ret
      exact ⟨rfl, rfl⟩
    · rw [show plcB n i = false from decide_eq_false (by omega)]
      have h3 : decide (i < (n : Int)) = false := decide_eq_false h2
      clear h2
      go_enter Tryd.func39, Tryd.ntmps39
      go_wp2
      go_ret
      exact ⟨rfl, rfl⟩
  · rw [show plcB n i = false from decide_eq_false (by omega)]
    have h3 : decide (0 ≤ i) = false := decide_eq_false h1
    clear h1
    go_enter Tryd.func39, Tryd.ntmps39
    go_wp2
    go_ret
    exact ⟨rfl, rfl⟩
set_option maxRecDepth 100000 in
set_option maxHeartbeats 4000000 in
theorem index_O (ad : Option Addr) (n cap : Nat) (z : Nat → Int) (x : Int) (w : World) (hn : n ≤ 9223372036854775807) (hP : n = 0 ∨ ∃ b off : Nat, ad = some ⟨b, off, none⟩ ∧ Nrd w b off n z) :
    Calls Tryd.prog 62 #[.slice ad n cap, .int .i64 x] w fun e w' => ∃ r : Int, e = .returned (.int .i64 r) ∧ ((0 ≤ r ∧ anyB (fun i => decide (z i = x)) n = true) ∨ (r = -1 ∧ anyB (fun i => decide (z i = x)) n = false)) ∧ w' = w := by
  have HA : Hid (n = 0 ∨ ∃ b off : Nat, ad = some ⟨b, off, none⟩ ∧ Nrd w b off n z) := hP
  clear hP
  go_enter Tryd.func62, Tryd.ntmps62
  go_wp2
  go_loopw [8] (fun i wr => ∃ k : Nat, k ≤ n ∧ i = .int .i64 k ∧ wr = w ∧ ∀ j, j < k → decide (z j = x) = false) (fun i _ => n - (intOf i).toNat)
  case atStart => exact ⟨0, Nat.zero_le _, rfl, rfl, fun j hj => by omega⟩
  case round =>
    obtain ⟨k, hk, rfl, hwr, hg⟩ := hrel
    rw [hwr]
    clear hwr
    have HG : Hid (∀ j, j < k → decide (z j = x) = false) := hg
    clear hg
    by_cases hlt : k < n
    · have hl3 : (k : Int) < n := by omega
      obtain ⟨b, off, rfl, hP⟩ : ∃ b off : Nat, ad = some ⟨b, off, none⟩ ∧ Nrd w b off n z := by
        rcases HA.out with e | h
        · omega
        · exact h
      have c0 := hP k hlt
      clear hP
      by_cases e : z k = x
      · have d1 : (x == z k) = true := beq_iff_eq.2 e.symm
        have HY : Hid (anyB (fun i => decide (z i = x)) n = true) := anyB_yes (p := fun i => decide (z i = x)) hlt (decide_eq_true e)
        clear HG HA e
        as_aux_lemma =>
          generalize z k = zk at *
          go_wp2
          go_ret
          exact ⟨_, rfl, Or.inl ⟨by omega, HY.out⟩, rfl⟩
      · have d1 : (x == z k) = false := by simpa using fun q => e q.symm
        have HY : Hid (∀ j, j < k + 1 → decide (z j = x) = false) := fun j hj => by
          by_cases q : j = k
          · rw [q]; exact decide_eq_false e
          · exact HG.out j (by omega)
        clear HG HA e
        as_aux_lemma =>
          generalize z k = zk at *
          go_wp2
          go_roundw
          case rel => exact ⟨k + 1, by omega, by go_num, by first | rfl | trivial, HY.out⟩
          case measure => simp [intOf]; omega
    · have hl3 : ¬ ((k : Int) < n) := by omega
      have HY : Hid (anyB (fun i => decide (z i = x)) n = false) := anyB_no (fun i hi => HG.out i (by omega))
      clear HG HA
      go_wp2
      go_ret
      exact ⟨_, rfl, Or.inr ⟨rfl, HY.out⟩, rfl⟩
set_option maxHeartbeats 1000000 in
theorem contains_O (ad : Option Addr) (n cap : Nat) (z : Nat → Int) (x : Int) (w : World) (hn : n ≤ 9223372036854775807) (hP : n = 0 ∨ ∃ b off : Nat, ad = some ⟨b, off, none⟩ ∧ Nrd w b off n z) :
    Calls Tryd.prog 51 #[.slice ad n cap, .int .i64 x] w fun e w' => e = .returned (.bool (anyB (fun i => decide (z i = x)) n)) ∧ w' = w := by
  have cI := index_O ad n cap z x w hn hP
  clear hP
  generalize anyB (fun i => decide (z i = x)) n = A at *
  cases A
  all_goals
    go_enter Tryd.func51, Tryd.ntmps51
    go_wp2_with (go_at_call 62; refine cI.mono ?_; rintro e u0 ⟨r, rfl, hr, hu⟩; rw [hu]; clear hu; simp at hr; (try subst hr))
    go_ret
    exact ⟨rfl, rfl⟩
set_option maxHeartbeats 1000000 in
theorem surely_any (a : Option Addr) (n cap : Nat) (f : Nat → Ev) (i k e : Int) (b : Bool) (w : World) (hH : VHanded w a n f) (hcp : n ≤ cap) (h : (EvE n f e ∧ e ≠ 0 ∧ b = false) ∨ (EvE n f 0 ∧ (i < 0 ∨ (n : Int) ≤ i ∨ k < 0 ∨ (n : Int) ≤ k) ∧ e = 1 ∧ b = false) ∨ (EvE n f 0 ∧ (0 ≤ i ∧ i < n ∧ 0 ≤ k ∧ k < n) ∧ e = 0 ∧ b = sur f i.toNat k.toNat)) :
    Calls Tryd.prog 19 #[.slice a n cap, .int .i64 i, .int .i64 k] w fun o w' => o = .returned (.tuple #[.bool b, errc e]) ∧ Below w.heap.size w w' := by
  have nn := hH.1
  have cI := fun u => isPlace_any a n cap i u nn
  have cK := fun u => isPlace_any a n cap k u nn
  rcases h with ⟨hE, he, rfl⟩ | ⟨hE, hne, rfl, rfl⟩ | ⟨hE, ⟨p1, p2, p3, p4⟩, rfl, rfl⟩
  · have cC := ocheck_any a n cap f e w hH hcp hE
    rw [errc_not he] at cC ⊢
    clear hH hE he hcp
    go_enter Tryd.func19, Tryd.ntmps19
    go_wp2_with (go_at_call 18; refine cC.mono ?_; rintro e u0 ⟨rfl, hb⟩; have HB : Hid _ := hb; clear hb)
    go_ret2
    exact ⟨rfl, HB.out⟩
  · have cC := ocheck_any a n cap f 0 w hH hcp hE
    rw [errc_zero] at cC
    rw [errc_not (by decide)]
    clear hH hE hcp
    have cnt : Mark 0 := .mk _
    cases q : plcB n i with
    | false =>
      rw [q] at cI
      clear q hne cK
      go_enter Tryd.func19, Tryd.ntmps19
      go_wp2_with (first | (go_at_call 18; refine cC.mono ?_; rintro e u0 ⟨rfl, hb⟩; have HB : Hid (Below w.heap.size w u0) := hb; clear hb) | (go_at_call 39; refine (cI _).mono ?_; rintro e u1 ⟨rfl, hu⟩; rw [hu]; clear hu))
      go_ret2
      exact ⟨rfl, HB.out⟩
    | true =>
      rw [q] at cI
      have q' := of_decide_eq_true q
      rw [show plcB n k = false from decide_eq_false (by omega)] at cK
      clear q q' hne
      go_enter Tryd.func19, Tryd.ntmps19
      go_wp2_with (first | (go_at_call 18; refine cC.mono ?_; rintro e u0 ⟨rfl, hb⟩; have HB : Hid (Below w.heap.size w u0) := hb; clear hb) | (go_at_call 39; have cq : Mark 0 := cnt; refine (cI _).mono ?_; clear cq cnt; have cnt : Mark 1 := .mk _; rintro e u1 ⟨rfl, hu⟩; rw [hu]; clear hu) | (go_at_call 39; have cq : Mark 1 := cnt; refine (cK _).mono ?_; clear cq cnt; rintro e u1 ⟨rfl, hu⟩; rw [hu]; clear hu))
      go_ret2
      exact ⟨rfl, HB.out⟩
  · have cC := ocheck_any a n cap f 0 w hH hcp hE
    rw [errc_zero] at cC ⊢
    obtain ⟨_, hok⟩ := hE.zero
    obtain ⟨I, rfl⟩ : ∃ I : Nat, i = (I : Int) := ⟨i.toNat, by omega⟩
    obtain ⟨K, rfl⟩ : ∃ K : Nat, k = (K : Int) := ⟨k.toNat, by omega⟩
    rw [show plcB n (I : Int) = true from decide_eq_true ⟨p1, p2⟩] at cI
    rw [show plcB n (K : Int) = true from decide_eq_true ⟨p3, p4⟩] at cK
    rw [Int.toNat_natCast, Int.toNat_natCast]
    obtain ⟨b, off, rfl, hP⟩ : ∃ b off : Nat, a = some ⟨b, off, none⟩ ∧ Evs w b off n f := by
      rcases hH.2 with e | h
      · omega
      · exact h
    have HP : Hid (Evs w b off n f) := hP
    have cB : ∀ u, Calls Tryd.prog 40 #[.agg #[.int .i64 (f I).lo, .int .i64 (f I).hi], .agg #[.int .i64 (f K).lo, .int .i64 (f K).hi]] u fun e w' => e = .returned (.tuple #[.bool (sur f I K), .nilIface]) ∧ Below u.heap.size u w' := fun u => before_ok (f I).lo (f I).hi (f K).lo (f K).hi u (hok I (by omega)).1 (hok K (by omega)).1
    have HX : Hid (∀ u, Below w.heap.size w u → (u.cell? ⟨b, off + I * 3 + 1, none⟩ = some (.int .i64 (f I).lo) ∧ u.cell? ⟨b, off + I * 3 + 1 + 1, none⟩ = some (.int .i64 (f I).hi)) ∧ u.cell? ⟨b, off + K * 3 + 1, none⟩ = some (.int .i64 (f K).lo) ∧ u.cell? ⟨b, off + K * 3 + 1 + 1, none⟩ = some (.int .i64 (f K).hi)) := fun u hu => ⟨((hP.on hu) I (by omega)).2, ((hP.on hu) K (by omega)).2⟩
    have cnt : Mark 0 := .mk _
    clear hH hE hcp hok hP HP
    generalize sur f I K = sv at *
    generalize (f I).lo = il at *
    generalize (f I).hi = ih at *
    generalize (f K).lo = kl at *
    generalize (f K).hi = kh at *
    go_enter Tryd.func19, Tryd.ntmps19
    go_wp2_with (first | (go_at_call 18; refine cC.mono ?_; rintro e u0 ⟨rfl, hb⟩; have HB : Hid (Below w.heap.size w u0) := hb; obtain ⟨⟨x1, x2⟩, y1, y2⟩ := HX.out u0 hb; have zb : b < u0.heap.size := World.block_lt_of_cell? _ _ x1; clear hb) | (go_at_call 39; have cq : Mark 0 := cnt; refine (cI _).mono ?_; clear cq cnt; have cnt : Mark 1 := .mk _; rintro e u1 ⟨rfl, hu⟩; rw [hu]; clear hu) | (go_at_call 39; have cq : Mark 1 := cnt; refine (cK _).mono ?_; clear cq cnt; rintro e u1 ⟨rfl, hu⟩; rw [hu]; clear hu))
    clear cI cK cC
    go_region_held (fun w' => w'.cell? ⟨b, off + I * 3 + 1, none⟩ = some (.int .i64 il) ∧ w'.cell? ⟨b, off + I * 3 + 1 + 1, none⟩ = some (.int .i64 ih) ∧ w'.cell? ⟨b, off + K * 3 + 1, none⟩ = some (.int .i64 kl) ∧ w'.cell? ⟨b, off + K * 3 + 1 + 1, none⟩ = some (.int .i64 kh)) (go_keep) (first | (go_at_call 40; refine (cB _).mono ?_; rintro e u2 ⟨rfl, hb⟩; have HB2 : Hid (Below w.heap.size w u2) := rbel_on hb (by first | exact HB.out | exact rbel_dr HB.out); have HX2 := HX.out u2 HB2.out; obtain ⟨⟨v1, v2⟩, v3, v4⟩ := HX2; clear hb))
    all_goals
      go_wp2
      go_ret2
      exact ⟨rfl, HB2.out⟩
end Go.Proofs.YtbghpjmjhhjcgagDoor
