/- What package order answers: isPlace; slices.Contains of numbers. What package order answers: checkOrder. -/
import Derived.Test.YtnagdjipmpjaaaiOrdPkgK
import Derived.Test.YtnagdjipmpjaaaiNm04
import Derived.BigQuiet
import Derived.Deep.QuietTactic
import Derived.IntWalk
namespace Go.Proofs.Ytnagdjipmpjaaai
open Go.ChangeShapes Go.WideShapes Go.ChangeAt Go.RowKit Go.Joins
set_option linter.unusedVariables false
set_option linter.unusedSimpArgs false

/-- Is it a place? -/
def plcB (n : Nat) (i : Int) : Bool := decide (0 ≤ i ∧ i < n)
theorem isPlace_any (a : Option Addr) (n cap : Nat) (i : Int) (w : World) (hn : n ≤ 9223372036854775807) : Calls Try.prog 48 #[.slice a n cap, .int .i64 i] w fun e w' => e = .returned (.bool (plcB n i)) ∧ w' = w := by
  by_cases h1 : 0 ≤ i
  · by_cases h2 : i < n
    · rw [show plcB n i = true from decide_eq_true ⟨h1, h2⟩]
      go_enter Try.func48, Try.ntmps48
      go_wp2
      go_ret
      exact ⟨rfl, rfl⟩
    · rw [show plcB n i = false from decide_eq_false (by omega)]
      have h3 : decide (i < (n : Int)) = false := decide_eq_false h2
      clear h2
      go_enter Try.func48, Try.ntmps48
      go_wp2
      go_ret
      exact ⟨rfl, rfl⟩
  · rw [show plcB n i = false from decide_eq_false (by omega)]
    have h3 : decide (0 ≤ i) = false := decide_eq_false h1
    clear h1
    go_enter Try.func48, Try.ntmps48
    go_wp2
    go_ret
    exact ⟨rfl, rfl⟩
set_option maxRecDepth 100000 in
set_option maxHeartbeats 4000000 in
theorem index_O (ad : Option Addr) (n cap : Nat) (z : Nat → Int) (x : Int) (w : World) (hn : n ≤ 9223372036854775807) (hP : n = 0 ∨ ∃ b off : Nat, ad = some ⟨b, off, none⟩ ∧ Nrd w b off n z) :
    Calls Try.prog 66 #[.slice ad n cap, .int .i64 x] w fun e w' => ∃ r : Int, e = .returned (.int .i64 r) ∧ ((0 ≤ r ∧ anyB (fun i => decide (z i = x)) n = true) ∨ (r = -1 ∧ anyB (fun i => decide (z i = x)) n = false)) ∧ w' = w := by
  have HA : Hid (n = 0 ∨ ∃ b off : Nat, ad = some ⟨b, off, none⟩ ∧ Nrd w b off n z) := hP
  clear hP
  go_enter Try.func66, Try.ntmps66
  go_wp2
  go_loopw [8] (fun i wr => ∃ k : Nat, k ≤ n ∧ i = .int .i64 k ∧ wr = w ∧ ∀ j, j < k → decide (z j = x) = false) (fun i _ => n - (intOf i).toNat)
  case atStart => exact ⟨0, Nat.zero_le _, rfl, rfl, fun j hj => by omega⟩
  case round =>
    obtain ⟨k, hk, rfl, hwr, hg⟩ := hrel
    rw [hwr]
    clear hwr
    have HG : Hid (∀ j, j < k → decide (z j = x) = false) := hg
    clear hg
    by_cases hlt : k < n
    · have hl3 : (k : Int) < n := by omega
      obtain ⟨b, off, rfl, hP⟩ : ∃ b off : Nat, ad = some ⟨b, off, none⟩ ∧ Nrd w b off n z := by
        rcases HA.out with e | h
        · omega
        · exact h
      have c0 := hP k hlt
      clear hP
      by_cases e : z k = x
      · have d1 : (x == z k) = true := beq_iff_eq.2 e.symm
        have HY : Hid (anyB (fun i => decide (z i = x)) n = true) := anyB_yes (p := fun i => decide (z i = x)) hlt (decide_eq_true e)
        clear HG HA e
        as_aux_lemma =>
          generalize z k = zk at *
          go_wp2
          go_ret
          exact ⟨_, rfl, Or.inl ⟨by omega, HY.out⟩, rfl⟩
      · have d1 : (x == z k) = false := by simpa using fun q => e q.symm
        have HY : Hid (∀ j, j < k + 1 → decide (z j = x) = false) := fun j hj => by
          by_cases q : j = k
          · rw [q]; exact decide_eq_false e
          · exact HG.out j (by omega)
        clear HG HA e
        as_aux_lemma =>
          generalize z k = zk at *
          go_wp2
          go_roundw
          case rel => exact ⟨k + 1, by omega, by go_num, by first | rfl | trivial, HY.out⟩
          case measure => simp [intOf]; omega
    · have hl3 : ¬ ((k : Int) < n) := by omega
      have HY : Hid (anyB (fun i => decide (z i = x)) n = false) := anyB_no (fun i hi => HG.out i (by omega))
      clear HG HA
      go_wp2
      go_ret
      exact ⟨_, rfl, Or.inr ⟨rfl, HY.out⟩, rfl⟩
set_option maxHeartbeats 1000000 in
theorem contains_O (ad : Option Addr) (n cap : Nat) (z : Nat → Int) (x : Int) (w : World) (hn : n ≤ 9223372036854775807) (hP : n = 0 ∨ ∃ b off : Nat, ad = some ⟨b, off, none⟩ ∧ Nrd w b off n z) :
    Calls Try.prog 49 #[.slice ad n cap, .int .i64 x] w fun e w' => e = .returned (.bool (anyB (fun i => decide (z i = x)) n)) ∧ w' = w := by
  have cI := index_O ad n cap z x w hn hP
  clear hP
  generalize anyB (fun i => decide (z i = x)) n = A at *
  cases A
  all_goals
    go_enter Try.func49, Try.ntmps49
    go_wp2_with (go_at_call 66; refine cI.mono ?_; rintro e u0 ⟨r, rfl, hr, hu⟩; rw [hu]; clear hu; simp at hr; (try subst hr))
    go_ret
    exact ⟨rfl, rfl⟩
end Go.Proofs.Ytnagdjipmpjaaai
namespace Go.Proofs.Ytnagdjipmpjaaai
open Go.ChangeShapes Go.WideShapes Go.ChangeAt Go.RowKit Go.Joins
set_option linter.unusedVariables false
set_option linter.unusedSimpArgs false

/-- One of an order is right by itself and by those ahead of it. -/
def goodO (n : Nat) (o : Nat → Int) (i : Nat) : Prop := 0 ≤ o i ∧ o i < n ∧ ∀ k, k < i → o k ≠ o i
theorem OrE.at0 {n m : Nat} {f : Nat → Ev} {o : Nat → Int} {e : Int} (h : OrE n f o m e) (z : EvE n f 0) : (¬ EachP n o m → e = 3) ∧ (EachP n o m → e = 0) := by
  rcases h with ⟨a, b⟩ | ⟨_, a, b⟩ | ⟨_, a, b⟩
  · exact absurd (EvE.one a z) b
  · exact ⟨fun _ => b, fun q => absurd q a⟩
  · exact ⟨fun q => absurd a q, fun _ => b⟩
set_option maxRecDepth 100000 in
set_option maxHeartbeats 4000000 in
theorem checkOrder_row (a : Option Addr) (n cap : Nat) (f : Nat → Ev) (oa : Option Addr) (oc : Nat) (o : Nat → Int) (e : Int) (w : World) (hH : VHanded w a n f) (hcp : n ≤ cap) (hO : NHanded w oa n o) (hoc : n ≤ oc) (hE : EvE n f 0) (h : (¬ EachP n o n → e = 3) ∧ (EachP n o n → e = 0)) :
    Calls Try.prog 26 #[.slice a n cap, .slice oa n oc] w fun r w' => r = .returned (errc e) ∧ Below w.heap.size w w' := by
  have cC := ocheck_any a n cap f 0 w hH hcp hE
  rw [errc_zero] at cC
  have nn := hH.1
  have HI : Hid (∀ i u, Calls Try.prog 48 #[.slice a n cap, .int .i64 i] u fun e w' => e = .returned (.bool (plcB n i)) ∧ w' = u) := fun i u => isPlace_any a n cap i u nn
  have HQ : Hid (n = 0 ∨ ∃ b off : Nat, oa = some ⟨b, off, none⟩ ∧ Nrd w b off n o) := hO.2
  have HH : Hid ((¬ EachP n o n → e = 3) ∧ (EachP n o n → e = 0)) := h
  have d0 : ((n : Int) == (n : Int)) = true := beq_iff_eq.2 rfl
  have HOc : Hid (n ≤ oc) := hoc
  clear hH hcp hO hoc hE h
  go_enter Try.func26, Try.ntmps26
  go_wp2_with (go_at_call 47; refine cC.mono ?_; rintro e u0 ⟨rfl, hb⟩; have HB : Hid (Below w.heap.size w u0) := hb; clear hb)
  go_loopw [21] (fun v wr => ∃ i : Nat, i ≤ n ∧ v = .int .i64 i ∧ u0 = wr ∧ ∀ j, j < i → goodO n o j) (fun v _ => n - (intOf v).toNat)
  case atStart => exact ⟨0, Nat.zero_le _, rfl, rfl, fun j hj => by omega⟩
  case round =>
    obtain ⟨i, hi, rfl, rfl, hg⟩ := hrel
    have HG : Hid (∀ j, j < i → goodO n o j) := hg
    clear hg
    by_cases hlt : i < n
    · have hl3 : (i : Int) < n := by omega
      obtain ⟨b, off, rfl, hP⟩ : ∃ b off : Nat, oa = some ⟨b, off, none⟩ ∧ Nrd w b off n o := by
        rcases HQ.out with e | h
        · omega
        · exact h
      have hP0 := hP.on HB.out
      have x0 := hP0 i hlt
      have ic : (i : Int) ≤ oc := by have := HOc.out; omega
      have ic2 : i ≤ oc := by have := HOc.out; omega
      have cI := HI.out (o i)
      have cA := contains_O (some ⟨b, off, none⟩) i oc o (o i) u0 (by omega) (Or.inr ⟨b, off, rfl, fun j hj => hP0 j (by omega)⟩)
      cases p : plcB n (o i) with
      | false =>
        have HY : Hid (e = 3) := HH.out.1 (fun q => by have := of_decide_eq_false p; have := q.2 i hlt; omega)
        rw [p] at cI
        clear HG HQ hP hP0 cA p HI
        as_aux_lemma =>
          generalize o i = oi at *
          go_wp2_with (go_at_call 48; refine (cI _).mono ?_; rintro e u1 ⟨rfl, hu⟩; rw [hu]; clear hu)
          go_ret
          exact ⟨by rw [HY.out, errc_not (by decide)]; rfl, HB.out⟩
      | true =>
        rw [p] at cI
        cases c : anyB (fun j => decide (o j = o i)) i with
        | true =>
          have HY : Hid (e = 3) := HH.out.1 (fun q => by
            obtain ⟨j, hj, ej⟩ := anyB_iff.1 c
            exact (q.2 i hlt).2.2 j hj (of_decide_eq_true ej))
          rw [c] at cA
          clear HG HQ hP hP0 c p HI
          as_aux_lemma =>
            generalize o i = oi at *
            go_wp2_with (first | (go_at_call 48; refine (cI _).mono ?_; rintro e u1 ⟨rfl, hu⟩; rw [hu]; clear hu) | (go_at_call 49; refine cA.mono ?_; rintro e u1 ⟨rfl, hu⟩; rw [hu]; clear hu))
            go_ret
            exact ⟨by rw [HY.out, errc_not (by decide)]; rfl, HB.out⟩
        | false =>
          have HY : Hid (∀ j, j < i + 1 → goodO n o j) := fun j hj => by
            by_cases q : j = i
            · subst q
              have z := of_decide_eq_true p
              refine ⟨z.1, z.2, fun k hk e => ?_⟩
              rw [anyB_yes (p := fun i => decide (o i = o j)) hk (decide_eq_true e)] at c
              cases c
            · exact HG.out j (by omega)
          rw [c] at cA
          clear HG HQ hP hP0 c p HI
          as_aux_lemma =>
            generalize o i = oi at *
            go_wp2_with (first | (go_at_call 48; refine (cI _).mono ?_; rintro e u1 ⟨rfl, hu⟩; rw [hu]; clear hu) | (go_at_call 49; refine cA.mono ?_; rintro e u1 ⟨rfl, hu⟩; rw [hu]; clear hu))
            go_roundw
            case rel => exact ⟨i + 1, by omega, by go_num, by first | rfl | trivial, HY.out⟩
            case measure => simp [intOf]; omega
    · have hl3 : ¬ ((i : Int) < n) := by omega
      have HY : Hid (e = 0) := HH.out.2 ⟨rfl, fun j hj => HG.out j (by omega)⟩
      clear HG HQ HI
      go_wp2
      go_ret
      exact ⟨by rw [HY.out, errc_zero]; rfl, HB.out⟩
set_option maxHeartbeats 1000000 in
theorem checkOrder_any (a : Option Addr) (n cap : Nat) (f : Nat → Ev) (oa : Option Addr) (m oc : Nat) (o : Nat → Int) (e : Int) (w : World) (hH : VHanded w a n f) (hcp : n ≤ cap) (hO : NHanded w oa m o) (hoc : m ≤ oc) (h : OrE n f o m e) :
    Calls Try.prog 26 #[.slice a n cap, .slice oa m oc] w fun r w' => r = .returned (errc e) ∧ Below w.heap.size w w' := by
  obtain ⟨e0, hE⟩ := evE_some n f
  by_cases z : e0 = 0
  · subst z
    have h' := h.at0 hE
    by_cases q : m = n
    · subst q
      exact checkOrder_row a m cap f oa oc o e w hH hcp hO hoc hE h'
    · rw [h'.1 (fun p => q p.1), errc_not (by decide)]
      have cC := ocheck_any a n cap f 0 w hH hcp hE
      rw [errc_zero] at cC
      have mm := hO.1
      have nn := hH.1
      have d0 : ((m : Int) == (n : Int)) = false := by simp; omega
      clear hH hcp hO hoc hE h h' q
      go_enter Try.func26, Try.ntmps26
      go_wp2_with (go_at_call 47; refine cC.mono ?_; rintro e u0 ⟨rfl, hb⟩; have HB : Hid (Below w.heap.size w u0) := hb; clear hb)
      go_ret
      exact ⟨rfl, HB.out⟩
  · have ee : e = e0 := by
      rcases h with ⟨x, _⟩ | ⟨x, _⟩ | ⟨x, _⟩
      · exact EvE.one x hE
      · exact absurd (EvE.one hE x) z
      · exact absurd (EvE.one hE x) z
    rw [ee]
    have cC := ocheck_any a n cap f e0 w hH hcp hE
    rw [errc_not z] at cC ⊢
    clear hH hcp hO hoc hE h z ee
    go_enter Try.func26, Try.ntmps26
    go_wp2_with (go_at_call 47; refine cC.mono ?_; rintro e u0 ⟨rfl, hb⟩; have HB : Hid (Below w.heap.size w u0) := hb; clear hb)
    go_ret
    exact ⟨rfl, HB.out⟩
end Go.Proofs.Ytnagdjipmpjaaai
