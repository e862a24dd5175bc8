/- What slices.IndexFunc and slices.ContainsFunc answer, at each closure that package hull hands them. -/
import Derived.Test.YtcofpgbaokmbmafDoorHullClo
namespace Go.Proofs.YtcofpgbaokmbmafDoor
open Go.ChangeShapes Go.WideShapes Go.ChangeAt Go.RowKit Go.Joins
set_option linter.unusedVariables false
set_option linter.unusedSimpArgs false

/-- Where is it so first? -/
def Fst (p : Nat → Bool) (n : Nat) (r : Int) : Prop := (∃ k : Nat, k < n ∧ r = k ∧ p k = true ∧ ∀ j, j < k → p j = false) ∨ (r = -1 ∧ ∀ j, j < n → p j = false)
/-- Is it so of one of the first n? -/
def AnyP (p : Nat → Bool) (n : Nat) (b : Bool) : Prop := (b = true ∧ ∃ k, k < n ∧ p k = true) ∨ (b = false ∧ ∀ j, j < n → p j = false)
theorem AnyP.yes {p : Nat → Bool} {n : Nat} {b : Bool} (h : AnyP p n b) (g : ∃ k, k < n ∧ p k = true) : b = true := by
  rcases h with ⟨e, _⟩ | ⟨_, h⟩
  · exact e
  · obtain ⟨k, hk, e⟩ := g
    rw [h k hk] at e
    cases e
theorem AnyP.no {p : Nat → Bool} {n : Nat} {b : Bool} (h : AnyP p n b) (g : ∀ k, k < n → p k = false) : b = false := by
  rcases h with ⟨_, k, hk, e⟩ | ⟨e, _⟩
  · rw [g k hk] at e
    cases e
  · exact e

set_option maxRecDepth 100000 in
set_option maxHeartbeats 4000000 in
theorem idx_chk (ad : Option Addr) (n cap : Nat) (q : Nat → Int × Int) (p : Nat → Bool) (w : World) (hP : PHanded w ad n q)
    (hp : ∀ i u, i < n → Below w.heap.size w u → Calls Tryd.prog 18 #[.agg #[.int .i64 (q i).1, .int .i64 (q i).2]] u fun e w' => e = .returned (.bool (p i)) ∧ Below u.heap.size u w') :
    Calls Tryd.prog 26 #[.slice ad n cap, .func (.func 18) #[] #[]] w fun e w' => ∃ r : Int, e = .returned (.int .i64 r) ∧ Fst p n r ∧ Below w.heap.size w w' := by
  have hn : n ≤ 9223372036854775807 := hP.1
  have HA : Hid (n = 0 ∨ ∃ b off : Nat, ad = some ⟨b, off, none⟩ ∧ Pls w b off n q) := hP.2
  have HC : Hid (∀ i u, i < n → Below w.heap.size w u → Calls Tryd.prog 18 #[.agg #[.int .i64 (q i).1, .int .i64 (q i).2]] u fun e w' => e = .returned (.bool (p i)) ∧ Below u.heap.size u w') := hp
  clear hP hp
  go_enter Tryd.func26, Tryd.ntmps26
  go_wp2
  go_loopw [8] (fun i wr => ∃ k : Nat, k ≤ n ∧ i = .int .i64 k ∧ Below w.heap.size w wr ∧ ∀ j, j < k → p j = false) (fun i _ => n - (intOf i).toNat)
  case atStart => exact ⟨0, Nat.zero_le _, rfl, Below.refl _ _, fun j hj => by omega⟩
  case round =>
    obtain ⟨k, hk, rfl, hw, hg⟩ := hrel
    have HG : Hid (∀ j, j < k → p j = false) := hg
    have HW : Hid (Below w.heap.size w wr) := hw
    clear hg
    by_cases hlt : k < n
    · have hl3 : (k : Int) < n := by omega
      obtain ⟨b, off, rfl, hP⟩ : ∃ b off : Nat, ad = some ⟨b, off, none⟩ ∧ Pls w b off n q := by
        rcases HA.out with e | h
        · omega
        · exact h
      have HP : Hid (Pls w b off n q) := hP
      clear hP
      have cC := HC.out k wr hlt hw
      obtain ⟨x0, x1⟩ := (HP.out.on hw) k hlt
      cases e : p k with
      | true =>
        rw [e] at cC
        have HY : Hid (Fst p n k) := Or.inl ⟨k, hlt, rfl, e, HG.out⟩
        clear HC HA HP HG e hw
        as_aux_lemma =>
          generalize (q k).1 = ql at *
          generalize (q k).2 = qh at *
          go_wp2_with (go_at_call 18; refine cC.mono ?_; rintro e u0 ⟨rfl, hb⟩; have HB : Hid _ := hb; clear hb)
          go_ret
          exact ⟨_, rfl, HY.out, rbel_on HB.out HW.out⟩
      | false =>
        rw [e] at cC
        have HY : Hid (∀ j, j < k + 1 → p j = false) := fun j hj => by
          by_cases q : j = k
          · rw [q]; exact e
          · exact HG.out j (by omega)
        clear HC HA HP HG e hw
        as_aux_lemma =>
          generalize (q k).1 = ql at *
          generalize (q k).2 = qh at *
          go_wp2_with (go_at_call 18; refine cC.mono ?_; rintro e u0 ⟨rfl, hb⟩; have HB : Hid _ := hb; clear hb)
          go_roundw
          case rel => exact ⟨k + 1, by omega, by go_num, rbel_on HB.out HW.out, HY.out⟩
          case measure => simp [intOf]; omega
    · have hl3 : ¬ ((k : Int) < n) := by omega
      have HY : Hid (∀ j, j < n → p j = false) := fun i hi => HG.out i (by omega)
      clear HC HA HG hw
      go_wp2
      go_ret
      exact ⟨_, rfl, Or.inr ⟨rfl, HY.out⟩, HW.out⟩

set_option maxRecDepth 100000 in
set_option maxHeartbeats 4000000 in
theorem any_chk (ad : Option Addr) (n cap : Nat) (q : Nat → Int × Int) (p : Nat → Bool) (w : World) (hP : PHanded w ad n q)
    (hp : ∀ i u, i < n → Below w.heap.size w u → Calls Tryd.prog 18 #[.agg #[.int .i64 (q i).1, .int .i64 (q i).2]] u fun e w' => e = .returned (.bool (p i)) ∧ Below u.heap.size u w') :
    Calls Tryd.prog 17 #[.slice ad n cap, .func (.func 18) #[] #[]] w fun e w' => ∃ b, e = .returned (.bool b) ∧ AnyP p n b ∧ Below w.heap.size w w' := by
  have cI := idx_chk ad n cap q p w hP hp
  clear hP hp
  by_cases h : ∃ k, k < n ∧ p k = true
  · have HY : Hid (∃ k, k < n ∧ p k = true) := h
    have cI2 : Calls Tryd.prog 26 #[.slice ad n cap, .func (.func 18) #[] #[]] w fun e w' => ∃ r : Int, e = .returned (.int .i64 r) ∧ 0 ≤ r ∧ Below w.heap.size w w' := cI.mono (by
      rintro e w' ⟨r, he, hr, hb⟩
      refine ⟨r, he, ?_, hb⟩
      rcases hr with ⟨k, hk, e1, e2, _⟩ | ⟨_, no⟩
      · omega
      · obtain ⟨k, hk, e⟩ := h
        rw [no k hk] at e
        cases e)
    clear cI h
    go_enter Tryd.func17, Tryd.ntmps17
    go_wp2_with (go_at_call 26; refine cI2.mono ?_; rintro e u0 ⟨r, rfl, hr, hb⟩; have HB : Hid _ := hb; clear hb)
    go_ret
    exact ⟨true, rfl, Or.inl ⟨rfl, HY.out⟩, HB.out⟩
  · have HY : Hid (∀ k, k < n → p k = false) := fun k hk => by
      cases e : p k with
      | false => rfl
      | true => exact absurd ⟨k, hk, e⟩ h
    have cI2 : Calls Tryd.prog 26 #[.slice ad n cap, .func (.func 18) #[] #[]] w fun e w' => e = .returned (.int .i64 (-1)) ∧ Below w.heap.size w w' := cI.mono (by
      rintro e w' ⟨r, he, hr, hb⟩
      refine ⟨?_, hb⟩
      rcases hr with ⟨k, hk, _, e2, _⟩ | ⟨e1, _⟩
      · exact absurd ⟨k, hk, e2⟩ h
      · rw [he, e1])
    clear cI h
    go_enter Tryd.func17, Tryd.ntmps17
    go_wp2_with (go_at_call 26; refine cI2.mono ?_; rintro e u0 ⟨rfl, hb⟩; have HB : Hid _ := hb; clear hb)
    go_ret
    exact ⟨false, rfl, Or.inr ⟨rfl, HY.out⟩, HB.out⟩

set_option maxRecDepth 100000 in
set_option maxHeartbeats 4000000 in
theorem idx_at1 (ad : Option Addr) (n cap : Nat) (pc : Value) (q : Nat → Int × Int) (p : Nat → Bool) (w : World) (hP : PHanded w ad n q)
    (hp : ∀ i u, i < n → Below w.heap.size w u → Calls Tryd.prog 29 #[.agg #[.int .i64 (q i).1, .int .i64 (q i).2], pc] u fun e w' => e = .returned (.bool (p i)) ∧ Below u.heap.size u w') :
    Calls Tryd.prog 26 #[.slice ad n cap, .func (.func 29) #[] #[pc]] w fun e w' => ∃ r : Int, e = .returned (.int .i64 r) ∧ Fst p n r ∧ Below w.heap.size w w' := by
  have hn : n ≤ 9223372036854775807 := hP.1
  have HA : Hid (n = 0 ∨ ∃ b off : Nat, ad = some ⟨b, off, none⟩ ∧ Pls w b off n q) := hP.2
  have HC : Hid (∀ i u, i < n → Below w.heap.size w u → Calls Tryd.prog 29 #[.agg #[.int .i64 (q i).1, .int .i64 (q i).2], pc] u fun e w' => e = .returned (.bool (p i)) ∧ Below u.heap.size u w') := hp
  clear hP hp
  go_enter Tryd.func26, Tryd.ntmps26
  go_wp2
  go_loopw [8] (fun i wr => ∃ k : Nat, k ≤ n ∧ i = .int .i64 k ∧ Below w.heap.size w wr ∧ ∀ j, j < k → p j = false) (fun i _ => n - (intOf i).toNat)
  case atStart => exact ⟨0, Nat.zero_le _, rfl, Below.refl _ _, fun j hj => by omega⟩
  case round =>
    obtain ⟨k, hk, rfl, hw, hg⟩ := hrel
    have HG : Hid (∀ j, j < k → p j = false) := hg
    have HW : Hid (Below w.heap.size w wr) := hw
    clear hg
    by_cases hlt : k < n
    · have hl3 : (k : Int) < n := by omega
      obtain ⟨b, off, rfl, hP⟩ : ∃ b off : Nat, ad = some ⟨b, off, none⟩ ∧ Pls w b off n q := by
        rcases HA.out with e | h
        · omega
        · exact h
      have HP : Hid (Pls w b off n q) := hP
      clear hP
      have cC := HC.out k wr hlt hw
      obtain ⟨x0, x1⟩ := (HP.out.on hw) k hlt
      cases e : p k with
      | true =>
        rw [e] at cC
        have HY : Hid (Fst p n k) := Or.inl ⟨k, hlt, rfl, e, HG.out⟩
        clear HC HA HP HG e hw
        as_aux_lemma =>
          generalize (q k).1 = ql at *
          generalize (q k).2 = qh at *
          go_wp2_with (go_at_call 29; refine cC.mono ?_; rintro e u0 ⟨rfl, hb⟩; have HB : Hid _ := hb; clear hb)
          go_ret
          exact ⟨_, rfl, HY.out, rbel_on HB.out HW.out⟩
      | false =>
        rw [e] at cC
        have HY : Hid (∀ j, j < k + 1 → p j = false) := fun j hj => by
          by_cases q : j = k
          · rw [q]; exact e
          · exact HG.out j (by omega)
        clear HC HA HP HG e hw
        as_aux_lemma =>
          generalize (q k).1 = ql at *
          generalize (q k).2 = qh at *
          go_wp2_with (go_at_call 29; refine cC.mono ?_; rintro e u0 ⟨rfl, hb⟩; have HB : Hid _ := hb; clear hb)
          go_roundw
          case rel => exact ⟨k + 1, by omega, by go_num, rbel_on HB.out HW.out, HY.out⟩
          case measure => simp [intOf]; omega
    · have hl3 : ¬ ((k : Int) < n) := by omega
      have HY : Hid (∀ j, j < n → p j = false) := fun i hi => HG.out i (by omega)
      clear HC HA HG hw
      go_wp2
      go_ret
      exact ⟨_, rfl, Or.inr ⟨rfl, HY.out⟩, HW.out⟩

set_option maxRecDepth 100000 in
set_option maxHeartbeats 4000000 in
theorem any_at1 (ad : Option Addr) (n cap : Nat) (pc : Value) (q : Nat → Int × Int) (p : Nat → Bool) (w : World) (hP : PHanded w ad n q)
    (hp : ∀ i u, i < n → Below w.heap.size w u → Calls Tryd.prog 29 #[.agg #[.int .i64 (q i).1, .int .i64 (q i).2], pc] u fun e w' => e = .returned (.bool (p i)) ∧ Below u.heap.size u w') :
    Calls Tryd.prog 17 #[.slice ad n cap, .func (.func 29) #[] #[pc]] w fun e w' => ∃ b, e = .returned (.bool b) ∧ AnyP p n b ∧ Below w.heap.size w w' := by
  have cI := idx_at1 ad n cap pc q p w hP hp
  clear hP hp
  by_cases h : ∃ k, k < n ∧ p k = true
  · have HY : Hid (∃ k, k < n ∧ p k = true) := h
    have cI2 : Calls Tryd.prog 26 #[.slice ad n cap, .func (.func 29) #[] #[pc]] w fun e w' => ∃ r : Int, e = .returned (.int .i64 r) ∧ 0 ≤ r ∧ Below w.heap.size w w' := cI.mono (by
      rintro e w' ⟨r, he, hr, hb⟩
      refine ⟨r, he, ?_, hb⟩
      rcases hr with ⟨k, hk, e1, e2, _⟩ | ⟨_, no⟩
      · omega
      · obtain ⟨k, hk, e⟩ := h
        rw [no k hk] at e
        cases e)
    clear cI h
    go_enter Tryd.func17, Tryd.ntmps17
    go_wp2_with (go_at_call 26; refine cI2.mono ?_; rintro e u0 ⟨r, rfl, hr, hb⟩; have HB : Hid _ := hb; clear hb)
    go_ret
    exact ⟨true, rfl, Or.inl ⟨rfl, HY.out⟩, HB.out⟩
  · have HY : Hid (∀ k, k < n → p k = false) := fun k hk => by
      cases e : p k with
      | false => rfl
      | true => exact absurd ⟨k, hk, e⟩ h
    have cI2 : Calls Tryd.prog 26 #[.slice ad n cap, .func (.func 29) #[] #[pc]] w fun e w' => e = .returned (.int .i64 (-1)) ∧ Below w.heap.size w w' := cI.mono (by
      rintro e w' ⟨r, he, hr, hb⟩
      refine ⟨?_, hb⟩
      rcases hr with ⟨k, hk, _, e2, _⟩ | ⟨e1, _⟩
      · exact absurd ⟨k, hk, e2⟩ h
      · rw [he, e1])
    clear cI h
    go_enter Tryd.func17, Tryd.ntmps17
    go_wp2_with (go_at_call 26; refine cI2.mono ?_; rintro e u0 ⟨rfl, hb⟩; have HB : Hid _ := hb; clear hb)
    go_ret
    exact ⟨false, rfl, Or.inr ⟨rfl, HY.out⟩, HB.out⟩

set_option maxRecDepth 100000 in
set_option maxHeartbeats 4000000 in
theorem idx_at2 (ad : Option Addr) (n cap : Nat) (pc : Value) (q : Nat → Int × Int) (p : Nat → Bool) (w : World) (hP : PHanded w ad n q)
    (hp : ∀ i u, i < n → Below w.heap.size w u → Calls Tryd.prog 30 #[.agg #[.int .i64 (q i).1, .int .i64 (q i).2], pc] u fun e w' => e = .returned (.bool (p i)) ∧ Below u.heap.size u w') :
    Calls Tryd.prog 26 #[.slice ad n cap, .func (.func 30) #[] #[pc]] w fun e w' => ∃ r : Int, e = .returned (.int .i64 r) ∧ Fst p n r ∧ Below w.heap.size w w' := by
  have hn : n ≤ 9223372036854775807 := hP.1
  have HA : Hid (n = 0 ∨ ∃ b off : Nat, ad = some ⟨b, off, none⟩ ∧ Pls w b off n q) := hP.2
  have HC : Hid (∀ i u, i < n → Below w.heap.size w u → Calls Tryd.prog 30 #[.agg #[.int .i64 (q i).1, .int .i64 (q i).2], pc] u fun e w' => e = .returned (.bool (p i)) ∧ Below u.heap.size u w') := hp
  clear hP hp
  go_enter Tryd.func26, Tryd.ntmps26
  go_wp2
  go_loopw [8] (fun i wr => ∃ k : Nat, k ≤ n ∧ i = .int .i64 k ∧ Below w.heap.size w wr ∧ ∀ j, j < k → p j = false) (fun i _ => n - (intOf i).toNat)
  case atStart => exact ⟨0, Nat.zero_le _, rfl, Below.refl _ _, fun j hj => by omega⟩
  case round =>
    obtain ⟨k, hk, rfl, hw, hg⟩ := hrel
    have HG : Hid (∀ j, j < k → p j = false) := hg
    have HW : Hid (Below w.heap.size w wr) := hw
    clear hg
    by_cases hlt : k < n
    · have hl3 : (k : Int) < n := by omega
      obtain ⟨b, off, rfl, hP⟩ : ∃ b off : Nat, ad = some ⟨b, off, none⟩ ∧ Pls w b off n q := by
        rcases HA.out with e | h
        · omega
        · exact h
      have HP : Hid (Pls w b off n q) := hP
      clear hP
      have cC := HC.out k wr hlt hw
      obtain ⟨x0, x1⟩ := (HP.out.on hw) k hlt
      cases e : p k with
      | true =>
        rw [e] at cC
        have HY : Hid (Fst p n k) := Or.inl ⟨k, hlt, rfl, e, HG.out⟩
        clear HC HA HP HG e hw
        as_aux_lemma =>
          generalize (q k).1 = ql at *
          generalize (q k).2 = qh at *
          go_wp2_with (go_at_call 30; refine cC.mono ?_; rintro e u0 ⟨rfl, hb⟩; have HB : Hid _ := hb; clear hb)
          go_ret
          exact ⟨_, rfl, HY.out, rbel_on HB.out HW.out⟩
      | false =>
        rw [e] at cC
        have HY : Hid (∀ j, j < k + 1 → p j = false) := fun j hj => by
          by_cases q : j = k
          · rw [q]; exact e
          · exact HG.out j (by omega)
        clear HC HA HP HG e hw
        as_aux_lemma =>
          generalize (q k).1 = ql at *
          generalize (q k).2 = qh at *
          go_wp2_with (go_at_call 30; refine cC.mono ?_; rintro e u0 ⟨rfl, hb⟩; have HB : Hid _ := hb; clear hb)
          go_roundw
          case rel => exact ⟨k + 1, by omega, by go_num, rbel_on HB.out HW.out, HY.out⟩
          case measure => simp [intOf]; omega
    · have hl3 : ¬ ((k : Int) < n) := by omega
      have HY : Hid (∀ j, j < n → p j = false) := fun i hi => HG.out i (by omega)
      clear HC HA HG hw
      go_wp2
      go_ret
      exact ⟨_, rfl, Or.inr ⟨rfl, HY.out⟩, HW.out⟩

set_option maxRecDepth 100000 in
set_option maxHeartbeats 4000000 in
theorem any_at2 (ad : Option Addr) (n cap : Nat) (pc : Value) (q : Nat → Int × Int) (p : Nat → Bool) (w : World) (hP : PHanded w ad n q)
    (hp : ∀ i u, i < n → Below w.heap.size w u → Calls Tryd.prog 30 #[.agg #[.int .i64 (q i).1, .int .i64 (q i).2], pc] u fun e w' => e = .returned (.bool (p i)) ∧ Below u.heap.size u w') :
    Calls Tryd.prog 17 #[.slice ad n cap, .func (.func 30) #[] #[pc]] w fun e w' => ∃ b, e = .returned (.bool b) ∧ AnyP p n b ∧ Below w.heap.size w w' := by
  have cI := idx_at2 ad n cap pc q p w hP hp
  clear hP hp
  by_cases h : ∃ k, k < n ∧ p k = true
  · have HY : Hid (∃ k, k < n ∧ p k = true) := h
    have cI2 : Calls Tryd.prog 26 #[.slice ad n cap, .func (.func 30) #[] #[pc]] w fun e w' => ∃ r : Int, e = .returned (.int .i64 r) ∧ 0 ≤ r ∧ Below w.heap.size w w' := cI.mono (by
      rintro e w' ⟨r, he, hr, hb⟩
      refine ⟨r, he, ?_, hb⟩
      rcases hr with ⟨k, hk, e1, e2, _⟩ | ⟨_, no⟩
      · omega
      · obtain ⟨k, hk, e⟩ := h
        rw [no k hk] at e
        cases e)
    clear cI h
    go_enter Tryd.func17, Tryd.ntmps17
    go_wp2_with (go_at_call 26; refine cI2.mono ?_; rintro e u0 ⟨r, rfl, hr, hb⟩; have HB : Hid _ := hb; clear hb)
    go_ret
    exact ⟨true, rfl, Or.inl ⟨rfl, HY.out⟩, HB.out⟩
  · have HY : Hid (∀ k, k < n → p k = false) := fun k hk => by
      cases e : p k with
      | false => rfl
      | true => exact absurd ⟨k, hk, e⟩ h
    have cI2 : Calls Tryd.prog 26 #[.slice ad n cap, .func (.func 30) #[] #[pc]] w fun e w' => e = .returned (.int .i64 (-1)) ∧ Below w.heap.size w w' := cI.mono (by
      rintro e w' ⟨r, he, hr, hb⟩
      refine ⟨?_, hb⟩
      rcases hr with ⟨k, hk, _, e2, _⟩ | ⟨e1, _⟩
      · exact absurd ⟨k, hk, e2⟩ h
      · rw [he, e1])
    clear cI h
    go_enter Tryd.func17, Tryd.ntmps17
    go_wp2_with (go_at_call 26; refine cI2.mono ?_; rintro e u0 ⟨rfl, hb⟩; have HB : Hid _ := hb; clear hb)
    go_ret
    exact ⟨false, rfl, Or.inr ⟨rfl, HY.out⟩, HB.out⟩

set_option maxRecDepth 100000 in
set_option maxHeartbeats 4000000 in
theorem idx_hgt (ad : Option Addr) (n cap : Nat) (pc : Value) (q : Nat → Int × Int) (p : Nat → Bool) (w : World) (hP : PHanded w ad n q)
    (hp : ∀ i u, i < n → Below w.heap.size w u → Calls Tryd.prog 31 #[.agg #[.int .i64 (q i).1, .int .i64 (q i).2], pc] u fun e w' => e = .returned (.bool (p i)) ∧ Below u.heap.size u w') :
    Calls Tryd.prog 26 #[.slice ad n cap, .func (.func 31) #[] #[pc]] w fun e w' => ∃ r : Int, e = .returned (.int .i64 r) ∧ Fst p n r ∧ Below w.heap.size w w' := by
  have hn : n ≤ 9223372036854775807 := hP.1
  have HA : Hid (n = 0 ∨ ∃ b off : Nat, ad = some ⟨b, off, none⟩ ∧ Pls w b off n q) := hP.2
  have HC : Hid (∀ i u, i < n → Below w.heap.size w u → Calls Tryd.prog 31 #[.agg #[.int .i64 (q i).1, .int .i64 (q i).2], pc] u fun e w' => e = .returned (.bool (p i)) ∧ Below u.heap.size u w') := hp
  clear hP hp
  go_enter Tryd.func26, Tryd.ntmps26
  go_wp2
  go_loopw [8] (fun i wr => ∃ k : Nat, k ≤ n ∧ i = .int .i64 k ∧ Below w.heap.size w wr ∧ ∀ j, j < k → p j = false) (fun i _ => n - (intOf i).toNat)
  case atStart => exact ⟨0, Nat.zero_le _, rfl, Below.refl _ _, fun j hj => by omega⟩
  case round =>
    obtain ⟨k, hk, rfl, hw, hg⟩ := hrel
    have HG : Hid (∀ j, j < k → p j = false) := hg
    have HW : Hid (Below w.heap.size w wr) := hw
    clear hg
    by_cases hlt : k < n
    · have hl3 : (k : Int) < n := by omega
      obtain ⟨b, off, rfl, hP⟩ : ∃ b off : Nat, ad = some ⟨b, off, none⟩ ∧ Pls w b off n q := by
        rcases HA.out with e | h
        · omega
        · exact h
      have HP : Hid (Pls w b off n q) := hP
      clear hP
      have cC := HC.out k wr hlt hw
      obtain ⟨x0, x1⟩ := (HP.out.on hw) k hlt
      cases e : p k with
      | true =>
        rw [e] at cC
        have HY : Hid (Fst p n k) := Or.inl ⟨k, hlt, rfl, e, HG.out⟩
        clear HC HA HP HG e hw
        as_aux_lemma =>
          generalize (q k).1 = ql at *
          generalize (q k).2 = qh at *
          go_wp2_with (go_at_call 31; refine cC.mono ?_; rintro e u0 ⟨rfl, hb⟩; have HB : Hid _ := hb; clear hb)
          go_ret
          exact ⟨_, rfl, HY.out, rbel_on HB.out HW.out⟩
      | false =>
        rw [e] at cC
        have HY : Hid (∀ j, j < k + 1 → p j = false) := fun j hj => by
          by_cases q : j = k
          · rw [q]; exact e
          · exact HG.out j (by omega)
        clear HC HA HP HG e hw
        as_aux_lemma =>
          generalize (q k).1 = ql at *
          generalize (q k).2 = qh at *
          go_wp2_with (go_at_call 31; refine cC.mono ?_; rintro e u0 ⟨rfl, hb⟩; have HB : Hid _ := hb; clear hb)
          go_roundw
          case rel => exact ⟨k + 1, by omega, by go_num, rbel_on HB.out HW.out, HY.out⟩
          case measure => simp [intOf]; omega
    · have hl3 : ¬ ((k : Int) < n) := by omega
      have HY : Hid (∀ j, j < n → p j = false) := fun i hi => HG.out i (by omega)
      clear HC HA HG hw
      go_wp2
      go_ret
      exact ⟨_, rfl, Or.inr ⟨rfl, HY.out⟩, HW.out⟩
end Go.Proofs.YtcofpgbaokmbmafDoor
