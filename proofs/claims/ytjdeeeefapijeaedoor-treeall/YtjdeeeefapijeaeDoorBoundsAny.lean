/- What slices.ContainsFunc answers, at each closure that package bounds hands it. -/
import Derived.Test.YtjdeeeefapijeaeDoorBoundsNew
namespace Go.Proofs.YtjdeeeefapijeaeDoor
open Go.ChangeShapes Go.WideShapes Go.ChangeAt Go.RowKit Go.Joins
set_option linter.unusedVariables false
set_option linter.unusedSimpArgs false

/-- Is it so of one of the first n? -/
def anyB (p : Nat → Bool) : Nat → Bool
  | 0 => false
  | n + 1 => anyB p n || p n
theorem anyB_no {p : Nat → Bool} : ∀ {n : Nat}, (∀ i, i < n → p i = false) → anyB p n = false
  | 0, _ => rfl
  | n + 1, h => by simp only [anyB]; rw [anyB_no (fun i hi => h i (by omega)), h n (by omega)]; rfl
theorem anyB_yes {p : Nat → Bool} : ∀ {n k : Nat}, k < n → p k = true → anyB p n = true
  | 0, k, h, _ => by omega
  | n + 1, k, h, e => by
    simp only [anyB]
    by_cases q : k = n
    · rw [← q, e, Bool.or_true]
    · rw [anyB_yes (show k < n by omega) e]; rfl
theorem anyB_iff {p : Nat → Bool} {n : Nat} : anyB p n = true ↔ ∃ k, k < n ∧ p k = true := by
  constructor
  · intro h
    apply Classical.byContradiction
    intro no
    have := anyB_no (p := p) (n := n) (fun i hi => by
      cases e : p i with
      | false => rfl
      | true => exact absurd ⟨i, hi, e⟩ no)
    rw [this] at h
    cases h
  · rintro ⟨k, h1, h2⟩
    exact anyB_yes h1 h2
theorem anyB_congr {p p' : Nat → Bool} : ∀ {n : Nat}, (∀ i, i < n → p i = p' i) → anyB p n = anyB p' n
  | 0, _ => rfl
  | n + 1, h => by simp only [anyB]; rw [anyB_congr (fun i hi => h i (by omega)), h n (by omega)]
/-- n spans lie in a row behind an address. -/
def Spz (w : World) (b off n : Nat) (q : Nat → Int × Int) : Prop := ∀ i, i < n → w.cell? ⟨b, off + i * 2, none⟩ = some (.int .i64 (q i).1) ∧ w.cell? ⟨b, off + i * 2 + 1, none⟩ = some (.int .i64 (q i).2)
theorem Spz.on {W u : World} {b off n : Nat} {q : Nat → Int × Int} (hb : Below W.heap.size W u) (h : Spz W b off n q) : Spz u b off n q := fun i hi => by
  obtain ⟨h0, h1⟩ := h i hi
  exact ⟨by rw [hb.cell (World.block_lt_of_cell? _ _ h0)]; exact h0, by rw [hb.cell (World.block_lt_of_cell? _ _ h1)]; exact h1⟩
/-- n values of one cell lie in a row behind an address. -/
def Vls (w : World) (b off n : Nat) (v : Nat → Value) : Prop := ∀ i, i < n → w.cell? ⟨b, off + i, none⟩ = some (v i)
theorem Vls.on {W u : World} {b off n : Nat} {v : Nat → Value} (hb : Below W.heap.size W u) (h : Vls W b off n v) : Vls u b off n v := fun i hi => by
  rw [hb.cell (World.block_lt_of_cell? _ _ (h i hi))]; exact h i hi

set_option maxRecDepth 100000 in
set_option maxHeartbeats 4000000 in
theorem idx_ints (ad : Option Addr) (n cap : Nat) (z : Nat → Int) (p : Nat → Bool) (w : World) (hn : n ≤ 9223372036854775807) (hP : n = 0 ∨ ∃ b off : Nat, ad = some ⟨b, off, none⟩ ∧ Nrd w b off n z)
    (hp : ∀ i u, i < n → Below w.heap.size w u → Calls Tryd.prog 37 #[.int .i64 (z i)] u fun e w' => e = .returned (.bool (p i)) ∧ Below u.heap.size u w') :
    Calls Tryd.prog 58 #[.slice ad n cap, .func (.func 37) #[] #[]] w fun e w' => ∃ r : Int, e = .returned (.int .i64 r) ∧ ((0 ≤ r ∧ anyB p n = true) ∨ (r = -1 ∧ anyB p n = false)) ∧ Below w.heap.size w w' := by
  have HA : Hid (n = 0 ∨ ∃ b off : Nat, ad = some ⟨b, off, none⟩ ∧ Nrd w b off n z) := hP
  have HC : Hid (∀ i u, i < n → Below w.heap.size w u → Calls Tryd.prog 37 #[.int .i64 (z i)] u fun e w' => e = .returned (.bool (p i)) ∧ Below u.heap.size u w') := hp
  clear hP hp
  go_enter Tryd.func58, Tryd.ntmps58
  go_wp2
  go_loopw [8] (fun i wr => ∃ k : Nat, k ≤ n ∧ i = .int .i64 k ∧ Below w.heap.size w wr ∧ ∀ j, j < k → p j = false) (fun i _ => n - (intOf i).toNat)
  case atStart => exact ⟨0, Nat.zero_le _, rfl, Below.refl _ _, fun j hj => by omega⟩
  case round =>
    obtain ⟨k, hk, rfl, hw, hg⟩ := hrel
    have HG : Hid (∀ j, j < k → p j = false) := hg
    have HW : Hid (Below w.heap.size w wr) := hw
    clear hg
    by_cases hlt : k < n
    · have hl3 : (k : Int) < n := by omega
      obtain ⟨b, off, rfl, hP⟩ : ∃ b off : Nat, ad = some ⟨b, off, none⟩ ∧ Nrd w b off n z := by
        rcases HA.out with e | h
        · omega
        · exact h
      have HP : Hid (Nrd w b off n z) := hP
      clear hP
      have cC := HC.out k wr hlt hw
      have x0 := (HP.out.on hw) k hlt
      cases e : p k with
      | true =>
        rw [e] at cC
        have HY : Hid (anyB p n = true) := anyB_yes hlt e
        clear HC HA HP HG e hw
        as_aux_lemma =>
          generalize z k = zk at *
          go_wp2_with (go_at_call 37; refine cC.mono ?_; rintro e u0 ⟨rfl, hb⟩; have HB : Hid _ := hb; clear hb)
          go_ret
          exact ⟨_, rfl, Or.inl ⟨by omega, HY.out⟩, rbel_on HB.out HW.out⟩
      | false =>
        rw [e] at cC
        have HY : Hid (∀ j, j < k + 1 → p j = false) := fun j hj => by
          by_cases q : j = k
          · rw [q]; exact e
          · exact HG.out j (by omega)
        clear HC HA HP HG e hw
        as_aux_lemma =>
          generalize z k = zk at *
          go_wp2_with (go_at_call 37; refine cC.mono ?_; rintro e u0 ⟨rfl, hb⟩; have HB : Hid _ := hb; clear hb)
          go_roundw
          case rel => exact ⟨k + 1, by omega, by go_num, rbel_on HB.out HW.out, HY.out⟩
          case measure => simp [intOf]; omega
    · have hl3 : ¬ ((k : Int) < n) := by omega
      have HY : Hid (anyB p n = false) := anyB_no (fun i hi => HG.out i (by omega))
      clear HC HA HG hw
      go_wp2
      go_ret
      exact ⟨_, rfl, Or.inr ⟨rfl, HY.out⟩, HW.out⟩
set_option maxRecDepth 100000 in
set_option maxHeartbeats 4000000 in
theorem any_ints (ad : Option Addr) (n cap : Nat) (z : Nat → Int) (p : Nat → Bool) (w : World) (hn : n ≤ 9223372036854775807) (hP : n = 0 ∨ ∃ b off : Nat, ad = some ⟨b, off, none⟩ ∧ Nrd w b off n z)
    (hp : ∀ i u, i < n → Below w.heap.size w u → Calls Tryd.prog 37 #[.int .i64 (z i)] u fun e w' => e = .returned (.bool (p i)) ∧ Below u.heap.size u w') :
    Calls Tryd.prog 36 #[.slice ad n cap, .func (.func 37) #[] #[]] w fun e w' => e = .returned (.bool (anyB p n)) ∧ Below w.heap.size w w' := by
  have cI := idx_ints ad n cap z p w hn hP hp
  clear hP hp
  cases h : anyB p n
  all_goals
    rw [h] at cI
    go_enter Tryd.func36, Tryd.ntmps36
    go_wp2_with (go_at_call 58; refine cI.mono ?_; rintro e u0 ⟨r, rfl, hr, hb⟩; have HB : Hid _ := hb; clear hb; simp at hr; (try subst hr))
    go_ret
    exact ⟨rfl, HB.out⟩

set_option maxRecDepth 100000 in
set_option maxHeartbeats 4000000 in
theorem idx_edgs (ad : Option Addr) (n cap : Nat) (pc : Value) (q : Nat → Eg) (p : Nat → Bool) (w : World) (hn : n ≤ 9223372036854775807) (hP : n = 0 ∨ ∃ b off : Nat, ad = some ⟨b, off, none⟩ ∧ Esp w b off n q)
    (hp : ∀ i u, i < n → Below w.heap.size w u → Calls Tryd.prog 39 #[.agg #[.int .i64 (q i).a, .int .i64 (q i).b, .int .i64 (q i).lo, .int .i64 (q i).hi], pc] u fun e w' => e = .returned (.bool (p i)) ∧ Below u.heap.size u w') :
    Calls Tryd.prog 59 #[.slice ad n cap, .func (.func 39) #[] #[pc]] w fun e w' => ∃ r : Int, e = .returned (.int .i64 r) ∧ ((0 ≤ r ∧ anyB p n = true) ∨ (r = -1 ∧ anyB p n = false)) ∧ Below w.heap.size w w' := by
  have HA : Hid (n = 0 ∨ ∃ b off : Nat, ad = some ⟨b, off, none⟩ ∧ Esp w b off n q) := hP
  have HC : Hid (∀ i u, i < n → Below w.heap.size w u → Calls Tryd.prog 39 #[.agg #[.int .i64 (q i).a, .int .i64 (q i).b, .int .i64 (q i).lo, .int .i64 (q i).hi], pc] u fun e w' => e = .returned (.bool (p i)) ∧ Below u.heap.size u w') := hp
  clear hP hp
  go_enter Tryd.func59, Tryd.ntmps59
  go_wp2
  go_loopw [8] (fun i wr => ∃ k : Nat, k ≤ n ∧ i = .int .i64 k ∧ Below w.heap.size w wr ∧ ∀ j, j < k → p j = false) (fun i _ => n - (intOf i).toNat)
  case atStart => exact ⟨0, Nat.zero_le _, rfl, Below.refl _ _, fun j hj => by omega⟩
  case round =>
    obtain ⟨k, hk, rfl, hw, hg⟩ := hrel
    have HG : Hid (∀ j, j < k → p j = false) := hg
    have HW : Hid (Below w.heap.size w wr) := hw
    clear hg
    by_cases hlt : k < n
    · have hl3 : (k : Int) < n := by omega
      obtain ⟨b, off, rfl, hP⟩ : ∃ b off : Nat, ad = some ⟨b, off, none⟩ ∧ Esp w b off n q := by
        rcases HA.out with e | h
        · omega
        · exact h
      have HP : Hid (Esp w b off n q) := hP
      clear hP
      have cC := HC.out k wr hlt hw
      obtain ⟨x0, x1, x2, x3⟩ := (HP.out.on hw) k hlt
      cases e : p k with
      | true =>
        rw [e] at cC
        have HY : Hid (anyB p n = true) := anyB_yes hlt e
        clear HC HA HP HG e hw
        as_aux_lemma =>
          generalize (q k).a = qa at *
          generalize (q k).b = qb at *
          generalize (q k).lo = ql at *
          generalize (q k).hi = qh at *
          go_wp2_with (go_at_call 39; refine cC.mono ?_; rintro e u0 ⟨rfl, hb⟩; have HB : Hid _ := hb; clear hb)
          go_ret
          exact ⟨_, rfl, Or.inl ⟨by omega, HY.out⟩, rbel_on HB.out HW.out⟩
      | false =>
        rw [e] at cC
        have HY : Hid (∀ j, j < k + 1 → p j = false) := fun j hj => by
          by_cases q : j = k
          · rw [q]; exact e
          · exact HG.out j (by omega)
        clear HC HA HP HG e hw
        as_aux_lemma =>
          generalize (q k).a = qa at *
          generalize (q k).b = qb at *
          generalize (q k).lo = ql at *
          generalize (q k).hi = qh at *
          go_wp2_with (go_at_call 39; refine cC.mono ?_; rintro e u0 ⟨rfl, hb⟩; have HB : Hid _ := hb; clear hb)
          go_roundw
          case rel => exact ⟨k + 1, by omega, by go_num, rbel_on HB.out HW.out, HY.out⟩
          case measure => simp [intOf]; omega
    · have hl3 : ¬ ((k : Int) < n) := by omega
      have HY : Hid (anyB p n = false) := anyB_no (fun i hi => HG.out i (by omega))
      clear HC HA HG hw
      go_wp2
      go_ret
      exact ⟨_, rfl, Or.inr ⟨rfl, HY.out⟩, HW.out⟩
set_option maxRecDepth 100000 in
set_option maxHeartbeats 4000000 in
theorem any_edgs (ad : Option Addr) (n cap : Nat) (pc : Value) (q : Nat → Eg) (p : Nat → Bool) (w : World) (hn : n ≤ 9223372036854775807) (hP : n = 0 ∨ ∃ b off : Nat, ad = some ⟨b, off, none⟩ ∧ Esp w b off n q)
    (hp : ∀ i u, i < n → Below w.heap.size w u → Calls Tryd.prog 39 #[.agg #[.int .i64 (q i).a, .int .i64 (q i).b, .int .i64 (q i).lo, .int .i64 (q i).hi], pc] u fun e w' => e = .returned (.bool (p i)) ∧ Below u.heap.size u w') :
    Calls Tryd.prog 38 #[.slice ad n cap, .func (.func 39) #[] #[pc]] w fun e w' => e = .returned (.bool (anyB p n)) ∧ Below w.heap.size w w' := by
  have cI := idx_edgs ad n cap pc q p w hn hP hp
  clear hP hp
  cases h : anyB p n
  all_goals
    rw [h] at cI
    go_enter Tryd.func38, Tryd.ntmps38
    go_wp2_with (go_at_call 59; refine cI.mono ?_; rintro e u0 ⟨r, rfl, hr, hb⟩; have HB : Hid _ := hb; clear hb; simp at hr; (try subst hr))
    go_ret
    exact ⟨rfl, HB.out⟩

set_option maxRecDepth 100000 in
set_option maxHeartbeats 4000000 in
theorem idx_spns (ad : Option Addr) (n cap : Nat) (q : Nat → Int × Int) (p : Nat → Bool) (w : World) (hn : n ≤ 9223372036854775807) (hP : n = 0 ∨ ∃ b off : Nat, ad = some ⟨b, off, none⟩ ∧ Spz w b off n q)
    (hp : ∀ i u, i < n → Below w.heap.size w u → Calls Tryd.prog 57 #[.agg #[.int .i64 (q i).1, .int .i64 (q i).2]] u fun e w' => e = .returned (.bool (p i)) ∧ Below u.heap.size u w') :
    Calls Tryd.prog 72 #[.slice ad n cap, .func (.func 57) #[] #[]] w fun e w' => ∃ r : Int, e = .returned (.int .i64 r) ∧ ((0 ≤ r ∧ anyB p n = true) ∨ (r = -1 ∧ anyB p n = false)) ∧ Below w.heap.size w w' := by
  have HA : Hid (n = 0 ∨ ∃ b off : Nat, ad = some ⟨b, off, none⟩ ∧ Spz w b off n q) := hP
  have HC : Hid (∀ i u, i < n → Below w.heap.size w u → Calls Tryd.prog 57 #[.agg #[.int .i64 (q i).1, .int .i64 (q i).2]] u fun e w' => e = .returned (.bool (p i)) ∧ Below u.heap.size u w') := hp
  clear hP hp
  go_enter Tryd.func72, Tryd.ntmps72
  go_wp2
  go_loopw [8] (fun i wr => ∃ k : Nat, k ≤ n ∧ i = .int .i64 k ∧ Below w.heap.size w wr ∧ ∀ j, j < k → p j = false) (fun i _ => n - (intOf i).toNat)
  case atStart => exact ⟨0, Nat.zero_le _, rfl, Below.refl _ _, fun j hj => by omega⟩
  case round =>
    obtain ⟨k, hk, rfl, hw, hg⟩ := hrel
    have HG : Hid (∀ j, j < k → p j = false) := hg
    have HW : Hid (Below w.heap.size w wr) := hw
    clear hg
    by_cases hlt : k < n
    · have hl3 : (k : Int) < n := by omega
      obtain ⟨b, off, rfl, hP⟩ : ∃ b off : Nat, ad = some ⟨b, off, none⟩ ∧ Spz w b off n q := by
        rcases HA.out with e | h
        · omega
        · exact h
      have HP : Hid (Spz w b off n q) := hP
      clear hP
      have cC := HC.out k wr hlt hw
      obtain ⟨x0, x1⟩ := (HP.out.on hw) k hlt
      cases e : p k with
      | true =>
        rw [e] at cC
        have HY : Hid (anyB p n = true) := anyB_yes hlt e
        clear HC HA HP HG e hw
        as_aux_lemma =>
          generalize (q k).1 = ql at *
          generalize (q k).2 = qh at *
          go_wp2_with (go_at_call 57; refine cC.mono ?_; rintro e u0 ⟨rfl, hb⟩; have HB : Hid _ := hb; clear hb)
          go_ret
          exact ⟨_, rfl, Or.inl ⟨by omega, HY.out⟩, rbel_on HB.out HW.out⟩
      | false =>
        rw [e] at cC
        have HY : Hid (∀ j, j < k + 1 → p j = false) := fun j hj => by
          by_cases q : j = k
          · rw [q]; exact e
          · exact HG.out j (by omega)
        clear HC HA HP HG e hw
        as_aux_lemma =>
          generalize (q k).1 = ql at *
          generalize (q k).2 = qh at *
          go_wp2_with (go_at_call 57; refine cC.mono ?_; rintro e u0 ⟨rfl, hb⟩; have HB : Hid _ := hb; clear hb)
          go_roundw
          case rel => exact ⟨k + 1, by omega, by go_num, rbel_on HB.out HW.out, HY.out⟩
          case measure => simp [intOf]; omega
    · have hl3 : ¬ ((k : Int) < n) := by omega
      have HY : Hid (anyB p n = false) := anyB_no (fun i hi => HG.out i (by omega))
      clear HC HA HG hw
      go_wp2
      go_ret
      exact ⟨_, rfl, Or.inr ⟨rfl, HY.out⟩, HW.out⟩
set_option maxRecDepth 100000 in
set_option maxHeartbeats 4000000 in
theorem any_spns (ad : Option Addr) (n cap : Nat) (q : Nat → Int × Int) (p : Nat → Bool) (w : World) (hn : n ≤ 9223372036854775807) (hP : n = 0 ∨ ∃ b off : Nat, ad = some ⟨b, off, none⟩ ∧ Spz w b off n q)
    (hp : ∀ i u, i < n → Below w.heap.size w u → Calls Tryd.prog 57 #[.agg #[.int .i64 (q i).1, .int .i64 (q i).2]] u fun e w' => e = .returned (.bool (p i)) ∧ Below u.heap.size u w') :
    Calls Tryd.prog 56 #[.slice ad n cap, .func (.func 57) #[] #[]] w fun e w' => e = .returned (.bool (anyB p n)) ∧ Below w.heap.size w w' := by
  have cI := idx_spns ad n cap q p w hn hP hp
  clear hP hp
  cases h : anyB p n
  all_goals
    rw [h] at cI
    go_enter Tryd.func56, Tryd.ntmps56
    go_wp2_with (go_at_call 72; refine cI.mono ?_; rintro e u0 ⟨r, rfl, hr, hb⟩; have HB : Hid _ := hb; clear hb; simp at hr; (try subst hr))
    go_ret
    exact ⟨rfl, HB.out⟩

set_option maxRecDepth 100000 in
set_option maxHeartbeats 4000000 in
theorem idx_rows (ad : Option Addr) (n cap : Nat) (v : Nat → Value) (p : Nat → Bool) (w : World) (hn : n ≤ 9223372036854775807) (hP : n = 0 ∨ ∃ b off : Nat, ad = some ⟨b, off, none⟩ ∧ Vls w b off n v)
    (hp : ∀ i u, i < n → Below w.heap.size w u → Calls Tryd.prog 55 #[v i] u fun e w' => e = .returned (.bool (p i)) ∧ Below u.heap.size u w') :
    Calls Tryd.prog 71 #[.slice ad n cap, .func (.func 55) #[] #[]] w fun e w' => ∃ r : Int, e = .returned (.int .i64 r) ∧ ((0 ≤ r ∧ anyB p n = true) ∨ (r = -1 ∧ anyB p n = false)) ∧ Below w.heap.size w w' := by
  have HA : Hid (n = 0 ∨ ∃ b off : Nat, ad = some ⟨b, off, none⟩ ∧ Vls w b off n v) := hP
  have HC : Hid (∀ i u, i < n → Below w.heap.size w u → Calls Tryd.prog 55 #[v i] u fun e w' => e = .returned (.bool (p i)) ∧ Below u.heap.size u w') := hp
  clear hP hp
  go_enter Tryd.func71, Tryd.ntmps71
  go_wp2
  go_loopw [8] (fun i wr => ∃ k : Nat, k ≤ n ∧ i = .int .i64 k ∧ Below w.heap.size w wr ∧ ∀ j, j < k → p j = false) (fun i _ => n - (intOf i).toNat)
  case atStart => exact ⟨0, Nat.zero_le _, rfl, Below.refl _ _, fun j hj => by omega⟩
  case round =>
    obtain ⟨k, hk, rfl, hw, hg⟩ := hrel
    have HG : Hid (∀ j, j < k → p j = false) := hg
    have HW : Hid (Below w.heap.size w wr) := hw
    clear hg
    by_cases hlt : k < n
    · have hl3 : (k : Int) < n := by omega
      obtain ⟨b, off, rfl, hP⟩ : ∃ b off : Nat, ad = some ⟨b, off, none⟩ ∧ Vls w b off n v := by
        rcases HA.out with e | h
        · omega
        · exact h
      have HP : Hid (Vls w b off n v) := hP
      clear hP
      have cC := HC.out k wr hlt hw
      have x0 := (HP.out.on hw) k hlt
      cases e : p k with
      | true =>
        rw [e] at cC
        have HY : Hid (anyB p n = true) := anyB_yes hlt e
        clear HC HA HP HG e hw
        as_aux_lemma =>
          generalize v k = vk at *
          go_wp2_with (go_at_call 55; refine cC.mono ?_; rintro e u0 ⟨rfl, hb⟩; have HB : Hid _ := hb; clear hb)
          go_ret
          exact ⟨_, rfl, Or.inl ⟨by omega, HY.out⟩, rbel_on HB.out HW.out⟩
      | false =>
        rw [e] at cC
        have HY : Hid (∀ j, j < k + 1 → p j = false) := fun j hj => by
          by_cases q : j = k
          · rw [q]; exact e
          · exact HG.out j (by omega)
        clear HC HA HP HG e hw
        as_aux_lemma =>
          generalize v k = vk at *
          go_wp2_with (go_at_call 55; refine cC.mono ?_; rintro e u0 ⟨rfl, hb⟩; have HB : Hid _ := hb; clear hb)
          go_roundw
          case rel => exact ⟨k + 1, by omega, by go_num, rbel_on HB.out HW.out, HY.out⟩
          case measure => simp [intOf]; omega
    · have hl3 : ¬ ((k : Int) < n) := by omega
      have HY : Hid (anyB p n = false) := anyB_no (fun i hi => HG.out i (by omega))
      clear HC HA HG hw
      go_wp2
      go_ret
      exact ⟨_, rfl, Or.inr ⟨rfl, HY.out⟩, HW.out⟩
set_option maxRecDepth 100000 in
set_option maxHeartbeats 4000000 in
theorem any_rows (ad : Option Addr) (n cap : Nat) (v : Nat → Value) (p : Nat → Bool) (w : World) (hn : n ≤ 9223372036854775807) (hP : n = 0 ∨ ∃ b off : Nat, ad = some ⟨b, off, none⟩ ∧ Vls w b off n v)
    (hp : ∀ i u, i < n → Below w.heap.size w u → Calls Tryd.prog 55 #[v i] u fun e w' => e = .returned (.bool (p i)) ∧ Below u.heap.size u w') :
    Calls Tryd.prog 54 #[.slice ad n cap, .func (.func 55) #[] #[]] w fun e w' => e = .returned (.bool (anyB p n)) ∧ Below w.heap.size w w' := by
  have cI := idx_rows ad n cap v p w hn hP hp
  clear hP hp
  cases h : anyB p n
  all_goals
    rw [h] at cI
    go_enter Tryd.func54, Tryd.ntmps54
    go_wp2_with (go_at_call 71; refine cI.mono ?_; rintro e u0 ⟨r, rfl, hr, hb⟩; have HB : Hid _ := hb; clear hb; simp at hr; (try subst hr))
    go_ret
    exact ⟨rfl, HB.out⟩
end Go.Proofs.YtjdeeeefapijeaeDoor
