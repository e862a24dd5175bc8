/- What slices.ContainsFunc answers, at each closure that package bounds hands it. What bounds.Check answers, of any edges. -/
import Derived.Test.YthejaecljkjliaiGreatDoorBoundsNew
import Derived.Test.YthejaecljkjliaiGreatDoorNm09
namespace Go.Proofs.YthejaecljkjliaiGreatDoor
open Go.ChangeShapes Go.WideShapes Go.ChangeAt Go.RowKit Go.Joins
set_option linter.unusedVariables false
set_option linter.unusedSimpArgs false

/-- n spans lie in a row behind an address. -/
def Spz (w : World) (b off n : Nat) (q : Nat → Int × Int) : Prop := ∀ i, i < n → w.cell? ⟨b, off + i * 2, none⟩ = some (.int .i64 (q i).1) ∧ w.cell? ⟨b, off + i * 2 + 1, none⟩ = some (.int .i64 (q i).2)
theorem Spz.on {W u : World} {b off n : Nat} {q : Nat → Int × Int} (hb : Below W.heap.size W u) (h : Spz W b off n q) : Spz u b off n q := fun i hi => by
  obtain ⟨h0, h1⟩ := h i hi
  exact ⟨by rw [hb.cell (World.block_lt_of_cell? _ _ h0)]; exact h0, by rw [hb.cell (World.block_lt_of_cell? _ _ h1)]; exact h1⟩
/-- n values of one cell lie in a row behind an address. -/
def Vls (w : World) (b off n : Nat) (v : Nat → Value) : Prop := ∀ i, i < n → w.cell? ⟨b, off + i, none⟩ = some (v i)
theorem Vls.on {W u : World} {b off n : Nat} {v : Nat → Value} (hb : Below W.heap.size W u) (h : Vls W b off n v) : Vls u b off n v := fun i hi => by
  rw [hb.cell (World.block_lt_of_cell? _ _ (h i hi))]; exact h i hi

set_option maxRecDepth 100000 in
set_option maxHeartbeats 4000000 in
theorem idx_spns (ad : Option Addr) (n cap : Nat) (q : Nat → Int × Int) (p : Nat → Bool) (w : World) (hn : n ≤ 9223372036854775807) (hP : n = 0 ∨ ∃ b off : Nat, ad = some ⟨b, off, none⟩ ∧ Spz w b off n q)
    (hp : ∀ i u, i < n → Below w.heap.size w u → Calls Tryz.prog 101 #[.agg #[.int .i64 (q i).1, .int .i64 (q i).2]] u fun e w' => e = .returned (.bool (p i)) ∧ Below u.heap.size u w') :
    Calls Tryz.prog 121 #[.slice ad n cap, .func (.func 101) #[] #[]] w fun e w' => ∃ r : Int, e = .returned (.int .i64 r) ∧ ((0 ≤ r ∧ anyB p n = true) ∨ (r = -1 ∧ anyB p n = false)) ∧ Below w.heap.size w w' := by
  have HA : Hid (n = 0 ∨ ∃ b off : Nat, ad = some ⟨b, off, none⟩ ∧ Spz w b off n q) := hP
  have HC : Hid (∀ i u, i < n → Below w.heap.size w u → Calls Tryz.prog 101 #[.agg #[.int .i64 (q i).1, .int .i64 (q i).2]] u fun e w' => e = .returned (.bool (p i)) ∧ Below u.heap.size u w') := hp
  clear hP hp
  go_enter Tryz.func121, Tryz.ntmps121
  go_wp2
  go_loopw [8] (fun i wr => ∃ k : Nat, k ≤ n ∧ i = .int .i64 k ∧ Below w.heap.size w wr ∧ ∀ j, j < k → p j = false) (fun i _ => n - (intOf i).toNat)
  case atStart => exact ⟨0, Nat.zero_le _, rfl, Below.refl _ _, fun j hj => by omega⟩
  case round =>
    obtain ⟨k, hk, rfl, hw, hg⟩ := hrel
    have HG : Hid (∀ j, j < k → p j = false) := hg
    have HW : Hid (Below w.heap.size w wr) := hw
    clear hg
    by_cases hlt : k < n
    · have hl3 : (k : Int) < n := by omega
      obtain ⟨b, off, rfl, hP⟩ : ∃ b off : Nat, ad = some ⟨b, off, none⟩ ∧ Spz w b off n q := by
        rcases HA.out with e | h
        · omega
        · exact h
      have HP : Hid (Spz w b off n q) := hP
      clear hP
      have cC := HC.out k wr hlt hw
      obtain ⟨x0, x1⟩ := (HP.out.on hw) k hlt
      cases e : p k with
      | true =>
        rw [e] at cC
        have HY : Hid (anyB p n = true) := anyB_yes hlt e
        clear HC HA HP HG e hw
        as_aux_lemma =>
          generalize (q k).1 = ql at *
          generalize (q k).2 = qh at *
          go_wp2_with (go_at_call 101; refine cC.mono ?_; rintro e u0 ⟨rfl, hb⟩; have HB : Hid _ := hb; clear hb)
          go_ret
          exact ⟨_, rfl, Or.inl ⟨by omega, HY.out⟩, rbel_on HB.out HW.out⟩
      | false =>
        rw [e] at cC
        have HY : Hid (∀ j, j < k + 1 → p j = false) := fun j hj => by
          by_cases q : j = k
          · rw [q]; exact e
          · exact HG.out j (by omega)
        clear HC HA HP HG e hw
        as_aux_lemma =>
          generalize (q k).1 = ql at *
          generalize (q k).2 = qh at *
          go_wp2_with (go_at_call 101; refine cC.mono ?_; rintro e u0 ⟨rfl, hb⟩; have HB : Hid _ := hb; clear hb)
          go_roundw
          case rel => exact ⟨k + 1, by omega, by go_num, rbel_on HB.out HW.out, HY.out⟩
          case measure => simp [intOf]; omega
    · have hl3 : ¬ ((k : Int) < n) := by omega
      have HY : Hid (anyB p n = false) := anyB_no (fun i hi => HG.out i (by omega))
      clear HC HA HG hw
      go_wp2
      go_ret
      exact ⟨_, rfl, Or.inr ⟨rfl, HY.out⟩, HW.out⟩
set_option maxRecDepth 100000 in
set_option maxHeartbeats 4000000 in
theorem any_spns (ad : Option Addr) (n cap : Nat) (q : Nat → Int × Int) (p : Nat → Bool) (w : World) (hn : n ≤ 9223372036854775807) (hP : n = 0 ∨ ∃ b off : Nat, ad = some ⟨b, off, none⟩ ∧ Spz w b off n q)
    (hp : ∀ i u, i < n → Below w.heap.size w u → Calls Tryz.prog 101 #[.agg #[.int .i64 (q i).1, .int .i64 (q i).2]] u fun e w' => e = .returned (.bool (p i)) ∧ Below u.heap.size u w') :
    Calls Tryz.prog 100 #[.slice ad n cap, .func (.func 101) #[] #[]] w fun e w' => e = .returned (.bool (anyB p n)) ∧ Below w.heap.size w w' := by
  have cI := idx_spns ad n cap q p w hn hP hp
  clear hP hp
  cases h : anyB p n
  all_goals
    rw [h] at cI
    go_enter Tryz.func100, Tryz.ntmps100
    go_wp2_with (go_at_call 121; refine cI.mono ?_; rintro e u0 ⟨r, rfl, hr, hb⟩; have HB : Hid _ := hb; clear hb; simp at hr; (try subst hr))
    go_ret
    exact ⟨rfl, HB.out⟩

set_option maxRecDepth 100000 in
set_option maxHeartbeats 4000000 in
theorem idx_rows (ad : Option Addr) (n cap : Nat) (v : Nat → Value) (p : Nat → Bool) (w : World) (hn : n ≤ 9223372036854775807) (hP : n = 0 ∨ ∃ b off : Nat, ad = some ⟨b, off, none⟩ ∧ Vls w b off n v)
    (hp : ∀ i u, i < n → Below w.heap.size w u → Calls Tryz.prog 99 #[v i] u fun e w' => e = .returned (.bool (p i)) ∧ Below u.heap.size u w') :
    Calls Tryz.prog 120 #[.slice ad n cap, .func (.func 99) #[] #[]] w fun e w' => ∃ r : Int, e = .returned (.int .i64 r) ∧ ((0 ≤ r ∧ anyB p n = true) ∨ (r = -1 ∧ anyB p n = false)) ∧ Below w.heap.size w w' := by
  have HA : Hid (n = 0 ∨ ∃ b off : Nat, ad = some ⟨b, off, none⟩ ∧ Vls w b off n v) := hP
  have HC : Hid (∀ i u, i < n → Below w.heap.size w u → Calls Tryz.prog 99 #[v i] u fun e w' => e = .returned (.bool (p i)) ∧ Below u.heap.size u w') := hp
  clear hP hp
  go_enter Tryz.func120, Tryz.ntmps120
  go_wp2
  go_loopw [8] (fun i wr => ∃ k : Nat, k ≤ n ∧ i = .int .i64 k ∧ Below w.heap.size w wr ∧ ∀ j, j < k → p j = false) (fun i _ => n - (intOf i).toNat)
  case atStart => exact ⟨0, Nat.zero_le _, rfl, Below.refl _ _, fun j hj => by omega⟩
  case round =>
    obtain ⟨k, hk, rfl, hw, hg⟩ := hrel
    have HG : Hid (∀ j, j < k → p j = false) := hg
    have HW : Hid (Below w.heap.size w wr) := hw
    clear hg
    by_cases hlt : k < n
    · have hl3 : (k : Int) < n := by omega
      obtain ⟨b, off, rfl, hP⟩ : ∃ b off : Nat, ad = some ⟨b, off, none⟩ ∧ Vls w b off n v := by
        rcases HA.out with e | h
        · omega
        · exact h
      have HP : Hid (Vls w b off n v) := hP
      clear hP
      have cC := HC.out k wr hlt hw
      have x0 := (HP.out.on hw) k hlt
      cases e : p k with
      | true =>
        rw [e] at cC
        have HY : Hid (anyB p n = true) := anyB_yes hlt e
        clear HC HA HP HG e hw
        as_aux_lemma =>
          generalize v k = vk at *
          go_wp2_with (go_at_call 99; refine cC.mono ?_; rintro e u0 ⟨rfl, hb⟩; have HB : Hid _ := hb; clear hb)
          go_ret
          exact ⟨_, rfl, Or.inl ⟨by omega, HY.out⟩, rbel_on HB.out HW.out⟩
      | false =>
        rw [e] at cC
        have HY : Hid (∀ j, j < k + 1 → p j = false) := fun j hj => by
          by_cases q : j = k
          · rw [q]; exact e
          · exact HG.out j (by omega)
        clear HC HA HP HG e hw
        as_aux_lemma =>
          generalize v k = vk at *
          go_wp2_with (go_at_call 99; refine cC.mono ?_; rintro e u0 ⟨rfl, hb⟩; have HB : Hid _ := hb; clear hb)
          go_roundw
          case rel => exact ⟨k + 1, by omega, by go_num, rbel_on HB.out HW.out, HY.out⟩
          case measure => simp [intOf]; omega
    · have hl3 : ¬ ((k : Int) < n) := by omega
      have HY : Hid (anyB p n = false) := anyB_no (fun i hi => HG.out i (by omega))
      clear HC HA HG hw
      go_wp2
      go_ret
      exact ⟨_, rfl, Or.inr ⟨rfl, HY.out⟩, HW.out⟩
set_option maxRecDepth 100000 in
set_option maxHeartbeats 4000000 in
theorem any_rows (ad : Option Addr) (n cap : Nat) (v : Nat → Value) (p : Nat → Bool) (w : World) (hn : n ≤ 9223372036854775807) (hP : n = 0 ∨ ∃ b off : Nat, ad = some ⟨b, off, none⟩ ∧ Vls w b off n v)
    (hp : ∀ i u, i < n → Below w.heap.size w u → Calls Tryz.prog 99 #[v i] u fun e w' => e = .returned (.bool (p i)) ∧ Below u.heap.size u w') :
    Calls Tryz.prog 98 #[.slice ad n cap, .func (.func 99) #[] #[]] w fun e w' => e = .returned (.bool (anyB p n)) ∧ Below w.heap.size w w' := by
  have cI := idx_rows ad n cap v p w hn hP hp
  clear hP hp
  cases h : anyB p n
  all_goals
    rw [h] at cI
    go_enter Tryz.func98, Tryz.ntmps98
    go_wp2_with (go_at_call 120; refine cI.mono ?_; rintro e u0 ⟨r, rfl, hr, hb⟩; have HB : Hid _ := hb; clear hb; simp at hr; (try subst hr))
    go_ret
    exact ⟨rfl, HB.out⟩
end Go.Proofs.YthejaecljkjliaiGreatDoor
namespace Go.Proofs.YthejaecljkjliaiGreatDoor
open Go.ChangeShapes Go.WideShapes Go.ChangeAt Go.RowKit Go.Joins
set_option linter.unusedVariables false
set_option linter.unusedSimpArgs false

set_option maxHeartbeats 400000 in
theorem spanCheck_any (lo hi : Int) (w : World) :
    Calls Tryz.prog 46 #[.agg #[.int .i64 lo, .int .i64 hi]] w fun e w' => e = .returned (errc (if okB lo hi = true then 0 else 1)) ∧ Below w.heap.size w w' := by
  cases h : okB lo hi with
  | true =>
    rw [if_pos rfl, errc_zero]
    obtain ⟨h1, h2, h3⟩ := okB_t h
    clear h
    go_enter Tryz.func46, Tryz.ntmps46
    go_wp2
    go_ret
    exact ⟨rfl, (Below.refl _ _).alloc (Nat.le_refl _) _⟩
  | false =>
    rw [if_neg (by decide), errc_not (by decide)]
    have h' := okB_f h
    clear h
    by_cases h1 : hi < lo
    · go_enter Tryz.func46, Tryz.ntmps46
      go_wp2
      go_ret
      exact ⟨rfl, (Below.refl _ _).alloc (Nat.le_refl _) _⟩
    · by_cases h2 : lo < -1000000000000
      · go_enter Tryz.func46, Tryz.ntmps46
        go_wp2
        go_ret
        exact ⟨rfl, (Below.refl _ _).alloc (Nat.le_refl _) _⟩
      · have h3 : 1000000000000 < hi := by omega
        clear h'
        go_enter Tryz.func46, Tryz.ntmps46
        go_wp2
        go_ret
        exact ⟨rfl, (Below.refl _ _).alloc (Nat.le_refl _) _⟩
def nodeB (n a : Int) : Bool := decide (0 ≤ a ∧ a < n)
theorem isNode_any (n a : Int) (w : World) : Calls Tryz.prog 62 #[.int .i64 n, .int .i64 a] w fun e w' => e = .returned (.bool (nodeB n a)) ∧ w' = w := by
  by_cases h1 : 0 ≤ a
  · by_cases h2 : a < n
    · rw [show nodeB n a = true from decide_eq_true ⟨h1, h2⟩]
      go_enter Tryz.func62, Tryz.ntmps62
      go_wp2
      go_ret
      exact ⟨rfl, rfl⟩
    · rw [show nodeB n a = false from decide_eq_false (by omega)]
      have h3 : decide (a < n) = false := decide_eq_false h2
      clear h2
      go_enter Tryz.func62, Tryz.ntmps62
      go_wp2
      go_ret
      exact ⟨rfl, rfl⟩
  · rw [show nodeB n a = false from decide_eq_false (by omega)]
    have h3 : decide (0 ≤ a) = false := decide_eq_false h1
    clear h1
    go_enter Tryz.func62, Tryz.ntmps62
    go_wp2
    go_ret
    exact ⟨rfl, rfl⟩
set_option maxRecDepth 100000 in
set_option maxHeartbeats 4000000 in
theorem checkEdge_c (n a b lo hi : Int) (A B : Bool) (w : World) (hA : Hid (nodeB n a = A)) (hB : Hid (nodeB n b = B)) (r : Value) (hr : (A = false ∧ r = errc 1) ∨ (A = true ∧ B = false ∧ r = errc 1) ∨ (A = true ∧ B = true ∧ a = b ∧ r = errc 3) ∨ (A = true ∧ B = true ∧ a ≠ b ∧ r = errc (if okB lo hi = true then 0 else 1))) :
    Calls Tryz.prog 74 #[.int .i64 n, .agg #[.int .i64 a, .int .i64 b, .int .i64 lo, .int .i64 hi]] w fun e w' => e = .returned r ∧ Below w.heap.size w w' := by
  have cA : ∀ u, Calls Tryz.prog 62 #[.int .i64 n, .int .i64 a] u fun e w' => e = .returned (.bool A) ∧ w' = u := fun u => by rw [← hA.out]; exact isNode_any n a u
  have cB : ∀ u, Calls Tryz.prog 62 #[.int .i64 n, .int .i64 b] u fun e w' => e = .returned (.bool B) ∧ w' = u := fun u => by rw [← hB.out]; exact isNode_any n b u
  have cS := fun u => spanCheck_any lo hi u
  generalize errc (if okB lo hi = true then 0 else 1) = es at *
  clear hA hB
  have cnt : Mark 0 := .mk _
  rcases hr with ⟨rfl, rfl⟩ | ⟨rfl, rfl, rfl⟩ | ⟨rfl, rfl, rfl, rfl⟩ | ⟨rfl, rfl, ne, rfl⟩
  · rw [errc_not (by decide)]
    go_enter Tryz.func74, Tryz.ntmps74
    go_wp2_with (go_at_call 62; refine (cA _).mono ?_; rintro e u0 ⟨rfl, hu⟩; rw [hu]; clear hu)
    go_ret
    exact ⟨rfl, rbel_al (Below.refl _ _)⟩
  · rw [errc_not (by decide)]
    go_enter Tryz.func74, Tryz.ntmps74
    go_wp2_with (first | (go_at_call 62; have cq : Mark 0 := cnt; refine (cA _).mono ?_; clear cq cnt; have cnt : Mark 1 := .mk _; rintro e u0 ⟨rfl, hu⟩; rw [hu]; clear hu) | (go_at_call 62; have cq : Mark 1 := cnt; refine (cB _).mono ?_; clear cq cnt; rintro e u1 ⟨rfl, hu⟩; rw [hu]; clear hu))
    go_ret
    exact ⟨rfl, rbel_al (Below.refl _ _)⟩
  · rw [errc_not (by decide)]
    go_enter Tryz.func74, Tryz.ntmps74
    go_wp2_with (first | (go_at_call 62; have cq : Mark 0 := cnt; refine (cA _).mono ?_; clear cq cnt; have cnt : Mark 1 := .mk _; rintro e u0 ⟨rfl, hu⟩; rw [hu]; clear hu) | (go_at_call 62; have cq : Mark 1 := cnt; refine (cB _).mono ?_; clear cq cnt; rintro e u1 ⟨rfl, hu⟩; rw [hu]; clear hu))
    go_ret
    exact ⟨rfl, rbel_al (Below.refl _ _)⟩
  · have ne' : (a == b) = false := by simpa using ne
    go_enter Tryz.func74, Tryz.ntmps74
    go_wp2_with (first | (go_at_call 62; have cq : Mark 0 := cnt; refine (cA _).mono ?_; clear cq cnt; have cnt : Mark 1 := .mk _; rintro e u0 ⟨rfl, hu⟩; rw [hu]; clear hu) | (go_at_call 62; have cq : Mark 1 := cnt; refine (cB _).mono ?_; clear cq cnt; rintro e u1 ⟨rfl, hu⟩; rw [hu]; clear hu) | (go_at_call 46; refine (cS _).mono ?_; rintro e u2 ⟨rfl, hb⟩; have HB : Hid _ := hb; clear hb))
    go_ret
    exact ⟨rfl, rbel_on HB.out (rbel_al (Below.refl _ _))⟩
theorem checkEdge_any (n : Int) (q : Nat → Eg) (i : Nat) (w : World) : Calls Tryz.prog 74 #[.int .i64 n, .agg #[.int .i64 (q i).a, .int .i64 (q i).b, .int .i64 (q i).lo, .int .i64 (q i).hi]] w fun e w' => e = .returned (errc (eEr n q i)) ∧ Below w.heap.size w w' := by
  refine checkEdge_c n (q i).a (q i).b (q i).lo (q i).hi _ _ w rfl rfl (errc (eEr n q i)) ?_
  unfold eEr
  cases h1 : nodeB n (q i).a with
  | false =>
    have := of_decide_eq_false h1
    exact Or.inl ⟨rfl, by rw [if_pos (by omega)]⟩
  | true =>
    have g1 := of_decide_eq_true h1
    cases h2 : nodeB n (q i).b with
    | false =>
      have := of_decide_eq_false h2
      exact Or.inr (Or.inl ⟨rfl, rfl, by rw [if_pos (by omega)]⟩)
    | true =>
      have g2 := of_decide_eq_true h2
      by_cases e : (q i).a = (q i).b
      · exact Or.inr (Or.inr (Or.inl ⟨rfl, rfl, e, by rw [if_neg (by omega), if_pos e]⟩))
      · exact Or.inr (Or.inr (Or.inr ⟨rfl, rfl, e, by rw [if_neg (by omega), if_neg e]⟩))
set_option maxHeartbeats 400000 in
theorem check_low (n : Int) (a : Option Addr) (m cap : Nat) (w : World) (h : n < 1) :
    Calls Tryz.prog 42 #[.int .i64 n, .slice a m cap] w fun e w' => e = .returned (.iface 85 (.int .i64 1)) ∧ Below w.heap.size w w' := by
  go_enter Tryz.func42, Tryz.ntmps42
  go_wp2
  go_ret
  exact ⟨rfl, Below.refl _ _⟩
set_option maxHeartbeats 400000 in
theorem check_high (n : Int) (a : Option Addr) (m cap : Nat) (w : World) (h1 : ¬ n < 1) (h : 6 < n) :
    Calls Tryz.prog 42 #[.int .i64 n, .slice a m cap] w fun e w' => e = .returned (.iface 85 (.int .i64 1)) ∧ Below w.heap.size w w' := by
  go_enter Tryz.func42, Tryz.ntmps42
  go_wp2
  go_ret
  exact ⟨rfl, Below.refl _ _⟩
set_option maxHeartbeats 400000 in
theorem check_full (n : Int) (a : Option Addr) (m cap : Nat) (w : World) (h1 : ¬ n < 1) (h2 : ¬ 6 < n) (h : 40 < m) (hm : m ≤ 9223372036854775807) :
    Calls Tryz.prog 42 #[.int .i64 n, .slice a m cap] w fun e w' => e = .returned (.iface 85 (.int .i64 4)) ∧ Below w.heap.size w w' := by
  have h3 : (40 : Int) < m := by omega
  go_enter Tryz.func42, Tryz.ntmps42
  go_wp2
  go_ret
  exact ⟨rfl, Below.refl _ _⟩
set_option maxRecDepth 100000 in
set_option maxHeartbeats 4000000 in
theorem check_row (n : Int) (ad : Option Addr) (m cap : Nat) (q : Nat → Eg) (w : World) (h1 : ¬ n < 1) (h2 : ¬ 6 < n) (h40 : m ≤ 40) (hP : m = 0 ∨ ∃ b off : Nat, ad = some ⟨b, off, none⟩ ∧ Esp w b off m q) :
    Calls Tryz.prog 42 #[.int .i64 n, .slice ad m cap] w fun e w' => e = .returned (errc (eFr n q m)) ∧ Below w.heap.size w w' := by
  have HA : Hid (m = 0 ∨ ∃ b off : Nat, ad = some ⟨b, off, none⟩ ∧ Esp w b off m q) := hP
  clear hP
  have h41 : ¬ ((40 : Int) < m) := by omega
  go_enter Tryz.func42, Tryz.ntmps42
  go_wp2
  go_loopw [21] (fun i wr => ∃ k : Nat, k ≤ m ∧ i = .int .i64 k ∧ Below w.heap.size w wr ∧ ∀ j, j < k → eEr n q j = 0) (fun i _ => m - (intOf i).toNat)
  case atStart => exact ⟨0, Nat.zero_le _, rfl, Below.refl _ _, fun j hj => by omega⟩
  case round =>
    obtain ⟨k, hk, rfl, hw, hg⟩ := hrel
    have HG : Hid (∀ j, j < k → eEr n q j = 0) := hg
    have HW : Hid (Below w.heap.size w wr) := hw
    clear hg
    by_cases hlt : k < m
    · have hl3 : (k : Int) < m := by omega
      obtain ⟨b, off, rfl, hP⟩ : ∃ b off : Nat, ad = some ⟨b, off, none⟩ ∧ Esp w b off m q := by
        rcases HA.out with e | h
        · omega
        · exact h
      obtain ⟨x0, x1, x2, x3⟩ := (hP.on hw) k hlt
      have hbz : b < wr.heap.size := World.block_lt_of_cell? _ _ x0
      have cC := fun u => checkEdge_any n q k u
      by_cases e : eEr n q k = 0
      · rw [e, errc_zero] at cC
        have HY : Hid (∀ j, j < k + 1 → eEr n q j = 0) := fun j hj => by
          by_cases q' : j = k
          · rw [q']; exact e
          · exact HG.out j (by omega)
        clear HA HG e hw hP
        as_aux_lemma =>
          generalize (q k).a = qa at *
          generalize (q k).b = qb at *
          generalize (q k).lo = ql at *
          generalize (q k).hi = qh at *
          go_wp2_with (go_at_call 74; refine (cC _).mono ?_; rintro e u0 ⟨rfl, hb⟩; have HB : Hid _ := hb; clear hb)
          go_roundw
          case rel => exact ⟨k + 1, by omega, by go_num, rbel_on HB.out (rbel_al HW.out), HY.out⟩
          case measure => simp [intOf]; omega
      · rw [errc_not e] at cC
        have HY : Hid (errc (eFr n q m) = .iface 85 (.int .i64 (eEr n q k))) := by show errc _ = _; rw [eFr_first HG.out e m hlt, errc_not e]
        clear HA HG e hw hP
        as_aux_lemma =>
          generalize eEr n q k = er at *
          generalize (q k).a = qa at *
          generalize (q k).b = qb at *
          generalize (q k).lo = ql at *
          generalize (q k).hi = qh at *
          go_wp2_with (go_at_call 74; refine (cC _).mono ?_; rintro e u0 ⟨rfl, hb⟩; have HB : Hid _ := hb; clear hb)
          go_ret
          exact ⟨congrArg Ending.returned HY.out.symm, rbel_on HB.out (rbel_al HW.out)⟩
    · have hl3 : ¬ ((k : Int) < m) := by omega
      have HY : Hid (errc (eFr n q m) = .nilIface) := by show errc _ = _; rw [eFr_ok (fun i hi => HG.out i (by omega)), errc_zero]
      clear HA HG hw
      go_wp2
      go_ret
      exact ⟨congrArg Ending.returned HY.out.symm, HW.out⟩
theorem check_any (n : Int) (a : Option Addr) (m cap : Nat) (q : Nat → Eg) (w : World) (hH : EHanded w a m q) :
    Calls Tryz.prog 42 #[.int .i64 n, .slice a m cap] w fun e w' => e = .returned (errc (eE n q m)) ∧ Below w.heap.size w w' := by
  obtain ⟨hm, hH⟩ := hH
  by_cases h1 : n < 1
  · rw [show eE n q m = 1 from if_pos (Or.inl h1), errc_not (by decide)]; exact check_low n a m cap w h1
  by_cases h2 : 6 < n
  · rw [show eE n q m = 1 from if_pos (Or.inr h2), errc_not (by decide)]; exact check_high n a m cap w h1 h2
  by_cases h3 : 40 < m
  · rw [show eE n q m = 4 from (if_neg (by omega)).trans (if_pos h3), errc_not (by decide)]; exact check_full n a m cap w h1 h2 h3 hm
  · rw [show eE n q m = eFr n q m from (if_neg (by omega)).trans (if_neg h3)]
    exact check_row n a m cap q w h1 h2 (by omega) hH
end Go.Proofs.YthejaecljkjliaiGreatDoor
