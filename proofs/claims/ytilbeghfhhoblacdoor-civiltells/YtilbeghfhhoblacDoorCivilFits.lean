/- What civil.fits and civil.value answer. -/
import Derived.Test.YtilbeghfhhoblacDoorCivilTab
namespace Go.Proofs.YtilbeghfhhoblacDoor
open Go.ChangeShapes Go.WideShapes Go.ChangeAt Go.RowKit
set_option linter.unusedVariables false
set_option linter.unusedSimpArgs false

/-- Is the byte at a place as a date's text has it? -/
def bOk (i : Nat) (b : UInt8) : Bool := if i = 4 ∨ i = 7 then decide (b.toNat = 45) else cd b
theorem shp_of (s : ByteArray) (hs : s.size = 10) (h : ∀ i (hi : i < s.size), bOk i s[i] = true) : Shp s := by
  obtain ⟨b0, b1, b2, b3, b4, b5, b6, b7, b8, b9, rfl⟩ := ten_bytes s hs
  refine ⟨rfl, of_decide_eq_true (h 4 (by show 4 < 10; decide)), of_decide_eq_true (h 7 (by show 7 < 10; decide)), ?_, ?_, ?_⟩
  · rw [ex04]; exact (allD4 _ _ _ _).2 ⟨h 0 (by show 0 < 10; decide), h 1 (by show 1 < 10; decide), h 2 (by show 2 < 10; decide), h 3 (by show 3 < 10; decide)⟩
  · rw [ex57]; exact (allD2 _ _).2 ⟨h 5 (by show 5 < 10; decide), h 6 (by show 6 < 10; decide)⟩
  · rw [ex8a]; exact (allD2 _ _).2 ⟨h 8 (by show 8 < 10; decide), h 9 (by show 9 < 10; decide)⟩
theorem shp_to (s : ByteArray) (h : Shp s) : s.size = 10 ∧ ∀ i (hi : i < s.size), bOk i s[i] = true := by
  obtain ⟨hs, h4, h7, p, q, r⟩ := h
  refine ⟨hs, ?_⟩
  obtain ⟨b0, b1, b2, b3, b4, b5, b6, b7, b8, b9, rfl⟩ := ten_bytes s hs
  rw [ex04] at p
  rw [ex57] at q
  rw [ex8a] at r
  obtain ⟨p0, p1, p2, p3⟩ := (allD4 _ _ _ _).1 p
  obtain ⟨q0, q1⟩ := (allD2 _ _).1 q
  obtain ⟨r0, r1⟩ := (allD2 _ _).1 r
  intro i hi
  have hi' : i < 10 := hi
  match i, hi' with
  | 0, _ => exact p0
  | 1, _ => exact p1
  | 2, _ => exact p2
  | 3, _ => exact p3
  | 4, _ => exact decide_eq_true h4
  | 5, _ => exact q0
  | 6, _ => exact q1
  | 7, _ => exact decide_eq_true h7
  | 8, _ => exact r0
  | 9, _ => exact r1

set_option maxRecDepth 100000 in
set_option maxHeartbeats 4000000 in
theorem fits_yes (s : ByteArray) (w : World) (h : Shp s) :
    Calls Tryd.prog 44 #[.string s] w fun e w' => e = .returned (.bool true) ∧ w' = w := by
  obtain ⟨hs, hb⟩ := shp_to s h
  have HB : Hid (∀ i (hi : i < s.size), bOk i s[i] = true) := hb
  clear h hb
  go_enter Tryd.func44, Tryd.ntmps44
  go_wp2
  go_loopw [7] (fun i wr => ∃ k : Nat, k ≤ 10 ∧ i = .int .i64 k ∧ wr = w) (fun i _ => 10 - (intOf i).toNat)
  case atStart => exact ⟨0, Nat.zero_le _, rfl, rfl⟩
  case round =>
    obtain ⟨k, hk, rfl, rfl⟩ := hrel
    have hc : k = 0 ∨ k = 1 ∨ k = 2 ∨ k = 3 ∨ k = 4 ∨ k = 5 ∨ k = 6 ∨ k = 7 ∨ k = 8 ∨ k = 9 ∨ k = 10 := by omega
    rcases hc with rfl | rfl | rfl | rfl | rfl | rfl | rfl | rfl | rfl | rfl | rfl
    · have hlt : 0 < s.size := by omega
      obtain ⟨c1, c2⟩ := cd_t (HB.out 0 hlt)
      have fk : (((⟨#[89, 89, 89, 89, 45, 77, 77, 45, 68, 68]⟩ : ByteArray)[0]'(by decide)).toNat : Int) = 89 := rfl
      go_wp2
      go_roundw
      case rel => exact ⟨1, by omega, rfl, trivial⟩
      case measure => simp [intOf]
    · have hlt : 1 < s.size := by omega
      obtain ⟨c1, c2⟩ := cd_t (HB.out 1 hlt)
      have fk : (((⟨#[89, 89, 89, 89, 45, 77, 77, 45, 68, 68]⟩ : ByteArray)[1]'(by decide)).toNat : Int) = 89 := rfl
      go_wp2
      go_roundw
      case rel => exact ⟨2, by omega, rfl, trivial⟩
      case measure => simp [intOf]
    · have hlt : 2 < s.size := by omega
      obtain ⟨c1, c2⟩ := cd_t (HB.out 2 hlt)
      have fk : (((⟨#[89, 89, 89, 89, 45, 77, 77, 45, 68, 68]⟩ : ByteArray)[2]'(by decide)).toNat : Int) = 89 := rfl
      go_wp2
      go_roundw
      case rel => exact ⟨3, by omega, rfl, trivial⟩
      case measure => simp [intOf]
    · have hlt : 3 < s.size := by omega
      obtain ⟨c1, c2⟩ := cd_t (HB.out 3 hlt)
      have fk : (((⟨#[89, 89, 89, 89, 45, 77, 77, 45, 68, 68]⟩ : ByteArray)[3]'(by decide)).toNat : Int) = 89 := rfl
      go_wp2
      go_roundw
      case rel => exact ⟨4, by omega, rfl, trivial⟩
      case measure => simp [intOf]
    · have hlt : 4 < s.size := by omega
      have c1 : (s[4].toNat : Int) = 45 := by have := of_decide_eq_true (HB.out 4 hlt); omega
      have fk : (((⟨#[89, 89, 89, 89, 45, 77, 77, 45, 68, 68]⟩ : ByteArray)[4]'(by decide)).toNat : Int) = 45 := rfl
      go_wp2
      go_roundw
      case rel => exact ⟨5, by omega, rfl, trivial⟩
      case measure => simp [intOf]
    · have hlt : 5 < s.size := by omega
      obtain ⟨c1, c2⟩ := cd_t (HB.out 5 hlt)
      have fk : (((⟨#[89, 89, 89, 89, 45, 77, 77, 45, 68, 68]⟩ : ByteArray)[5]'(by decide)).toNat : Int) = 77 := rfl
      go_wp2
      go_roundw
      case rel => exact ⟨6, by omega, rfl, trivial⟩
      case measure => simp [intOf]
    · have hlt : 6 < s.size := by omega
      obtain ⟨c1, c2⟩ := cd_t (HB.out 6 hlt)
      have fk : (((⟨#[89, 89, 89, 89, 45, 77, 77, 45, 68, 68]⟩ : ByteArray)[6]'(by decide)).toNat : Int) = 77 := rfl
      go_wp2
      go_roundw
      case rel => exact ⟨7, by omega, rfl, trivial⟩
      case measure => simp [intOf]
    · have hlt : 7 < s.size := by omega
      have c1 : (s[7].toNat : Int) = 45 := by have := of_decide_eq_true (HB.out 7 hlt); omega
      have fk : (((⟨#[89, 89, 89, 89, 45, 77, 77, 45, 68, 68]⟩ : ByteArray)[7]'(by decide)).toNat : Int) = 45 := rfl
      go_wp2
      go_roundw
      case rel => exact ⟨8, by omega, rfl, trivial⟩
      case measure => simp [intOf]
    · have hlt : 8 < s.size := by omega
      obtain ⟨c1, c2⟩ := cd_t (HB.out 8 hlt)
      have fk : (((⟨#[89, 89, 89, 89, 45, 77, 77, 45, 68, 68]⟩ : ByteArray)[8]'(by decide)).toNat : Int) = 68 := rfl
      go_wp2
      go_roundw
      case rel => exact ⟨9, by omega, rfl, trivial⟩
      case measure => simp [intOf]
    · have hlt : 9 < s.size := by omega
      obtain ⟨c1, c2⟩ := cd_t (HB.out 9 hlt)
      have fk : (((⟨#[89, 89, 89, 89, 45, 77, 77, 45, 68, 68]⟩ : ByteArray)[9]'(by decide)).toNat : Int) = 68 := rfl
      go_wp2
      go_roundw
      case rel => exact ⟨10, by omega, rfl, trivial⟩
      case measure => simp [intOf]
    · go_wp2
      go_ret
      exact ⟨rfl, rfl⟩

set_option maxHeartbeats 400000 in
theorem fits_long (s : ByteArray) (w : World) (hm : s.size ≤ maxLen) (h : s.size ≠ 10) :
    Calls Tryd.prog 44 #[.string s] w fun e w' => e = .returned (.bool false) ∧ w' = w := by
  unfold maxLen at hm
  have h2 : ((s.size : Int) == 10) = false := by simp; omega
  have h3 : ¬ ((s.size : Int) = 10) := by omega
  go_enter Tryd.func44, Tryd.ntmps44
  go_wp2
  go_ret
  exact ⟨rfl, rfl⟩

set_option maxRecDepth 100000 in
set_option maxHeartbeats 8000000 in
theorem fits_bad (s : ByteArray) (j : Nat) (w : World) (hs : s.size = 10) (hj : j < 10) (hb : ∀ i (hi : i < s.size), i < j → bOk i s[i] = true) (hn : ∀ hi : j < s.size, bOk j s[j] = false) :
    Calls Tryd.prog 44 #[.string s] w fun e w' => e = .returned (.bool false) ∧ w' = w := by
  have HB : Hid (∀ i (hi : i < s.size), i < j → bOk i s[i] = true) := hb
  have HN : Hid (∀ hi : j < s.size, bOk j s[j] = false) := hn
  clear hb hn
  go_enter Tryd.func44, Tryd.ntmps44
  go_wp2
  go_loopw [7] (fun i wr => ∃ k : Nat, k ≤ j ∧ i = .int .i64 k ∧ wr = w) (fun i _ => 10 - (intOf i).toNat)
  case atStart => exact ⟨0, Nat.zero_le _, rfl, rfl⟩
  case round =>
    obtain ⟨k, hk, rfl, rfl⟩ := hrel
    by_cases hkj : k < j
    · have hc : k = 0 ∨ k = 1 ∨ k = 2 ∨ k = 3 ∨ k = 4 ∨ k = 5 ∨ k = 6 ∨ k = 7 ∨ k = 8 := by omega
      rcases hc with rfl | rfl | rfl | rfl | rfl | rfl | rfl | rfl | rfl
      · have hlt : 0 < s.size := by omega
        obtain ⟨c1, c2⟩ := cd_t (HB.out 0 hlt hkj)
        have fk : (((⟨#[89, 89, 89, 89, 45, 77, 77, 45, 68, 68]⟩ : ByteArray)[0]'(by decide)).toNat : Int) = 89 := rfl
        go_wp2
        go_roundw
        case rel => exact ⟨1, by omega, rfl, trivial⟩
        case measure => simp [intOf]
      · have hlt : 1 < s.size := by omega
        obtain ⟨c1, c2⟩ := cd_t (HB.out 1 hlt hkj)
        have fk : (((⟨#[89, 89, 89, 89, 45, 77, 77, 45, 68, 68]⟩ : ByteArray)[1]'(by decide)).toNat : Int) = 89 := rfl
        go_wp2
        go_roundw
        case rel => exact ⟨2, by omega, rfl, trivial⟩
        case measure => simp [intOf]
      · have hlt : 2 < s.size := by omega
        obtain ⟨c1, c2⟩ := cd_t (HB.out 2 hlt hkj)
        have fk : (((⟨#[89, 89, 89, 89, 45, 77, 77, 45, 68, 68]⟩ : ByteArray)[2]'(by decide)).toNat : Int) = 89 := rfl
        go_wp2
        go_roundw
        case rel => exact ⟨3, by omega, rfl, trivial⟩
        case measure => simp [intOf]
      · have hlt : 3 < s.size := by omega
        obtain ⟨c1, c2⟩ := cd_t (HB.out 3 hlt hkj)
        have fk : (((⟨#[89, 89, 89, 89, 45, 77, 77, 45, 68, 68]⟩ : ByteArray)[3]'(by decide)).toNat : Int) = 89 := rfl
        go_wp2
        go_roundw
        case rel => exact ⟨4, by omega, rfl, trivial⟩
        case measure => simp [intOf]
      · have hlt : 4 < s.size := by omega
        have c1 : (s[4].toNat : Int) = 45 := by have := of_decide_eq_true (HB.out 4 hlt hkj); omega
        have fk : (((⟨#[89, 89, 89, 89, 45, 77, 77, 45, 68, 68]⟩ : ByteArray)[4]'(by decide)).toNat : Int) = 45 := rfl
        go_wp2
        go_roundw
        case rel => exact ⟨5, by omega, rfl, trivial⟩
        case measure => simp [intOf]
      · have hlt : 5 < s.size := by omega
        obtain ⟨c1, c2⟩ := cd_t (HB.out 5 hlt hkj)
        have fk : (((⟨#[89, 89, 89, 89, 45, 77, 77, 45, 68, 68]⟩ : ByteArray)[5]'(by decide)).toNat : Int) = 77 := rfl
        go_wp2
        go_roundw
        case rel => exact ⟨6, by omega, rfl, trivial⟩
        case measure => simp [intOf]
      · have hlt : 6 < s.size := by omega
        obtain ⟨c1, c2⟩ := cd_t (HB.out 6 hlt hkj)
        have fk : (((⟨#[89, 89, 89, 89, 45, 77, 77, 45, 68, 68]⟩ : ByteArray)[6]'(by decide)).toNat : Int) = 77 := rfl
        go_wp2
        go_roundw
        case rel => exact ⟨7, by omega, rfl, trivial⟩
        case measure => simp [intOf]
      · have hlt : 7 < s.size := by omega
        have c1 : (s[7].toNat : Int) = 45 := by have := of_decide_eq_true (HB.out 7 hlt hkj); omega
        have fk : (((⟨#[89, 89, 89, 89, 45, 77, 77, 45, 68, 68]⟩ : ByteArray)[7]'(by decide)).toNat : Int) = 45 := rfl
        go_wp2
        go_roundw
        case rel => exact ⟨8, by omega, rfl, trivial⟩
        case measure => simp [intOf]
      · have hlt : 8 < s.size := by omega
        obtain ⟨c1, c2⟩ := cd_t (HB.out 8 hlt hkj)
        have fk : (((⟨#[89, 89, 89, 89, 45, 77, 77, 45, 68, 68]⟩ : ByteArray)[8]'(by decide)).toNat : Int) = 68 := rfl
        go_wp2
        go_roundw
        case rel => exact ⟨9, by omega, rfl, trivial⟩
        case measure => simp [intOf]
    · have e : k = j := by omega
      clear HB hkj
      subst e
      have hc : k = 0 ∨ k = 1 ∨ k = 2 ∨ k = 3 ∨ k = 4 ∨ k = 5 ∨ k = 6 ∨ k = 7 ∨ k = 8 ∨ k = 9 := by omega
      rcases hc with rfl | rfl | rfl | rfl | rfl | rfl | rfl | rfl | rfl | rfl
      · have hlt : 0 < s.size := by omega
        have fk : (((⟨#[89, 89, 89, 89, 45, 77, 77, 45, 68, 68]⟩ : ByteArray)[0]'(by decide)).toNat : Int) = 89 := rfl
        rcases cd_f (HN.out hlt) with c | c
        · go_wp2
          go_ret
          exact ⟨rfl, rfl⟩
        · go_wp2
          go_ret
          exact ⟨rfl, rfl⟩
      · have hlt : 1 < s.size := by omega
        have fk : (((⟨#[89, 89, 89, 89, 45, 77, 77, 45, 68, 68]⟩ : ByteArray)[1]'(by decide)).toNat : Int) = 89 := rfl
        rcases cd_f (HN.out hlt) with c | c
        · go_wp2
          go_ret
          exact ⟨rfl, rfl⟩
        · go_wp2
          go_ret
          exact ⟨rfl, rfl⟩
      · have hlt : 2 < s.size := by omega
        have fk : (((⟨#[89, 89, 89, 89, 45, 77, 77, 45, 68, 68]⟩ : ByteArray)[2]'(by decide)).toNat : Int) = 89 := rfl
        rcases cd_f (HN.out hlt) with c | c
        · go_wp2
          go_ret
          exact ⟨rfl, rfl⟩
        · go_wp2
          go_ret
          exact ⟨rfl, rfl⟩
      · have hlt : 3 < s.size := by omega
        have fk : (((⟨#[89, 89, 89, 89, 45, 77, 77, 45, 68, 68]⟩ : ByteArray)[3]'(by decide)).toNat : Int) = 89 := rfl
        rcases cd_f (HN.out hlt) with c | c
        · go_wp2
          go_ret
          exact ⟨rfl, rfl⟩
        · go_wp2
          go_ret
          exact ⟨rfl, rfl⟩
      · have hlt : 4 < s.size := by omega
        have fk : (((⟨#[89, 89, 89, 89, 45, 77, 77, 45, 68, 68]⟩ : ByteArray)[4]'(by decide)).toNat : Int) = 45 := rfl
        have c1 : ¬ ((s[4].toNat : Int) = 45) := by have := of_decide_eq_false (HN.out hlt); omega
        go_wp2
        go_ret
        exact ⟨rfl, rfl⟩
      · have hlt : 5 < s.size := by omega
        have fk : (((⟨#[89, 89, 89, 89, 45, 77, 77, 45, 68, 68]⟩ : ByteArray)[5]'(by decide)).toNat : Int) = 77 := rfl
        rcases cd_f (HN.out hlt) with c | c
        · go_wp2
          go_ret
          exact ⟨rfl, rfl⟩
        · go_wp2
          go_ret
          exact ⟨rfl, rfl⟩
      · have hlt : 6 < s.size := by omega
        have fk : (((⟨#[89, 89, 89, 89, 45, 77, 77, 45, 68, 68]⟩ : ByteArray)[6]'(by decide)).toNat : Int) = 77 := rfl
        rcases cd_f (HN.out hlt) with c | c
        · go_wp2
          go_ret
          exact ⟨rfl, rfl⟩
        · go_wp2
          go_ret
          exact ⟨rfl, rfl⟩
      · have hlt : 7 < s.size := by omega
        have fk : (((⟨#[89, 89, 89, 89, 45, 77, 77, 45, 68, 68]⟩ : ByteArray)[7]'(by decide)).toNat : Int) = 45 := rfl
        have c1 : ¬ ((s[7].toNat : Int) = 45) := by have := of_decide_eq_false (HN.out hlt); omega
        go_wp2
        go_ret
        exact ⟨rfl, rfl⟩
      · have hlt : 8 < s.size := by omega
        have fk : (((⟨#[89, 89, 89, 89, 45, 77, 77, 45, 68, 68]⟩ : ByteArray)[8]'(by decide)).toNat : Int) = 68 := rfl
        rcases cd_f (HN.out hlt) with c | c
        · go_wp2
          go_ret
          exact ⟨rfl, rfl⟩
        · go_wp2
          go_ret
          exact ⟨rfl, rfl⟩
      · have hlt : 9 < s.size := by omega
        have fk : (((⟨#[89, 89, 89, 89, 45, 77, 77, 45, 68, 68]⟩ : ByteArray)[9]'(by decide)).toNat : Int) = 68 := rfl
        rcases cd_f (HN.out hlt) with c | c
        · go_wp2
          go_ret
          exact ⟨rfl, rfl⟩
        · go_wp2
          go_ret
          exact ⟨rfl, rfl⟩

theorem first_bad (s : ByteArray) : ∀ n, n ≤ s.size → (∀ i (h : i < s.size), i < n → bOk i s[i] = true) ∨ ∃ j, j < n ∧ (∀ h : j < s.size, bOk j s[j] = false) ∧ ∀ i (h : i < s.size), i < j → bOk i s[i] = true
  | 0, _ => Or.inl fun i h hi => by omega
  | n + 1, hn => by
    rcases first_bad s n (by omega) with h | ⟨j, h1, h2, h3⟩
    · have hlt : n < s.size := by omega
      cases c : bOk n s[n] with
      | true =>
        refine Or.inl fun i h' hi => ?_
        by_cases e : i = n
        · subst e; exact c
        · exact h i h' (by omega)
      | false => exact Or.inr ⟨n, by omega, fun _ => c, h⟩
    · exact Or.inr ⟨j, by omega, h2, h3⟩
theorem fits_no (s : ByteArray) (w : World) (hm : s.size ≤ maxLen) (h : ¬ Shp s) :
    Calls Tryd.prog 44 #[.string s] w fun e w' => e = .returned (.bool false) ∧ w' = w := by
  by_cases hs : s.size = 10
  · rcases first_bad s s.size (Nat.le_refl _) with g | ⟨j, h1, h2, h3⟩
    · exact absurd (shp_of s hs fun i hi => g i hi hi) h
    · exact fits_bad s j w hs (by omega) h3 h2
  · exact fits_long s w hm hs

set_option maxRecDepth 100000 in
set_option maxHeartbeats 1000000 in
theorem value_any (s : ByteArray) (w : World) (hs : s.size ≤ 10) (hd : allD s) :
    Calls Tryd.prog 45 #[.string s] w fun e w' => e = .returned (.int .i64 (pv s.data.toList)) ∧ w' = w := by
  have HD : Hid (allD s) := hd
  clear hd
  go_enter Tryd.func45, Tryd.ntmps45
  go_wp2
  go_loopw [3, 7] (fun n i wr => ∃ k : Nat, k ≤ s.size ∧ i = .int .i64 k ∧ n = .int .i64 (pv (s.data.toList.take k)) ∧ wr = w) (fun _ i _ => s.size - (intOf i).toNat)
  case atStart => exact ⟨0, Nat.zero_le _, rfl, rfl, rfl⟩
  case round =>
    obtain ⟨k, hk, rfl, rfl, rfl⟩ := hrel
    have pb := pv_small s k hk (by omega) (fun i h _ => HD.out i h)
    obtain ⟨p1, p2⟩ := pb
    by_cases hlt : k < s.size
    · have cb := cd_t (HD.out k hlt)
      obtain ⟨cb1, cb2⟩ := cb
      have PS : Hid (pv (s.data.toList.take (k + 1)) = 10 * pv (s.data.toList.take k) + ((s[k].toNat : Int) - 48)) := by
        show pv _ = _
        rw [take_snoc s k hlt, pv_snoc]
        omega
      generalize hpv : pv (s.data.toList.take k) = v at *
      go_wp2
      go_roundw
      case rel => exact ⟨k + 1, by omega, by go_num, by rw [PS.out], trivial⟩
      case measure => simp [intOf]; omega
    · have kn : k = s.size := by omega
      have PE : Hid (pv (s.data.toList.take k) = pv s.data.toList) := by
        show pv _ = _
        rw [List.take_of_length_le (by show s.data.size ≤ k; rw [kn]; exact Nat.le_refl _)]
      go_wp2
      go_ret
      exact ⟨ret_i PE.out, rfl⟩
end Go.Proofs.YtilbeghfhhoblacDoor
