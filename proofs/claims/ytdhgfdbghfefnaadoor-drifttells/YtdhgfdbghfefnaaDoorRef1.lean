/- What the document's own reckoning (package noonref1) answers: Time, Span, Least, Greatest, Meet, Digits, SpanText, of any numbers that may be. -/
import Derived.Test.YtdhgfdbghfefnaaDoorSpanText
import Derived.Deep.RegionWith
namespace Go.Proofs.YtdhgfdbghfefnaaDoor
open Go.ChangeShapes Go.WideShapes Go.ChangeAt Go.RowKit Go.Joins
set_option linter.unusedVariables false

def timeB (n : Int) : Bool := decide (-1000000000000 ≤ n ∧ n ≤ 1000000000000)

theorem rtime_any (n : Int) (w : World) :
    Calls Tryd.prog 29 #[.int .i64 n] w fun e w' => e = .returned (.bool (timeB n)) ∧ w' = w := by
  by_cases h1 : -1000000000000 ≤ n
  · by_cases h2 : n ≤ 1000000000000
    · have e : timeB n = true := decide_eq_true ⟨h1, h2⟩
      rw [e]
      clear e
      go_enter Tryd.func29, Tryd.ntmps29
      go_wp2
      go_ret
      exact ⟨rfl, rfl⟩
    · have e : timeB n = false := decide_eq_false (by omega)
      have h3 : decide (n ≤ 1000000000000) = false := decide_eq_false h2
      rw [e]
      clear e h2
      go_enter Tryd.func29, Tryd.ntmps29
      go_wp2
      go_ret
      exact ⟨rfl, rfl⟩
  · have e : timeB n = false := decide_eq_false (by omega)
    have h3 : decide (-1000000000000 ≤ n) = false := decide_eq_false h1
    rw [e]
    clear e h1
    go_enter Tryd.func29, Tryd.ntmps29
    go_wp2
    go_ret
    exact ⟨rfl, rfl⟩

set_option maxHeartbeats 400000 in
theorem rspan_c (a b : Int) (x y z : Bool) (w : World) (hx : Hid (timeB a = x)) (hy : Hid (timeB b = y)) (hz : decide (a ≤ b) = z) :
    Calls Tryd.prog 6 #[.agg #[.int .i64 a, .int .i64 b]] w fun e w' => e = .returned (.bool (x && y && z)) ∧ Below w.heap.size w w' := by
  have cx : ∀ w, Calls Tryd.prog 29 #[.int .i64 a] w fun e w' => e = .returned (.bool x) ∧ w' = w := by rw [← hx.out]; exact rtime_any a
  have cy : ∀ w, Calls Tryd.prog 29 #[.int .i64 b] w fun e w' => e = .returned (.bool y) ∧ w' = w := by rw [← hy.out]; exact rtime_any b
  clear hx hy
  have cnt : Mark 0 := .mk _
  cases x <;> cases y <;> cases z
  all_goals
    go_enter Tryd.func6, Tryd.ntmps6
    go_wp2_with (first | (go_at_call 29; have cq : Mark 0 := cnt; refine (cx _).mono ?_; clear cq cnt; have cnt : Mark 1 := .mk _; rintro e u ⟨rfl, rfl⟩) | (go_at_call 29; have cq : Mark 1 := cnt; refine (cy _).mono ?_; clear cq cnt; have cnt : Mark 2 := .mk _; rintro e u ⟨rfl, rfl⟩))
    go_ret
    exact ⟨rfl, (Below.refl _ _).alloc (Nat.le_refl _) _⟩

theorem rspan_any (a b : Int) (w : World) :
    Calls Tryd.prog 6 #[.agg #[.int .i64 a, .int .i64 b]] w fun e w' => e = .returned (.bool (okB a b)) ∧ Below w.heap.size w w' := by
  have e : okB a b = (timeB a && timeB b && decide (a ≤ b)) := by
    unfold okB timeB
    rw [Bool.eq_iff_iff]
    simp only [Bool.and_eq_true, decide_eq_true_eq]
    omega
  rw [e]
  exact rspan_c a b _ _ _ w rfl rfl rfl

theorem rleast_any (a b x : Int) (w : World) (hx : Hid ((a < b ∧ x = a) ∨ (b ≤ a ∧ x = b))) :
    Calls Tryd.prog 15 #[.int .i64 a, .int .i64 b] w fun e w' => e = .returned (.int .i64 x) ∧ w' = w := by
  rcases hx.out with ⟨h, rfl⟩ | ⟨h, rfl⟩
  all_goals
    clear hx
    go_enter Tryd.func15, Tryd.ntmps15
    go_wp2
    go_ret
    exact ⟨rfl, rfl⟩

theorem rgreatest_any (a b x : Int) (w : World) (hx : Hid ((b < a ∧ x = a) ∨ (a ≤ b ∧ x = b))) :
    Calls Tryd.prog 16 #[.int .i64 a, .int .i64 b] w fun e w' => e = .returned (.int .i64 x) ∧ w' = w := by
  rcases hx.out with ⟨h, rfl⟩ | ⟨h, rfl⟩
  all_goals
    clear hx
    go_enter Tryd.func16, Tryd.ntmps16
    go_wp2
    go_ret
    exact ⟨rfl, rfl⟩

theorem digit_piece (k : Nat) (h : k < 10) : (⟨#[48, 49, 50, 51, 52, 53, 54, 55, 56, 57]⟩ : ByteArray).extract k (k + 1) = ⟨#[UInt8.ofNat (48 + k)]⟩ := by
  have hc : k = 0 ∨ k = 1 ∨ k = 2 ∨ k = 3 ∨ k = 4 ∨ k = 5 ∨ k = 6 ∨ k = 7 ∨ k = 8 ∨ k = 9 := by omega
  rcases hc with rfl | rfl | rfl | rfl | rfl | rfl | rfl | rfl | rfl | rfl <;> decide +kernel

theorem ret_string {a b : ByteArray} (h : a = b) : Ending.returned (.string a) = .returned (.string b) := by rw [h]

set_option maxHeartbeats 1000000 in
theorem digits_one (n : Int) (s : ByteArray) (w : World) (h0 : 0 ≤ n) (h1 : n < 10) (hs : Hid (s.data.toList = Lib.decDigits n.toNat)) :
    Calls Tryd.prog 31 #[.int .i64 n] w fun e w' => e = .returned (.string s) ∧ w' = w := by
  have E : Hid ((⟨#[48, 49, 50, 51, 52, 53, 54, 55, 56, 57]⟩ : ByteArray).extract n.toNat (n.toNat + 1) = s) := by
    show _ = s
    rw [digit_piece n.toNat (by omega)]
    apply ByteArray.ext
    apply Array.toList_inj.1
    rw [hs.out, Lib.decDigits_one (by omega)]
  clear hs
  have hc : n = 0 ∨ n = 1 ∨ n = 2 ∨ n = 3 ∨ n = 4 ∨ n = 5 ∨ n = 6 ∨ n = 7 ∨ n = 8 ∨ n = 9 := by omega
  clear h0 h1
  rcases hc with rfl | rfl | rfl | rfl | rfl | rfl | rfl | rfl | rfl | rfl
  all_goals
    go_enter Tryd.func31, Tryd.ntmps31
    go_wp2
    go_ret
    exact ⟨ret_string E.out, rfl⟩

set_option maxHeartbeats 4000000 in
theorem digits_step (n : Int) (r s : ByteArray) (w : World) (h0 : 10 ≤ n) (h1 : n ≤ 9223372036854775807) (ih : ∀ w, Calls Tryd.prog 31 #[.int .i64 (n / 10)] w fun e w' => e = .returned (.string r) ∧ w' = w) (hr : r.size ≤ 30)
    (hs : Hid (s.data.toList = r.data.toList ++ [UInt8.ofNat (48 + (n % 10).toNat)])) :
    Calls Tryd.prog 31 #[.int .i64 n] w fun e w' => e = .returned (.string s) ∧ w' = w := by
  have E : Hid (r ++ (⟨#[48, 49, 50, 51, 52, 53, 54, 55, 56, 57]⟩ : ByteArray).extract (n % 10).toNat ((n % 10).toNat + 1) = s) := by
    show _ = s
    rw [digit_piece (n % 10).toNat (by omega)]
    apply ByteArray.ext
    apply Array.toList_inj.1
    rw [data_append, hs.out]
  clear hs
  have hc : n % 10 = 0 ∨ n % 10 = 1 ∨ n % 10 = 2 ∨ n % 10 = 3 ∨ n % 10 = 4 ∨ n % 10 = 5 ∨ n % 10 = 6 ∨ n % 10 = 7 ∨ n % 10 = 8 ∨ n % 10 = 9 := by omega
  rcases hc with h | h | h | h | h | h | h | h | h | h
  all_goals
    rw [h] at E
    go_enter Tryd.func31, Tryd.ntmps31
    go_wp2_with (go_at_call 31; refine (ih _).mono ?_; rintro e u ⟨rfl, rfl⟩)
    go_ret
    exact ⟨ret_string E.out, rfl⟩
end Go.Proofs.YtdhgfdbghfefnaaDoor
