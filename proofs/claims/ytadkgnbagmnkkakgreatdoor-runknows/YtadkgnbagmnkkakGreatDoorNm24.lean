/- Numerals: plain mathematics of bytes. What the document's own reckoning (package noonref1) answers of a number as text: Digits, SpanText. What the document's own reckoning (package noonref1) answers of a numeral of at most 13 digits: Number. -/
import Derived.Test.YtadkgnbagmnkkakGreatDoorNm07
import Derived.Lib.SmallJoins
import Derived.Laws.IdiomStrings
import Derived.Lib.ItoaLen
import Derived.Deep.RegionWith
import Derived.BigQuiet
import Derived.IntWalk
namespace Go.Proofs.YtadkgnbagmnkkakGreatDoor.rn
open Go.ChangeShapes Go.WideShapes Go.ChangeAt Go.RowKit Go.Joins
set_option linter.unusedVariables false
set_option linter.unusedSimpArgs false

theorem take_snoc (s : ByteArray) (k : Nat) (h : k < s.size) : s.data.toList.take (k + 1) = s.data.toList.take k ++ [s[k]] := by
 rw [List.take_succ_eq_append_getElem (by simpa using h)]; rfl
theorem all_snoc (s : ByteArray) (k : Nat) (h : k < s.size) (h1 : allDig (s.data.toList.take k) = true) (h2 : isDig s[k] = true) : allDig (s.data.toList.take (k + 1)) = true := by
 unfold allDig at *; rw [take_snoc s k h]; simp [h1, h2]
theorem all_no (s : ByteArray) (k : Nat) (h : k < s.size) (hd : isDig s[k] = false) : allDig s.data.toList = false := by
 unfold allDig
 rw [List.all_eq_false]
 exact ⟨s[k], by show s.data.toList[k]'(by simpa using h) ∈ _; exact List.getElem_mem _, by simp [hd]⟩
theorem isDig_lo {b : UInt8} (h : (b.toNat : Int) < 48) : isDig b = false := decide_eq_false (by omega)
theorem isDig_hi {b : UInt8} (h : 57 < (b.toNat : Int)) : isDig b = false := decide_eq_false (by omega)
theorem isDig_yes {b : UInt8} (h1 : 48 ≤ (b.toNat : Int)) (h2 : (b.toNat : Int) ≤ 57) : isDig b = true := decide_eq_true (by omega)
theorem size_of {s : ByteArray} {l : List UInt8} (h : s.data.toList = l) : s.size = l.length := by rw [← h, Lib.size_eq]
theorem ba_of (l : List UInt8) : ∃ s : ByteArray, s.data.toList = l := ⟨⟨l.toArray⟩, rfl⟩
theorem toList_data (s : ByteArray) : s.toList = s.data.toList := by
 have := Lib.extract_toList s 0 s.size
 rw [show s.extract 0 s.size = s by simp] at this
 rw [this, Nat.sub_zero, List.drop_zero, List.take_of_length_le]; rw [Lib.size_eq]; exact Nat.le_refl _
theorem head_of (d : ByteArray) (h1 : 1 ≤ d.size) : d.data.toList.head? = some (d[0]'(by omega)) := by
 cases hd : d.data.toList with
 | nil => rw [Lib.size_eq, hd] at h1; simp at h1
 | cons a t =>
  have : d[0]'(by omega) = a := by
   show d.data[0] = a
   have h2 : d.data.toList[0]'(by rw [hd]; simp) = a := by simp [hd]
   exact h2
  rw [this]; rfl
theorem dec_snoc (s : ByteArray) (k v : Nat) (h : k < s.size) (hv : Lib.decFrom 0 (s.data.toList.take k) = some v) (hd : isDig s[k] = true) : Lib.decFrom 0 (s.data.toList.take (k + 1)) = some (v * 10 + (s[k].toNat - 48)) := by
 rw [take_snoc s k h, decFrom_snoc, hv, digitVal_of hd]; rfl
theorem dec_lt (l : List UInt8) : ∀ (n v : Nat), l.length ≤ n → Lib.decFrom 0 l = some v → v < 10 ^ l.length := by
 intro n
 induction n generalizing l with
 | zero => intro v h hv; cases l with
  | nil => simp [Lib.decFrom] at hv; subst hv; simp
  | cons a t => simp at h
 | succ n ih =>
  intro v h hv
  by_cases hne : l = []
  ·subst hne; simp [Lib.decFrom] at hv; subst hv; simp
  ·obtain ⟨p, b, rfl⟩ : ∃ p b, l = p ++ [b] := ⟨l.dropLast, l.getLast hne, (List.dropLast_concat_getLast hne).symm⟩
   rw [decFrom_snoc] at hv
   obtain ⟨m', h1, h2⟩ := Option.bind_eq_some_iff.1 hv
   obtain ⟨d, h3, h4⟩ := Option.map_eq_some_iff.1 h2
   have := ih p m' (by simp at h; omega) h1
   have := (dig_eq h3).1
   simp only [List.length_append, List.length_cons, List.length_nil, Nat.zero_add, Nat.pow_succ]
   omega
theorem dec_bound (s : ByteArray) (k v : Nat) (h : s.size ≤ 13) (hk : k ≤ s.size) (hv : Lib.decFrom 0 (s.data.toList.take k) = some v) : (v : Int) < 10000000000000 := by
 have h1 := dec_lt _ _ v (Nat.le_refl _) hv
 have h2 : (s.data.toList.take k).length ≤ 13 := by
  rw [List.length_take, ← Lib.size_eq]; omega
 have h3 : 10 ^ (s.data.toList.take k).length ≤ 10 ^ 13 := Nat.pow_le_pow_right (by omega) h2
 have : (10 : Nat) ^ 13 = 10000000000000 := by decide
 omega
theorem ret_pair {a b : Int} {c d : Bool} (h : a = b) (g : c = d) : Ending.returned (.tuple #[.int .i64 a, .bool c]) = .returned (.tuple #[.int .i64 b, .bool d]) := by rw [h, g]
theorem dig_of_dec (s : ByteArray) (v k : Nat) (h : Lib.decFrom 0 s.data.toList = some v) (hk : k < s.size) : isDig s[k] = true := by
 have key : ∀ (l : List UInt8) (acc : Nat), Lib.decFrom acc l = some v → l.all isDig = true := by
  intro l
  induction l with
  | nil => intro _ _; rfl
  | cons a t ih =>
   intro acc h
   simp only [Lib.decFrom] at h
   cases hd : Lib.digitVal a with
   | none => rw [hd] at h; cases h
   | some d =>
    rw [hd] at h
    have h1 := Lib.digitVal_eq hd
    simp only [List.all_cons, Bool.and_eq_true]
    exact ⟨decide_eq_true (by omega), ih _ h⟩
 have := key _ _ h
 rw [List.all_eq_true] at this
 exact this _ (by show s.data.toList[k]'(by simpa using hk) ∈ _; exact List.getElem_mem _)
theorem dec_step (s : ByteArray) (k : Nat) (v : Int) (h : k < s.size) (h0 : 0 ≤ v) (hv : Lib.decFrom 0 (s.data.toList.take k) = some v.toNat) (hd : isDig s[k] = true) : Lib.decFrom 0 (s.data.toList.take (k + 1)) = some (v * 10 + s[k].toNat - 48).toNat := by
 have hb := of_decide_eq_true hd
 rw [dec_snoc s k v.toNat h hv hd]
 congr 1
 omega
theorem dig_bounds {b : UInt8} (h : isDig b = true) : 48 ≤ (b.toNat : Int) ∧ (b.toNat : Int) ≤ 57 := by
 have := of_decide_eq_true h
 omega
theorem get0 {s : ByteArray} {b : UInt8} {r : List UInt8} (h : s.data.toList = b :: r) (h0 : 0 < s.size) : s[0] = b := by
 have := head_of s (by omega)
 rw [h] at this
 simpa using this.symm
theorem get0i {s : ByteArray} {b : UInt8} {r : List UInt8} (h : s.data.toList = b :: r) (h0 : 0 < s.size) (n : Nat) (hb : b.toNat = n) : (s[0].toNat : Int) = n := by
 rw [get0 h h0, hb]
theorem get0n {s : ByteArray} {b : UInt8} {r : List UInt8} (h : s.data.toList = b :: r) (h0 : 0 < s.size) (c : UInt8) (hb : b ≠ c) : ((s[0].toNat : Int) == (c.toNat : Int)) = false := by
 rw [get0 h h0, beq_eq_false_iff_ne]
 intro e
 apply hb
 apply UInt8.toNat_inj.1
 omega
theorem notEmpty {s : ByteArray} (h : 0 < s.size) : s.toList.isEmpty = false := by
 rw [toList_data]
 cases e : s.data.toList with
 | nil => rw [Lib.size_eq, e] at h; simp at h
 | cons a t => rfl
theorem len_cons {s : ByteArray} {b : UInt8} {r : List UInt8} (h : s.data.toList = b :: r) : s.size = r.length + 1 := by rw [size_of h]; rfl
theorem digit_piece (k : Nat) (h : k < 10) : (⟨#[48, 49, 50, 51, 52, 53, 54, 55, 56, 57]⟩ : ByteArray).extract k (k + 1) = ⟨#[UInt8.ofNat (48 + k)]⟩ := by
 have hc : k = 0 ∨ k = 1 ∨ k = 2 ∨ k = 3 ∨ k = 4 ∨ k = 5 ∨ k = 6 ∨ k = 7 ∨ k = 8 ∨ k = 9 := by omega
 rcases hc with rfl | rfl | rfl | rfl | rfl | rfl | rfl | rfl | rfl | rfl <;> decide +kernel

theorem ret_string {a b : ByteArray} (h : a = b) : Ending.returned (.string a) = .returned (.string b) := by rw [h]

set_option maxHeartbeats 1000000 in
theorem digits_one (n : Int) (s : ByteArray) (w : World) (h0 : 0 ≤ n) (h1 : n < 10) (hs : Hid (s.data.toList = Lib.decDigits n.toNat)) :
  Calls Tryz.prog 10 #[.int .i64 n] w fun e w' => e = .returned (.string s) ∧ w' = w := by
 have E : Hid ((⟨#[48, 49, 50, 51, 52, 53, 54, 55, 56, 57]⟩ : ByteArray).extract n.toNat (n.toNat + 1) = s) := by
  show _ = s
  rw [digit_piece n.toNat (by omega)]
  apply ByteArray.ext
  apply Array.toList_inj.1
  rw [hs.out, Lib.decDigits_one (by omega)]
 clear hs
 have hc : n = 0 ∨ n = 1 ∨ n = 2 ∨ n = 3 ∨ n = 4 ∨ n = 5 ∨ n = 6 ∨ n = 7 ∨ n = 8 ∨ n = 9 := by omega
 clear h0 h1
 rcases hc with rfl | rfl | rfl | rfl | rfl | rfl | rfl | rfl | rfl | rfl
 all_goals
  go_enter Tryz.func10, Tryz.ntmps10
  go_wp2
  go_ret
  exact ⟨ret_string E.out, rfl⟩

set_option maxHeartbeats 4000000 in
theorem digits_step (n : Int) (r s : ByteArray) (w : World) (h0 : 10 ≤ n) (h1 : n ≤ 9223372036854775807) (ih : ∀ w, Calls Tryz.prog 10 #[.int .i64 (n / 10)] w fun e w' => e = .returned (.string r) ∧ w' = w) (hr : r.size ≤ 30)
  (hs : Hid (s.data.toList = r.data.toList ++ [UInt8.ofNat (48 + (n % 10).toNat)])) :
  Calls Tryz.prog 10 #[.int .i64 n] w fun e w' => e = .returned (.string s) ∧ w' = w := by
 have E : Hid (r ++ (⟨#[48, 49, 50, 51, 52, 53, 54, 55, 56, 57]⟩ : ByteArray).extract (n % 10).toNat ((n % 10).toNat + 1) = s) := by
  show _ = s
  rw [digit_piece (n % 10).toNat (by omega)]
  apply ByteArray.ext
  apply Array.toList_inj.1
  rw [data_append, hs.out]
 clear hs
 have hc : n % 10 = 0 ∨ n % 10 = 1 ∨ n % 10 = 2 ∨ n % 10 = 3 ∨ n % 10 = 4 ∨ n % 10 = 5 ∨ n % 10 = 6 ∨ n % 10 = 7 ∨ n % 10 = 8 ∨ n % 10 = 9 := by omega
 rcases hc with h | h | h | h | h | h | h | h | h | h
 all_goals
  rw [h] at E
  go_enter Tryz.func10, Tryz.ntmps10
  go_wp2_with (go_at_call 10; refine (ih _).mono ?_; rintro e u ⟨rfl, rfl⟩)
  go_ret
  exact ⟨ret_string E.out, rfl⟩

theorem digits_nat : ∀ (k : Nat) (n : Int), 0 ≤ n → n ≤ 1000000000000000 → n.toNat < k → ∀ (s : ByteArray) (w : World), s.data.toList = Lib.decDigits n.toNat →
  Calls Tryz.prog 10 #[.int .i64 n] w fun e w' => e = .returned (.string s) ∧ w' = w := by
 intro k
 induction k with
 | zero => intro n _ _ h; omega
 | succ k ih =>
  intro n h0 h1 hk s w hs
  by_cases h : n < 10
  ·exact digits_one n s w h0 h hs
  ·obtain ⟨r, hr⟩ := ba_of (Lib.decDigits (n / 10).toNat)
   have e1 : (n / 10).toNat = n.toNat / 10 := by omega
   have e2 : (n % 10).toNat = n.toNat % 10 := by omega
   refine digits_step n r s w (by omega) (by omega) (fun w => ih (n / 10) (by omega) (by omega) (by omega) r w hr) ?_ ?_
   ·rw [size_of hr, Lib.decDigits_length]
    have := Lib.nDigits_le20 (n / 10).toNat (by omega)
    omega
   ·show s.data.toList = _
    rw [hs, Lib.decDigits, dif_neg (by omega), hr, e1, e2]

set_option maxHeartbeats 400000 in
theorem digits_neg (n : Int) (r s : ByteArray) (w : World) (h0 : n < 0) (h1 : -1000000000000000 ≤ n) (ih : ∀ w, Calls Tryz.prog 10 #[.int .i64 (-n)] w fun e w' => e = .returned (.string r) ∧ w' = w) (hr : r.size ≤ 30) (hs : Hid (⟨#[45]⟩ ++ r = s)) :
  Calls Tryz.prog 10 #[.int .i64 n] w fun e w' => e = .returned (.string s) ∧ w' = w := by
 go_enter Tryz.func10, Tryz.ntmps10
 go_wp2_with (go_at_call 10; refine (ih _).mono ?_; rintro e u ⟨rfl, rfl⟩)
 go_ret
 exact ⟨ret_string hs.out, rfl⟩

theorem digits_any (n : Int) (s : ByteArray) (w : World) (h0 : -1000000000000000 ≤ n) (h1 : n ≤ 1000000000000000) (hs : s.data.toList = Lib.itoa n) :
  Calls Tryz.prog 10 #[.int .i64 n] w fun e w' => e = .returned (.string s) ∧ w' = w := by
 unfold Lib.itoa at hs
 by_cases h : n < 0
 ·rw [if_pos h] at hs
  obtain ⟨r, hr⟩ := ba_of (Lib.decDigits n.natAbs)
  have e1 : (-n).toNat = n.natAbs := by omega
  refine digits_neg n r s w h h0 (fun w => digits_nat (n.natAbs + 1) (-n) (by omega) (by omega) (by omega) r w (by rw [hr, e1])) ?_ ?_
  ·rw [size_of hr, Lib.decDigits_length]
   have := Lib.nDigits_le20 n.natAbs (by omega)
   omega
  ·show _ = s
   apply ByteArray.ext
   apply Array.toList_inj.1
   rw [data_append, hs, hr]
   rfl
 ·rw [if_neg h] at hs
  exact digits_nat (n.toNat + 1) n (by omega) h1 (by omega) s w hs


theorem itoa_len (a b : Int) (h : okB a b = true) : (Lib.itoa a).length ≤ 14 ∧ (Lib.itoa b).length ≤ 14 := by
 have key : ∀ n : Int, -1000000000000 ≤ n → n ≤ 1000000000000 → (Lib.itoa n).length ≤ 14 := by
  intro n h1 h2
  by_cases hneg : n < 0
  ·obtain ⟨u, rfl⟩ : ∃ u : Nat, n = -(u : Int) := ⟨n.natAbs, by omega⟩
   rw [Lib.itoa_neg u (by omega), List.length_cons, Lib.decDigits_length]
   have := nDigits_le13 u (by omega)
   omega
  ·obtain ⟨u, rfl⟩ : ∃ u : Nat, n = u := ⟨n.toNat, by omega⟩
   rw [Lib.itoa_nonneg, Lib.decDigits_length]
   have := nDigits_le13 u (by omega)
   omega
 have q := okB_t h
 exact ⟨key a (by omega) (by omega), key b (by omega) (by omega)⟩


set_option maxRecDepth 100000 in
set_option maxHeartbeats 1000000 in
theorem num13_okA (s : ByteArray) (V : Nat) (w : World) (hs : s.size ≤ 1) (h3 : s.toList.isEmpty = false) (h4 : s.size ≤ 13) (h5 : 0 < s.size) (h6 : ((s[0].toNat : Int) == 48) = false) (hV : Hid (Lib.decFrom 0 s.data.toList = some V)) :
  Calls Tryz.prog 11 #[.string s, .int .i64 13] w fun e w' => e = .returned (.tuple #[.int .i64 (V : Int), .bool true]) ∧ w' = w := by
 go_enter Tryz.func11, Tryz.ntmps11
 go_wp2
 go_loop [4, 5, 7, 8] (fun r4 r5 n i => ∃ (k : Nat) (v : Int), k ≤ s.size ∧ i = .int .i64 k ∧ n = .int .i64 v ∧ r4 = .int .i64 0 ∧ r5 = .bool false ∧ 0 ≤ v ∧ Lib.decFrom 0 (s.data.toList.take k) = some v.toNat) (fun _ _ _ i => s.size - (intOf i).toNat)
 case atStart => exact ⟨0, 0, Nat.zero_le _, rfl, rfl, rfl, rfl, Int.le_refl 0, rfl⟩
 case round =>
  obtain ⟨k, v, hk, rfl, rfl, rfl, rfl, hv0, hv⟩ := hrel
  have hb : v < 10000000000000 := by have := dec_bound s k v.toNat (by omega) hk hv; omega
  have HV : Hid (Lib.decFrom 0 (s.data.toList.take k) = some v.toNat) := hv
  clear hv
  (try clear h6)
  (try clear h2)
  (try clear h3)
  by_cases hlt : k < s.size
  ·have HD : Hid (isDig s[k] = true) := dig_of_dec s V k hV.out hlt
   go_wp2
   ·exfalso; have := dig_bounds HD.out; omega
   ·go_round
    case rel => exact ⟨k + 1, v * 10 + s[k].toNat - 48, by omega, by go_num, by go_num, rfl, rfl, by omega, dec_step s k v hlt hv0 HV.out HD.out⟩
    case measure => simp [intOf]; omega
   ·exfalso; have := dig_bounds HD.out; omega
  ·go_wp2
   go_ret2
   have e : v = (V : Int) := by
    have h := HV.out
    rw [List.take_of_length_le (by rw [← Lib.size_eq]; omega)] at h
    have := Option.some.inj (h.symm.trans hV.out)
    omega
   exact ⟨ret_pair (by rw [e]) rfl, rfl⟩


set_option maxRecDepth 100000 in
set_option maxHeartbeats 1000000 in
theorem num13_okZ (s : ByteArray) (V : Nat) (w : World) (hs : s.size ≤ 1) (h3 : s.toList.isEmpty = false) (h4 : s.size ≤ 13) (h5 : 0 < s.size) (h6 : (s[0].toNat : Int) = 48) (hV : Hid (Lib.decFrom 0 s.data.toList = some V)) :
  Calls Tryz.prog 11 #[.string s, .int .i64 13] w fun e w' => e = .returned (.tuple #[.int .i64 (V : Int), .bool true]) ∧ w' = w := by
 go_enter Tryz.func11, Tryz.ntmps11
 go_wp2
 go_loop [4, 5, 7, 8] (fun r4 r5 n i => ∃ (k : Nat) (v : Int), k ≤ s.size ∧ i = .int .i64 k ∧ n = .int .i64 v ∧ r4 = .int .i64 0 ∧ r5 = .bool false ∧ 0 ≤ v ∧ Lib.decFrom 0 (s.data.toList.take k) = some v.toNat) (fun _ _ _ i => s.size - (intOf i).toNat)
 case atStart => exact ⟨0, 0, Nat.zero_le _, rfl, rfl, rfl, rfl, Int.le_refl 0, rfl⟩
 case round =>
  obtain ⟨k, v, hk, rfl, rfl, rfl, rfl, hv0, hv⟩ := hrel
  have hb : v < 10000000000000 := by have := dec_bound s k v.toNat (by omega) hk hv; omega
  have HV : Hid (Lib.decFrom 0 (s.data.toList.take k) = some v.toNat) := hv
  clear hv
  (try clear h6)
  (try clear h2)
  (try clear h3)
  by_cases hlt : k < s.size
  ·have HD : Hid (isDig s[k] = true) := dig_of_dec s V k hV.out hlt
   go_wp2
   ·exfalso; have := dig_bounds HD.out; omega
   ·go_round
    case rel => exact ⟨k + 1, v * 10 + s[k].toNat - 48, by omega, by go_num, by go_num, rfl, rfl, by omega, dec_step s k v hlt hv0 HV.out HD.out⟩
    case measure => simp [intOf]; omega
   ·exfalso; have := dig_bounds HD.out; omega
  ·go_wp2
   go_ret2
   have e : v = (V : Int) := by
    have h := HV.out
    rw [List.take_of_length_le (by rw [← Lib.size_eq]; omega)] at h
    have := Option.some.inj (h.symm.trans hV.out)
    omega
   exact ⟨ret_pair (by rw [e]) rfl, rfl⟩


set_option maxRecDepth 100000 in
set_option maxHeartbeats 1000000 in
theorem num13_okB (s : ByteArray) (V : Nat) (w : World) (hs : s.size ≤ maxLen) (h1 : 1 < s.size) (h2 : ((s[0].toNat : Int) == 45) = false) (h3 : s.toList.isEmpty = false) (h4 : s.size ≤ 13) (h6 : ((s[0].toNat : Int) == 48) = false) (hV : Hid (Lib.decFrom 0 s.data.toList = some V)) :
  Calls Tryz.prog 11 #[.string s, .int .i64 13] w fun e w' => e = .returned (.tuple #[.int .i64 (V : Int), .bool true]) ∧ w' = w := by
 unfold maxLen at hs
 go_enter Tryz.func11, Tryz.ntmps11
 go_wp2
 go_loop [4, 5, 7, 8] (fun r4 r5 n i => ∃ (k : Nat) (v : Int), k ≤ s.size ∧ i = .int .i64 k ∧ n = .int .i64 v ∧ r4 = .int .i64 0 ∧ r5 = .bool false ∧ 0 ≤ v ∧ Lib.decFrom 0 (s.data.toList.take k) = some v.toNat) (fun _ _ _ i => s.size - (intOf i).toNat)
 case atStart => exact ⟨0, 0, Nat.zero_le _, rfl, rfl, rfl, rfl, Int.le_refl 0, rfl⟩
 case round =>
  obtain ⟨k, v, hk, rfl, rfl, rfl, rfl, hv0, hv⟩ := hrel
  have hb : v < 10000000000000 := by have := dec_bound s k v.toNat (by omega) hk hv; omega
  have HV : Hid (Lib.decFrom 0 (s.data.toList.take k) = some v.toNat) := hv
  clear hv
  (try clear h6)
  (try clear h2)
  (try clear h3)
  by_cases hlt : k < s.size
  ·have HD : Hid (isDig s[k] = true) := dig_of_dec s V k hV.out hlt
   go_wp2
   ·exfalso; have := dig_bounds HD.out; omega
   ·go_round
    case rel => exact ⟨k + 1, v * 10 + s[k].toNat - 48, by omega, by go_num, by go_num, rfl, rfl, by omega, dec_step s k v hlt hv0 HV.out HD.out⟩
    case measure => simp [intOf]; omega
   ·exfalso; have := dig_bounds HD.out; omega
  ·go_wp2
   go_ret2
   have e : v = (V : Int) := by
    have h := HV.out
    rw [List.take_of_length_le (by rw [← Lib.size_eq]; omega)] at h
    have := Option.some.inj (h.symm.trans hV.out)
    omega
   exact ⟨ret_pair (by rw [e]) rfl, rfl⟩


theorem num13_some (s : ByteArray) (n : Nat) (w : World) (hs : s.size ≤ maxLen) (h : numM 13 s.data.toList = some n) :
  Calls Tryz.prog 11 #[.string s, .int .i64 13] w fun e w' => e = .returned (.tuple #[.int .i64 (n : Int), .bool true]) ∧ w' = w := by
 unfold numM at h
 split at h
 ·cases h
 ·rename_i c
  rw [← Lib.size_eq] at c
  have c1 : ¬ s.size < 1 := fun q => c (Or.inl q)
  have c2 : ¬ 13 < s.size := fun q => c (Or.inr (Or.inl q))
  cases el : s.data.toList with
  | nil =>
   have : s.size = 0 := by rw [size_of el]; rfl
   omega
  | cons b r =>
   have hl := len_cons el
   have hd : isDig b = true := by
    have := dig_of_dec s n 0 h (show 0 < s.size by rw [hl]; exact Nat.succ_pos _)
    rwa [get0 el (show 0 < s.size by rw [hl]; exact Nat.succ_pos _)] at this
   have hb1 : b ≠ 45 := (dig_not_minus hd).1
   cases r with
   | nil =>
    simp at hl
    by_cases h48 : b = 48
    ·subst h48
     exact num13_okZ s n w (by omega) (notEmpty (by omega)) (by omega) (by omega) (get0i el (by omega) 48 rfl) h
    ·exact num13_okA s n w (by omega) (notEmpty (by omega)) (by omega) (by omega) (get0n el (by omega) 48 h48) h
   | cons q t =>
    simp only [List.length_cons] at hl
    have h48 : b ≠ 48 := fun e => c (Or.inr (Or.inr ⟨by omega, by rw [el, e]; rfl⟩))
    exact num13_okB s n w hs (by omega) (get0n el (by omega) 45 hb1) (notEmpty (by omega)) (by omega) (get0n el (by omega) 48 h48) h
end Go.Proofs.YtadkgnbagmnkkakGreatDoor.rn
