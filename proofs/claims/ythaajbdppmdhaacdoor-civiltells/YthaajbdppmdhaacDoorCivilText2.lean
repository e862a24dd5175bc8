/- What the document's own reckoning (package noonref1) answers of texts: Plain of a text that is no number, Digits, Pad, DateText. -/
import Derived.Test.YthaajbdppmdhaacDoorCivilText
namespace Go.Proofs.YthaajbdppmdhaacDoor
open Go.ChangeShapes Go.WideShapes Go.ChangeAt Go.RowKit Go.Joins
set_option linter.unusedVariables false
set_option linter.unusedSimpArgs false

theorem first_cd (s : ByteArray) : ∀ n, n ≤ s.size → (∀ i (h : i < s.size), i < n → cd s[i] = true) ∨ ∃ j, ∃ h : j < s.size, j < n ∧ cd s[j] = false ∧ ∀ i (h : i < s.size), i < j → cd s[i] = true
  | 0, _ => Or.inl fun i h hi => by omega
  | n + 1, hn => by
    rcases first_cd s n (by omega) with h | ⟨j, h, h1, h2, h3⟩
    · cases c : cd s[n] with
      | true =>
        refine Or.inl fun i h' hi => ?_
        by_cases e : i = n
        · subst e; exact c
        · exact h i h' (by omega)
      | false => exact Or.inr ⟨n, by omega, by omega, c, h⟩
    · exact Or.inr ⟨j, h, by omega, h2, h3⟩

set_option maxRecDepth 100000 in
set_option maxHeartbeats 1000000 in
theorem rplain_no (s : ByteArray) (w : World) (hs : s.size ≤ 10) (hd : ¬ allD s) :
    Calls Tryd.prog 62 #[.string s] w fun e w' => e = .returned (.tuple #[.int .i64 0, .bool false]) ∧ w' = w := by
  obtain ⟨j, hj, _, hb, hg⟩ : ∃ j, ∃ h : j < s.size, j < s.size ∧ cd s[j] = false ∧ ∀ i (h : i < s.size), i < j → cd s[i] = true := by
    rcases first_cd s s.size (Nat.le_refl _) with h | h
    · exact absurd (fun i hi => h i hi hi) hd
    · exact h
  have HB : Hid (cd s[j] = false) := hb
  have HG : Hid (∀ i (h : i < s.size), i < j → cd s[i] = true) := hg
  clear hd hb hg
  go_enter Tryd.func62, Tryd.ntmps62
  go_wp2
  go_loopw [4, 5] (fun n i wr => ∃ k : Nat, k ≤ j ∧ i = .int .i64 k ∧ n = .int .i64 (pv (s.data.toList.take k)) ∧ wr = w) (fun _ i _ => s.size - (intOf i).toNat)
  case atStart => exact ⟨0, Nat.zero_le _, rfl, rfl, rfl⟩
  case round =>
    obtain ⟨k, hk, rfl, rfl, rfl⟩ := hrel
    have pb := pv_small s k (by omega) (by omega) (fun i h hi => HG.out i h (by omega))
    obtain ⟨p1, p2⟩ := pb
    have hlt : k < s.size := by omega
    by_cases hkj : k < j
    · have cb := cd_t (HG.out k hlt hkj)
      obtain ⟨cb1, cb2⟩ := cb
      have PS : Hid (pv (s.data.toList.take (k + 1)) = pv (s.data.toList.take k) * 10 + (s[k].toNat : Int) - 48) := by
        show pv _ = _
        rw [take_snoc s k hlt, pv_snoc]
      generalize hpv : pv (s.data.toList.take k) = v at *
      go_wp2
      go_roundw
      case rel => exact ⟨k + 1, by omega, by go_num, by rw [PS.out], trivial⟩
      case measure => simp [intOf]; omega
    · have kn : k = j := by omega
      subst kn
      rcases cd_f HB.out with c | c
      · go_wp2
        go_ret2
        exact ⟨rfl, rfl⟩
      · go_wp2
        go_ret2
        exact ⟨rfl, rfl⟩

theorem ten_piece (k : Nat) (h : k < 10) : (⟨#[48, 49, 50, 51, 52, 53, 54, 55, 56, 57]⟩ : ByteArray).extract k (k + 1) = ⟨#[UInt8.ofNat (48 + k)]⟩ := by
  have hc : k = 0 ∨ k = 1 ∨ k = 2 ∨ k = 3 ∨ k = 4 ∨ k = 5 ∨ k = 6 ∨ k = 7 ∨ k = 8 ∨ k = 9 := by omega
  rcases hc with rfl | rfl | rfl | rfl | rfl | rfl | rfl | rfl | rfl | rfl <;> decide +kernel
theorem str_is {a b : ByteArray} (h : a = b) : Ending.returned (.string a) = .returned (.string b) := by rw [h]
/-- The digits of a number below ten thousand. -/
def dgl (n : Int) : List UInt8 := if n < 10 then [db n] else if n < 100 then [db (n / 10), db (n % 10)] else if n < 1000 then [db (n / 100), db (n / 10 % 10), db (n % 10)] else [db (n / 1000), db (n / 100 % 10), db (n / 10 % 10), db (n % 10)]
theorem dgl_len (n : Int) : 1 ≤ (dgl n).length ∧ (dgl n).length ≤ 4 := by unfold dgl; split <;> (try split) <;> (try split) <;> simp
set_option maxHeartbeats 1000000 in
theorem dig_one (n : Int) (w : World) (h0 : 0 ≤ n) (h1 : n < 10) :
    Calls Tryd.prog 79 #[.int .i64 n] w fun e w' => e = .returned (.string ⟨#[db n]⟩) ∧ w' = w := by
  have E : Hid ((⟨#[48, 49, 50, 51, 52, 53, 54, 55, 56, 57]⟩ : ByteArray).extract n.toNat (n.toNat + 1) = ⟨#[db n]⟩) := ten_piece n.toNat (by omega)
  have hc : n = 0 ∨ n = 1 ∨ n = 2 ∨ n = 3 ∨ n = 4 ∨ n = 5 ∨ n = 6 ∨ n = 7 ∨ n = 8 ∨ n = 9 := by omega
  clear h0 h1
  rcases hc with rfl | rfl | rfl | rfl | rfl | rfl | rfl | rfl | rfl | rfl
  all_goals
    go_enter Tryd.func79, Tryd.ntmps79
    go_wp2
    go_ret
    exact ⟨str_is E.out, rfl⟩
set_option maxHeartbeats 4000000 in
theorem dig_step (n : Int) (r s : ByteArray) (w : World) (h0 : 10 ≤ n) (h1 : n ≤ 100000) (ih : ∀ w, Calls Tryd.prog 79 #[.int .i64 (n / 10)] w fun e w' => e = .returned (.string r) ∧ w' = w) (hr : r.size ≤ 30)
    (hs : Hid (r ++ ⟨#[db (n % 10)]⟩ = s)) :
    Calls Tryd.prog 79 #[.int .i64 n] w fun e w' => e = .returned (.string s) ∧ w' = w := by
  have E : Hid (r ++ (⟨#[48, 49, 50, 51, 52, 53, 54, 55, 56, 57]⟩ : ByteArray).extract (n % 10).toNat ((n % 10).toNat + 1) = s) := by
    show _ = s
    rw [ten_piece (n % 10).toNat (by omega)]
    exact hs.out
  clear hs
  have hc : n % 10 = 0 ∨ n % 10 = 1 ∨ n % 10 = 2 ∨ n % 10 = 3 ∨ n % 10 = 4 ∨ n % 10 = 5 ∨ n % 10 = 6 ∨ n % 10 = 7 ∨ n % 10 = 8 ∨ n % 10 = 9 := by omega
  rcases hc with h | h | h | h | h | h | h | h | h | h
  all_goals
    rw [h] at E
    go_enter Tryd.func79, Tryd.ntmps79
    go_wp2_with (go_at_call 79; refine (ih _).mono ?_; rintro e u ⟨rfl, hu⟩; rw [hu]; clear hu)
    go_ret
    exact ⟨str_is E.out, rfl⟩
theorem ba_eq {a b : ByteArray} (h : a.data.toList = b.data.toList) : a = b := by
  apply ByteArray.ext
  exact Array.toList_inj.1 h
theorem dig_any (n : Int) (w : World) (h0 : 0 ≤ n) (h1 : n < 10000) :
    Calls Tryd.prog 79 #[.int .i64 n] w fun e w' => e = .returned (.string ⟨(dgl n).toArray⟩) ∧ w' = w := by
  have a1 : ∀ n : Int, 0 ≤ n → n < 10 → ∀ w, Calls Tryd.prog 79 #[.int .i64 n] w fun e w' => e = .returned (.string ⟨(dgl n).toArray⟩) ∧ w' = w := fun n h0 h1 w => by
    rw [show dgl n = [db n] from if_pos h1]; exact dig_one n w h0 h1
  have a2 : ∀ n : Int, 0 ≤ n → n < 100 → ∀ w, Calls Tryd.prog 79 #[.int .i64 n] w fun e w' => e = .returned (.string ⟨(dgl n).toArray⟩) ∧ w' = w := fun n h0 h1 w => by
    by_cases c : n < 10
    · exact a1 n h0 c w
    · refine dig_step n _ _ w (by omega) (by omega) (a1 (n / 10) (by omega) (by omega)) (by have := dgl_len (n / 10); show (dgl (n / 10)).toArray.size ≤ 30; simp; omega) ?_
      rw [show dgl (n / 10) = [db (n / 10)] from if_pos (by omega), show dgl n = [db (n / 10), db (n % 10)] from (if_neg c).trans (if_pos h1)]
      exact ba_eq rfl
  have a3 : ∀ n : Int, 0 ≤ n → n < 1000 → ∀ w, Calls Tryd.prog 79 #[.int .i64 n] w fun e w' => e = .returned (.string ⟨(dgl n).toArray⟩) ∧ w' = w := fun n h0 h1 w => by
    by_cases c : n < 100
    · exact a2 n h0 c w
    · refine dig_step n _ _ w (by omega) (by omega) (a2 (n / 10) (by omega) (by omega)) (by have := dgl_len (n / 10); show (dgl (n / 10)).toArray.size ≤ 30; simp; omega) ?_
      rw [show dgl (n / 10) = [db (n / 10 / 10), db (n / 10 % 10)] from (if_neg (by omega)).trans (if_pos (by omega)), show dgl n = [db (n / 100), db (n / 10 % 10), db (n % 10)] from (if_neg (by omega)).trans ((if_neg c).trans (if_pos h1)), show n / 10 / 10 = n / 100 by omega]
      exact ba_eq rfl
  by_cases c : n < 1000
  · exact a3 n h0 c w
  · refine dig_step n _ _ w (by omega) (by omega) (a3 (n / 10) (by omega) (by omega)) (by have := dgl_len (n / 10); show (dgl (n / 10)).toArray.size ≤ 30; simp; omega) ?_
    rw [show dgl (n / 10) = [db (n / 10 / 100), db (n / 10 / 10 % 10), db (n / 10 % 10)] from (if_neg (by omega)).trans ((if_neg (by omega)).trans (if_pos (by omega))), show dgl n = [db (n / 1000), db (n / 100 % 10), db (n / 10 % 10), db (n % 10)] from (if_neg (by omega)).trans ((if_neg (by omega)).trans (if_neg c)), show n / 10 / 100 = n / 1000 by omega, show n / 10 / 10 = n / 100 by omega]
    exact ba_eq rfl
set_option maxHeartbeats 1000000 in
theorem rpad4 (n : Int) (w : World) (h0 : 1000 ≤ n) (h1 : n < 10000) :
    Calls Tryd.prog 52 #[.int .i64 n, .int .i64 4] w fun e w' => e = .returned (.string ⟨(d4 n).toArray⟩) ∧ w' = w := by
  have cD := fun u => dig_any n u (by omega) h1
  rw [show dgl n = d4 n from (if_neg (by omega)).trans ((if_neg (by omega)).trans (if_neg (by omega)))] at cD
  have z : (⟨(d4 n).toArray⟩ : ByteArray).size = 4 := rfl
  generalize (⟨(d4 n).toArray⟩ : ByteArray) = s at *
  go_enter Tryd.func52, Tryd.ntmps52
  go_wp2_with (go_at_call 79; refine (cD _).mono ?_; rintro e u ⟨rfl, hu⟩; rw [hu]; clear hu)
  refine wp_loop_rounds 1 ?_
  rw [rounds_succ]
  go_wp2
  go_ret
  exact ⟨rfl, rfl⟩
set_option maxHeartbeats 1000000 in
theorem rpad2 (n : Int) (w : World) (h0 : 0 ≤ n) (h1 : n < 100) :
    Calls Tryd.prog 52 #[.int .i64 n, .int .i64 2] w fun e w' => e = .returned (.string ⟨(d2 n).toArray⟩) ∧ w' = w := by
  have cD := fun u => dig_any n u (by omega) (by omega)
  by_cases c : n < 10
  · rw [show dgl n = [db n] from if_pos c] at cD
    have z : (⟨([db n]).toArray⟩ : ByteArray).size = 1 := rfl
    have E : Hid ((⟨#[48]⟩ : ByteArray) ++ ⟨([db n]).toArray⟩ = ⟨(d2 n).toArray⟩) := by
      show _ = (⟨(d2 n).toArray⟩ : ByteArray)
      unfold d2
      rw [show n / 10 = 0 by omega, show n % 10 = n by omega]
      exact ba_eq rfl
    have z2 : ((⟨#[48]⟩ : ByteArray) ++ ⟨([db n]).toArray⟩).size = 2 := rfl
    generalize (⟨([db n]).toArray⟩ : ByteArray) = s at *
    go_enter Tryd.func52, Tryd.ntmps52
    go_wp2_with (go_at_call 79; refine (cD _).mono ?_; rintro e u ⟨rfl, hu⟩; rw [hu]; clear hu)
    refine wp_loop_rounds 2 ?_
    rw [rounds_succ]
    go_wp2
    rw [rounds_succ]
    go_wp2
    go_ret
    exact ⟨str_is E.out, rfl⟩
  · rw [show dgl n = d2 n from (if_neg c).trans (if_pos h1)] at cD
    have z : (⟨(d2 n).toArray⟩ : ByteArray).size = 2 := rfl
    generalize (⟨(d2 n).toArray⟩ : ByteArray) = s at *
    go_enter Tryd.func52, Tryd.ntmps52
    go_wp2_with (go_at_call 79; refine (cD _).mono ?_; rintro e u ⟨rfl, hu⟩; rw [hu]; clear hu)
    refine wp_loop_rounds 1 ?_
    rw [rounds_succ]
    go_wp2
    go_ret
    exact ⟨rfl, rfl⟩
set_option maxHeartbeats 1000000 in
theorem rtext_any (y m d : Int) (w : World) (ok : okD y m d = true) :
    Calls Tryd.prog 16 #[.agg #[.int .i64 y, .int .i64 m, .int .i64 d]] w fun e w' => e = .returned (.string (dtext y m d)) ∧ Below w.heap.size w w' := by
  obtain ⟨a1, a2, a3, a4, a5, a6⟩ := okD_t ok
  have ml := mdays_le y m
  have c4 := fun u => rpad4 y u (by omega) (by omega)
  have cm := fun u => rpad2 m u (by omega) (by omega)
  have cd' := fun u => rpad2 d u (by omega) (by omega)
  have E : Hid ((⟨(d4 y).toArray⟩ : ByteArray) ++ ⟨#[45]⟩ ++ ⟨(d2 m).toArray⟩ ++ ⟨#[45]⟩ ++ ⟨(d2 d).toArray⟩ = dtext y m d) := ba_eq rfl
  have z1 : (⟨(d4 y).toArray⟩ : ByteArray).size = 4 := rfl
  have z2 : (⟨(d2 m).toArray⟩ : ByteArray).size = 2 := rfl
  have z3 : (⟨(d2 d).toArray⟩ : ByteArray).size = 2 := rfl
  generalize (⟨(d4 y).toArray⟩ : ByteArray) = s1 at *
  generalize (⟨(d2 m).toArray⟩ : ByteArray) = s2 at *
  generalize (⟨(d2 d).toArray⟩ : ByteArray) = s3 at *
  have mk : Mark 0 := .mk _
  clear ok a1 a2 a3 a4 a5 a6 ml
  go_enter Tryd.func16, Tryd.ntmps16
  go_wp2_with (first | (go_at_call 52; have cq : Mark 0 := mk; refine (c4 _).mono ?_; clear cq mk; have mk : Mark 1 := .mk _; rintro e u ⟨rfl, hu⟩; rw [hu]; clear hu) | (go_at_call 52; have cq : Mark 1 := mk; refine (cm _).mono ?_; clear cq mk; have mk : Mark 2 := .mk _; rintro e u ⟨rfl, hu⟩; rw [hu]; clear hu) | (go_at_call 52; have cq : Mark 2 := mk; refine (cd' _).mono ?_; clear cq mk; have mk : Mark 3 := .mk _; rintro e u ⟨rfl, hu⟩; rw [hu]; clear hu))
  go_ret
  exact ⟨str_is E.out, rbel_al (Below.refl _ _)⟩
end Go.Proofs.YthaajbdppmdhaacDoor
