/- What the document's own reckoning (package noonref1) answers of texts: Digits, SpanText, Number, ReadSpan: the same that package span prints and reads. -/
import Derived.Test.YtonlhhkepclnpaaDoorRef1
namespace Go.Proofs.YtonlhhkepclnpaaDoor
open Go.ChangeShapes Go.WideShapes Go.ChangeAt Go.RowKit Go.Joins
set_option linter.unusedVariables false

theorem digits_nat : ∀ (k : Nat) (n : Int), 0 ≤ n → n ≤ 1000000000000 → n.toNat < k → ∀ (s : ByteArray) (w : World), s.data.toList = Lib.decDigits n.toNat →
    Calls Tryd.prog 31 #[.int .i64 n] w fun e w' => e = .returned (.string s) ∧ w' = w := by
  intro k
  induction k with
  | zero => intro n _ _ h; omega
  | succ k ih =>
    intro n h0 h1 hk s w hs
    by_cases h : n < 10
    · exact digits_one n s w h0 h hs
    · obtain ⟨r, hr⟩ := ba_of (Lib.decDigits (n / 10).toNat)
      have e1 : (n / 10).toNat = n.toNat / 10 := by omega
      have e2 : (n % 10).toNat = n.toNat % 10 := by omega
      refine digits_step n r s w (by omega) (by omega) (fun w => ih (n / 10) (by omega) (by omega) (by omega) r w hr) ?_ ?_
      · rw [size_of hr, Lib.decDigits_length]
        have := nDigits_le13 (n / 10).toNat (by omega)
        omega
      · show s.data.toList = _
        rw [hs, Lib.decDigits, dif_neg (by omega), hr, e1, e2]

set_option maxHeartbeats 400000 in
theorem digits_neg (n : Int) (r s : ByteArray) (w : World) (h0 : n < 0) (h1 : -1000000000000 ≤ n) (ih : ∀ w, Calls Tryd.prog 31 #[.int .i64 (-n)] w fun e w' => e = .returned (.string r) ∧ w' = w) (hr : r.size ≤ 30) (hs : Hid (⟨#[45]⟩ ++ r = s)) :
    Calls Tryd.prog 31 #[.int .i64 n] w fun e w' => e = .returned (.string s) ∧ w' = w := by
  go_enter Tryd.func31, Tryd.ntmps31
  go_wp2_with (go_at_call 31; refine (ih _).mono ?_; rintro e u ⟨rfl, rfl⟩)
  go_ret
  exact ⟨ret_string hs.out, rfl⟩

theorem digits_any (n : Int) (s : ByteArray) (w : World) (h0 : -1000000000000 ≤ n) (h1 : n ≤ 1000000000000) (hs : s.data.toList = Lib.itoa n) :
    Calls Tryd.prog 31 #[.int .i64 n] w fun e w' => e = .returned (.string s) ∧ w' = w := by
  unfold Lib.itoa at hs
  by_cases h : n < 0
  · rw [if_pos h] at hs
    obtain ⟨r, hr⟩ := ba_of (Lib.decDigits n.natAbs)
    have e1 : (-n).toNat = n.natAbs := by omega
    refine digits_neg n r s w h h0 (fun w => digits_nat (n.natAbs + 1) (-n) (by omega) (by omega) (by omega) r w (by rw [hr, e1])) ?_ ?_
    · rw [size_of hr, Lib.decDigits_length]
      have := nDigits_le13 n.natAbs (by omega)
      omega
    · show _ = s
      apply ByteArray.ext
      apply Array.toList_inj.1
      rw [data_append, hs, hr]
      rfl
  · rw [if_neg h] at hs
    exact digits_nat (n.toNat + 1) n (by omega) h1 (by omega) s w hs

set_option maxHeartbeats 400000 in
theorem rtext_s (a b : Int) (x y : ByteArray) (w : World) (ha : ∀ w, Calls Tryd.prog 31 #[.int .i64 a] w fun e w' => e = .returned (.string x) ∧ w' = w) (hb : ∀ w, Calls Tryd.prog 31 #[.int .i64 b] w fun e w' => e = .returned (.string y) ∧ w' = w) (lx : x.size ≤ 21) (ly : y.size ≤ 21) :
    Calls Tryd.prog 9 #[.agg #[.int .i64 a, .int .i64 b]] w fun e w' => e = .returned (.string (x ++ ⟨#[46, 46]⟩ ++ y)) ∧ Below w.heap.size w w' := by
  have cnt : Mark 0 := .mk _
  go_enter Tryd.func9, Tryd.ntmps9
  go_wp2_with (first | (go_at_call 31; have cq : Mark 0 := cnt; refine (ha _).mono ?_; clear cq cnt; have cnt : Mark 1 := .mk _; rintro e u ⟨rfl, rfl⟩) | (go_at_call 31; have cq : Mark 1 := cnt; refine (hb _).mono ?_; clear cq cnt; have cnt : Mark 2 := .mk _; rintro e u ⟨rfl, rfl⟩))
  go_ret
  exact ⟨rfl, (Below.refl _ _).alloc (Nat.le_refl _) _⟩

theorem rtext_ok (a b : Int) (r : ByteArray) (w : World) (h : okB a b = true) (hr : r.data.toList = printL a b) :
    Calls Tryd.prog 9 #[.agg #[.int .i64 a, .int .i64 b]] w fun e w' => e = .returned (.string r) ∧ Below w.heap.size w w' := by
  obtain ⟨x, hx⟩ := ba_of (Lib.itoa a)
  obtain ⟨y, hy⟩ := ba_of (Lib.itoa b)
  obtain ⟨l1, l2⟩ := itoa_len a b h
  have q := okB_t h
  have e : x ++ ⟨#[46, 46]⟩ ++ y = r := by
    apply ByteArray.ext
    apply Array.toList_inj.1
    rw [data_append, data_append, hx, hy, hr]
    rfl
  rw [← e]
  exact rtext_s a b x y w (fun w => digits_any a x w (by omega) (by omega) hx) (fun w => digits_any b y w (by omega) (by omega) hy) (by rw [size_of hx]; omega) (by rw [size_of hy]; omega)

/-- The loop of Number over the bytes, from a state behind the sign: all are digits. -/
theorem dec_snoc (s : ByteArray) (k v : Nat) (h : k < s.size) (hv : Lib.decFrom 0 (s.data.toList.take k) = some v) (hd : isDig s[k] = true) : Lib.decFrom 0 (s.data.toList.take (k + 1)) = some (v * 10 + (s[k].toNat - 48)) := by
  rw [take_snoc s k h, decFrom_snoc, hv, digitVal_of hd]; rfl

theorem dec_lt (l : List UInt8) : ∀ (n v : Nat), l.length ≤ n → Lib.decFrom 0 l = some v → v < 10 ^ l.length := by
  intro n
  induction n generalizing l with
  | zero => intro v h hv; cases l with
    | nil => simp [Lib.decFrom] at hv; subst hv; simp
    | cons a t => simp at h
  | succ n ih =>
    intro v h hv
    by_cases hne : l = []
    · subst hne; simp [Lib.decFrom] at hv; subst hv; simp
    · obtain ⟨p, b, rfl⟩ : ∃ p b, l = p ++ [b] := ⟨l.dropLast, l.getLast hne, (List.dropLast_concat_getLast hne).symm⟩
      rw [decFrom_snoc] at hv
      obtain ⟨m', h1, h2⟩ := Option.bind_eq_some_iff.1 hv
      obtain ⟨d, h3, h4⟩ := Option.map_eq_some_iff.1 h2
      have := ih p m' (by simp at h; omega) h1
      have := (dig_eq h3).1
      simp only [List.length_append, List.length_cons, List.length_nil, Nat.zero_add, Nat.pow_succ]
      omega

theorem dec_bound (s : ByteArray) (k v : Nat) (h : s.size ≤ 13) (hk : k ≤ s.size) (hv : Lib.decFrom 0 (s.data.toList.take k) = some v) : (v : Int) < 10000000000000 := by
  have h1 := dec_lt _ _ v (Nat.le_refl _) hv
  have h2 : (s.data.toList.take k).length ≤ 13 := by
    rw [List.length_take, ← Lib.size_eq]; omega
  have h3 : 10 ^ (s.data.toList.take k).length ≤ 10 ^ 13 := Nat.pow_le_pow_right (by omega) h2
  have : (10 : Nat) ^ 13 = 10000000000000 := by decide
  omega
end Go.Proofs.YtonlhhkepclnpaaDoor
