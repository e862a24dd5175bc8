/- What noonref1.Number answers of any text: a number just where package span reads one, and the same. -/
import Derived.Test.YtonlhhkepclnpaaDoorRef1b
namespace Go.Proofs.YtonlhhkepclnpaaDoor
open Go.ChangeShapes Go.WideShapes Go.ChangeAt Go.RowKit Go.Joins
set_option linter.unusedVariables false

theorem ret_pair {a b : Int} {c d : Bool} (h : a = b) (g : c = d) : Ending.returned (.tuple #[.int .i64 a, .bool c]) = .returned (.tuple #[.int .i64 b, .bool d]) := by rw [h, g]

theorem dig_of_dec (s : ByteArray) (v k : Nat) (h : Lib.decFrom 0 s.data.toList = some v) (hk : k < s.size) : isDig s[k] = true := by
  have key : ∀ (l : List UInt8) (acc : Nat), Lib.decFrom acc l = some v → l.all isDig = true := by
    intro l
    induction l with
    | nil => intro _ _; rfl
    | cons a t ih =>
      intro acc h
      simp only [Lib.decFrom] at h
      cases hd : Lib.digitVal a with
      | none => rw [hd] at h; cases h
      | some d =>
        rw [hd] at h
        have h1 := Lib.digitVal_eq hd
        simp only [List.all_cons, Bool.and_eq_true]
        exact ⟨decide_eq_true (by omega), ih _ h⟩
  have := key _ _ h
  rw [List.all_eq_true] at this
  exact this _ (by show s.data.toList[k]'(by simpa using hk) ∈ _; exact List.getElem_mem _)

theorem all_of_dec (s : ByteArray) (v : Nat) (h : Lib.decFrom 0 (s.data.toList.take s.size) = some v) : allDig s.data.toList = true := by
  rw [List.take_of_length_le (by rw [Lib.size_eq]; exact Nat.le_refl _)] at h
  unfold allDig
  rw [List.all_eq_true]
  intro b hb
  obtain ⟨k, hk, rfl⟩ := List.getElem_of_mem hb
  exact dig_of_dec s v k h (by simpa using hk)

theorem dec_step (s : ByteArray) (k : Nat) (v : Int) (h : k < s.size) (h0 : 0 ≤ v) (hv : Lib.decFrom 0 (s.data.toList.take k) = some v.toNat) (hd : isDig s[k] = true) : Lib.decFrom 0 (s.data.toList.take (k + 1)) = some (v * 10 + s[k].toNat - 48).toNat := by
  have hb := of_decide_eq_true hd
  rw [dec_snoc s k v.toNat h hv hd]
  congr 1
  omega

theorem dig_bounds {b : UInt8} (h : isDig b = true) : 48 ≤ (b.toNat : Int) ∧ (b.toNat : Int) ≤ 57 := by
  have := of_decide_eq_true h
  omega

set_option maxRecDepth 100000 in
set_option maxHeartbeats 1000000 in
theorem number_emptyA (s : ByteArray) (w : World) (hs : s.size ≤ 1) (h3 : s.toList.isEmpty = true) :
    Calls Tryd.prog 35 #[.string s, .int .i64 13] w fun e w' => e = .returned (.tuple #[.int .i64 0, .bool false]) ∧ w' = w := by
  go_enter Tryd.func35, Tryd.ntmps35
  go_wp2
  go_ret2
  exact ⟨rfl, rfl⟩

set_option maxRecDepth 100000 in
set_option maxHeartbeats 1000000 in
theorem number_longL (s D : ByteArray) (w : World) (hs : s.size ≤ maxLen) (h1 : 1 < s.size) (h2 : (s[0].toNat : Int) = 45) (hD : s.extract 1 s.size = D) (h3 : D.toList.isEmpty = false) (h4 : 13 < D.size) (hm : D.size ≤ 9223372036854775807) :
    Calls Tryd.prog 35 #[.string s, .int .i64 13] w fun e w' => e = .returned (.tuple #[.int .i64 0, .bool false]) ∧ w' = w := by
  unfold maxLen at hs
  go_enter Tryd.func35, Tryd.ntmps35
  go_wp2
  go_ret2
  exact ⟨rfl, rfl⟩

set_option maxRecDepth 100000 in
set_option maxHeartbeats 1000000 in
theorem number_longB (s : ByteArray) (w : World) (hs : s.size ≤ maxLen) (h1 : 1 < s.size) (h2 : ((s[0].toNat : Int) == 45) = false) (h3 : s.toList.isEmpty = false) (h4 : 13 < s.size) (hm : s.size ≤ 9223372036854775807) :
    Calls Tryd.prog 35 #[.string s, .int .i64 13] w fun e w' => e = .returned (.tuple #[.int .i64 0, .bool false]) ∧ w' = w := by
  unfold maxLen at hs
  go_enter Tryd.func35, Tryd.ntmps35
  go_wp2
  go_ret2
  exact ⟨rfl, rfl⟩

set_option maxRecDepth 100000 in
set_option maxHeartbeats 1000000 in
theorem number_zeroL (s D : ByteArray) (w : World) (hs : s.size ≤ maxLen) (h1 : 1 < s.size) (h2 : (s[0].toNat : Int) = 45) (hD : s.extract 1 s.size = D) (h3 : D.toList.isEmpty = false) (h4 : D.size ≤ 13) (h5 : 0 < D.size) (h6 : (D[0].toNat : Int) = 48) :
    Calls Tryd.prog 35 #[.string s, .int .i64 13] w fun e w' => e = .returned (.tuple #[.int .i64 0, .bool false]) ∧ w' = w := by
  unfold maxLen at hs
  go_enter Tryd.func35, Tryd.ntmps35
  by_cases h7 : 1 < D.size
  · go_wp2
    go_ret2
    exact ⟨rfl, rfl⟩
  · have h8 : D.size = 1 := by omega
    clear h7
    go_wp2
    go_ret2
    exact ⟨rfl, rfl⟩

set_option maxRecDepth 100000 in
set_option maxHeartbeats 1000000 in
theorem number_zeroB (s : ByteArray) (w : World) (hs : s.size ≤ maxLen) (h1 : 1 < s.size) (h2 : ((s[0].toNat : Int) == 45) = false) (h3 : s.toList.isEmpty = false) (h4 : s.size ≤ 13) (h6 : (s[0].toNat : Int) = 48) :
    Calls Tryd.prog 35 #[.string s, .int .i64 13] w fun e w' => e = .returned (.tuple #[.int .i64 0, .bool false]) ∧ w' = w := by
  unfold maxLen at hs
  go_enter Tryd.func35, Tryd.ntmps35
  go_wp2
  go_ret2
  exact ⟨rfl, rfl⟩

set_option maxRecDepth 100000 in
set_option maxHeartbeats 1000000 in
theorem number_okL (s D : ByteArray) (V : Nat) (w : World) (hs : s.size ≤ maxLen) (h1 : 1 < s.size) (h2 : (s[0].toNat : Int) = 45) (hD : s.extract 1 s.size = D) (h3 : D.toList.isEmpty = false) (h4 : D.size ≤ 13) (h5 : 0 < D.size) (h6 : ((D[0].toNat : Int) == 48) = false) (hV : Hid (Lib.decFrom 0 D.data.toList = some V)) :
    Calls Tryd.prog 35 #[.string s, .int .i64 13] w fun e w' => e = .returned (.tuple #[.int .i64 (-(V : Int)), .bool true]) ∧ w' = w := by
  unfold maxLen at hs
  go_enter Tryd.func35, Tryd.ntmps35
  go_wp2
  go_loop [4, 5, 7, 8] (fun r4 r5 n i => ∃ (k : Nat) (v : Int), k ≤ D.size ∧ i = .int .i64 k ∧ n = .int .i64 v ∧ r4 = .int .i64 0 ∧ r5 = .bool false ∧ 0 ≤ v ∧ Lib.decFrom 0 (D.data.toList.take k) = some v.toNat) (fun _ _ _ i => D.size - (intOf i).toNat)
  case atStart => exact ⟨0, 0, Nat.zero_le _, rfl, rfl, rfl, rfl, Int.le_refl 0, rfl⟩
  case round =>
    obtain ⟨k, v, hk, rfl, rfl, rfl, rfl, hv0, hv⟩ := hrel
    have hb : v < 10000000000000 := by have := dec_bound D k v.toNat h4 hk hv; omega
    have HV : Hid (Lib.decFrom 0 (D.data.toList.take k) = some v.toNat) := hv
    clear hv
    (try clear h6)
    (try clear h2)
    (try clear h3)
    by_cases hlt : k < D.size
    · have HD : Hid (isDig D[k] = true) := dig_of_dec D V k hV.out hlt
      go_wp2
      · exfalso; have := dig_bounds HD.out; omega
      · go_round
        case rel => exact ⟨k + 1, v * 10 + D[k].toNat - 48, by omega, by go_num, by go_num, rfl, rfl, by omega, dec_step D k v hlt hv0 HV.out HD.out⟩
        case measure => simp [intOf]; omega
      · exfalso; have := dig_bounds HD.out; omega
    · go_wp2
      go_ret2
      have e : v = (V : Int) := by
        have h := HV.out
        rw [List.take_of_length_le (by rw [← Lib.size_eq]; omega)] at h
        have := Option.some.inj (h.symm.trans hV.out)
        omega
      exact ⟨ret_pair (by rw [e]) rfl, rfl⟩

set_option maxRecDepth 100000 in
set_option maxHeartbeats 1000000 in
theorem number_badL (s D : ByteArray) (w : World) (hs : s.size ≤ maxLen) (h1 : 1 < s.size) (h2 : (s[0].toNat : Int) = 45) (hD : s.extract 1 s.size = D) (h3 : D.toList.isEmpty = false) (h4 : D.size ≤ 13) (h5 : 0 < D.size) (h6 : ((D[0].toNat : Int) == 48) = false) (hV : Hid (allDig D.data.toList = false)) :
    Calls Tryd.prog 35 #[.string s, .int .i64 13] w fun e w' => e = .returned (.tuple #[.int .i64 0, .bool false]) ∧ w' = w := by
  unfold maxLen at hs
  go_enter Tryd.func35, Tryd.ntmps35
  go_wp2
  go_loop [4, 5, 7, 8] (fun r4 r5 n i => ∃ (k : Nat) (v : Int), k ≤ D.size ∧ i = .int .i64 k ∧ n = .int .i64 v ∧ r4 = .int .i64 0 ∧ r5 = .bool false ∧ 0 ≤ v ∧ Lib.decFrom 0 (D.data.toList.take k) = some v.toNat) (fun _ _ _ i => D.size - (intOf i).toNat)
  case atStart => exact ⟨0, 0, Nat.zero_le _, rfl, rfl, rfl, rfl, Int.le_refl 0, rfl⟩
  case round =>
    obtain ⟨k, v, hk, rfl, rfl, rfl, rfl, hv0, hv⟩ := hrel
    have hb : v < 10000000000000 := by have := dec_bound D k v.toNat h4 hk hv; omega
    have HV : Hid (Lib.decFrom 0 (D.data.toList.take k) = some v.toNat) := hv
    clear hv
    (try clear h6)
    (try clear h2)
    (try clear h3)
    by_cases hlt : k < D.size
    · go_wp2
      · go_ret2
        exact ⟨rfl, rfl⟩
      · go_round
        case rel => exact ⟨k + 1, v * 10 + D[k].toNat - 48, by omega, by go_num, by go_num, rfl, rfl, by omega, dec_step D k v hlt hv0 HV.out (isDig_yes (by omega) (by omega))⟩
        case measure => simp [intOf]; omega
      · go_ret2
        exact ⟨rfl, rfl⟩
    · exfalso
      have e : k = D.size := by omega
      subst e
      have := all_of_dec D v.toNat HV.out
      rw [hV.out] at this
      cases this

set_option maxRecDepth 100000 in
set_option maxHeartbeats 1000000 in
theorem number_okA (s : ByteArray) (V : Nat) (w : World) (hs : s.size ≤ 1) (h3 : s.toList.isEmpty = false) (h4 : s.size ≤ 13) (h5 : 0 < s.size) (h6 : ((s[0].toNat : Int) == 48) = false) (hV : Hid (Lib.decFrom 0 s.data.toList = some V)) :
    Calls Tryd.prog 35 #[.string s, .int .i64 13] w fun e w' => e = .returned (.tuple #[.int .i64 (V : Int), .bool true]) ∧ w' = w := by
  go_enter Tryd.func35, Tryd.ntmps35
  go_wp2
  go_loop [4, 5, 7, 8] (fun r4 r5 n i => ∃ (k : Nat) (v : Int), k ≤ s.size ∧ i = .int .i64 k ∧ n = .int .i64 v ∧ r4 = .int .i64 0 ∧ r5 = .bool false ∧ 0 ≤ v ∧ Lib.decFrom 0 (s.data.toList.take k) = some v.toNat) (fun _ _ _ i => s.size - (intOf i).toNat)
  case atStart => exact ⟨0, 0, Nat.zero_le _, rfl, rfl, rfl, rfl, Int.le_refl 0, rfl⟩
  case round =>
    obtain ⟨k, v, hk, rfl, rfl, rfl, rfl, hv0, hv⟩ := hrel
    have hb : v < 10000000000000 := by have := dec_bound s k v.toNat h4 hk hv; omega
    have HV : Hid (Lib.decFrom 0 (s.data.toList.take k) = some v.toNat) := hv
    clear hv
    (try clear h6)
    (try clear h2)
    (try clear h3)
    by_cases hlt : k < s.size
    · have HD : Hid (isDig s[k] = true) := dig_of_dec s V k hV.out hlt
      go_wp2
      · exfalso; have := dig_bounds HD.out; omega
      · go_round
        case rel => exact ⟨k + 1, v * 10 + s[k].toNat - 48, by omega, by go_num, by go_num, rfl, rfl, by omega, dec_step s k v hlt hv0 HV.out HD.out⟩
        case measure => simp [intOf]; omega
      · exfalso; have := dig_bounds HD.out; omega
    · go_wp2
      go_ret2
      have e : v = (V : Int) := by
        have h := HV.out
        rw [List.take_of_length_le (by rw [← Lib.size_eq]; omega)] at h
        have := Option.some.inj (h.symm.trans hV.out)
        omega
      exact ⟨ret_pair (by rw [e]) rfl, rfl⟩

set_option maxRecDepth 100000 in
set_option maxHeartbeats 1000000 in
theorem number_badA (s : ByteArray) (w : World) (hs : s.size ≤ 1) (h3 : s.toList.isEmpty = false) (h4 : s.size ≤ 13) (h5 : 0 < s.size) (h6 : ((s[0].toNat : Int) == 48) = false) (hV : Hid (allDig s.data.toList = false)) :
    Calls Tryd.prog 35 #[.string s, .int .i64 13] w fun e w' => e = .returned (.tuple #[.int .i64 0, .bool false]) ∧ w' = w := by
  go_enter Tryd.func35, Tryd.ntmps35
  go_wp2
  go_loop [4, 5, 7, 8] (fun r4 r5 n i => ∃ (k : Nat) (v : Int), k ≤ s.size ∧ i = .int .i64 k ∧ n = .int .i64 v ∧ r4 = .int .i64 0 ∧ r5 = .bool false ∧ 0 ≤ v ∧ Lib.decFrom 0 (s.data.toList.take k) = some v.toNat) (fun _ _ _ i => s.size - (intOf i).toNat)
  case atStart => exact ⟨0, 0, Nat.zero_le _, rfl, rfl, rfl, rfl, Int.le_refl 0, rfl⟩
  case round =>
    obtain ⟨k, v, hk, rfl, rfl, rfl, rfl, hv0, hv⟩ := hrel
    have hb : v < 10000000000000 := by have := dec_bound s k v.toNat h4 hk hv; omega
    have HV : Hid (Lib.decFrom 0 (s.data.toList.take k) = some v.toNat) := hv
    clear hv
    (try clear h6)
    (try clear h2)
    (try clear h3)
    by_cases hlt : k < s.size
    · go_wp2
      · go_ret2
        exact ⟨rfl, rfl⟩
      · go_round
        case rel => exact ⟨k + 1, v * 10 + s[k].toNat - 48, by omega, by go_num, by go_num, rfl, rfl, by omega, dec_step s k v hlt hv0 HV.out (isDig_yes (by omega) (by omega))⟩
        case measure => simp [intOf]; omega
      · go_ret2
        exact ⟨rfl, rfl⟩
    · exfalso
      have e : k = s.size := by omega
      subst e
      have := all_of_dec s v.toNat HV.out
      rw [hV.out] at this
      cases this

set_option maxRecDepth 100000 in
set_option maxHeartbeats 1000000 in
theorem number_okZ (s : ByteArray) (V : Nat) (w : World) (hs : s.size ≤ 1) (h3 : s.toList.isEmpty = false) (h4 : s.size ≤ 13) (h5 : 0 < s.size) (h6 : (s[0].toNat : Int) = 48) (hV : Hid (Lib.decFrom 0 s.data.toList = some V)) :
    Calls Tryd.prog 35 #[.string s, .int .i64 13] w fun e w' => e = .returned (.tuple #[.int .i64 (V : Int), .bool true]) ∧ w' = w := by
  go_enter Tryd.func35, Tryd.ntmps35
  go_wp2
  go_loop [4, 5, 7, 8] (fun r4 r5 n i => ∃ (k : Nat) (v : Int), k ≤ s.size ∧ i = .int .i64 k ∧ n = .int .i64 v ∧ r4 = .int .i64 0 ∧ r5 = .bool false ∧ 0 ≤ v ∧ Lib.decFrom 0 (s.data.toList.take k) = some v.toNat) (fun _ _ _ i => s.size - (intOf i).toNat)
  case atStart => exact ⟨0, 0, Nat.zero_le _, rfl, rfl, rfl, rfl, Int.le_refl 0, rfl⟩
  case round =>
    obtain ⟨k, v, hk, rfl, rfl, rfl, rfl, hv0, hv⟩ := hrel
    have hb : v < 10000000000000 := by have := dec_bound s k v.toNat h4 hk hv; omega
    have HV : Hid (Lib.decFrom 0 (s.data.toList.take k) = some v.toNat) := hv
    clear hv
    (try clear h6)
    (try clear h2)
    (try clear h3)
    by_cases hlt : k < s.size
    · have HD : Hid (isDig s[k] = true) := dig_of_dec s V k hV.out hlt
      go_wp2
      · exfalso; have := dig_bounds HD.out; omega
      · go_round
        case rel => exact ⟨k + 1, v * 10 + s[k].toNat - 48, by omega, by go_num, by go_num, rfl, rfl, by omega, dec_step s k v hlt hv0 HV.out HD.out⟩
        case measure => simp [intOf]; omega
      · exfalso; have := dig_bounds HD.out; omega
    · go_wp2
      go_ret2
      have e : v = (V : Int) := by
        have h := HV.out
        rw [List.take_of_length_le (by rw [← Lib.size_eq]; omega)] at h
        have := Option.some.inj (h.symm.trans hV.out)
        omega
      exact ⟨ret_pair (by rw [e]) rfl, rfl⟩

set_option maxRecDepth 100000 in
set_option maxHeartbeats 1000000 in
theorem number_badZ (s : ByteArray) (w : World) (hs : s.size ≤ 1) (h3 : s.toList.isEmpty = false) (h4 : s.size ≤ 13) (h5 : 0 < s.size) (h6 : (s[0].toNat : Int) = 48) (hV : Hid (allDig s.data.toList = false)) :
    Calls Tryd.prog 35 #[.string s, .int .i64 13] w fun e w' => e = .returned (.tuple #[.int .i64 0, .bool false]) ∧ w' = w := by
  go_enter Tryd.func35, Tryd.ntmps35
  go_wp2
  go_loop [4, 5, 7, 8] (fun r4 r5 n i => ∃ (k : Nat) (v : Int), k ≤ s.size ∧ i = .int .i64 k ∧ n = .int .i64 v ∧ r4 = .int .i64 0 ∧ r5 = .bool false ∧ 0 ≤ v ∧ Lib.decFrom 0 (s.data.toList.take k) = some v.toNat) (fun _ _ _ i => s.size - (intOf i).toNat)
  case atStart => exact ⟨0, 0, Nat.zero_le _, rfl, rfl, rfl, rfl, Int.le_refl 0, rfl⟩
  case round =>
    obtain ⟨k, v, hk, rfl, rfl, rfl, rfl, hv0, hv⟩ := hrel
    have hb : v < 10000000000000 := by have := dec_bound s k v.toNat h4 hk hv; omega
    have HV : Hid (Lib.decFrom 0 (s.data.toList.take k) = some v.toNat) := hv
    clear hv
    (try clear h6)
    (try clear h2)
    (try clear h3)
    by_cases hlt : k < s.size
    · go_wp2
      · go_ret2
        exact ⟨rfl, rfl⟩
      · go_round
        case rel => exact ⟨k + 1, v * 10 + s[k].toNat - 48, by omega, by go_num, by go_num, rfl, rfl, by omega, dec_step s k v hlt hv0 HV.out (isDig_yes (by omega) (by omega))⟩
        case measure => simp [intOf]; omega
      · go_ret2
        exact ⟨rfl, rfl⟩
    · exfalso
      have e : k = s.size := by omega
      subst e
      have := all_of_dec s v.toNat HV.out
      rw [hV.out] at this
      cases this

set_option maxRecDepth 100000 in
set_option maxHeartbeats 1000000 in
theorem number_okB (s : ByteArray) (V : Nat) (w : World) (hs : s.size ≤ maxLen) (h1 : 1 < s.size) (h2 : ((s[0].toNat : Int) == 45) = false) (h3 : s.toList.isEmpty = false) (h4 : s.size ≤ 13) (h6 : ((s[0].toNat : Int) == 48) = false) (hV : Hid (Lib.decFrom 0 s.data.toList = some V)) :
    Calls Tryd.prog 35 #[.string s, .int .i64 13] w fun e w' => e = .returned (.tuple #[.int .i64 (V : Int), .bool true]) ∧ w' = w := by
  unfold maxLen at hs
  go_enter Tryd.func35, Tryd.ntmps35
  go_wp2
  go_loop [4, 5, 7, 8] (fun r4 r5 n i => ∃ (k : Nat) (v : Int), k ≤ s.size ∧ i = .int .i64 k ∧ n = .int .i64 v ∧ r4 = .int .i64 0 ∧ r5 = .bool false ∧ 0 ≤ v ∧ Lib.decFrom 0 (s.data.toList.take k) = some v.toNat) (fun _ _ _ i => s.size - (intOf i).toNat)
  case atStart => exact ⟨0, 0, Nat.zero_le _, rfl, rfl, rfl, rfl, Int.le_refl 0, rfl⟩
  case round =>
    obtain ⟨k, v, hk, rfl, rfl, rfl, rfl, hv0, hv⟩ := hrel
    have hb : v < 10000000000000 := by have := dec_bound s k v.toNat h4 hk hv; omega
    have HV : Hid (Lib.decFrom 0 (s.data.toList.take k) = some v.toNat) := hv
    clear hv
    (try clear h6)
    (try clear h2)
    (try clear h3)
    by_cases hlt : k < s.size
    · have HD : Hid (isDig s[k] = true) := dig_of_dec s V k hV.out hlt
      go_wp2
      · exfalso; have := dig_bounds HD.out; omega
      · go_round
        case rel => exact ⟨k + 1, v * 10 + s[k].toNat - 48, by omega, by go_num, by go_num, rfl, rfl, by omega, dec_step s k v hlt hv0 HV.out HD.out⟩
        case measure => simp [intOf]; omega
      · exfalso; have := dig_bounds HD.out; omega
    · go_wp2
      go_ret2
      have e : v = (V : Int) := by
        have h := HV.out
        rw [List.take_of_length_le (by rw [← Lib.size_eq]; omega)] at h
        have := Option.some.inj (h.symm.trans hV.out)
        omega
      exact ⟨ret_pair (by rw [e]) rfl, rfl⟩

set_option maxRecDepth 100000 in
set_option maxHeartbeats 1000000 in
theorem number_badB (s : ByteArray) (w : World) (hs : s.size ≤ maxLen) (h1 : 1 < s.size) (h2 : ((s[0].toNat : Int) == 45) = false) (h3 : s.toList.isEmpty = false) (h4 : s.size ≤ 13) (h6 : ((s[0].toNat : Int) == 48) = false) (hV : Hid (allDig s.data.toList = false)) :
    Calls Tryd.prog 35 #[.string s, .int .i64 13] w fun e w' => e = .returned (.tuple #[.int .i64 0, .bool false]) ∧ w' = w := by
  unfold maxLen at hs
  go_enter Tryd.func35, Tryd.ntmps35
  go_wp2
  go_loop [4, 5, 7, 8] (fun r4 r5 n i => ∃ (k : Nat) (v : Int), k ≤ s.size ∧ i = .int .i64 k ∧ n = .int .i64 v ∧ r4 = .int .i64 0 ∧ r5 = .bool false ∧ 0 ≤ v ∧ Lib.decFrom 0 (s.data.toList.take k) = some v.toNat) (fun _ _ _ i => s.size - (intOf i).toNat)
  case atStart => exact ⟨0, 0, Nat.zero_le _, rfl, rfl, rfl, rfl, Int.le_refl 0, rfl⟩
  case round =>
    obtain ⟨k, v, hk, rfl, rfl, rfl, rfl, hv0, hv⟩ := hrel
    have hb : v < 10000000000000 := by have := dec_bound s k v.toNat h4 hk hv; omega
    have HV : Hid (Lib.decFrom 0 (s.data.toList.take k) = some v.toNat) := hv
    clear hv
    (try clear h6)
    (try clear h2)
    (try clear h3)
    by_cases hlt : k < s.size
    · go_wp2
      · go_ret2
        exact ⟨rfl, rfl⟩
      · go_round
        case rel => exact ⟨k + 1, v * 10 + s[k].toNat - 48, by omega, by go_num, by go_num, rfl, rfl, by omega, dec_step s k v hlt hv0 HV.out (isDig_yes (by omega) (by omega))⟩
        case measure => simp [intOf]; omega
      · go_ret2
        exact ⟨rfl, rfl⟩
    · exfalso
      have e : k = s.size := by omega
      subst e
      have := all_of_dec s v.toNat HV.out
      rw [hV.out] at this
      cases this

end Go.Proofs.YtonlhhkepclnpaaDoor
