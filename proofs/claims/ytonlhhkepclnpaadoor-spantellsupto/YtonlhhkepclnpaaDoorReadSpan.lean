/- noonref1.ReadSpan and package span's Parse agree at every text: what is read, and which error. -/
import Derived.Test.YtonlhhkepclnpaaDoorNumber2
namespace Go.Proofs.YtonlhhkepclnpaaDoor
open Go.ChangeShapes Go.WideShapes Go.ChangeAt Go.RowKit Go.Joins
set_option linter.unusedVariables false

theorem occ_iff (s : ByteArray) (k : Nat) : Lib.occAt s.data.toList [46, 46] k = true ↔ ∃ h : k + 1 < s.size, s[k] = 46 ∧ s[k + 1] = 46 := by
  unfold Lib.occAt
  constructor
  · intro h
    obtain ⟨t, ht⟩ := List.isPrefixOf_iff_prefix.1 h
    have hlen := congrArg List.length ht
    simp only [List.length_append, List.length_cons, List.length_nil, List.length_drop] at hlen
    rw [← Lib.size_eq] at hlen
    have hk : k + 1 < s.size := by omega
    refine ⟨hk, ?_, ?_⟩
    · have : s.data.toList[k]'(by rw [← Lib.size_eq]; omega) = 46 := by
        have h2 : (s.data.toList.drop k)[0]? = some 46 := by rw [← ht]; rfl
        rw [List.getElem?_drop, Nat.add_zero] at h2
        exact (List.getElem?_eq_some_iff.1 h2).2
      exact this
    · have : s.data.toList[k + 1]'(by rw [← Lib.size_eq]; omega) = 46 := by
        have h2 : (s.data.toList.drop k)[1]? = some 46 := by rw [← ht]; rfl
        rw [List.getElem?_drop] at h2
        exact (List.getElem?_eq_some_iff.1 h2).2
      exact this
  · rintro ⟨hk, h1, h2⟩
    have e1 : s.data.toList[k]'(by rw [← Lib.size_eq]; omega) = 46 := h1
    have e2 : s.data.toList[k + 1]'(by rw [← Lib.size_eq]; omega) = 46 := h2
    rw [List.drop_eq_getElem_cons (by rw [← Lib.size_eq]; omega), List.drop_eq_getElem_cons (by rw [← Lib.size_eq]; omega), e1, e2]
    simp [List.isPrefixOf]

theorem occ_end (s : ByteArray) (j : Nat) (h : s.size ≤ j + 1) : Lib.occAt s.data.toList [46, 46] j = false := by
  cases e : Lib.occAt s.data.toList [46, 46] j with
  | false => rfl
  | true => obtain ⟨h2, _⟩ := (occ_iff s j).1 e; omega

theorem cut_at (s : ByteArray) (k : Nat) (h : k + 1 < s.size) (h1 : s[k] = 46) (h2 : s[k + 1] = 46) (hn : ∀ j, j < k → Lib.occAt s.data.toList [46, 46] j = false) :
    Lib.cut s.data.toList [46, 46] = (s.data.toList.take k, s.data.toList.drop (k + 2), true) := by
  have hi : Lib.index s.data.toList [46, 46] = (k : Nat) := Lib.index_first (by rw [← Lib.size_eq]; omega) ((occ_iff s k).2 ⟨h, h1, h2⟩) hn
  unfold Lib.cut
  rw [hi, if_pos (by omega)]
  rfl

theorem cut_never (s : ByteArray) (k : Nat) (h : s.size ≤ k + 1) (hn : ∀ j, j < k → Lib.occAt s.data.toList [46, 46] j = false) : (Lib.cut s.data.toList [46, 46]).2.2 = false := by
  have hi : Lib.index s.data.toList [46, 46] = -1 := Lib.index_none fun j _ => by
    by_cases hj : j < k
    · exact hn j hj
    · exact occ_end s j (by omega)
  unfold Lib.cut
  rw [hi]
  rfl

theorem byte_of {b : UInt8} (h : b = 46) : (b.toNat : Int) = 46 := by rw [h]; rfl
theorem byte_ne {b : UInt8} (h : b ≠ 46) : ((b.toNat : Int) != 46) = true := by
  rw [bne_iff_ne]
  intro e
  apply h
  apply UInt8.toNat_inj.1
  show b.toNat = 46
  omega

theorem noc_succ (s : ByteArray) (k : Nat) (hn : ∀ j, j < k → Lib.occAt s.data.toList [46, 46] j = false) (h : ¬ ∃ h : k + 1 < s.size, s[k] = 46 ∧ s[k + 1] = 46) : ∀ j, j < k + 1 → Lib.occAt s.data.toList [46, 46] j = false := by
  intro j hj
  by_cases e : j = k
  · subst e
    cases e2 : Lib.occAt s.data.toList [46, 46] j with
    | false => rfl
    | true => exact absurd ((occ_iff s j).1 e2) h
  · exact hn j (by omega)

set_option maxRecDepth 100000 in
set_option maxHeartbeats 1000000 in
theorem readSpan_cut (s a b : ByteArray) (w : World) (hs : s.size < 4294967281) (ha : Hid (a.data.toList = (Lib.cut s.data.toList [46, 46]).1)) (hb : Hid (b.data.toList = (Lib.cut s.data.toList [46, 46]).2.1)) (hf : Hid ((Lib.cut s.data.toList [46, 46]).2.2 = false)) (la : a.size ≤ maxLen) (lb : b.size ≤ maxLen) :
    Calls Tryd.prog 21 #[.string s] w fun e w' => e = .returned (.tuple #[.agg #[.int .i64 0, .int .i64 0], .int .i64 2]) ∧ Below w.heap.size w w' := by
  have cnt : Mark 0 := .mk _
  go_enter Tryd.func21, Tryd.ntmps21
  go_wp2
  go_loop [4] (fun i => ∃ k : Nat, k ≤ s.size ∧ i = .int .i64 k ∧ ∀ j, j < k → Lib.occAt s.data.toList [46, 46] j = false) (fun i => s.size - (intOf i).toNat)
  case atStart => exact ⟨0, Nat.zero_le _, rfl, fun j hj => by omega⟩
  case round =>
    obtain ⟨k, hk, rfl, hn⟩ := hrel
    have HN : Hid (∀ j, j < k → Lib.occAt s.data.toList [46, 46] j = false) := hn
    clear hn
    by_cases hlt : k + 1 < s.size
    · by_cases hocc : ∃ h : k + 1 < s.size, s[k] = 46 ∧ s[k + 1] = 46
      · exfalso
        obtain ⟨hk1, b1, b2⟩ := hocc
        have hcut := cut_at s k hk1 b1 b2 HN.out
        have h := hf.out
        rw [hcut] at h
        cases h
      · have HO : Hid (¬ ∃ h : k + 1 < s.size, s[k] = 46 ∧ s[k + 1] = 46) := hocc
        by_cases b1 : s[k] = 46
        · have b2 : s[k + 1] ≠ 46 := fun e => hocc ⟨hlt, b1, e⟩
          have c1 := byte_of b1
          have c2 := byte_ne b2
          clear b1 b2 hocc
          go_wp2
          go_round
          case rel => exact ⟨k + 1, by omega, by go_num, noc_succ s k HN.out HO.out⟩
          case measure => simp [intOf]; omega
        · have c1 := byte_ne b1
          clear b1 hocc
          go_wp2
          go_round
          case rel => exact ⟨k + 1, by omega, by go_num, noc_succ s k HN.out HO.out⟩
          case measure => simp [intOf]; omega
    · go_wp2
      exact bodyPost_ret (v := _) (by simp [results, Tryd.results21, go_sem, *]) rfl ⟨rfl, by (repeat (first | exact Below.refl _ _ | refine Below.alloc ?_ (by first | (simp; done) | (simp; omega) | omega) _ | refine Below.setCell ?_ (by first | (simp; done) | (simp; omega) | omega) _ | refine below_tr (by assumption) ?_))⟩

set_option maxRecDepth 100000 in
set_option maxHeartbeats 1000000 in
theorem readSpan_nn (s a b : ByteArray) (w : World) (hs : s.size < 4294967281) (ha : Hid (a.data.toList = (Lib.cut s.data.toList [46, 46]).1)) (hb : Hid (b.data.toList = (Lib.cut s.data.toList [46, 46]).2.1)) (hf : Hid ((Lib.cut s.data.toList [46, 46]).2.2 = true)) (la : a.size ≤ maxLen) (lb : b.size ≤ maxLen) (h1 : Hid (readNum a.data.toList = none)) (h2 : Hid (readNum b.data.toList = none)) :
    Calls Tryd.prog 21 #[.string s] w fun e w' => e = .returned (.tuple #[.agg #[.int .i64 0, .int .i64 0], .int .i64 2]) ∧ Below w.heap.size w w' := by
  have cnt : Mark 0 := .mk _
  go_enter Tryd.func21, Tryd.ntmps21
  go_wp2
  go_loop [4] (fun i => ∃ k : Nat, k ≤ s.size ∧ i = .int .i64 k ∧ ∀ j, j < k → Lib.occAt s.data.toList [46, 46] j = false) (fun i => s.size - (intOf i).toNat)
  case atStart => exact ⟨0, Nat.zero_le _, rfl, fun j hj => by omega⟩
  case round =>
    obtain ⟨k, hk, rfl, hn⟩ := hrel
    have HN : Hid (∀ j, j < k → Lib.occAt s.data.toList [46, 46] j = false) := hn
    clear hn
    by_cases hlt : k + 1 < s.size
    · by_cases hocc : ∃ h : k + 1 < s.size, s[k] = 46 ∧ s[k + 1] = 46
      · obtain ⟨hk1, b1, b2⟩ := hocc
        have hcut := cut_at s k hk1 b1 b2 HN.out
        have eA : s.extract 0 k = a := by
          apply ByteArray.ext
          apply Array.toList_inj.1
          rw [Lib.extract_data, List.drop_zero, Nat.sub_zero, ha.out, hcut]
        have eB : s.extract (k + 2) s.size = b := by
          apply ByteArray.ext
          apply Array.toList_inj.1
          rw [Lib.extract_to_end, hb.out, hcut]
        have c1 := byte_of b1
        have c2 := byte_of b2
        clear b1 b2 hcut
        go_wp2_with (first | (go_at_call 35; have cq : Mark 0 := cnt; refine (number_none a _ la h1.out).mono ?_; clear cq cnt; have cnt : Mark 1 := .mk _; rintro e u0 ⟨rfl, rfl⟩) | (go_at_call 35; have cq : Mark 1 := cnt; refine (number_none b _ lb h2.out).mono ?_; clear cq cnt; have cnt : Mark 2 := .mk _; rintro e u1 ⟨rfl, rfl⟩))
        exact bodyPost_ret (v := _) (by simp [results, Tryd.results21, go_sem, *]) rfl ⟨rfl, by (repeat (first | exact Below.refl _ _ | refine Below.alloc ?_ (by first | (simp; done) | (simp; omega) | omega) _ | refine Below.setCell ?_ (by first | (simp; done) | (simp; omega) | omega) _ | refine below_tr (by assumption) ?_))⟩
      · have HO : Hid (¬ ∃ h : k + 1 < s.size, s[k] = 46 ∧ s[k + 1] = 46) := hocc
        by_cases b1 : s[k] = 46
        · have b2 : s[k + 1] ≠ 46 := fun e => hocc ⟨hlt, b1, e⟩
          have c1 := byte_of b1
          have c2 := byte_ne b2
          clear b1 b2 hocc
          go_wp2
          go_round
          case rel => exact ⟨k + 1, by omega, by go_num, noc_succ s k HN.out HO.out⟩
          case measure => simp [intOf]; omega
        · have c1 := byte_ne b1
          clear b1 hocc
          go_wp2
          go_round
          case rel => exact ⟨k + 1, by omega, by go_num, noc_succ s k HN.out HO.out⟩
          case measure => simp [intOf]; omega
    · exfalso
      have h := cut_never s k (by omega) HN.out
      rw [hf.out] at h
      cases h

set_option maxRecDepth 100000 in
set_option maxHeartbeats 1000000 in
theorem readSpan_ns (s a b : ByteArray) (y : Int) (w : World) (hs : s.size < 4294967281) (ha : Hid (a.data.toList = (Lib.cut s.data.toList [46, 46]).1)) (hb : Hid (b.data.toList = (Lib.cut s.data.toList [46, 46]).2.1)) (hf : Hid ((Lib.cut s.data.toList [46, 46]).2.2 = true)) (la : a.size ≤ maxLen) (lb : b.size ≤ maxLen) (h1 : Hid (readNum a.data.toList = none)) (h2 : Hid (readNum b.data.toList = some y)) :
    Calls Tryd.prog 21 #[.string s] w fun e w' => e = .returned (.tuple #[.agg #[.int .i64 0, .int .i64 0], .int .i64 2]) ∧ Below w.heap.size w w' := by
  have cnt : Mark 0 := .mk _
  go_enter Tryd.func21, Tryd.ntmps21
  go_wp2
  go_loop [4] (fun i => ∃ k : Nat, k ≤ s.size ∧ i = .int .i64 k ∧ ∀ j, j < k → Lib.occAt s.data.toList [46, 46] j = false) (fun i => s.size - (intOf i).toNat)
  case atStart => exact ⟨0, Nat.zero_le _, rfl, fun j hj => by omega⟩
  case round =>
    obtain ⟨k, hk, rfl, hn⟩ := hrel
    have HN : Hid (∀ j, j < k → Lib.occAt s.data.toList [46, 46] j = false) := hn
    clear hn
    by_cases hlt : k + 1 < s.size
    · by_cases hocc : ∃ h : k + 1 < s.size, s[k] = 46 ∧ s[k + 1] = 46
      · obtain ⟨hk1, b1, b2⟩ := hocc
        have hcut := cut_at s k hk1 b1 b2 HN.out
        have eA : s.extract 0 k = a := by
          apply ByteArray.ext
          apply Array.toList_inj.1
          rw [Lib.extract_data, List.drop_zero, Nat.sub_zero, ha.out, hcut]
        have eB : s.extract (k + 2) s.size = b := by
          apply ByteArray.ext
          apply Array.toList_inj.1
          rw [Lib.extract_to_end, hb.out, hcut]
        have c1 := byte_of b1
        have c2 := byte_of b2
        clear b1 b2 hcut
        go_wp2_with (first | (go_at_call 35; have cq : Mark 0 := cnt; refine (number_none a _ la h1.out).mono ?_; clear cq cnt; have cnt : Mark 1 := .mk _; rintro e u0 ⟨rfl, rfl⟩) | (go_at_call 35; have cq : Mark 1 := cnt; refine (number_some b y _ lb h2.out).mono ?_; clear cq cnt; have cnt : Mark 2 := .mk _; rintro e u1 ⟨rfl, rfl⟩))
        exact bodyPost_ret (v := _) (by simp [results, Tryd.results21, go_sem, *]) rfl ⟨rfl, by (repeat (first | exact Below.refl _ _ | refine Below.alloc ?_ (by first | (simp; done) | (simp; omega) | omega) _ | refine Below.setCell ?_ (by first | (simp; done) | (simp; omega) | omega) _ | refine below_tr (by assumption) ?_))⟩
      · have HO : Hid (¬ ∃ h : k + 1 < s.size, s[k] = 46 ∧ s[k + 1] = 46) := hocc
        by_cases b1 : s[k] = 46
        · have b2 : s[k + 1] ≠ 46 := fun e => hocc ⟨hlt, b1, e⟩
          have c1 := byte_of b1
          have c2 := byte_ne b2
          clear b1 b2 hocc
          go_wp2
          go_round
          case rel => exact ⟨k + 1, by omega, by go_num, noc_succ s k HN.out HO.out⟩
          case measure => simp [intOf]; omega
        · have c1 := byte_ne b1
          clear b1 hocc
          go_wp2
          go_round
          case rel => exact ⟨k + 1, by omega, by go_num, noc_succ s k HN.out HO.out⟩
          case measure => simp [intOf]; omega
    · exfalso
      have h := cut_never s k (by omega) HN.out
      rw [hf.out] at h
      cases h

set_option maxRecDepth 100000 in
set_option maxHeartbeats 1000000 in
theorem readSpan_sn (s a b : ByteArray) (x : Int) (w : World) (hs : s.size < 4294967281) (ha : Hid (a.data.toList = (Lib.cut s.data.toList [46, 46]).1)) (hb : Hid (b.data.toList = (Lib.cut s.data.toList [46, 46]).2.1)) (hf : Hid ((Lib.cut s.data.toList [46, 46]).2.2 = true)) (la : a.size ≤ maxLen) (lb : b.size ≤ maxLen) (h1 : Hid (readNum a.data.toList = some x)) (h2 : Hid (readNum b.data.toList = none)) :
    Calls Tryd.prog 21 #[.string s] w fun e w' => e = .returned (.tuple #[.agg #[.int .i64 0, .int .i64 0], .int .i64 2]) ∧ Below w.heap.size w w' := by
  have cnt : Mark 0 := .mk _
  go_enter Tryd.func21, Tryd.ntmps21
  go_wp2
  go_loop [4] (fun i => ∃ k : Nat, k ≤ s.size ∧ i = .int .i64 k ∧ ∀ j, j < k → Lib.occAt s.data.toList [46, 46] j = false) (fun i => s.size - (intOf i).toNat)
  case atStart => exact ⟨0, Nat.zero_le _, rfl, fun j hj => by omega⟩
  case round =>
    obtain ⟨k, hk, rfl, hn⟩ := hrel
    have HN : Hid (∀ j, j < k → Lib.occAt s.data.toList [46, 46] j = false) := hn
    clear hn
    by_cases hlt : k + 1 < s.size
    · by_cases hocc : ∃ h : k + 1 < s.size, s[k] = 46 ∧ s[k + 1] = 46
      · obtain ⟨hk1, b1, b2⟩ := hocc
        have hcut := cut_at s k hk1 b1 b2 HN.out
        have eA : s.extract 0 k = a := by
          apply ByteArray.ext
          apply Array.toList_inj.1
          rw [Lib.extract_data, List.drop_zero, Nat.sub_zero, ha.out, hcut]
        have eB : s.extract (k + 2) s.size = b := by
          apply ByteArray.ext
          apply Array.toList_inj.1
          rw [Lib.extract_to_end, hb.out, hcut]
        have c1 := byte_of b1
        have c2 := byte_of b2
        clear b1 b2 hcut
        go_wp2_with (first | (go_at_call 35; have cq : Mark 0 := cnt; refine (number_some a x _ la h1.out).mono ?_; clear cq cnt; have cnt : Mark 1 := .mk _; rintro e u0 ⟨rfl, rfl⟩) | (go_at_call 35; have cq : Mark 1 := cnt; refine (number_none b _ lb h2.out).mono ?_; clear cq cnt; have cnt : Mark 2 := .mk _; rintro e u1 ⟨rfl, rfl⟩))
        exact bodyPost_ret (v := _) (by simp [results, Tryd.results21, go_sem, *]) rfl ⟨rfl, by (repeat (first | exact Below.refl _ _ | refine Below.alloc ?_ (by first | (simp; done) | (simp; omega) | omega) _ | refine Below.setCell ?_ (by first | (simp; done) | (simp; omega) | omega) _ | refine below_tr (by assumption) ?_))⟩
      · have HO : Hid (¬ ∃ h : k + 1 < s.size, s[k] = 46 ∧ s[k + 1] = 46) := hocc
        by_cases b1 : s[k] = 46
        · have b2 : s[k + 1] ≠ 46 := fun e => hocc ⟨hlt, b1, e⟩
          have c1 := byte_of b1
          have c2 := byte_ne b2
          clear b1 b2 hocc
          go_wp2
          go_round
          case rel => exact ⟨k + 1, by omega, by go_num, noc_succ s k HN.out HO.out⟩
          case measure => simp [intOf]; omega
        · have c1 := byte_ne b1
          clear b1 hocc
          go_wp2
          go_round
          case rel => exact ⟨k + 1, by omega, by go_num, noc_succ s k HN.out HO.out⟩
          case measure => simp [intOf]; omega
    · exfalso
      have h := cut_never s k (by omega) HN.out
      rw [hf.out] at h
      cases h

set_option maxRecDepth 100000 in
set_option maxHeartbeats 1000000 in
theorem readSpan_out (s a b : ByteArray) (x y : Int) (w : World) (hs : s.size < 4294967281) (ha : Hid (a.data.toList = (Lib.cut s.data.toList [46, 46]).1)) (hb : Hid (b.data.toList = (Lib.cut s.data.toList [46, 46]).2.1)) (hf : Hid ((Lib.cut s.data.toList [46, 46]).2.2 = true)) (la : a.size ≤ maxLen) (lb : b.size ≤ maxLen) (h1 : Hid (readNum a.data.toList = some x)) (h2 : Hid (readNum b.data.toList = some y)) (h3 : okB x y = false) :
    Calls Tryd.prog 21 #[.string s] w fun e w' => e = .returned (.tuple #[.agg #[.int .i64 0, .int .i64 0], .int .i64 1]) ∧ Below w.heap.size w w' := by
  have cnt : Mark 0 := .mk _
  go_enter Tryd.func21, Tryd.ntmps21
  go_wp2
  go_loop [4] (fun i => ∃ k : Nat, k ≤ s.size ∧ i = .int .i64 k ∧ ∀ j, j < k → Lib.occAt s.data.toList [46, 46] j = false) (fun i => s.size - (intOf i).toNat)
  case atStart => exact ⟨0, Nat.zero_le _, rfl, fun j hj => by omega⟩
  case round =>
    obtain ⟨k, hk, rfl, hn⟩ := hrel
    have HN : Hid (∀ j, j < k → Lib.occAt s.data.toList [46, 46] j = false) := hn
    clear hn
    by_cases hlt : k + 1 < s.size
    · by_cases hocc : ∃ h : k + 1 < s.size, s[k] = 46 ∧ s[k + 1] = 46
      · obtain ⟨hk1, b1, b2⟩ := hocc
        have hcut := cut_at s k hk1 b1 b2 HN.out
        have eA : s.extract 0 k = a := by
          apply ByteArray.ext
          apply Array.toList_inj.1
          rw [Lib.extract_data, List.drop_zero, Nat.sub_zero, ha.out, hcut]
        have eB : s.extract (k + 2) s.size = b := by
          apply ByteArray.ext
          apply Array.toList_inj.1
          rw [Lib.extract_to_end, hb.out, hcut]
        have c1 := byte_of b1
        have c2 := byte_of b2
        clear b1 b2 hcut
        go_wp2_with (first | (go_at_call 35; have cq : Mark 0 := cnt; refine (number_some a x _ la h1.out).mono ?_; clear cq cnt; have cnt : Mark 1 := .mk _; rintro e u0 ⟨rfl, rfl⟩) | (go_at_call 35; have cq : Mark 1 := cnt; refine (number_some b y _ lb h2.out).mono ?_; clear cq cnt; have cnt : Mark 2 := .mk _; rintro e u1 ⟨rfl, rfl⟩) | (go_at_call 6; have cq : Mark 2 := cnt; refine (rspan_any x y _).mono ?_; clear cq cnt; have cnt : Mark 3 := .mk _; rintro e u2 ⟨rfl, hb2⟩; obtain ⟨hc2, hf2⟩ := bcell hb2; have hz2 := hb2.size; (try simp only [World.size_alloc, Nat.add_one_le_iff] at hz2); (try (have zq : w.heap.size < u2.heap.size := by omega)); have r0 : u2.cell? ⟨w.heap.size, 0, none⟩ = some (.int .i64 0) := (by rw [hc2 _ _ (by first | (simp; done) | (simp; omega))]; simp [go_sem]); have r1 : u2.cell? ⟨w.heap.size, 1, none⟩ = some (.int .i64 0) := (by rw [hc2 _ _ (by first | (simp; done) | (simp; omega))]; simp [go_sem])))
        exact bodyPost_ret (v := _) (by simp [results, Tryd.results21, go_sem, *]) rfl ⟨rfl, by (repeat (first | exact Below.refl _ _ | refine Below.alloc ?_ (by first | (simp; done) | (simp; omega) | omega) _ | refine Below.setCell ?_ (by first | (simp; done) | (simp; omega) | omega) _ | refine below_tr (by assumption) ?_))⟩
      · have HO : Hid (¬ ∃ h : k + 1 < s.size, s[k] = 46 ∧ s[k + 1] = 46) := hocc
        by_cases b1 : s[k] = 46
        · have b2 : s[k + 1] ≠ 46 := fun e => hocc ⟨hlt, b1, e⟩
          have c1 := byte_of b1
          have c2 := byte_ne b2
          clear b1 b2 hocc
          go_wp2
          go_round
          case rel => exact ⟨k + 1, by omega, by go_num, noc_succ s k HN.out HO.out⟩
          case measure => simp [intOf]; omega
        · have c1 := byte_ne b1
          clear b1 hocc
          go_wp2
          go_round
          case rel => exact ⟨k + 1, by omega, by go_num, noc_succ s k HN.out HO.out⟩
          case measure => simp [intOf]; omega
    · exfalso
      have h := cut_never s k (by omega) HN.out
      rw [hf.out] at h
      cases h

set_option maxRecDepth 100000 in
set_option maxHeartbeats 1000000 in
theorem readSpan_in (s a b : ByteArray) (x y : Int) (w : World) (hs : s.size < 4294967281) (ha : Hid (a.data.toList = (Lib.cut s.data.toList [46, 46]).1)) (hb : Hid (b.data.toList = (Lib.cut s.data.toList [46, 46]).2.1)) (hf : Hid ((Lib.cut s.data.toList [46, 46]).2.2 = true)) (la : a.size ≤ maxLen) (lb : b.size ≤ maxLen) (h1 : Hid (readNum a.data.toList = some x)) (h2 : Hid (readNum b.data.toList = some y)) (h3 : okB x y = true) :
    Calls Tryd.prog 21 #[.string s] w fun e w' => e = .returned (.tuple #[.agg #[.int .i64 x, .int .i64 y], .int .i64 0]) ∧ Below w.heap.size w w' := by
  have cnt : Mark 0 := .mk _
  go_enter Tryd.func21, Tryd.ntmps21
  go_wp2
  go_loop [4] (fun i => ∃ k : Nat, k ≤ s.size ∧ i = .int .i64 k ∧ ∀ j, j < k → Lib.occAt s.data.toList [46, 46] j = false) (fun i => s.size - (intOf i).toNat)
  case atStart => exact ⟨0, Nat.zero_le _, rfl, fun j hj => by omega⟩
  case round =>
    obtain ⟨k, hk, rfl, hn⟩ := hrel
    have HN : Hid (∀ j, j < k → Lib.occAt s.data.toList [46, 46] j = false) := hn
    clear hn
    by_cases hlt : k + 1 < s.size
    · by_cases hocc : ∃ h : k + 1 < s.size, s[k] = 46 ∧ s[k + 1] = 46
      · obtain ⟨hk1, b1, b2⟩ := hocc
        have hcut := cut_at s k hk1 b1 b2 HN.out
        have eA : s.extract 0 k = a := by
          apply ByteArray.ext
          apply Array.toList_inj.1
          rw [Lib.extract_data, List.drop_zero, Nat.sub_zero, ha.out, hcut]
        have eB : s.extract (k + 2) s.size = b := by
          apply ByteArray.ext
          apply Array.toList_inj.1
          rw [Lib.extract_to_end, hb.out, hcut]
        have c1 := byte_of b1
        have c2 := byte_of b2
        clear b1 b2 hcut
        go_wp2_with (first | (go_at_call 35; have cq : Mark 0 := cnt; refine (number_some a x _ la h1.out).mono ?_; clear cq cnt; have cnt : Mark 1 := .mk _; rintro e u0 ⟨rfl, rfl⟩) | (go_at_call 35; have cq : Mark 1 := cnt; refine (number_some b y _ lb h2.out).mono ?_; clear cq cnt; have cnt : Mark 2 := .mk _; rintro e u1 ⟨rfl, rfl⟩) | (go_at_call 6; have cq : Mark 2 := cnt; refine (rspan_any x y _).mono ?_; clear cq cnt; have cnt : Mark 3 := .mk _; rintro e u2 ⟨rfl, hb2⟩; obtain ⟨hc2, hf2⟩ := bcell hb2; have hz2 := hb2.size; (try simp only [World.size_alloc, Nat.add_one_le_iff] at hz2); (try (have zq : w.heap.size < u2.heap.size := by omega)); have r0 : u2.cell? ⟨w.heap.size, 0, none⟩ = some (.int .i64 0) := (by rw [hc2 _ _ (by first | (simp; done) | (simp; omega))]; simp [go_sem]); have r1 : u2.cell? ⟨w.heap.size, 1, none⟩ = some (.int .i64 0) := (by rw [hc2 _ _ (by first | (simp; done) | (simp; omega))]; simp [go_sem])))
        exact bodyPost_ret (v := _) (by simp [results, Tryd.results21, go_sem, *]) rfl ⟨rfl, by (repeat (first | exact Below.refl _ _ | refine Below.alloc ?_ (by first | (simp; done) | (simp; omega) | omega) _ | refine Below.setCell ?_ (by first | (simp; done) | (simp; omega) | omega) _ | refine below_tr (by assumption) ?_))⟩
      · have HO : Hid (¬ ∃ h : k + 1 < s.size, s[k] = 46 ∧ s[k + 1] = 46) := hocc
        by_cases b1 : s[k] = 46
        · have b2 : s[k + 1] ≠ 46 := fun e => hocc ⟨hlt, b1, e⟩
          have c1 := byte_of b1
          have c2 := byte_ne b2
          clear b1 b2 hocc
          go_wp2
          go_round
          case rel => exact ⟨k + 1, by omega, by go_num, noc_succ s k HN.out HO.out⟩
          case measure => simp [intOf]; omega
        · have c1 := byte_ne b1
          clear b1 hocc
          go_wp2
          go_round
          case rel => exact ⟨k + 1, by omega, by go_num, noc_succ s k HN.out HO.out⟩
          case measure => simp [intOf]; omega
    · exfalso
      have h := cut_never s k (by omega) HN.out
      rw [hf.out] at h
      cases h

end Go.Proofs.YtonlhhkepclnpaaDoor
