/- What the document's own reckoning (package noonref2) answers of bytes: six, time. -/
import Derived.Test.YtfmaoblhoafnhaiDoorWireOwn
import Derived.Laws.IdiomStrings
import Derived.BigQuiet
import Derived.IntWalk
namespace Go.Proofs.YtfmaoblhoafnhaiDoor
open Go.ChangeShapes Go.WideShapes Go.ChangeAt Go.RowKit Go.Joins
set_option linter.unusedVariables false
set_option linter.unusedSimpArgs false

set_option maxRecDepth 100000 in
set_option maxHeartbeats 8000000 in
theorem rsix (v : Value) (base : Nat) (l : List UInt8) (n : Nat) (u : World) (hl : l.length ≤ 100) (hn : n < 281474976710656) (hb : base ≤ u.heap.size) (ho : OwB u base v l) :
    Calls Tryd.prog 19 #[v, .int .i64 n] u fun o w' => ∃ v', o = .returned v' ∧ OwB w' base v' (l ++ six n) ∧ Below base u w' := by
  obtain ⟨i0, hi0, hz0, hz1, hz2⟩ := info_parts infoByte
  have HO : Hid (OwB u base v (l ++ (six n).take 0)) := by
    show OwB u base v (l ++ (six n).take 0)
    rw [List.take_zero, List.append_nil]
    exact ho
  have HB : Hid (Below base u u) := Below.refl _ _
  have eK : kk 0 = 1099511627776 := rfl
  clear ho
  go_enter Tryd.func19, Tryd.ntmps19
  go_wp2
  go_loopw [0, 5, 6] (fun vb vk vi wr => ∃ i : Nat, i ≤ 6 ∧ vi = .int .i64 i ∧ vk = .int .i64 (kk i) ∧ OwB wr base vb (l ++ (six n).take i) ∧ Below base u wr) (fun _ _ i _ => 6 - (intOf i).toNat)
  case atStart => exact ⟨0, Nat.zero_le _, rfl, by rw [eK]; rfl, HO.out, HB.out⟩
  case round =>
    clear HO HB eK
    obtain ⟨i, hi, rfl, rfl, hown, hw⟩ := hrel
    have HW : Hid (Below base u wr) := hw
    by_cases hlt : i < 6
    · have hl3 : (i : Int) < 6 := by omega
      obtain ⟨k1, k2, k3⟩ := kk_pos hlt
      have ln : (l ++ (six n).take i).length = l.length + i := by rw [List.length_append, List.length_take, six_len]; omega
      have HN : Hid (wr.ownsRow base 5 1 u0 (l.length + i) (bcs (l ++ (six n).take i))) := by rw [← ln]; exact hown
      have HBk : Hid (∀ j, u0.ownBlock = some j → base ≤ j) := fun j hj => (hown.lt j hj).1
      obtain ⟨A, hA⟩ : ∃ A, A = n / kk i := ⟨_, rfl⟩
      obtain ⟨K, hK⟩ : ∃ K, K = kk (i + 1) := ⟨_, rfl⟩
      have e1 : (n : Int).tdiv (kk i : Int) = (A : Int) := by rw [Int.tdiv_eq_ediv_of_nonneg (Int.natCast_nonneg _), hA]; rfl
      have e2 : (A : Int).tmod 256 = ((A % 256 : Nat) : Int) := by rw [Int.tmod_eq_emod_of_nonneg (Int.natCast_nonneg _)]; rfl
      have e3 : (kk i : Int).tdiv 256 = (K : Int) := by rw [Int.tdiv_eq_ediv_of_nonneg (Int.natCast_nonneg _), hK, ← k3]; rfl
      have b1 : A ≤ n := by rw [hA]; exact Nat.div_le_self _ _
      obtain ⟨B, hB⟩ : ∃ B, B = A % 256 := ⟨_, rfl⟩
      rw [← hB] at e2
      have b2 : B < 256 := by rw [hB]; exact Nat.mod_lt _ (by decide)
      have b3 : K ≤ kk i := by rw [hK, ← k3]; exact Nat.div_le_self _ _
      have z0 : ¬ ((kk i : Int) = 0) := by omega
      have w1 : IntKind.i64.wrap (A : Int) = (A : Int) := IntWalk.i64_in _ (by omega)
      have w2 : IntKind.i64.wrap (B : Int) = (B : Int) := IntWalk.i64_in _ (by omega)
      have w3 : IntKind.i64.wrap (K : Int) = (K : Int) := IntWalk.i64_in _ (by omega)
      have w4 : IntKind.u8.wrap (B : Int) = (B : Int) := by rw [IntKind.wrap_u8]; omega
      have HIc : Hid (bcs (l ++ (six n).take (i + 1)) = bcs (l ++ (six n).take i) ++ [.int .u8 (B : Int)]) := by
        show bcs (l ++ (six n).take (i + 1)) = bcs (l ++ (six n).take i) ++ [.int .u8 (B : Int)]
        rw [six_take n hlt, ← List.append_assoc, bcs_app, ← hA, ← hB]
        congr 1
        show [Value.int .u8 ((UInt8.ofNat B).toNat : Int)] = _
        rw [ofNat_toNat, Nat.mod_eq_of_lt b2]
      have ln2 : (l ++ (six n).take (i + 1)).length = l.length + i + 1 := by rw [List.length_append, List.length_take, six_len]; omega
      have HL2 : Hid ((l ++ (six n).take (i + 1)).length = l.length + i + 1) := ln2
      have szw := hw.size
      have HK : Hid (K = kk (i + 1)) := hK
      clear hown hw ln ln2 b1 b3 k1 k3 hA hB hK
      generalize bcs (l ++ (six n).take i) = xs at *
      go_wp2_with (at_builtin; refine wpList_append_own _ rfl _ _ 49 rfl base 5 i0 (.int .u8 0) 1 1 Tryd.underlying49 hi0 hz0 hz1 hz2 rfl (by decide) _ _ _ rfl (HN.out.alloc _) ⟨wr.heap.size, 0, none⟩ 1 1 [.int .u8 (B : Int)] rfl rfl (fun j u hj => by rw [Addr.add_lit]; exact (Row.made (W := wr) (vs := [.int .u8 (B : Int)]) rfl).c _ _ (by simpa using hj)) (fun u hu => by simp at hu; rw [hu]; rfl) (by unfold maxLen; omega) (by omega) (by simp; omega) ?_)
      intro v' w1 hown' hgrow _
      have HO1 : Hid (OwB w1 base v' (l ++ (six n).take (i + 1))) := by
        show w1.ownsRow base 5 1 v' (l ++ (six n).take (i + 1)).length (bcs (l ++ (six n).take (i + 1)))
        rw [HIc.out, HL2.out]
        exact hown'
      have HW1 : Hid (Below base u w1) := (HW.out.alloc (by omega) _).grown hgrow (by simp; omega) (fun j hj => HBk.out j hj)
      clear hown' hgrow HN HBk HIc HW HL2
      go_wp2
      go_roundw
      case rel => exact ⟨i + 1, by omega, by go_num, by rw [← HK.out], HO1.out, HW1.out⟩
      case measure => simp [intOf]; omega
    · have hl3 : ¬ ((i : Int) < 6) := by omega
      obtain rfl : i = 6 := by omega
      have HN : Hid (OwB wr base u0 (l ++ six n)) := hown
      clear hown hw
      go_wp2
      go_ret
      exact ⟨_, rfl, HN.out, HW.out⟩
set_option maxRecDepth 100000 in
set_option maxHeartbeats 8000000 in
theorem rtime6 (s : ByteArray) (h6 : s.size = 6) (u : World) :
    Calls Tryd.prog 22 #[.string s] u fun o w' => o = .returned (.int .i64 (valB s.data.toList)) ∧ w' = u := by
  have hl : s.data.toList.length = 6 := by rw [Array.length_toList]; exact h6
  have HE : Hid (s.data.toList.take 6 = s.data.toList) := List.take_of_length_le (by omega)
  go_enter Tryd.func22, Tryd.ntmps22
  go_wp2
  go_loopw [3, 4] (fun vn vi wr => ∃ i : Nat, i ≤ 6 ∧ vi = .int .i64 i ∧ vn = .int .i64 (valB (s.data.toList.take i)) ∧ wr = u) (fun _ i _ => 6 - (intOf i).toNat)
  case atStart => exact ⟨0, Nat.zero_le _, rfl, rfl, rfl⟩
  case round =>
    obtain ⟨i, hi, rfl, rfl, hw⟩ := hrel
    subst hw
    by_cases hlt : i < 6
    · have hl3 : (i : Int) < 6 := by omega
      have hi2 : i < s.size := by omega
      have hi3 : (i : Int) < (s.size : Int) := by omega
      have hV := valB_lt (s.data.toList.take i)
      have hp : 256 ^ (s.data.toList.take i).length ≤ 256 ^ 5 := Nat.pow_le_pow_right (by decide) (by rw [List.length_take]; omega)
      have hb := s[i].toNat_lt
      have e1 : valB (s.data.toList.take (i + 1)) = valB (s.data.toList.take i) * 256 + s[i].toNat := fold_take (f := fun v b => v * 256 + b.toNat) (l := s.data.toList) (by omega)
      have HN : Hid (valB (s.data.toList.take (i + 1)) = valB (s.data.toList.take i) * 256 + s[i].toNat) := e1
      have hV2 : valB (s.data.toList.take i) < 1099511627776 := Nat.lt_of_lt_of_le hV hp
      clear hV hp e1 HE
      generalize valB (s.data.toList.take i) = V at *
      go_wp2
      go_roundw
      case rel => exact ⟨i + 1, by omega, by go_num, by rw [HN.out]; go_num, trivial⟩
      case measure => simp [intOf]; omega
    · have hl3 : ¬ ((i : Int) < 6) := by omega
      obtain rfl : i = 6 := by omega
      rw [HE.out]
      go_wp2
      go_ret
      exact ⟨rfl, rfl⟩
end Go.Proofs.YtfmaoblhoafnhaiDoor
