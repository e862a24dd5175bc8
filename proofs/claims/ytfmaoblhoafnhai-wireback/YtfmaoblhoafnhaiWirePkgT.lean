/- What package wire answers: timeAt, sum. -/
import Derived.Test.YtfmaoblhoafnhaiWireOwn
import Derived.Laws.BitsLemmas
import Derived.Laws.BitsAllLaws
namespace Go.Proofs.Ytfmaoblhoafnhai
open Go.ChangeShapes Go.WideShapes Go.ChangeAt Go.RowKit Go.Joins
set_option linter.unusedVariables false
set_option linter.unusedSimpArgs false

theorem wraps_48 (n : Int) (h₀ : 0 ≤ n) (h₁ : n < 2 ^ 48) : IntKind.i64.wrap n = n := IntWalk.i64_in _ (by omega)
theorem or_byte {V c : Nat} (hV : V < 1099511627776) (hc : c < 256) : bits .or .i64 (((V * 256 : Nat)) : Int) (c : Int) = ((V * 256 + c : Nat) : Int) := by
  rw [(bits_nat .i64 48 (by decide) wraps_48 (V * 256) c (by omega) (by omega)).2]
  have := Nat.shiftLeft_add_eq_or_of_lt (i := 8) hc V
  rw [Nat.shiftLeft_eq] at this
  exact congrArg _ this.symm
set_option maxRecDepth 100000 in
set_option maxHeartbeats 8000000 in
theorem timeAt_any (s : ByteArray) (a : Nat) (ha : a + 6 ≤ s.size) (hm : s.size ≤ 100) (u : World) :
    Calls Try.prog 36 #[.string s, .int .i64 a] u fun o w' => o = .returned (.int .i64 (valB ((s.data.toList.drop a).take 6))) ∧ w' = u := by
  have hl : (s.data.toList.drop a).length = s.size - a := by rw [List.length_drop, Array.length_toList]; rfl
  go_enter Try.func36, Try.ntmps36
  go_wp2
  go_loopw [5, 7] (fun vn vi wr => ∃ i : Nat, i ≤ 6 ∧ vi = .int .i64 i ∧ vn = .int .i64 (valB ((s.data.toList.drop a).take i)) ∧ wr = u) (fun _ i _ => 6 - (intOf i).toNat)
  case atStart => exact ⟨0, Nat.zero_le _, rfl, rfl, rfl⟩
  case round =>
    obtain ⟨i, hi, rfl, rfl, hw⟩ := hrel
    subst hw
    by_cases hlt : i < 6
    · have hl3 : (i : Int) < 6 := by omega
      obtain ⟨j, hj⟩ : ∃ j, j = a + i := ⟨_, rfl⟩
      have hi2 : j < s.size := by omega
      have wa : IntKind.i64.wrap ((a : Int) + (i : Int)) = (j : Int) := (IntWalk.i64_in _ (by omega)).trans (by omega)
      have hV := valB_lt ((s.data.toList.drop a).take i)
      have hp : 256 ^ ((s.data.toList.drop a).take i).length ≤ 256 ^ 5 := Nat.pow_le_pow_right (by decide) (by rw [List.length_take]; omega)
      have hb := s[j].toNat_lt
      have e1 : valB ((s.data.toList.drop a).take (i + 1)) = valB ((s.data.toList.drop a).take i) * 256 + s[j].toNat := by
        have := fold_take (f := fun v b => v * 256 + b.toNat) (l := s.data.toList.drop a) (i := i) (by omega)
        unfold valB
        rw [this, List.getElem_drop]
        subst hj
        rfl
      have HN : Hid (valB ((s.data.toList.drop a).take (i + 1)) = valB ((s.data.toList.drop a).take i) * 256 + s[j].toNat) := e1
      have hV2 : valB ((s.data.toList.drop a).take i) < 1099511627776 := Nat.lt_of_lt_of_le hV hp
      clear hV hp e1
      generalize valB ((s.data.toList.drop a).take i) = V at *
      have es : IntKind.i64.wrap ((V : Int) * 256) = ((V * 256 : Nat) : Int) := by rw [show (V : Int) * 256 = ((V * 256 : Nat) : Int) by omega]; exact IntWalk.i64_in _ (by omega)
      have wi : IntKind.i64.wrap ((s[j].toNat : Nat) : Int) = ((s[j].toNat : Nat) : Int) := IntWalk.i64_in _ (by omega)
      have eo : Hid (bits .or .i64 ((V : Int) * 256) ((s[j].toNat : Nat) : Int) = ((V * 256 + s[j].toNat : Nat) : Int)) := by
        show bits .or .i64 ((V : Int) * 256) ((s[j].toNat : Nat) : Int) = ((V * 256 + s[j].toNat : Nat) : Int)
        rw [show (V : Int) * 256 = ((V * 256 : Nat) : Int) by omega]
        exact or_byte hV2 hb
      clear hl hj
      go_wp2
      go_roundw
      case rel => exact ⟨i + 1, by omega, by go_num, by rw [HN.out, eo.out], trivial⟩
      case measure => simp [intOf]; omega
    · have hl3 : ¬ ((i : Int) < 6) := by omega
      obtain rfl : i = 6 := by omega
      go_wp2
      go_ret
      exact ⟨rfl, rfl⟩
set_option maxRecDepth 100000 in
set_option maxHeartbeats 8000000 in
theorem sum_any (L : List UInt8) (g cap : Nat) (u : World) (hL : L.length ≤ 100) (hc : ∀ i (hi : i < L.length), u.cell? ⟨g, i, none⟩ = some (.int .u8 (L[i].toNat : Int))) (q : Nat) (hq : q = smB L % 251) :
    Calls Try.prog 35 #[.slice (some ⟨g, 0, none⟩) L.length cap] u fun o w' => o = .returned (.int .u8 q) ∧ w' = u := by
  have HC : Hid (∀ i (hi : i < L.length), u.cell? ⟨g, i, none⟩ = some (.int .u8 (L[i].toNat : Int))) := hc
  have sL := smB_le L
  clear hc
  go_enter Try.func35, Try.ntmps35
  go_wp2
  go_loopw [3, 8] (fun vn vi wr => ∃ i : Nat, i ≤ L.length ∧ vi = .int .i64 i ∧ vn = .int .i64 (smB (L.take i)) ∧ wr = u) (fun _ i _ => L.length - (intOf i).toNat)
  case atStart => exact ⟨0, Nat.zero_le _, rfl, rfl, rfl⟩
  case round =>
    obtain ⟨i, hi, rfl, rfl, hw⟩ := hrel
    subst hw
    by_cases hlt : i < L.length
    · have hl3 : (i : Int) < (L.length : Int) := by omega
      have ci := HC.out i hlt
      have hb := L[i].toNat_lt
      have e1 : smB (L.take (i + 1)) = smB (L.take i) + L[i].toNat := fold_take (f := fun v b => v + b.toNat) hlt
      have HN : Hid (smB (L.take (i + 1)) = smB (L.take i) + L[i].toNat) := e1
      have sl := smB_le (L.take i)
      have sl2 : (L.take i).length ≤ 100 := by rw [List.length_take]; omega
      have hV2 : smB (L.take i) ≤ 25500 := by omega
      clear e1 sl sl2 hq sL
      generalize smB (L.take i) = V at *
      generalize L[i].toNat = c at *
      go_wp2
      go_roundw
      case rel => exact ⟨i + 1, by omega, by go_num, by rw [HN.out]; go_num, trivial⟩
      case measure => simp [intOf]; omega
    · have hl3 : ¬ ((i : Int) < (L.length : Int)) := by omega
      obtain rfl : i = L.length := by omega
      rw [List.take_length]
      have q1 : q < 251 := by rw [hq]; exact Nat.mod_lt _ (by decide)
      have sm : smB L ≤ 25500 := by omega
      have e2 : (smB L : Int).tmod 251 = (q : Int) := by rw [Int.tmod_eq_emod_of_nonneg (Int.natCast_nonneg _), hq]; rfl
      have w2' : IntKind.i64.wrap (q : Int) = (q : Int) := IntWalk.i64_in _ (by omega)
      have w4 : IntKind.u8.wrap (q : Int) = (q : Int) := by rw [IntKind.wrap_u8]; omega
      generalize smB L = V at *
      clear hq sL
      go_wp2
      go_ret
      exact ⟨rfl, rfl⟩
end Go.Proofs.Ytfmaoblhoafnhai
