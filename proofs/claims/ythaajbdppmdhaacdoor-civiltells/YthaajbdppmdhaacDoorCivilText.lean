/- Dates as texts: plain mathematics of bytes, and what the document's own reckoning (package noonref1) answers of texts: Plain, Digits, Pad, DateText, ReadDate. -/
import Derived.Test.YthaajbdppmdhaacDoorCivilRef2
import Derived.Test.YthaajbdppmdhaacDoorCivilDigits
import Derived.Lib.SmallJoins
namespace Go.Proofs.YthaajbdppmdhaacDoor
open Go.ChangeShapes Go.WideShapes Go.ChangeAt Go.RowKit Go.Joins
set_option linter.unusedVariables false
set_option linter.unusedSimpArgs false

theorem pair_is {a b : Int} {c d : Bool} (h : a = b) (g : c = d) : Ending.returned (.tuple #[.int .i64 a, .bool c]) = .returned (.tuple #[.int .i64 b, .bool d]) := by rw [h, g]

set_option maxRecDepth 100000 in
set_option maxHeartbeats 1000000 in
theorem rplain_ok (s : ByteArray) (w : World) (hs : s.size ≤ 10) (hd : allD s) :
    Calls Tryd.prog 62 #[.string s] w fun e w' => e = .returned (.tuple #[.int .i64 (pv s.data.toList), .bool true]) ∧ w' = w := by
  have HD : Hid (allD s) := hd
  clear hd
  go_enter Tryd.func62, Tryd.ntmps62
  go_wp2
  go_loopw [4, 5] (fun n i wr => ∃ k : Nat, k ≤ s.size ∧ i = .int .i64 k ∧ n = .int .i64 (pv (s.data.toList.take k)) ∧ wr = w) (fun _ i _ => s.size - (intOf i).toNat)
  case atStart => exact ⟨0, Nat.zero_le _, rfl, rfl, rfl⟩
  case round =>
    obtain ⟨k, hk, rfl, rfl, rfl⟩ := hrel
    have pb := pv_small s k hk (by omega) (fun i h _ => HD.out i h)
    obtain ⟨p1, p2⟩ := pb
    by_cases hlt : k < s.size
    · have cb := cd_t (HD.out k hlt)
      obtain ⟨cb1, cb2⟩ := cb
      have PS : Hid (pv (s.data.toList.take (k + 1)) = pv (s.data.toList.take k) * 10 + (s[k].toNat : Int) - 48) := by
        show pv _ = _
        rw [take_snoc s k hlt, pv_snoc]
      generalize hpv : pv (s.data.toList.take k) = v at *
      go_wp2
      go_roundw
      case rel => exact ⟨k + 1, by omega, by go_num, by rw [PS.out], trivial⟩
      case measure => simp [intOf]; omega
    · have kn : k = s.size := by omega
      have PE : Hid (pv (s.data.toList.take k) = pv s.data.toList) := by
        show pv _ = _
        rw [List.take_of_length_le (by show s.data.size ≤ k; rw [kn]; exact Nat.le_refl _)]
      go_wp2
      go_ret2
      exact ⟨pair_is PE.out rfl, rfl⟩
end Go.Proofs.YthaajbdppmdhaacDoor
