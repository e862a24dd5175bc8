/- What package digits answers of texts: Fits, Value. -/
import Derived.Test.YthaajbdppmdhaacDoorCivilErr
import Derived.Test.YthaajbdppmdhaacDoorDigitsMath
import Derived.WalkKit
import Derived.ProofKit
import Derived.OpenShut
import Derived.Outline
import Derived.Below
import Derived.IntWalk
import Derived.Deep.Draws
import Derived.Deep.QuietTactic
import Derived.BigQuiet
import Derived.WalkLawsBesides
namespace Go.Proofs.YthaajbdppmdhaacDoor
open Go.ChangeShapes Go.WideShapes Go.ChangeAt Go.RowKit
set_option linter.unusedVariables false
set_option linter.unusedSimpArgs false

theorem dret_i {a b : Int} (h : a = b) : Ending.returned (.int .i64 a) = .returned (.int .i64 b) := by rw [h]
theorem ieq_t {a b : Int} (h : a = b) : (a == b) = true := by simpa using h
theorem ieq_f {a b : Int} (h : ¬ a = b) : (a == b) = false := by simpa using h
set_option maxRecDepth 100000 in
set_option maxHeartbeats 2000000 in
theorem fits_yes (s f : ByteArray) (w : World) (hf : f.size ≤ 100) (h : FitsP s f) :
    Calls Tryd.prog 63 #[.string s, .string f] w fun e w' => e = .returned (.bool true) ∧ Below w.heap.size w w' := by
  obtain ⟨hs, hb⟩ := h
  have HB : Hid (∀ i (hi : i < f.size), bF f[i] (s[i]'(hs ▸ hi)) = true) := hb
  clear hb
  go_enter Tryd.func63, Tryd.ntmps63
  go_wp2
  go_loopw [13] (fun i wr => ∃ k : Nat, k ≤ f.size ∧ i = .int .i64 k ∧ Below w.heap.size w wr) (fun i _ => f.size - (intOf i).toNat)
  case atStart => exact ⟨0, Nat.zero_le _, rfl, Below.refl _ _⟩
  case round =>
    obtain ⟨k, hk, rfl, hw⟩ := hrel
    by_cases hlt : k < f.size
    · have hls : k < s.size := by omega
      have c := HB.out k hlt
      by_cases z : f[k].toNat = 48
      · have c2 : cd s[k] = true := by unfold bF at c; rwa [if_pos z] at c
        obtain ⟨c3, c4⟩ := cd_t c2
        have z2 : (f[k].toNat : Int) = 48 := by omega
        have c5 : decide ((s[k].toNat : Int) < 48) = false := decide_eq_false (by omega)
        have c6 : decide (57 < (s[k].toNat : Int)) = false := decide_eq_false (by omega)
        clear c z c2
        go_wp2
        go_quiet (fail)
        go_wp2
        go_roundw
        case rel => exact ⟨k + 1, by omega, by go_num, rbel_drn hw⟩
        case measure => simp [intOf]; omega
      · have c2 : s[k].toNat = f[k].toNat := by unfold bF at c; rw [if_neg z] at c; exact of_decide_eq_true c
        have z2 : ¬ ((f[k].toNat : Int) = 48) := by omega
        have c3 : (s[k].toNat : Int) = (f[k].toNat : Int) := by omega
        clear c z c2
        go_wp2
        go_quiet (fail)
        go_wp2
        go_roundw
        case rel => exact ⟨k + 1, by omega, by go_num, rbel_drn hw⟩
        case measure => simp [intOf]; omega
    · go_wp2
      go_ret
      exact ⟨rfl, hw⟩

set_option maxHeartbeats 400000 in
theorem fits_long (s f : ByteArray) (w : World) (hm : s.size ≤ maxLen) (hf : f.size ≤ 100) (h : s.size ≠ f.size) :
    Calls Tryd.prog 63 #[.string s, .string f] w fun e w' => e = .returned (.bool false) ∧ Below w.heap.size w w' := by
  unfold maxLen at hm
  have h2 : ((s.size : Int) == (f.size : Int)) = false := ieq_f (by omega)
  have h3 : ¬ ((s.size : Int) = (f.size : Int)) := by omega
  go_enter Tryd.func63, Tryd.ntmps63
  go_wp2
  go_ret
  exact ⟨rfl, Below.refl _ _⟩

set_option maxRecDepth 100000 in
set_option maxHeartbeats 4000000 in
theorem fits_bad (s f : ByteArray) (j : Nat) (w : World) (hf : f.size ≤ 100) (hs : s.size = f.size) (hj : j < f.size) (hb : ∀ i (hi : i < f.size), i < j → bF f[i] (s[i]'(hs ▸ hi)) = true) (hn : bF f[j] (s[j]'(hs ▸ hj)) = false) :
    Calls Tryd.prog 63 #[.string s, .string f] w fun e w' => e = .returned (.bool false) ∧ Below w.heap.size w w' := by
  have HB : Hid (∀ i (hi : i < f.size), i < j → bF f[i] (s[i]'(hs ▸ hi)) = true) := hb
  clear hb
  have HN : Hid (bF f[j] (s[j]'(hs ▸ hj)) = false) := hn
  clear hn
  go_enter Tryd.func63, Tryd.ntmps63
  go_wp2
  go_loopw [13] (fun i wr => ∃ k : Nat, k ≤ j ∧ i = .int .i64 k ∧ Below w.heap.size w wr) (fun i _ => f.size - (intOf i).toNat)
  case atStart => exact ⟨0, Nat.zero_le _, rfl, Below.refl _ _⟩
  case round =>
    obtain ⟨k, hk, rfl, hw⟩ := hrel
    have hlt : k < f.size := by omega
    have hls : k < s.size := by omega
    by_cases hkj : k < j
    · have c := HB.out k hlt hkj
      by_cases z : f[k].toNat = 48
      · have c2 : cd s[k] = true := by unfold bF at c; rwa [if_pos z] at c
        obtain ⟨c3, c4⟩ := cd_t c2
        have z2 : (f[k].toNat : Int) = 48 := by omega
        have c5 : decide ((s[k].toNat : Int) < 48) = false := decide_eq_false (by omega)
        have c6 : decide (57 < (s[k].toNat : Int)) = false := decide_eq_false (by omega)
        clear c z c2
        go_wp2
        go_quiet (fail)
        go_wp2
        go_roundw
        case rel => exact ⟨k + 1, by omega, by go_num, rbel_drn hw⟩
        case measure => simp [intOf]; omega
      · have c2 : s[k].toNat = f[k].toNat := by unfold bF at c; rw [if_neg z] at c; exact of_decide_eq_true c
        have z2 : ¬ ((f[k].toNat : Int) = 48) := by omega
        have c3 : (s[k].toNat : Int) = (f[k].toNat : Int) := by omega
        clear c z c2
        go_wp2
        go_quiet (fail)
        go_wp2
        go_roundw
        case rel => exact ⟨k + 1, by omega, by go_num, rbel_drn hw⟩
        case measure => simp [intOf]; omega
    · have e : k = j := by omega
      clear HB hkj
      subst e
      have c := HN.out
      clear HN
      by_cases z : f[k].toNat = 48
      · have c2 : cd s[k] = false := by unfold bF at c; rwa [if_pos z] at c
        have z2 : (f[k].toNat : Int) = 48 := by omega
        rcases cd_f c2 with c3 | c3
        · have c5 : decide ((s[k].toNat : Int) < 48) = true := decide_eq_true c3
          clear c z c2
          go_wp2
          go_quiet (fail)
          go_wp2
          go_ret
          exact ⟨rfl, rbel_drn hw⟩
        · have c5 : decide ((s[k].toNat : Int) < 48) = false := decide_eq_false (by omega)
          have c6 : decide (57 < (s[k].toNat : Int)) = true := decide_eq_true c3
          clear c z c2
          go_wp2
          go_quiet (fail)
          go_wp2
          go_ret
          exact ⟨rfl, rbel_drn hw⟩
      · have c2 : ¬ (s[k].toNat = f[k].toNat) := by unfold bF at c; rw [if_neg z] at c; exact of_decide_eq_false c
        have z2 : ¬ ((f[k].toNat : Int) = 48) := by omega
        have c3 : ¬ ((s[k].toNat : Int) = (f[k].toNat : Int)) := by omega
        have z4 : ((f[k].toNat : Int) != 48) = true := by simpa using z2
        have c4 : ((s[k].toNat : Int) != (f[k].toNat : Int)) = true := by simpa using c3
        clear c z c2
        go_wp2
        go_quiet (fail)
        go_wp2
        go_ret
        exact ⟨rfl, rbel_drn hw⟩
theorem fits_no (s f : ByteArray) (w : World) (hm : s.size ≤ maxLen) (hf : f.size ≤ 100) (h : ¬ FitsP s f) :
    Calls Tryd.prog 63 #[.string s, .string f] w fun e w' => e = .returned (.bool false) ∧ Below w.heap.size w w' := by
  by_cases hs : s.size = f.size
  · rcases first_bF s f hs f.size (Nat.le_refl _) with g | ⟨j, hj, h1, h2, h3⟩
    · exact absurd ⟨hs, fun i hi => g i hi hi⟩ h
    · exact fits_bad s f j w hf hs hj h3 h2
  · exact fits_long s f w hm hf hs

set_option maxRecDepth 100000 in
set_option maxHeartbeats 1000000 in
theorem value_any (s : ByteArray) (w : World) (hs : s.size ≤ 10) (hd : allD s) :
    Calls Tryd.prog 64 #[.string s] w fun e w' => e = .returned (.int .i64 (pv s.data.toList)) ∧ w' = w := by
  have HD : Hid (allD s) := hd
  clear hd
  go_enter Tryd.func64, Tryd.ntmps64
  go_wp2
  go_loopw [3, 7] (fun n i wr => ∃ k : Nat, k ≤ s.size ∧ i = .int .i64 k ∧ n = .int .i64 (pv (s.data.toList.take k)) ∧ wr = w) (fun _ i _ => s.size - (intOf i).toNat)
  case atStart => exact ⟨0, Nat.zero_le _, rfl, rfl, rfl⟩
  case round =>
    obtain ⟨k, hk, rfl, rfl, rfl⟩ := hrel
    have pb := pv_small s k hk (by omega) (fun i h _ => HD.out i h)
    obtain ⟨p1, p2⟩ := pb
    by_cases hlt : k < s.size
    · have cb := cd_t (HD.out k hlt)
      obtain ⟨cb1, cb2⟩ := cb
      have PS : Hid (pv (s.data.toList.take (k + 1)) = 10 * pv (s.data.toList.take k) + ((s[k].toNat : Int) - 48)) := by
        show pv _ = _
        rw [take_snoc s k hlt, pv_snoc]
        omega
      generalize hpv : pv (s.data.toList.take k) = v at *
      go_wp2
      go_roundw
      case rel => exact ⟨k + 1, by omega, by go_num, by rw [PS.out], trivial⟩
      case measure => simp [intOf]; omega
    · have kn : k = s.size := by omega
      have PE : Hid (pv (s.data.toList.take k) = pv s.data.toList) := by
        show pv _ = _
        rw [List.take_of_length_le (by show s.data.size ≤ k; rw [kn]; exact Nat.le_refl _)]
      go_wp2
      go_ret
      exact ⟨dret_i PE.out, rfl⟩
end Go.Proofs.YthaajbdppmdhaacDoor
