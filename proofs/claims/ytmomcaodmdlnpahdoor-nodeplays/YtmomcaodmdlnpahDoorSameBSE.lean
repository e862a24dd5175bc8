/- Two lists that are the same: noonsame's Bools, Spans, Edges. -/
import Derived.Test.YtmomcaodmdlnpahDoorHandBS
import Derived.Test.YtmomcaodmdlnpahDoorBoundsSpn
import Derived.Lib.SmallJoins
import Derived.Deep.CutRange
import Derived.BigRegion
import Derived.BigQuiet
import Derived.Deep.QuietTactic
import Derived.IntWalk
namespace Go.Proofs.YtmomcaodmdlnpahDoor
open Go.ChangeShapes Go.WideShapes Go.ChangeAt Go.RowKit Go.Joins
set_option linter.unusedVariables false
set_option linter.unusedSimpArgs false

set_option maxRecDepth 100000 in
set_option maxHeartbeats 4000000 in
theorem same_bools (a b : Option Addr) (n c d : Nat) (f : Nat → Bool) (w : World) (ha : BHanded w a n f) (hb : BHanded w b n f) :
    Calls Tryd.prog 25 #[.slice a n c, .slice b n d] w fun e w' => e = .returned (.bool true) ∧ Below w.heap.size w w' := by
  have hn := ha.1
  have H1 : Hid (n = 0 ∨ ∃ b off : Nat, a = some ⟨b, off, none⟩ ∧ Bls w b off n f) := ha.2
  have H2 : Hid (n = 0 ∨ ∃ c off : Nat, b = some ⟨c, off, none⟩ ∧ Bls w c off n f) := hb.2
  clear ha hb
  go_enter Tryd.func25, Tryd.ntmps25
  go_wp2
  go_loopw [5] (fun i wr => ∃ k : Nat, k ≤ n ∧ i = .int .i64 k ∧ Below w.heap.size w wr) (fun i _ => n - (intOf i).toNat)
  case atStart => exact ⟨0, Nat.zero_le _, rfl, Below.refl _ _⟩
  case round =>
    obtain ⟨k, hk, rfl, hw⟩ := hrel
    have HW : Hid (Below w.heap.size w wr) := hw
    by_cases hlt : k < n
    · have hl3 : (k : Int) < n := by omega
      obtain ⟨g1, o1, rfl, hP1⟩ : ∃ b off : Nat, a = some ⟨b, off, none⟩ ∧ Bls w b off n f := by
        rcases H1.out with e | h
        · omega
        · exact h
      obtain ⟨g2, o2, rfl, hP2⟩ : ∃ c off : Nat, b = some ⟨c, off, none⟩ ∧ Bls w c off n f := by
        rcases H2.out with e | h
        · omega
        · exact h
      have HA : Hid (Bls wr g1 o1 n f) := hP1.on hw
      have HB : Hid (Bls wr g2 o2 n f) := hP2.on hw
      have x0 := HA.out k hlt
      have y0 := HB.out k hlt
      clear hP1 hP2 H1 H2 hw
      generalize f k = v at *
      go_wp2
      go_quiet (fail)
      go_wp2
      go_roundw
      case rel => exact ⟨k + 1, by omega, by go_num, rbel_drn HW.out⟩
      case measure => simp [intOf]; omega
    · have hl3 : ¬ ((k : Int) < n) := by omega
      clear hw
      go_wp2
      go_ret
      exact ⟨rfl, HW.out⟩

set_option maxRecDepth 100000 in
set_option maxHeartbeats 4000000 in
theorem same_spans (a b : Option Addr) (n c d : Nat) (f : Nat → Int × Int) (w : World) (ha : SHanded w a n f) (hb : SHanded w b n f) :
    Calls Tryd.prog 24 #[.slice a n c, .slice b n d] w fun e w' => e = .returned (.bool true) ∧ Below w.heap.size w w' := by
  have hn := ha.1
  have H1 : Hid (n = 0 ∨ ∃ b off : Nat, a = some ⟨b, off, none⟩ ∧ Sls w b off n f) := ha.2
  have H2 : Hid (n = 0 ∨ ∃ c off : Nat, b = some ⟨c, off, none⟩ ∧ Sls w c off n f) := hb.2
  clear ha hb
  go_enter Tryd.func24, Tryd.ntmps24
  go_wp2
  go_loopw [5] (fun i wr => ∃ k : Nat, k ≤ n ∧ i = .int .i64 k ∧ Below w.heap.size w wr) (fun i _ => n - (intOf i).toNat)
  case atStart => exact ⟨0, Nat.zero_le _, rfl, Below.refl _ _⟩
  case round =>
    obtain ⟨k, hk, rfl, hw⟩ := hrel
    have HW : Hid (Below w.heap.size w wr) := hw
    by_cases hlt : k < n
    · have hl3 : (k : Int) < n := by omega
      obtain ⟨g1, o1, rfl, hP1⟩ : ∃ b off : Nat, a = some ⟨b, off, none⟩ ∧ Sls w b off n f := by
        rcases H1.out with e | h
        · omega
        · exact h
      obtain ⟨g2, o2, rfl, hP2⟩ : ∃ c off : Nat, b = some ⟨c, off, none⟩ ∧ Sls w c off n f := by
        rcases H2.out with e | h
        · omega
        · exact h
      have HA : Hid (Sls wr g1 o1 n f) := hP1.on hw
      have HB : Hid (Sls wr g2 o2 n f) := hP2.on hw
      obtain ⟨x0, x1⟩ := HA.out k hlt
      obtain ⟨y0, y1⟩ := HB.out k hlt
      clear hP1 hP2 H1 H2 hw
      generalize (f k).1 = v at *
      generalize (f k).2 = v2 at *
      go_wp2
      go_quiet (fail)
      go_wp2
      go_roundw
      case rel => exact ⟨k + 1, by omega, by go_num, rbel_drn HW.out⟩
      case measure => simp [intOf]; omega
    · have hl3 : ¬ ((k : Int) < n) := by omega
      clear hw
      go_wp2
      go_ret
      exact ⟨rfl, HW.out⟩

set_option maxRecDepth 100000 in
set_option maxHeartbeats 4000000 in
theorem same_edges (a b : Option Addr) (n c d : Nat) (f : Nat → Eg) (w : World) (ha : EHanded w a n f) (hb : EHanded w b n f) :
    Calls Tryd.prog 28 #[.slice a n c, .slice b n d] w fun e w' => e = .returned (.bool true) ∧ Below w.heap.size w w' := by
  have hn := ha.1
  have H1 : Hid (n = 0 ∨ ∃ b off : Nat, a = some ⟨b, off, none⟩ ∧ Esp w b off n f) := ha.2
  have H2 : Hid (n = 0 ∨ ∃ c off : Nat, b = some ⟨c, off, none⟩ ∧ Esp w c off n f) := hb.2
  clear ha hb
  go_enter Tryd.func28, Tryd.ntmps28
  go_wp2
  go_loopw [5] (fun i wr => ∃ k : Nat, k ≤ n ∧ i = .int .i64 k ∧ Below w.heap.size w wr) (fun i _ => n - (intOf i).toNat)
  case atStart => exact ⟨0, Nat.zero_le _, rfl, Below.refl _ _⟩
  case round =>
    obtain ⟨k, hk, rfl, hw⟩ := hrel
    have HW : Hid (Below w.heap.size w wr) := hw
    by_cases hlt : k < n
    · have hl3 : (k : Int) < n := by omega
      obtain ⟨g1, o1, rfl, hP1⟩ : ∃ b off : Nat, a = some ⟨b, off, none⟩ ∧ Esp w b off n f := by
        rcases H1.out with e | h
        · omega
        · exact h
      obtain ⟨g2, o2, rfl, hP2⟩ : ∃ c off : Nat, b = some ⟨c, off, none⟩ ∧ Esp w c off n f := by
        rcases H2.out with e | h
        · omega
        · exact h
      have HA : Hid (Esp wr g1 o1 n f) := hP1.on hw
      have HB : Hid (Esp wr g2 o2 n f) := hP2.on hw
      obtain ⟨x0, x1, x2, x3⟩ := HA.out k hlt
      obtain ⟨y0, y1, y2, y3⟩ := HB.out k hlt
      clear hP1 hP2 H1 H2 hw
      generalize (f k).a = v at *
      generalize (f k).b = v2 at *
      generalize (f k).lo = v3 at *
      generalize (f k).hi = v4 at *
      go_wp2
      go_quiet (fail)
      go_wp2
      go_roundw
      case rel => exact ⟨k + 1, by omega, by go_num, rbel_drn HW.out⟩
      case measure => simp [intOf]; omega
    · have hl3 : ¬ ((k : Int) < n) := by omega
      clear hw
      go_wp2
      go_ret
      exact ⟨rfl, HW.out⟩
end Go.Proofs.YtmomcaodmdlnpahDoor
