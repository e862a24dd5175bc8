/- Two lists that are the same: noonsame's Ints. -/
import Derived.Test.YthejaecljkjliakDoorInts
import Derived.Lib.SmallJoins
import Derived.Deep.CutRange
import Derived.BigRegion
import Derived.BigQuiet
import Derived.Deep.QuietTactic
import Derived.IntWalk
namespace Go.Proofs.YthejaecljkjliakDoor
open Go.ChangeShapes Go.WideShapes Go.ChangeAt Go.RowKit Go.Joins
set_option linter.unusedVariables false
set_option linter.unusedSimpArgs false

set_option maxRecDepth 100000 in
set_option maxHeartbeats 4000000 in
theorem same_ints (a b : Option Addr) (n c d : Nat) (f : Nat → Int) (w : World) (ha : NHanded w a n f) (hb : NHanded w b n f) :
    Calls Tryd.prog 7 #[.slice a n c, .slice b n d] w fun e w' => e = .returned (.bool true) ∧ Below w.heap.size w w' := by
  have hn := ha.1
  have H1 : Hid (n = 0 ∨ ∃ b off : Nat, a = some ⟨b, off, none⟩ ∧ Nrd w b off n f) := ha.2
  have H2 : Hid (n = 0 ∨ ∃ c off : Nat, b = some ⟨c, off, none⟩ ∧ Nrd w c off n f) := hb.2
  clear ha hb
  go_enter Tryd.func7, Tryd.ntmps7
  go_wp2
  go_loopw [5] (fun i wr => ∃ k : Nat, k ≤ n ∧ i = .int .i64 k ∧ Below w.heap.size w wr) (fun i _ => n - (intOf i).toNat)
  case atStart => exact ⟨0, Nat.zero_le _, rfl, Below.refl _ _⟩
  case round =>
    obtain ⟨k, hk, rfl, hw⟩ := hrel
    have HW : Hid (Below w.heap.size w wr) := hw
    by_cases hlt : k < n
    · have hl3 : (k : Int) < n := by omega
      obtain ⟨g1, o1, rfl, hP1⟩ : ∃ b off : Nat, a = some ⟨b, off, none⟩ ∧ Nrd w b off n f := by
        rcases H1.out with e | h
        · omega
        · exact h
      obtain ⟨g2, o2, rfl, hP2⟩ : ∃ c off : Nat, b = some ⟨c, off, none⟩ ∧ Nrd w c off n f := by
        rcases H2.out with e | h
        · omega
        · exact h
      have HA : Hid (Nrd wr g1 o1 n f) := hP1.on hw
      have HB : Hid (Nrd wr g2 o2 n f) := hP2.on hw
      have x0 := HA.out k hlt
      have y0 := HB.out k hlt
      clear hP1 hP2 H1 H2 hw
      generalize f k = v at *
      go_wp2
      go_quiet (fail)
      go_wp2
      go_roundw
      case rel => exact ⟨k + 1, by omega, by go_num, rbel_drn HW.out⟩
      case measure => simp [intOf]; omega
    · have hl3 : ¬ ((k : Int) < n) := by omega
      clear hw
      go_wp2
      go_ret
      exact ⟨rfl, HW.out⟩

end Go.Proofs.YthejaecljkjliakDoor
