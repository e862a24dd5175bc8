/- Two lists of letters that are the same: noonsame's Letters. -/
import Derived.Test.YtkmbllkkccelaahDoorWorldLt
import Derived.Test.YtkmbllkkccelaahDoorKeeps
import Derived.Test.YtkmbllkkccelaahDoorErrC
import Derived.Test.YtkmbllkkccelaahDoorInts
import Derived.Lib.SmallJoins
import Derived.Deep.CutRange
import Derived.BigRegion
import Derived.BigQuiet
import Derived.Deep.QuietTactic
import Derived.IntWalk
namespace Go.Proofs.YtkmbllkkccelaahDoor
open Go.ChangeShapes Go.WideShapes Go.ChangeAt Go.RowKit Go.Joins
set_option linter.unusedVariables false
set_option linter.unusedSimpArgs false

set_option maxRecDepth 100000 in
set_option maxHeartbeats 8000000 in
theorem same_letters (a b : Option Addr) (n c d : Nat) (l : List Lt) (w : World) (e : l.length = n) (ha : WHanded w a l) (hb : WHanded w b l) :
    Calls Tryd.prog 13 #[.slice a n c, .slice b n d] w fun e w' => e = .returned (.bool true) ∧ Below w.heap.size w w' := by
  have hn : n ≤ 9223372036854775807 := e ▸ ha.1
  have H1 : Hid (l = [] ∨ ∃ b off : Nat, a = some ⟨b, off, none⟩ ∧ Lts w b off l) := ha.2
  have H2 : Hid (l = [] ∨ ∃ c off : Nat, b = some ⟨c, off, none⟩ ∧ Lts w c off l) := hb.2
  clear ha hb
  go_enter Tryd.func13, Tryd.ntmps13
  go_wp2
  go_loopw [5] (fun i wr => ∃ k : Nat, k ≤ n ∧ i = .int .i64 k ∧ Below w.heap.size w wr) (fun i _ => n - (intOf i).toNat)
  case atStart => exact ⟨0, Nat.zero_le _, rfl, Below.refl _ _⟩
  case round =>
    obtain ⟨k, hk, rfl, hw⟩ := hrel
    have HW : Hid (Below w.heap.size w wr) := hw
    by_cases hlt : k < n
    · have hl3 : (k : Int) < n := by omega
      have hne : l ≠ [] := fun h => by rw [h] at e; simp at e; omega
      obtain ⟨g1, o1, rfl, hP1⟩ : ∃ b off : Nat, a = some ⟨b, off, none⟩ ∧ Lts w b off l := H1.out.resolve_left hne
      obtain ⟨g2, o2, rfl, hP2⟩ : ∃ c off : Nat, b = some ⟨c, off, none⟩ ∧ Lts w c off l := H2.out.resolve_left hne
      obtain ⟨q, hq⟩ : ∃ q, l[k]? = some q := ⟨l[k]'(by omega), List.getElem?_eq_getElem (by omega)⟩
      have A := (hP1.on hw) k q hq
      have B := (hP2.on hw) k q hq
      obtain ⟨f1, f2, f3, f4, f5, f6⟩ := q
      have x0 : wr.cell? ⟨g1, o1 + k * 6, none⟩ = some (.int .i64 f1) := A 0 _ rfl
      have x1 : wr.cell? ⟨g1, o1 + k * 6 + 1, none⟩ = some (.int .i64 f2) := A 1 _ rfl
      have x2 : wr.cell? ⟨g1, o1 + k * 6 + 1 + 1, none⟩ = some (.bool f3) := A 2 _ rfl
      have x3 : wr.cell? ⟨g1, o1 + k * 6 + 1 + 1 + 1, none⟩ = some (.int .i64 f4) := A 3 _ rfl
      have x4 : wr.cell? ⟨g1, o1 + k * 6 + 1 + 1 + 1 + 1, none⟩ = some (.int .i64 f5) := A 4 _ rfl
      have x5 : wr.cell? ⟨g1, o1 + k * 6 + 1 + 1 + 1 + 1 + 1, none⟩ = some (.int .i64 f6) := A 5 _ rfl
      have y0 : wr.cell? ⟨g2, o2 + k * 6, none⟩ = some (.int .i64 f1) := B 0 _ rfl
      have y1 : wr.cell? ⟨g2, o2 + k * 6 + 1, none⟩ = some (.int .i64 f2) := B 1 _ rfl
      have y2 : wr.cell? ⟨g2, o2 + k * 6 + 1 + 1, none⟩ = some (.bool f3) := B 2 _ rfl
      have y3 : wr.cell? ⟨g2, o2 + k * 6 + 1 + 1 + 1, none⟩ = some (.int .i64 f4) := B 3 _ rfl
      have y4 : wr.cell? ⟨g2, o2 + k * 6 + 1 + 1 + 1 + 1, none⟩ = some (.int .i64 f5) := B 4 _ rfl
      have y5 : wr.cell? ⟨g2, o2 + k * 6 + 1 + 1 + 1 + 1 + 1, none⟩ = some (.int .i64 f6) := B 5 _ rfl
      have l1 := World.block_lt_of_cell? _ _ x0
      have l2 := World.block_lt_of_cell? _ _ y0
      clear hP1 hP2 H1 H2 hw A B hq hne
      go_wp2
      go_quiet (fail)
      go_wp2
      go_roundw
      case rel => exact ⟨k + 1, by omega, by go_num, rbel_drn HW.out⟩
      case measure => simp [intOf]; omega
    · have hl3 : ¬ ((k : Int) < n) := by omega
      clear hw
      go_wp2
      go_ret
      exact ⟨rfl, HW.out⟩

end Go.Proofs.YtkmbllkkccelaahDoor
