/- What package civil must answer, as the document says it. -/
import Derived.Test.YthaajbdppmdhaacDoorCivilErr
namespace Go.Proofs.YthaajbdppmdhaacDoor
open Go.ChangeShapes Go.WideShapes Go.ChangeAt Go.RowKit
set_option linter.unusedVariables false

/-- Behind a world w0: in each world that leaves what w0 has as it is. -/
structure Civ0 (w0 : World) : Prop where
  check : ∀ (y m d : Int) (u : World), Below w0.heap.size w0 u → In64 y → In64 m → In64 d → Calls Tryd.prog 17 #[.agg #[.int .i64 y, .int .i64 m, .int .i64 d]] u fun e w' => e = .returned (errc (eD y m d)) ∧ Below u.heap.size u w'
  num : ∀ (y m d : Int) (u : World), Below w0.heap.size w0 u → In64 y → In64 m → In64 d → Calls Tryd.prog 18 #[.agg #[.int .i64 y, .int .i64 m, .int .i64 d]] u fun e w' => e = .returned (.tuple #[.int .i64 (if okD y m d = true then dnum y m d else 0), errc (eD y m d)]) ∧ Below u.heap.size u w'
  ofOk : ∀ (n y m d : Int) (u : World), Below w0.heap.size w0 u → okD y m d = true → dnum y m d = n → Calls Tryd.prog 22 #[.int .i64 n] u fun e w' => e = .returned (.tuple #[.agg #[.int .i64 y, .int .i64 m, .int .i64 d], .nilIface]) ∧ Below u.heap.size u w'
  ofNo : ∀ (n : Int) (u : World), Below w0.heap.size w0 u → In64 n → n < 0 ∨ 84005 < n → Calls Tryd.prog 22 #[.int .i64 n] u fun e w' => e = .returned (.tuple #[.agg #[.int .i64 0, .int .i64 0, .int .i64 0], .iface 81 (.int .i64 1)]) ∧ Below u.heap.size u w'
  daysOk : ∀ (y m : Int) (u : World), Below w0.heap.size w0 u → 1970 ≤ y → y ≤ 2199 → 1 ≤ m → m ≤ 12 → Calls Tryd.prog 24 #[.int .i64 y, .int .i64 m] u fun e w' => e = .returned (.tuple #[.int .i64 (mdays y m), .nilIface]) ∧ Below u.heap.size u w'
  daysNo : ∀ (y m : Int) (u : World), Below w0.heap.size w0 u → In64 y → In64 m → ¬ (1970 ≤ y ∧ y ≤ 2199 ∧ 1 ≤ m ∧ m ≤ 12) → Calls Tryd.prog 24 #[.int .i64 y, .int .i64 m] u fun e w' => e = .returned (.tuple #[.int .i64 0, .iface 81 (.int .i64 1)]) ∧ Below u.heap.size u w'
  parse : ∀ (s : ByteArray) (y m d e : Int) (u : World), Below w0.heap.size w0 u → s.size ≤ maxLen → RD s y m d e → Calls Tryd.prog 26 #[.string s] u fun x w' => x = .returned (.tuple #[.agg #[.int .i64 y, .int .i64 m, .int .i64 d], errc e]) ∧ Below u.heap.size u w'
structure Civ (w0 : World) : Prop extends Civ0 w0 where
  print : ∀ (y m d : Int) (u : World), Below w0.heap.size w0 u → In64 y → In64 m → In64 d → Calls Tryd.prog 19 #[.agg #[.int .i64 y, .int .i64 m, .int .i64 d]] u fun e w' => e = .returned (.tuple #[.string (if okD y m d = true then dtext y m d else ⟨#[]⟩), errc (eD y m d)]) ∧ Below u.heap.size u w'
theorem Civ0.numOk {w0 : World} (C : Civ0 w0) {y m d : Int} (h : okD y m d = true) (u : World) (hu : Below w0.heap.size w0 u) : Calls Tryd.prog 18 #[.agg #[.int .i64 y, .int .i64 m, .int .i64 d]] u fun e w' => e = .returned (.tuple #[.int .i64 (dnum y m d), .nilIface]) ∧ Below u.heap.size u w' := by
  obtain ⟨a, b, c⟩ := ok64 h
  have k := C.num y m d u hu a b c
  rwa [if_pos h, eD_ok h, errc_zero] at k
theorem Civ0.numNo {w0 : World} (C : Civ0 w0) {y m d : Int} (h : okD y m d = false) (a : In64 y) (b : In64 m) (c : In64 d) (u : World) (hu : Below w0.heap.size w0 u) : Calls Tryd.prog 18 #[.agg #[.int .i64 y, .int .i64 m, .int .i64 d]] u fun e w' => e = .returned (.tuple #[.int .i64 0, .iface 81 (.int .i64 1)]) ∧ Below u.heap.size u w' := by
  have k := C.num y m d u hu a b c
  rwa [if_neg (by rw [h]; decide), eD_no h, errc_not (by decide)] at k
theorem Civ.printOk {w0 : World} (C : Civ w0) {y m d : Int} (h : okD y m d = true) (u : World) (hu : Below w0.heap.size w0 u) : Calls Tryd.prog 19 #[.agg #[.int .i64 y, .int .i64 m, .int .i64 d]] u fun e w' => e = .returned (.tuple #[.string (dtext y m d), .nilIface]) ∧ Below u.heap.size u w' := by
  obtain ⟨a, b, c⟩ := ok64 h
  have k := C.print y m d u hu a b c
  rwa [if_pos h, eD_ok h, errc_zero] at k
/-- What reading a text answers there always is. -/
theorem rd_some (s : ByteArray) : ∃ y m d e, RD s y m d e := by
  by_cases h : Shp s
  · cases o : okD (yr s) (mo s) (da s) with
    | true => exact ⟨_, _, _, _, Or.inr (Or.inr ⟨h, o, rfl, rfl, rfl, rfl⟩)⟩
    | false => exact ⟨_, _, _, _, Or.inr (Or.inl ⟨h, o, rfl, rfl, rfl, rfl⟩)⟩
  · exact ⟨_, _, _, _, Or.inl ⟨h, rfl, rfl, rfl, rfl⟩⟩
end Go.Proofs.YthaajbdppmdhaacDoor
