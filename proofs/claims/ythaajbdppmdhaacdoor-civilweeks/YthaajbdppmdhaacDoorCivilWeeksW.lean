/- From what package civil must answer to the law CivilWeeks. -/
import Derived.Test.YthaajbdppmdhaacDoorCivilCiv
import Derived.Test.YthaajbdppmdhaacDoorCivilWeeksA
namespace Go.Proofs.YthaajbdppmdhaacDoor.civilWeeks
open Go.ChangeShapes Go.WideShapes Go.ChangeAt Go.RowKit
set_option linter.unusedVariables false

theorem all_ways (y : Int) (w : World) (C : Civ0 w) (wy : In64 y) :
    Calls Tryd.prog 6 #[.int .i64 y] w fun e w' => e = .returned (.bool true) ∧ Below w.heap.size w w' := by
  have i1 : In64 1 := by decide
  have i12 : In64 12 := by decide
  have i31 : In64 31 := by decide
  by_cases h1 : y < 1970
  · have n1 : okD y 1 1 = false := decide_eq_false (by omega)
    have n2 : okD y 12 31 = false := decide_eq_false (by omega)
    exact low y w h1 (C.numNo n1 wy i1 i1) (C.numNo n2 wy i12 i31)
  · by_cases h2 : 2199 < y
    · have n1 : okD y 1 1 = false := decide_eq_false (by omega)
      have n2 : okD y 12 31 = false := decide_eq_false (by omega)
      exact high y w (by omega) h2 (C.numNo n1 wy i1 i1) (C.numNo n2 wy i12 i31)
    · have m1 : mdays y 1 = 31 := rfl
      have m12 : mdays y 12 = 31 := rfl
      have o1 : okD y 1 1 = true := okD_mk (by omega)
      have o2 : okD y 12 31 = true := okD_mk (by omega)
      have r1 := dnum_range o1
      have r2 := dnum_range o2
      have m2 : 28 ≤ mdays y 2 ∧ mdays y 2 ≤ 29 := by unfold mdays; cases leapB y <;> simp
      exact inside y _ _ _ w (by omega) (by omega) (by omega) (by omega) (by omega) (by omega) (year_is y (by omega) (by omega)) (C.numOk o1) (C.numOk o2) (fun u hu => C.daysOk y 2 u hu (by omega) (by omega) (by omega) (by omega))
end Go.Proofs.YthaajbdppmdhaacDoor.civilWeeks
