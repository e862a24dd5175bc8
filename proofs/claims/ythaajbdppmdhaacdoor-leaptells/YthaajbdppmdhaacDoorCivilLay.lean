/- What I use of the library here: the contract of sort.Search, which the library of proofs holds for every program, at this program numbers. -/
import Derived.Shelf.SlSorted.Search
import Derived.Test.YthaajbdppmdhaacDoorProg
namespace Go.Proofs
open Go.Shelf
def Tryd.search_ren : Go.Shelf.Ren := ⟨fun | 16 => 58 | n => n, fun | 3 => 3 | 35 => 59 | 4 => 4 | 38 => 113 | n => n, fun | n => n⟩
theorem Tryd.search : Go.Proofs.SlLaysO.n16 Tryd.prog Tryd.search_ren := {
  mixed := by kernel_rfl
  f16 := Tryd.func58.trans (congrArg some (by kernel_rfl))
  t3 := Tryd.underlying3
  a3 := Tryd.isAgg3
  z3 := Tryd.sizeOf3
  v3 := Tryd.zeroValue3
  t4 := Tryd.underlying4
  a4 := Tryd.isAgg4
  z4 := Tryd.sizeOf4
  v4 := Tryd.zeroValue4
  t35 := Tryd.underlying59
  a35 := Tryd.isAgg59
  z35 := Tryd.sizeOf59
  v35 := Tryd.zeroValue59
  t38 := Tryd.underlying113
  a38 := Tryd.isAgg113
  z38 := Tryd.sizeOf113
  v38 := Tryd.zeroValue113 }
end Go.Proofs
