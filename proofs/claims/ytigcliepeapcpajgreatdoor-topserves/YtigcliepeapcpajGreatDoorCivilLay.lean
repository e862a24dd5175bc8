/- What I use of the library here: the contract of sort.Search, which the library of proofs holds for every program, at this program numbers. -/
import Derived.Shelf.SlSorted.Search
import Derived.Test.YtigcliepeapcpajGreatDoorProg
namespace Go.Proofs
open Go.Shelf
def Tryz.search_ren : Go.Shelf.Ren := ⟨fun | 16 => 58 | n => n, fun | 3 => 3 | 35 => 82 | 4 => 4 | 38 => 89 | n => n, fun | n => n⟩
theorem Tryz.search : Go.Proofs.SlLaysO.n16 Tryz.prog Tryz.search_ren := {
  mixed := by kernel_rfl
  f16 := Tryz.func58.trans (congrArg some (by kernel_rfl))
  t3 := Tryz.underlying3
  a3 := Tryz.isAgg3
  z3 := Tryz.sizeOf3
  v3 := Tryz.zeroValue3
  t4 := Tryz.underlying4
  a4 := Tryz.isAgg4
  z4 := Tryz.sizeOf4
  v4 := Tryz.zeroValue4
  t35 := Tryz.underlying82
  a35 := Tryz.isAgg82
  z35 := Tryz.sizeOf82
  v35 := Tryz.zeroValue82
  t38 := Tryz.underlying89
  a38 := Tryz.isAgg89
  z38 := Tryz.sizeOf89
  v38 := Tryz.zeroValue89 }
end Go.Proofs
