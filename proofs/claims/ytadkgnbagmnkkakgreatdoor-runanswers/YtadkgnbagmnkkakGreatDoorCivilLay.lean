/- What I use of the library here: the contract of sort.Search, which the library of proofs holds for every program, at this program numbers. -/
import Derived.Shelf.SlSorted.Search
import Derived.Test.YtadkgnbagmnkkakGreatDoorProg
namespace Go.Proofs
open Go.Shelf
def Tryz.search_ren : Go.Shelf.Ren := ⟨fun | 16 => 161 | n => n, fun | 3 => 3 | 35 => 162 | 4 => 4 | 38 => 215 | n => n, fun | n => n⟩
theorem Tryz.search : Go.Proofs.SlLaysO.n16 Tryz.prog Tryz.search_ren := {
  mixed := by kernel_rfl
  f16 := Tryz.func161.trans (congrArg some (by kernel_rfl))
  t3 := Tryz.underlying3
  a3 := Tryz.isAgg3
  z3 := Tryz.sizeOf3
  v3 := Tryz.zeroValue3
  t4 := Tryz.underlying4
  a4 := Tryz.isAgg4
  z4 := Tryz.sizeOf4
  v4 := Tryz.zeroValue4
  t35 := Tryz.underlying162
  a35 := Tryz.isAgg162
  z35 := Tryz.sizeOf162
  v35 := Tryz.zeroValue162
  t38 := Tryz.underlying215
  a38 := Tryz.isAgg215
  z38 := Tryz.sizeOf215
  v38 := Tryz.zeroValue215 }
end Go.Proofs
