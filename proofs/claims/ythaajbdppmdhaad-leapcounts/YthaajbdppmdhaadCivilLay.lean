/- What I use of the library here: the contract of sort.Search, which the library of proofs holds for every program, at this program numbers. -/
import Derived.Shelf.SlSorted.Search
import Derived.Test.YthaajbdppmdhaadProg
namespace Go.Proofs
open Go.Shelf
def Try.search_ren : Go.Shelf.Ren := ⟨fun | 16 => 11 | n => n, fun | 3 => 3 | 35 => 37 | 4 => 4 | 38 => 39 | n => n, fun | n => n⟩
theorem Try.search : Go.Proofs.SlLaysO.n16 Try.prog Try.search_ren := {
  mixed := by kernel_rfl
  f16 := Try.func11.trans (congrArg some (by kernel_rfl))
  t3 := Try.underlying3
  a3 := Try.isAgg3
  z3 := Try.sizeOf3
  v3 := Try.zeroValue3
  t4 := Try.underlying4
  a4 := Try.isAgg4
  z4 := Try.sizeOf4
  v4 := Try.zeroValue4
  t35 := Try.underlying37
  a35 := Try.isAgg37
  z35 := Try.sizeOf37
  v35 := Try.zeroValue37
  t38 := Try.underlying39
  a38 := Try.isAgg39
  z38 := Try.sizeOf39
  v38 := Try.zeroValue39 }
end Go.Proofs
