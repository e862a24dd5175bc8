/- Package net: what Read of its world answers. -/
import Derived.Test.YthejaecljkjliaiGreatDoorNm03
import Derived.Test.YthejaecljkjliaiGreatDoorNm04
import Derived.Lib.SmallJoins
import Derived.Deep.QuietTactic
import Derived.BigQuiet
import Derived.BigRegion
import Derived.IntWalk
namespace Go.Proofs.YthejaecljkjliaiGreatDoor
open Go.ChangeShapes Go.WideShapes Go.ChangeAt Go.RowKit Go.Joins
set_option linter.unusedVariables false
set_option linter.unusedSimpArgs false

section
variable {u : World} {mb : Nat} {L : Nly} {N : Nn}
/-- What Read answers where there is such a clock, and where there is none. -/
theorem read_yes {cb cc : Nat} {S : Ws} {v : Value} {wb : Nat} (h : PW u wb cb cc S v) (g : S.I) {i : Int} (hs : S.hs i) : Calls Tryz.prog 39 #[.pointer (some ⟨wb, 0, none⟩), .int .i64 i] u fun o w' => o = .returned (.tuple #[.int .i64 (S.rd i.toNat), errc 0]) ∧ Below u.heap.size u w' :=
  (wread_any h g i).mono fun _ _ ⟨q, hw⟩ => q.elim (fun q => ⟨q.2, hw⟩) (fun q => absurd hs q.1)
theorem read_no {cb cc : Nat} {S : Ws} {v : Value} {wb : Nat} (h : PW u wb cb cc S v) (g : S.I) {i : Int} (hs : ¬ S.hs i) : Calls Tryz.prog 39 #[.pointer (some ⟨wb, 0, none⟩), .int .i64 i] u fun o w' => o = .returned (.tuple #[.int .i64 0, errc 1]) ∧ Below u.heap.size u w' :=
  (wread_any h g i).mono fun _ _ ⟨q, hw⟩ => q.elim (fun q => absurd q.1 hs) (fun q => ⟨q.2, hw⟩)
end
end Go.Proofs.YthejaecljkjliaiGreatDoor
