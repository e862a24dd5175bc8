/- Package keeper, as it landed: Writes. -/
import Derived.Test.YtigcliepeapcpajDoorKeeperPkgA
import Derived.Test.YtigcliepeapcpajDoorKeeperDef
namespace Go.Proofs.YtigcliepeapcpajDoor
open Go.ChangeShapes Go.WideShapes Go.ChangeAt Go.RowKit Go.Joins
set_option linter.unusedVariables false

theorem kwrites (b : Nat) (c : Kp) (u : World) (hR : PK u b c) : Calls Tryd.prog 10 #[.pointer (some ⟨b, 0, none⟩)] u fun o w' => o = .returned (.int .i64 c.s) ∧ PK w' b c ∧ Keeps (fun k => k = b) u w' := by
  have HR : Hid (PK u b c) := hR
  have c3 := Blk.c hR 3 _ rfl
  clear hR
  go_enter Tryd.func10, Tryd.ntmps10
  go_wp2
  go_ret
  exact ⟨rfl, HR.out, Keeps.refl _ _⟩
def kq (w : World) : Kq w where
  R := PK
  lt := fun h => Blk.lt h
  on := fun h e => e.trans h
  new := fun a u _ h0 h1 => knew_ok a u h0 h1
  bad := fun a u _ _ h => knew_no a u h
  read := fun b c m x u _ _ hR hI hm _ => kread_any b c m x u hR hI hm
  writes := fun b c m u _ _ hR _ _ => kwrites b c u hR
end Go.Proofs.YtigcliepeapcpajDoor
