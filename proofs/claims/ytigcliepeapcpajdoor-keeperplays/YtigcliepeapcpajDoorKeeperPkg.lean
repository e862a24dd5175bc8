/- Package keeper, as it landed: Crash, Kept. -/
import Derived.Test.YtigcliepeapcpajDoorKeeperPkgW
import Derived.Test.YtigcliepeapcpajDoorKeeperDefC
namespace Go.Proofs.YtigcliepeapcpajDoor
open Go.ChangeShapes Go.WideShapes Go.ChangeAt Go.RowKit Go.Joins
set_option linter.unusedVariables false

theorem kcrash (b : Nat) (c : Kp) (u : World) (hR : PK u b c) : Calls Tryd.prog 6 #[.pointer (some ⟨b, 0, none⟩)] u fun o w' => o = .returned (.tuple #[]) ∧ PK w' b c.crashC ∧ Keeps (fun k => k = b) u w' := by
  have e : PK (u.setCell ⟨b, 1, none⟩ (.int .i64 c.k)) b c.crashC := by
    have := Blk.put (x := .int .i64 c.k) 1 hR
    have k : c.k - 1 + 1 = c.k := by omega
    show Blk _ _ b [_, .int .i64 (c.k - 1 + 1), _, _]
    rw [k]
    exact this
  have HR : Hid _ := e
  have c2 := Blk.c hR 2 _ rfl
  have f1 := Blk.f hR 1
  have c1 := Blk.c hR 1 _ rfl
  clear hR e
  go_enter Tryd.func6, Tryd.ntmps6
  go_wp2
  go_end0
  exact ⟨rfl, HR.out, Keeps.put (S := fun k => k = b) rfl (Keeps.refl _ _)⟩
theorem kkept (b : Nat) (c : Kp) (u : World) (hR : PK u b c) : Calls Tryd.prog 9 #[.pointer (some ⟨b, 0, none⟩)] u fun o w' => o = .returned (.int .i64 c.k) ∧ PK w' b c ∧ Keeps (fun k => k = b) u w' := by
  have HR : Hid (PK u b c) := hR
  have c2 := Blk.c hR 2 _ rfl
  clear hR
  go_enter Tryd.func9, Tryd.ntmps9
  go_wp2
  go_ret
  exact ⟨rfl, HR.out, Keeps.refl _ _⟩
def kqc (w : World) : KqC w := { kq w with
  crash := fun b c m u _ _ hR _ _ => kcrash b c u hR
  kept := fun b c m u _ _ hR _ _ => kkept b c u hR
  }
end Go.Proofs.YtigcliepeapcpajDoor
