/- What plain.Told gives of nil and of an Errno: 0, and that number; so what noonsame.Error answers. The road goes through errors.As at the target of type Errno. -/
import Derived.Test.YthejaecljkjliacDoorToldAs
import Derived.WalkKit
import Derived.LaidEql
import Derived.Stop.Asserts
import Derived.RowKitTokens
namespace Go.Proofs.YthejaecljkjliacDoor.told
open Go.RowKit Go.Extern.Stop Go.Stop Go.Extern
set_option linter.unusedVariables false

set_option maxHeartbeats 400000 in
theorem told_nil (w : World) :
    Calls Tryd.prog 44 #[.nilIface] w fun e w' => e = .returned (.int .i64 0) ∧ Below w.heap.size w w' := by
  go_enter Tryd.func44, Tryd.ntmps44
  go_wp2
  go_ret
  exact ⟨rfl, Below.refl _ _⟩

set_option maxHeartbeats 1000000 in
theorem told_errno (k : Int) (w : World) (he : EnvE w) :
    Calls Tryd.prog 44 #[.iface 81 (.int .i64 k)] w fun e w' => e = .returned (.int .i64 k) ∧ Below w.heap.size w w' := by
  have hg : (w.alloc (.cells #[.int .i64 0] 81)).cell? ⟨3, 0, none⟩ = some (.iface 131 (.agg #[.pointer (some ⟨7, 25, none⟩)])) := EnvE.below he ((Below.refl _ _).alloc (Nat.le_refl _) _)
  clear he
  have H : Hid ((w.alloc (.cells #[.int .i64 0] 81)).cell? ⟨3, 0, none⟩ = some (.iface 131 (.agg #[.pointer (some ⟨7, 25, none⟩)]))) := hg
  clear hg
  go_enter Tryd.func44, Tryd.ntmps44
  go_wp2_with (go_at_call 77; refine (as_hit k ⟨w.heap.size, 0, none⟩ (.int .i64 0) _ H.out (by simp) (by simp)).mono ?_; rintro e w' ⟨rfl, rfl⟩)
  go_ret
  refine ⟨rfl, ?_⟩
  (repeat (first | exact Below.refl _ _ | refine Below.alloc ?_ (by first | (simp; done) | (simp; omega) | omega) _ | refine Below.setCell ?_ (by first | (simp; done) | (simp; omega) | omega) _))

set_option maxHeartbeats 400000 in
theorem error_nil (w : World) :
    Calls Tryd.prog 10 #[.nilIface, .int .i64 0] w fun e w' => e = .returned (.bool true) ∧ Below w.heap.size w w' := by
  go_enter Tryd.func10, Tryd.ntmps10
  go_wp2_with (go_at_call 44; refine (told_nil _).mono ?_; rintro e u ⟨rfl, hb⟩)
  go_ret
  exact ⟨rfl, hb⟩

set_option maxHeartbeats 400000 in
theorem error_errno (k : Int) (w : World) (he : EnvE w) :
    Calls Tryd.prog 10 #[.iface 81 (.int .i64 k), .int .i64 k] w fun e w' => e = .returned (.bool true) ∧ Below w.heap.size w w' := by
  have H : Hid (EnvE w) := he
  clear he
  go_enter Tryd.func10, Tryd.ntmps10
  go_wp2_with (go_at_call 44; refine (told_errno k _ H.out).mono ?_; rintro e u ⟨rfl, hb⟩)
  go_ret
  exact ⟨by simp, hb⟩

/-- The error of a number: nil of 0. -/
def errv (f : Int) : Value := if f = 0 then .nilIface else .iface 81 (.int .i64 f)

theorem error_same (f : Int) (w : World) (he : EnvE w) :
    Calls Tryd.prog 10 #[errv f, .int .i64 f] w fun e w' => e = .returned (.bool true) ∧ Below w.heap.size w w' := by
  unfold errv
  by_cases h : f = 0
  · subst h; rw [if_pos rfl]; exact error_nil w
  · rw [if_neg h]; exact error_errno f w he
end Go.Proofs.YthejaecljkjliacDoor.told
