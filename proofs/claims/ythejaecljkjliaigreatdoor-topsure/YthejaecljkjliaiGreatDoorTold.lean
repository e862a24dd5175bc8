/- What plain.Told gives of nil and of an Errno: 0, and that number; so what noonsame.Error answers. The road goes through errors.As at the target of type Errno. -/
import Derived.Test.YthejaecljkjliaiGreatDoorToldAs
import Derived.WalkKit
import Derived.LaidEql
import Derived.Stop.Asserts
import Derived.RowKitTokens
namespace Go.Proofs.YthejaecljkjliaiGreatDoor.told
open Go.RowKit Go.Extern.Stop Go.Stop Go.Extern
set_option linter.unusedVariables false

set_option maxHeartbeats 400000 in
theorem told_nil (w : World) :
    Calls Tryz.prog 28 #[.nilIface] w fun e w' => e = .returned (.int .i64 0) ∧ Below w.heap.size w w' := by
  go_enter Tryz.func28, Tryz.ntmps28
  go_wp2
  go_ret
  exact ⟨rfl, Below.refl _ _⟩

set_option maxHeartbeats 1000000 in
theorem told_errno (k : Int) (w : World) (he : EnvE w) :
    Calls Tryz.prog 28 #[.iface 85 (.int .i64 k)] w fun e w' => e = .returned (.int .i64 k) ∧ Below w.heap.size w w' := by
  have hg : (w.alloc (.cells #[.int .i64 0] 85)).cell? ⟨0, 0, none⟩ = some (.iface 212 (.agg #[.pointer (some ⟨1, 27, none⟩)])) := EnvE.below he ((Below.refl _ _).alloc (Nat.le_refl _) _)
  clear he
  have H : Hid ((w.alloc (.cells #[.int .i64 0] 85)).cell? ⟨0, 0, none⟩ = some (.iface 212 (.agg #[.pointer (some ⟨1, 27, none⟩)]))) := hg
  clear hg
  go_enter Tryz.func28, Tryz.ntmps28
  go_wp2_with (go_at_call 48; refine (as_hit k ⟨w.heap.size, 0, none⟩ (.int .i64 0) _ H.out (by simp) (by simp)).mono ?_; rintro e w' ⟨rfl, rfl⟩)
  go_ret
  refine ⟨rfl, ?_⟩
  (repeat (first | exact Below.refl _ _ | refine Below.alloc ?_ (by first | (simp; done) | (simp; omega) | omega) _ | refine Below.setCell ?_ (by first | (simp; done) | (simp; omega) | omega) _))

set_option maxHeartbeats 400000 in
theorem error_nil (w : World) :
    Calls Tryz.prog 7 #[.nilIface, .int .i64 0] w fun e w' => e = .returned (.bool true) ∧ Below w.heap.size w w' := by
  go_enter Tryz.func7, Tryz.ntmps7
  go_wp2_with (go_at_call 28; refine (told_nil _).mono ?_; rintro e u ⟨rfl, hb⟩)
  go_ret
  exact ⟨rfl, hb⟩

set_option maxHeartbeats 400000 in
theorem error_errno (k : Int) (w : World) (he : EnvE w) :
    Calls Tryz.prog 7 #[.iface 85 (.int .i64 k), .int .i64 k] w fun e w' => e = .returned (.bool true) ∧ Below w.heap.size w w' := by
  have H : Hid (EnvE w) := he
  clear he
  go_enter Tryz.func7, Tryz.ntmps7
  go_wp2_with (go_at_call 28; refine (told_errno k _ H.out).mono ?_; rintro e u ⟨rfl, hb⟩)
  go_ret
  exact ⟨by simp, hb⟩

/-- The error of a number: nil of 0. -/
def errv (f : Int) : Value := if f = 0 then .nilIface else .iface 85 (.int .i64 f)

theorem error_same (f : Int) (w : World) (he : EnvE w) :
    Calls Tryz.prog 7 #[errv f, .int .i64 f] w fun e w' => e = .returned (.bool true) ∧ Below w.heap.size w w' := by
  unfold errv
  by_cases h : f = 0
  · subst h; rw [if_pos rfl]; exact error_nil w
  · rw [if_neg h]; exact error_errno f w he
end Go.Proofs.YthejaecljkjliaiGreatDoor.told
