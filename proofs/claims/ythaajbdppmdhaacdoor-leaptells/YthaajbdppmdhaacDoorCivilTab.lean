/- What package civil reckons of months: before; its table of days ahead of months is a package variable. -/
import Derived.Test.YthaajbdppmdhaacDoorCivilYear
import Derived.WalkKit
import Derived.ProofKit
import Derived.OpenShut
import Derived.Outline
import Derived.Below
import Derived.IntWalk
import Derived.Deep.Draws
import Derived.WalkLawsBesides
namespace Go.Proofs.YthaajbdppmdhaacDoor
open Go.ChangeShapes Go.WideShapes Go.ChangeAt Go.RowKit
set_option linter.unusedVariables false
set_option linter.unusedSimpArgs false

/-- What package civil reads of the package variables: the days ahead of each month. -/
def EnvA (w : World) : Prop := ∀ k : Nat, k < 13 → w.cell? ⟨0, k, none⟩ = some (.int .i64 (ahead (k + 1)))
theorem EnvA.below {w w' : World} (h : EnvA w) (hb : Below w.heap.size w w') : EnvA w' := fun k hk => by
  rw [hb.cell (World.block_lt_of_cell? _ _ (h k hk))]; exact h k hk
theorem EnvA.drn {w : World} (h : EnvA w) (q : Nat) : EnvA (w.drewN q) := fun k hk => h k hk

theorem ahead_in (m : Int) : 0 ≤ ahead m ∧ ahead m ≤ 365 := by unfold ahead; repeat' split <;> omega
/-- The days ahead of a month. -/
def mfirst (y : Int) (k : Nat) : Int := moff y k
theorem mfirst_at (y : Int) (k : Nat) (hk : k ≤ 12) : moff y k = ahead ((k : Int) + 1) + (if 2 ≤ k then dmore (y + 1) - dmore y else 0) := by
  rw [moff_at y k hk, dmore_step]
  by_cases h : 2 ≤ k
  · rw [if_pos h]
    by_cases h2 : leapB y = true
    · rw [if_pos ⟨h, h2⟩, if_pos h2]
    · rw [if_neg (fun e => h2 e.2), if_neg h2]
  · rw [if_neg h, if_neg (fun e => h e.1)]
theorem moff_in (y : Int) (k : Nat) (hk : k ≤ 12) : 0 ≤ moff y k ∧ moff y k ≤ 366 := by
  rw [moff_at y k hk]
  have := ahead_in ((k : Int) + 1)
  split <;> omega
set_option maxHeartbeats 1000000 in
theorem before_any (y : Int) (k : Nat) (w : World) (h0 : 1970 ≤ y) (h1 : y ≤ 2199) (hk : k ≤ 12) (he : EnvA w) :
    Calls Tryd.prog 54 #[.int .i64 y, .int .i64 (k + 1)] w fun e w' => e = .returned (.int .i64 (moff y k)) ∧ w' = w := by
  have E : Hid (moff y k = ahead ((k : Int) + 1) + (if 2 ≤ k then dmore (y + 1) - dmore y else 0)) := mfirst_at y k hk
  have hc := he k (by omega)
  clear he
  obtain ⟨a1, a2⟩ := ahead_in ((k : Int) + 1)
  obtain ⟨d1a, d1b⟩ := dmore_in y h0 (by omega)
  obtain ⟨d2a, d2b⟩ := dmore_in (y + 1) (by omega) (by omega)
  generalize ahead ((k : Int) + 1) = a at *
  by_cases h : 2 ≤ k
  · have E2 : Hid (a + (dmore (y + 1) - dmore y) = moff y k) := by show _ = _; rw [E.out, if_pos h]
    go_enter Tryd.func54, Tryd.ntmps54
    go_wp2_with (go_at_call 80; refine (daysMore_any _ _ (by omega) (by omega)).mono ?_; rintro e u ⟨rfl, hu⟩; rw [hu]; clear hu)
    go_ret
    exact ⟨ret_i E2.out, rfl⟩
  · have E2 : Hid (a = moff y k) := by show _ = _; rw [E.out, if_neg h, Int.add_zero]
    go_enter Tryd.func54, Tryd.ntmps54
    go_wp2
    go_ret
    exact ⟨ret_i E2.out, rfl⟩
end Go.Proofs.YthaajbdppmdhaacDoor
