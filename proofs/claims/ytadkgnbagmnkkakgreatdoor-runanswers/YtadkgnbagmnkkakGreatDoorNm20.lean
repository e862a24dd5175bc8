/- What package civil reckons of years: daysMore, newYear, Last. What package civil reckons of months: before; its table of days ahead of months is a package variable. What the document's own reckoning (package noonref1) answers of a quotient, rounded up. The table of days ahead of months, cell by cell. -/
import Derived.Test.YtadkgnbagmnkkakGreatDoorNm04
import Derived.WalkKit
import Derived.ProofKit
import Derived.OpenShut
import Derived.Outline
import Derived.Below
import Derived.IntWalk
import Derived.Deep.Draws
import Derived.WalkLawsBesides
import Derived.Test.YtadkgnbagmnkkakGreatDoorNm03
import Derived.WalkArith
namespace Go.Proofs.YtadkgnbagmnkkakGreatDoor
open Go.ChangeShapes Go.WideShapes Go.ChangeAt Go.RowKit
set_option linter.unusedVariables false
set_option linter.unusedSimpArgs false

set_option maxHeartbeats 400000
def dmore (y : Int) : Int := (y - 1) / 4 - (y - 1) / 100 + (y - 1) / 400
theorem dmore_in (y : Int) (h0 : 1970 ≤ y) (h1 : y ≤ 2201) : 400 ≤ dmore y ∧ dmore y ≤ 600 := by unfold dmore; omega
theorem dmore_step (y : Int) : dmore (y + 1) - dmore y = if leapB y = true then 1 else 0 := by
 unfold dmore
 by_cases h : leapB y = true
 ·rw [if_pos h]; have := of_decide_eq_true h; omega
 ·rw [if_neg h]; have : leapB y = false := by simpa using h
  have := of_decide_eq_false this; omega
theorem dmore_year (y : Int) (h0 : 1970 ≤ y) (h1 : y ≤ 2200) : 365 * (y - 1970) + dmore y - dmore 1970 = yoff (y - 1970).toNat := by
 rw [yoff_at _ (by omega)]
 unfold dmore
 split <;> omega
theorem yoff_in (k : Nat) (hk : k ≤ 230) : 0 ≤ yoff k ∧ yoff k ≤ 84006 := by
 rw [yoff_at k hk]; split <;> omega

theorem ret_i {a b : Int} (h : a = b) : Ending.returned (.int .i64 a) = .returned (.int .i64 b) := by rw [h]

theorem daysMore_any (y : Int) (w : World) (h0 : 1970 ≤ y) (h1 : y ≤ 2201) :
  Calls Tryz.prog 188 #[.int .i64 y] w fun e w' => e = .returned (.int .i64 (dmore y)) ∧ w' = w := by
 go_enter Tryz.func188, Tryz.ntmps188
 go_wp2
 go_ret
 exact ⟨rfl, rfl⟩

theorem newYear_any (y : Int) (w : World) (h0 : 1970 ≤ y) (h1 : y ≤ 2200) :
  Calls Tryz.prog 164 #[.int .i64 y] w fun e w' => e = .returned (.int .i64 (yoff (y - 1970).toNat)) ∧ w' = w := by
 have E : Hid (365 * (y - 1970) + dmore y - dmore 1970 = yoff (y - 1970).toNat) := dmore_year y h0 h1
 have d1 := dmore_in y h0 (by omega)
 have d2 := dmore_in 1970 (by omega) (by omega)
 obtain ⟨d1a, d1b⟩ := d1
 obtain ⟨d2a, d2b⟩ := d2
 go_enter Tryz.func164, Tryz.ntmps164
 go_wp2_with (go_at_call 188; refine (daysMore_any _ _ (by omega) (by omega)).mono ?_; rintro e u ⟨rfl, hu⟩; rw [hu]; clear hu)
 go_ret
 exact ⟨ret_i E.out, rfl⟩

theorem last_any (w : World) :
  Calls Tryz.prog 160 #[] w fun e w' => e = .returned (.int .i64 84005) ∧ w' = w := by
 have c := newYear_any 2200 w (by omega) (by omega)
 rw [show ((2200 : Int) - 1970).toNat = 230 from rfl, yoff_all] at c
 go_enter Tryz.func160, Tryz.ntmps160
 go_wp2_with (go_at_call 164; refine c.mono ?_; rintro e u ⟨rfl, hu⟩; rw [hu]; clear hu)
 go_ret
 exact ⟨rfl, rfl⟩
def EnvA (w : World) : Prop := ∀ k : Nat, k < 13 → w.cell? ⟨5, k, none⟩ = some (.int .i64 (ahead (k + 1)))
theorem EnvA.below {w w' : World} (h : EnvA w) (hb : Below w.heap.size w w') : EnvA w' := fun k hk => by
 rw [hb.cell (World.block_lt_of_cell? _ _ (h k hk))]; exact h k hk
theorem EnvA.drn {w : World} (h : EnvA w) (q : Nat) : EnvA (w.drewN q) := fun k hk => h k hk

theorem ahead_in (m : Int) : 0 ≤ ahead m ∧ ahead m ≤ 365 := by unfold ahead; repeat' split <;> omega
theorem mfirst_at (y : Int) (k : Nat) (hk : k ≤ 12) : moff y k = ahead ((k : Int) + 1) + (if 2 ≤ k then dmore (y + 1) - dmore y else 0) := by
 rw [moff_at y k hk, dmore_step]
 by_cases h : 2 ≤ k
 ·rw [if_pos h]
  by_cases h2 : leapB y = true
  ·rw [if_pos ⟨h, h2⟩, if_pos h2]
  ·rw [if_neg (fun e => h2 e.2), if_neg h2]
 ·rw [if_neg h, if_neg (fun e => h e.1)]
theorem moff_in (y : Int) (k : Nat) (hk : k ≤ 12) : 0 ≤ moff y k ∧ moff y k ≤ 366 := by
 rw [moff_at y k hk]
 have := ahead_in ((k : Int) + 1)
 split <;> omega
set_option maxHeartbeats 1000000 in
theorem before_any (y : Int) (k : Nat) (w : World) (h0 : 1970 ≤ y) (h1 : y ≤ 2199) (hk : k ≤ 12) (he : EnvA w) :
  Calls Tryz.prog 166 #[.int .i64 y, .int .i64 (k + 1)] w fun e w' => e = .returned (.int .i64 (moff y k)) ∧ w' = w := by
 have E : Hid (moff y k = ahead ((k : Int) + 1) + (if 2 ≤ k then dmore (y + 1) - dmore y else 0)) := mfirst_at y k hk
 have hc := he k (by omega)
 clear he
 obtain ⟨a1, a2⟩ := ahead_in ((k : Int) + 1)
 obtain ⟨d1a, d1b⟩ := dmore_in y h0 (by omega)
 obtain ⟨d2a, d2b⟩ := dmore_in (y + 1) (by omega) (by omega)
 generalize ahead ((k : Int) + 1) = a at *
 by_cases h : 2 ≤ k
 ·have E2 : Hid (a + (dmore (y + 1) - dmore y) = moff y k) := by show _ = _; rw [E.out, if_pos h]
  go_enter Tryz.func166, Tryz.ntmps166
  go_wp2_with (go_at_call 188; refine (daysMore_any _ _ (by omega) (by omega)).mono ?_; rintro e u ⟨rfl, hu⟩; rw [hu]; clear hu)
  go_ret
  exact ⟨ret_i E2.out, rfl⟩
 ·have E2 : Hid (a = moff y k) := by show _ = _; rw [E.out, if_neg h, Int.add_zero]
  go_enter Tryz.func166, Tryz.ntmps166
  go_wp2
  go_ret
  exact ⟨ret_i E2.out, rfl⟩
theorem up_more {a b : Int} (h1 : 1 ≤ b) (h : a / b * b < a) : a / b + 1 = (a + b - 1) / b := by
 have e := Int.mul_ediv_add_emod a b
 have r1 := Int.emod_lt_of_pos a (show 0 < b by omega)
 have c : b * (a / b) = a / b * b := Int.mul_comm _ _
 have e2 : a + b - 1 = (a % b - 1) + b * (a / b + 1) := by rw [Int.mul_add]; omega
 have z : (a % b - 1) / b = 0 := Int.ediv_eq_zero_of_lt (by omega) (by omega)
 rw [e2, Int.add_mul_ediv_left _ _ (by omega), z]
 omega
theorem up_same {a b : Int} (h1 : 1 ≤ b) (h : ¬ a / b * b < a) : a / b = (a + b - 1) / b := by
 have e := Int.mul_ediv_add_emod a b
 have r0 := Int.emod_nonneg a (show b ≠ 0 by omega)
 have c : b * (a / b) = a / b * b := Int.mul_comm _ _
 have e2 : a + b - 1 = (b - 1) + b * (a / b) := by omega
 have z : (b - 1) / b = 0 := Int.ediv_eq_zero_of_lt (by omega) (by omega)
 rw [e2, Int.add_mul_ediv_left _ _ (by omega), z]
 omega
theorem up_b {a b : Int} (h0 : 0 ≤ a) (h1 : 1 ≤ b) : 0 ≤ a / b * b ∧ a / b * b ≤ a := by
 have e := Int.mul_ediv_add_emod a b
 have r0 := Int.emod_nonneg a (show b ≠ 0 by omega)
 have c : b * (a / b) = a / b * b := Int.mul_comm _ _
 exact ⟨Int.mul_nonneg (IntWalk.tdiv_le a b h0 h1).1 (by omega), by omega⟩

set_option maxHeartbeats 1000000 in
theorem rup_same (a b : Int) (w : World) (h1 : 0 ≤ a) (h2 : a ≤ 9000000000000000000) (h3 : 1 ≤ b) (h4 : b ≤ 2000000) :
  Calls Tryz.prog 138 #[.int .i64 a, .int .i64 b] w fun e w' => e = .returned (.int .i64 ((a + b - 1) / b)) ∧ w' = w := by
 have q := IntWalk.tdiv_le a b h1 h3
 obtain ⟨q1, q2⟩ := q
 have r := up_b h1 h3
 obtain ⟨r1, r2⟩ := r
 have hnz : ¬ (b = 0) := by omega
 by_cases h : a / b * b < a
 ·have H : Hid (a / b + 1 = (a + b - 1) / b) := up_more h3 h
  go_enter Tryz.func138, Tryz.ntmps138
  go_wp2
  go_ret
  exact ⟨(by rw [H.out]; rfl), rfl⟩
 ·have H : Hid (a / b = (a + b - 1) / b) := up_same h3 h
  go_enter Tryz.func138, Tryz.ntmps138
  go_wp2
  go_ret
  exact ⟨(by rw [← H.out]; rfl), rfl⟩
end Go.Proofs.YtadkgnbagmnkkakGreatDoor
namespace Go.Proofs.YtadkgnbagmnkkakGreatDoor
open Go.ChangeShapes Go.WideShapes Go.ChangeAt Go.RowKit
set_option linter.unusedVariables false

def aheadTab : List Int := [0, 31, 59, 90, 120, 151, 181, 212, 243, 273, 304, 334, 365]
theorem EnvA.of_cells {w : World} (h : ∀ k, k < aheadTab.length → w.cell? ⟨5, k, none⟩ = some (.int .i64 (aheadTab.getD k 0))) : EnvA w := fun k hk => by
 rw [h k hk]
 match k, hk with
 | 0, _ => rfl
 | 1, _ => rfl
 | 2, _ => rfl
 | 3, _ => rfl
 | 4, _ => rfl
 | 5, _ => rfl
 | 6, _ => rfl
 | 7, _ => rfl
 | 8, _ => rfl
 | 9, _ => rfl
 | 10, _ => rfl
 | 11, _ => rfl
 | 12, _ => rfl
end Go.Proofs.YtadkgnbagmnkkakGreatDoor
