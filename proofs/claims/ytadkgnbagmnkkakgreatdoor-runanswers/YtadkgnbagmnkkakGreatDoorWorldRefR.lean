/- What the document's own reckoning (package noonref2) answers of a clock: has, Read. -/
import Derived.Test.YtadkgnbagmnkkakGreatDoorNm03
import Derived.Test.YtadkgnbagmnkkakGreatDoorNm04
import Derived.Test.YtadkgnbagmnkkakGreatDoorNm05
import Derived.Lib.SmallJoins
import Derived.OwnWalk
import Derived.BigQuiet
import Derived.Deep.QuietTactic
import Derived.Deep.RegionWith
import Derived.Deep.CutRange
import Derived.Deep.CutBlock
import Derived.IntWalk
namespace Go.Proofs.YtadkgnbagmnkkakGreatDoor
open Go.ChangeShapes Go.WideShapes Go.ChangeAt Go.RowKit Go.Joins
set_option linter.unusedVariables false
set_option linter.unusedSimpArgs false

set_option maxHeartbeats 8000000
set_option maxRecDepth 100000
theorem tdiv_floor (y : Int) : (y.tdiv 1000000 * 1000000 ≤ y → y.tdiv 1000000 = y / 1000000) ∧ (y < y.tdiv 1000000 * 1000000 → y.tdiv 1000000 - 1 = y / 1000000) ∧ y / 1000000 ≤ y.tdiv 1000000 ∧ y.tdiv 1000000 ≤ y / 1000000 + 1 := by
 by_cases h : 0 ≤ y
 ·rw [Int.tdiv_eq_ediv_of_nonneg h]
  omega
 ·obtain ⟨z, rfl⟩ : ∃ z, y = -z := ⟨-y, by omega⟩
  rw [Int.neg_tdiv, Int.tdiv_eq_ediv_of_nonneg (by omega)]
  omega
theorem rhas (mb n sc : Nat) (sa : Option Addr) (i : Int) (w : World) (hn : n ≤ 9223372036854775807) (c0 : w.cell? ⟨mb, 0, none⟩ = some (.slice sa n sc)) :
  Calls Tryz.prog 73 #[.pointer (some ⟨mb, 0, none⟩), .int .i64 i] w fun o w' => o = .returned (.bool (decide (0 ≤ i ∧ i < n))) ∧ Below w.heap.size w w' := by
 by_cases h : 0 ≤ i
 ·by_cases h2 : i < n
  ·rw [show decide (0 ≤ i ∧ i < n) = true from decide_eq_true ⟨h, h2⟩]
   have d1 : decide (i < (n : Int)) = true := decide_eq_true h2
   go_enter Tryz.func73, Tryz.ntmps73
   go_wp2
   go_ret
   exact ⟨rfl, Below.refl _ _⟩
  ·rw [show decide (0 ≤ i ∧ i < n) = false from decide_eq_false (fun q => h2 q.2)]
   have d1 : decide (i < (n : Int)) = false := decide_eq_false h2
   go_enter Tryz.func73, Tryz.ntmps73
   go_wp2
   go_ret
   exact ⟨rfl, Below.refl _ _⟩
 ·rw [show decide (0 ≤ i ∧ i < n) = false from decide_eq_false (fun q => h q.1)]
  have d1 : decide (0 ≤ i) = false := decide_eq_false h
  go_enter Tryz.func73, Tryz.ntmps73
  go_wp2
  go_ret
  exact ⟨rfl, Below.refl _ _⟩
theorem rread (mb n sc rc : Nat) (sa ra : Option Addr) (S : Ws) (i : Nat) (w : World) (hI : S.I) (hn : S.n = n) (hi : i < n) (c0 : w.cell? ⟨mb, 0, none⟩ = some (.slice sa n sc)) (c1 : w.cell? ⟨mb, 1, none⟩ = some (.slice ra n rc)) (c2 : w.cell? ⟨mb, 2, none⟩ = some (.int .i64 S.time)) (hS : NHanded w sa n S.starts) (hR : NHanded w ra n S.rates) :
  Calls Tryz.prog 23 #[.pointer (some ⟨mb, 0, none⟩), .int .i64 i] w fun o w' => o = .returned (.int .i64 (S.rd i)) ∧ Below w.heap.size w w' := by
 subst hn
 obtain ⟨b1, o1, rfl, hP1⟩ : ∃ b off : Nat, sa = some ⟨b, off, none⟩ ∧ Nrd w b off S.n S.starts := hS.2.resolve_left (by omega)
 obtain ⟨b2, o2, rfl, hP2⟩ : ∃ b off : Nat, ra = some ⟨b, off, none⟩ ∧ Nrd w b off S.n S.rates := hR.2.resolve_left (by omega)
 have x1 := hP1 i hi
 have x2 := hP2 i hi
 have l0 := World.block_lt_of_cell? _ _ c0
 have l1 := World.block_lt_of_cell? _ _ x1
 have l2 := World.block_lt_of_cell? _ _ x2
 obtain ⟨r1, r2, r3, r4, r5, r6⟩ := Ws.rd_in hI hi
 obtain ⟨s1, s2⟩ := hI.st i hi
 have t0 := hI.t0
 have t1 := hI.t1
 have n6 := hI.n6
 have hl : (i : Int) < (S.n : Int) := by omega
 obtain ⟨q1, q2, q3, q4⟩ := tdiv_floor (S.time * S.rates i)
 have e : S.rd i = S.starts i + S.time + (S.time * S.rates i) / 1000000 := rfl
 rw [e]
 have wy : IntKind.i64.wrap (S.time * S.rates i) = S.time * S.rates i := IntWalk.i64_in _ (by omega)
 have wst : IntKind.i64.wrap (S.starts i + S.time) = S.starts i + S.time := IntWalk.i64_in _ (by omega)
 have wt : IntKind.i64.wrap ((S.time * S.rates i).tdiv 1000000) = (S.time * S.rates i).tdiv 1000000 := IntWalk.i64_in _ (by omega)
 have we : IntKind.i64.wrap (S.starts i + S.time + (S.time * S.rates i) / 1000000) = S.starts i + S.time + (S.time * S.rates i) / 1000000 := IntWalk.i64_in _ (by omega)
 clear hI hS hR hP1 hP2 e r5 r6
 generalize S.time = T at *
 generalize S.rates i = rr at *
 generalize S.starts i = st at *
 go_enter Tryz.func23, Tryz.ntmps23
 go_upto_region 1 with (fail)
 go_quiet (fail)
 generalize hy : T * rr = y at *
 obtain ⟨K, hK⟩ : ∃ K, y.tdiv 1000000 = K := ⟨_, rfl⟩
 rw [hK] at q1 q2 q3 q4 wt
 obtain ⟨D, hD⟩ : ∃ D, y / 1000000 = D := ⟨_, rfl⟩
 rw [hD] at q1 q2 q3 q4 we r1 r2
 have wk : IntKind.i64.wrap (K * 1000000) = K * 1000000 := IntWalk.i64_in _ (by omega)
 have wk1 : IntKind.i64.wrap (K - 1) = K - 1 := IntWalk.i64_in _ (by omega)
 by_cases hg : y < K * 1000000
 ·have dg : decide (y < K * 1000000) = true := decide_eq_true hg
  have e1 : K - 1 = D := q2 hg
  rw [e1] at wk1
  clear q1 q2
  go_upto_region 5 with (fail)
  go_quiet (fail)
  go_wp2
  go_ret
  exact ⟨by simp [hy, hD, e1], rbel_drn (Below.refl _ _)⟩
 ·have dg : decide (y < K * 1000000) = false := decide_eq_false hg
  have e1 : K = D := q1 (by omega)
  clear q1 q2
  go_upto_region 5 with (fail)
  go_quiet (fail)
  go_wp2
  go_ret
  exact ⟨by simp [hy, hD, e1], rbel_drn (Below.refl _ _)⟩
end Go.Proofs.YtadkgnbagmnkkakGreatDoor
