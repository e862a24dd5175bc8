/- What the document's own reckoning (package noonref2) answers of a clock: has, Read. What the document's own reckoning (package noonref2) answers of clocks: Begin. -/
import Derived.Test.YtnagdjipmpjaaaiGreatDoorNm01
import Derived.Test.YtnagdjipmpjaaaiGreatDoorNm02
import Derived.Lib.SmallJoins
import Derived.OwnWalk
import Derived.BigQuiet
import Derived.Deep.QuietTactic
import Derived.Deep.RegionWith
import Derived.Deep.CutRange
import Derived.Deep.CutBlock
import Derived.IntWalk
namespace Go.Proofs.YtnagdjipmpjaaaiGreatDoor
open Go.ChangeShapes Go.WideShapes Go.ChangeAt Go.RowKit Go.Joins
set_option linter.unusedVariables false
set_option linter.unusedSimpArgs false

theorem tdiv_floor (y : Int) : (y.tdiv 1000000 * 1000000 ≤ y → y.tdiv 1000000 = y / 1000000) ∧ (y < y.tdiv 1000000 * 1000000 → y.tdiv 1000000 - 1 = y / 1000000) ∧ y / 1000000 ≤ y.tdiv 1000000 ∧ y.tdiv 1000000 ≤ y / 1000000 + 1 := by
  by_cases h : 0 ≤ y
  · rw [Int.tdiv_eq_ediv_of_nonneg h]
    omega
  · obtain ⟨z, rfl⟩ : ∃ z, y = -z := ⟨-y, by omega⟩
    rw [Int.neg_tdiv, Int.tdiv_eq_ediv_of_nonneg (by omega)]
    omega
set_option maxRecDepth 100000 in
set_option maxHeartbeats 4000000 in
theorem rhas (mb n sc : Nat) (sa : Option Addr) (i : Int) (w : World) (hn : n ≤ 9223372036854775807) (c0 : w.cell? ⟨mb, 0, none⟩ = some (.slice sa n sc)) :
    Calls Tryz.prog 55 #[.pointer (some ⟨mb, 0, none⟩), .int .i64 i] w fun o w' => o = .returned (.bool (decide (0 ≤ i ∧ i < n))) ∧ Below w.heap.size w w' := by
  by_cases h : 0 ≤ i
  · by_cases h2 : i < n
    · rw [show decide (0 ≤ i ∧ i < n) = true from decide_eq_true ⟨h, h2⟩]
      have d1 : decide (i < (n : Int)) = true := decide_eq_true h2
      go_enter Tryz.func55, Tryz.ntmps55
      go_wp2
      go_ret
      exact ⟨rfl, Below.refl _ _⟩
    · rw [show decide (0 ≤ i ∧ i < n) = false from decide_eq_false (fun q => h2 q.2)]
      have d1 : decide (i < (n : Int)) = false := decide_eq_false h2
      go_enter Tryz.func55, Tryz.ntmps55
      go_wp2
      go_ret
      exact ⟨rfl, Below.refl _ _⟩
  · rw [show decide (0 ≤ i ∧ i < n) = false from decide_eq_false (fun q => h q.1)]
    have d1 : decide (0 ≤ i) = false := decide_eq_false h
    go_enter Tryz.func55, Tryz.ntmps55
    go_wp2
    go_ret
    exact ⟨rfl, Below.refl _ _⟩
set_option maxRecDepth 100000 in
set_option maxHeartbeats 8000000 in
theorem rread (mb n sc rc : Nat) (sa ra : Option Addr) (S : Ws) (i : Nat) (w : World) (hI : S.I) (hn : S.n = n) (hi : i < n) (c0 : w.cell? ⟨mb, 0, none⟩ = some (.slice sa n sc)) (c1 : w.cell? ⟨mb, 1, none⟩ = some (.slice ra n rc)) (c2 : w.cell? ⟨mb, 2, none⟩ = some (.int .i64 S.time)) (hS : NHanded w sa n S.starts) (hR : NHanded w ra n S.rates) :
    Calls Tryz.prog 18 #[.pointer (some ⟨mb, 0, none⟩), .int .i64 i] w fun o w' => o = .returned (.int .i64 (S.rd i)) ∧ Below w.heap.size w w' := by
  subst hn
  obtain ⟨b1, o1, rfl, hP1⟩ : ∃ b off : Nat, sa = some ⟨b, off, none⟩ ∧ Nrd w b off S.n S.starts := hS.2.resolve_left (by omega)
  obtain ⟨b2, o2, rfl, hP2⟩ : ∃ b off : Nat, ra = some ⟨b, off, none⟩ ∧ Nrd w b off S.n S.rates := hR.2.resolve_left (by omega)
  have x1 := hP1 i hi
  have x2 := hP2 i hi
  have l0 := World.block_lt_of_cell? _ _ c0
  have l1 := World.block_lt_of_cell? _ _ x1
  have l2 := World.block_lt_of_cell? _ _ x2
  obtain ⟨r1, r2, r3, r4, r5, r6⟩ := Ws.rd_in hI hi
  obtain ⟨s1, s2⟩ := hI.st i hi
  have t0 := hI.t0
  have t1 := hI.t1
  have n6 := hI.n6
  have hl : (i : Int) < (S.n : Int) := by omega
  obtain ⟨q1, q2, q3, q4⟩ := tdiv_floor (S.time * S.rates i)
  have e : S.rd i = S.starts i + S.time + (S.time * S.rates i) / 1000000 := rfl
  rw [e]
  have wy : IntKind.i64.wrap (S.time * S.rates i) = S.time * S.rates i := IntWalk.i64_in _ (by omega)
  have wst : IntKind.i64.wrap (S.starts i + S.time) = S.starts i + S.time := IntWalk.i64_in _ (by omega)
  have wt : IntKind.i64.wrap ((S.time * S.rates i).tdiv 1000000) = (S.time * S.rates i).tdiv 1000000 := IntWalk.i64_in _ (by omega)
  have we : IntKind.i64.wrap (S.starts i + S.time + (S.time * S.rates i) / 1000000) = S.starts i + S.time + (S.time * S.rates i) / 1000000 := IntWalk.i64_in _ (by omega)
  clear hI hS hR hP1 hP2 e r5 r6
  generalize S.time = T at *
  generalize S.rates i = rr at *
  generalize S.starts i = st at *
  go_enter Tryz.func18, Tryz.ntmps18
  go_upto_region 1 with (fail)
  go_quiet (fail)
  generalize hy : T * rr = y at *
  obtain ⟨K, hK⟩ : ∃ K, y.tdiv 1000000 = K := ⟨_, rfl⟩
  rw [hK] at q1 q2 q3 q4 wt
  obtain ⟨D, hD⟩ : ∃ D, y / 1000000 = D := ⟨_, rfl⟩
  rw [hD] at q1 q2 q3 q4 we r1 r2
  have wk : IntKind.i64.wrap (K * 1000000) = K * 1000000 := IntWalk.i64_in _ (by omega)
  have wk1 : IntKind.i64.wrap (K - 1) = K - 1 := IntWalk.i64_in _ (by omega)
  by_cases hg : y < K * 1000000
  · have dg : decide (y < K * 1000000) = true := decide_eq_true hg
    have e1 : K - 1 = D := q2 hg
    rw [e1] at wk1
    clear q1 q2
    go_upto_region 5 with (fail)
    go_quiet (fail)
    go_wp2
    go_ret
    exact ⟨by simp [hy, hD, e1], rbel_drn (Below.refl _ _)⟩
  · have dg : decide (y < K * 1000000) = false := decide_eq_false hg
    have e1 : K = D := q1 (by omega)
    clear q1 q2
    go_upto_region 5 with (fail)
    go_quiet (fail)
    go_wp2
    go_ret
    exact ⟨by simp [hy, hD, e1], rbel_drn (Below.refl _ _)⟩
end Go.Proofs.YtnagdjipmpjaaaiGreatDoor
namespace Go.Proofs.YtnagdjipmpjaaaiGreatDoor
open Go.ChangeShapes Go.WideShapes Go.ChangeAt Go.RowKit Go.Joins
set_option linter.unusedVariables false
set_option linter.unusedSimpArgs false

set_option maxRecDepth 100000 in
set_option maxHeartbeats 4000000 in
theorem begin_ex (sa : Option Addr) (n sc : Nat) (z : Nat → Int) (ra : Option Addr) (m rc : Nat) (r : Nat → Int) (p : Int) (w : World) (hS : NHanded w sa n z) (hR : NHanded w ra m r) (hp : In64 p) :
    Calls Tryz.prog 5 #[.slice sa n sc, .slice ra m rc, .int .i64 p] w fun o w' => ∃ e, o = .returned (.int .i64 e) ∧ BeE n z m r p e ∧ Below w.heap.size w w' := by
  have HS : Hid (NHanded w sa n z) := hS
  have HR : Hid (NHanded w ra m r) := hR
  have hn := hS.1
  have hm := hR.1
  clear hS hR
  by_cases h : 0 ≤ p ∧ p ≤ 1000 ∧ 1 ≤ n ∧ n ≤ 6
  case neg =>
    have HB : Hid (BeE n z m r p 1) := Or.inl ⟨by omega, rfl⟩
    have hc : (p < 0) ∨ (¬ p < 0 ∧ 1000 < p) ∨ (¬ p < 0 ∧ ¬ 1000 < p ∧ (n : Int) < 1) ∨ (¬ p < 0 ∧ ¬ 1000 < p ∧ ¬ (n : Int) < 1 ∧ 6 < (n : Int)) := by omega
    clear h
    rcases hc with a | ⟨a, b⟩ | ⟨a, b, c⟩ | ⟨a, b, c, d⟩
    all_goals
      go_enter Tryz.func5, Tryz.ntmps5
      go_wp2
      go_ret
      exact ⟨1, rfl, HB.out, Below.refl _ _⟩
  have H : Hid (0 ≤ p ∧ p ≤ 1000 ∧ 1 ≤ n ∧ n ≤ 6) := h
  have a : ¬ p < 0 := by omega
  have b : ¬ 1000 < p := by omega
  have c : ¬ (n : Int) < 1 := by omega
  have d : ¬ 6 < (n : Int) := by omega
  by_cases hmn : m = n
  case neg =>
    have e1 : ((m : Int) == n) = false := by simp; omega
    have e2 : ¬ ((m : Int) = n) := by omega
    have HB : Hid (BeE n z m r p 3) := Or.inr (Or.inl ⟨h, hmn, rfl⟩)
    clear h
    go_enter Tryz.func5, Tryz.ntmps5
    go_wp2
    go_ret
    exact ⟨3, rfl, HB.out, Below.refl _ _⟩
  subst hmn
  have HP : Hid (IntKind.i64.wrap (-p) = -p) := IntWalk.i64_in _ (by omega)
  clear h
  go_enter Tryz.func5, Tryz.ntmps5
  go_wp2
  go_loopw [7] (fun v wr => ∃ i : Nat, i ≤ m ∧ v = .int .i64 i ∧ (∀ j, j < i → 0 ≤ z j ∧ z j ≤ 1000000 ∧ -p ≤ r j ∧ r j ≤ p) ∧ Below w.heap.size w wr) (fun i _ => m - (intOf i).toNat)
  case atStart => exact ⟨0, Nat.zero_le _, rfl, fun j hj => by omega, Below.refl _ _⟩
  case round =>
    obtain ⟨i, hi, rfl, hok, hw⟩ := hrel
    have HW : Hid (Below w.heap.size w wr) := hw
    have HO : Hid (∀ j, j < i → 0 ≤ z j ∧ z j ≤ 1000000 ∧ -p ≤ r j ∧ r j ≤ p) := hok
    clear hok
    by_cases hlt : i < m
    · have hl : (i : Int) < m := by omega
      obtain ⟨b1, o1, rfl, hP1⟩ : ∃ b off : Nat, sa = some ⟨b, off, none⟩ ∧ Nrd w b off m z := by
        rcases HS.out.2 with e | h
        · omega
        · exact h
      obtain ⟨b2, o2, rfl, hP2⟩ : ∃ b off : Nat, ra = some ⟨b, off, none⟩ ∧ Nrd w b off m r := by
        rcases HR.out.2 with e | h
        · omega
        · exact h
      have x1 := (hP1.on hw) i hlt
      have x2 := (hP2.on hw) i hlt
      have l1 := World.block_lt_of_cell? _ _ x1
      have l2 := World.block_lt_of_cell? _ _ x2
      have wp := HP.out
      by_cases hz : 0 ≤ z i ∧ z i ≤ 1000000 ∧ -p ≤ r i ∧ r i ≤ p
      · have HZ : Hid (0 ≤ z i ∧ z i ≤ 1000000 ∧ -p ≤ r i ∧ r i ≤ p) := hz
        have d1 : decide (z i < 0) = false := decide_eq_false (by omega)
        have d2 : decide (1000000 < z i) = false := decide_eq_false (by omega)
        have d3 : decide (r i < -p) = false := decide_eq_false (by omega)
        have d4 : decide (p < r i) = false := decide_eq_false (by omega)
        clear hz hw hP1 hP2 HS HR
        go_wp2
        go_roundw
        case rel => exact ⟨i + 1, by omega, by go_num, fun j hj => by
          by_cases e : j = i
          · subst e; exact HZ.out
          · exact HO.out j (by omega), by first | exact HW.out | exact rbel_drn HW.out⟩
        case measure => simp [intOf]; omega
      · have HB : Hid (BeE m z m r p 1) := Or.inr (Or.inr (Or.inl ⟨H.out, rfl, ⟨i, hlt, by omega⟩, rfl⟩))
        have hc : (z i < 0) ∨ (¬ z i < 0 ∧ 1000000 < z i) ∨ (¬ z i < 0 ∧ ¬ 1000000 < z i ∧ r i < -p) ∨ (¬ z i < 0 ∧ ¬ 1000000 < z i ∧ ¬ r i < -p ∧ p < r i) := by omega
        clear hz hw hP1 hP2 HS HR
        rcases hc with a | ⟨a, b⟩ | ⟨a, b, c⟩ | ⟨a, b, c, d⟩
        · have d1 : decide (z i < 0) = true := decide_eq_true a
          go_wp2
          go_ret
          exact ⟨1, rfl, HB.out, by first | exact HW.out | exact rbel_drn HW.out⟩
        · have d1 : decide (z i < 0) = false := decide_eq_false a
          have d2 : decide (1000000 < z i) = true := decide_eq_true b
          go_wp2
          go_ret
          exact ⟨1, rfl, HB.out, by first | exact HW.out | exact rbel_drn HW.out⟩
        · have d1 : decide (z i < 0) = false := decide_eq_false a
          have d2 : decide (1000000 < z i) = false := decide_eq_false b
          have d3 : decide (r i < -p) = true := decide_eq_true c
          go_wp2
          go_ret
          exact ⟨1, rfl, HB.out, by first | exact HW.out | exact rbel_drn HW.out⟩
        · have d1 : decide (z i < 0) = false := decide_eq_false a
          have d2 : decide (1000000 < z i) = false := decide_eq_false b
          have d3 : decide (r i < -p) = false := decide_eq_false c
          have d4 : decide (p < r i) = true := decide_eq_true d
          go_wp2
          go_ret
          exact ⟨1, rfl, HB.out, by first | exact HW.out | exact rbel_drn HW.out⟩
    · have hl : ¬ ((i : Int) < m) := by omega
      have e' : i = m := by omega
      subst e'
      go_wp2
      go_ret
      exact ⟨0, rfl, Or.inr (Or.inr (Or.inr ⟨H.out, rfl, HO.out, rfl⟩)), HW.out⟩
end Go.Proofs.YtnagdjipmpjaaaiGreatDoor
