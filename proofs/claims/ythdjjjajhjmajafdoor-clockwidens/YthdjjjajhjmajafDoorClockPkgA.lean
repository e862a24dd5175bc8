/- Package clock, as it landed: how a clock lies in memory; New, Step, Here. -/
import Derived.Test.YthdjjjajhjmajafDoorClockDef
import Derived.Lib.SmallJoins
import Derived.Deep.QuietTactic
import Derived.BigQuiet
import Derived.BigRegion
import Derived.IntWalk
namespace Go.Proofs.YthdjjjajhjmajafDoor
open Go.ChangeShapes Go.WideShapes Go.ChangeAt Go.RowKit Go.Joins
set_option linter.unusedVariables false
set_option linter.unusedSimpArgs false

/-- What it told last, or what is below all. -/
def Ck.tl (c : Ck) : Int := if c.t = true then c.l else -1000000000000
def pkL (c : Ck) : List Value := [.int .i64 c.p, .int .i64 c.h, .bool c.k, .int .i64 c.lo, .int .i64 c.hi, .int .i64 c.s, .int .i64 c.tl]
def PC (u : World) (b : Nat) (c : Ck) : Prop := Blk u 76 b (pkL c)
theorem PC.keep {u w : World} {b : Nat} {c : Ck} (hb : Below u.heap.size u w) (h : PC u b c) : PC w b c := Blk.on hb h
theorem pnew_ok (p : Int) (u : World) (h0 : 0 ≤ p) (h1 : p ≤ 1000) : Calls Tryd.prog 19 #[.int .i64 p] u fun o w' => ∃ b : Nat, o = .returned (.tuple #[.pointer (some ⟨b, 0, none⟩), .nilIface]) ∧ u.heap.size ≤ b ∧ PC w' b (Ck.made p) ∧ Below u.heap.size u w' := by
  have d1 : ¬ (p < 0) := by omega
  have d2 : ¬ (1000 < p) := by omega
  go_enter Tryd.func19, Tryd.ntmps19
  go_wp2
  go_ret2
  exact ⟨u.heap.size, rfl, Nat.le_refl _, Blk.made (vs := pkL (Ck.made p)) rfl, rbel_al (Below.refl _ _)⟩
theorem pnew_no (p : Int) (u : World) (h : p < 0 ∨ 1000 < p) : Calls Tryd.prog 19 #[.int .i64 p] u fun o w' => ∃ v : Value, o = .returned (.tuple #[v, .iface 68 (.int .i64 1)]) ∧ Below u.heap.size u w' := by
  have h' : p < 0 ∨ (¬ p < 0 ∧ 1000 < p) := by omega
  clear h
  rcases h' with d1 | ⟨d1, d2⟩
  all_goals
    go_enter Tryd.func19, Tryd.ntmps19
    go_wp2
    go_ret2
    first
      | exact ⟨_, rfl, Below.refl _ _⟩
      | exact ⟨⟨_, rfl⟩, Below.refl _ _⟩
set_option maxRecDepth 100000 in
set_option maxHeartbeats 4000000 in
theorem pstep_any (b : Nat) (c : Ck) (x : Int) (u : World) (hR : PC u b c) :
    Calls Tryd.prog 20 #[.pointer (some ⟨b, 0, none⟩), .int .i64 x] u fun o w' => o = .returned (errc (c.stepE x)) ∧ PC w' b (c.stepC x) ∧ Keeps (fun k => k = b) u w' := by
  have HR : Hid (PC u b c) := hR
  have c1 := Blk.c hR 1 _ rfl
  have f1 := Blk.f hR 1
  clear hR
  by_cases hx : x < 0 ∨ 1000000000000 < x
  · have e : c.stepE x = 1 := by unfold Ck.stepE; rw [if_pos hx]
    have ec : c.stepC x = c := by unfold Ck.stepC; rw [if_neg (by rw [e]; decide)]
    rw [e, ec]
    have hx2 : x < 0 ∨ (¬ x < 0 ∧ 1000000000000 < x) := by omega
    clear hx e ec
    rcases hx2 with d1 | ⟨d1, d2⟩
    all_goals
      go_enter Tryd.func20, Tryd.ntmps20
      go_wp2
      go_ret
      exact ⟨rfl, HR.out, Keeps.refl _ _⟩
  · have d1 : ¬ (x < 0) := by omega
    have d2 : ¬ (1000000000000 < x) := by omega
    by_cases hl : x < c.h
    · have e : c.stepE x = 8 := by unfold Ck.stepE; rw [if_neg hx, if_pos hl]
      have ec : c.stepC x = c := by unfold Ck.stepC; rw [if_neg (by rw [e]; decide)]
      rw [e, ec]
      clear hx e ec
      go_enter Tryd.func20, Tryd.ntmps20
      go_wp2
      go_ret
      exact ⟨rfl, HR.out, Keeps.refl _ _⟩
    · have e : c.stepE x = 0 := by unfold Ck.stepE; rw [if_neg hx, if_neg hl]
      have ec : c.stepC x = { c with h := x } := by unfold Ck.stepC; rw [if_pos e]
      rw [e, ec]
      clear hx e ec
      go_enter Tryd.func20, Tryd.ntmps20
      go_wp2
      go_ret
      exact ⟨rfl, Blk.put 1 HR.out, Keeps.put (S := fun k => k = b) rfl (Keeps.refl _ _)⟩
theorem phere_any (b : Nat) (c : Ck) (u : World) (hR : PC u b c) :
    Calls Tryd.prog 30 #[.pointer (some ⟨b, 0, none⟩)] u fun o w' => o = .returned (.int .i64 c.h) ∧ w' = u := by
  have c1 := Blk.c hR 1 _ rfl
  clear hR
  go_enter Tryd.func30, Tryd.ntmps30
  go_wp2
  go_ret
  exact ⟨rfl, rfl⟩
end Go.Proofs.YthdjjjajhjmajafDoor
