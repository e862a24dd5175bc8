/- Package clock, as it landed: how a clock lies in memory; New, Step, Here. Package keeper, as it landed: how a keeper lies in memory; New, write, Read. -/
import Derived.Test.YtigcliepeapcpajGreatDoorNm12
import Derived.Lib.SmallJoins
import Derived.Deep.QuietTactic
import Derived.BigQuiet
import Derived.BigRegion
import Derived.IntWalk
import Derived.Test.YtigcliepeapcpajGreatDoorNm03
import Derived.Test.YtigcliepeapcpajGreatDoorNm04
import Derived.Test.YtigcliepeapcpajGreatDoorNm06
import Derived.Deep.Heap
namespace Go.Proofs.YtigcliepeapcpajGreatDoor
open Go.ChangeShapes Go.WideShapes Go.ChangeAt Go.RowKit Go.Joins
set_option linter.unusedVariables false
set_option linter.unusedSimpArgs false

/-- What it told last, or what is below all. -/
def Ck.tl (c : Ck) : Int := if c.t = true then c.l else -1000000000000
def pkL (c : Ck) : List Value := [.int .i64 c.p, .int .i64 c.h, .bool c.k, .int .i64 c.lo, .int .i64 c.hi, .int .i64 c.s, .int .i64 c.tl]
def PC (u : World) (b : Nat) (c : Ck) : Prop := Blk u 75 b (pkL c)
theorem PC.keep {u w : World} {b : Nat} {c : Ck} (hb : Below u.heap.size u w) (h : PC u b c) : PC w b c := Blk.on hb h
theorem pnew_ok (p : Int) (u : World) (h0 : 0 ≤ p) (h1 : p ≤ 1000) : Calls Tryz.prog 7 #[.int .i64 p] u fun o w' => ∃ b : Nat, o = .returned (.tuple #[.pointer (some ⟨b, 0, none⟩), .nilIface]) ∧ u.heap.size ≤ b ∧ PC w' b (Ck.made p) ∧ Below u.heap.size u w' := by
  have d1 : ¬ (p < 0) := by omega
  have d2 : ¬ (1000 < p) := by omega
  go_enter Tryz.func7, Tryz.ntmps7
  go_wp2
  go_ret2
  exact ⟨u.heap.size, rfl, Nat.le_refl _, Blk.made (vs := pkL (Ck.made p)) rfl, rbel_al (Below.refl _ _)⟩
theorem pnew_no (p : Int) (u : World) (h : p < 0 ∨ 1000 < p) : Calls Tryz.prog 7 #[.int .i64 p] u fun o w' => ∃ v : Value, o = .returned (.tuple #[v, .iface 71 (.int .i64 1)]) ∧ Below u.heap.size u w' := by
  have h' : p < 0 ∨ (¬ p < 0 ∧ 1000 < p) := by omega
  clear h
  rcases h' with d1 | ⟨d1, d2⟩
  all_goals
    go_enter Tryz.func7, Tryz.ntmps7
    go_wp2
    go_ret2
    first
      | exact ⟨_, rfl, Below.refl _ _⟩
      | exact ⟨⟨_, rfl⟩, Below.refl _ _⟩
set_option maxRecDepth 100000 in
set_option maxHeartbeats 4000000 in
theorem pstep_any (b : Nat) (c : Ck) (x : Int) (u : World) (hR : PC u b c) :
    Calls Tryz.prog 11 #[.pointer (some ⟨b, 0, none⟩), .int .i64 x] u fun o w' => o = .returned (errc (c.stepE x)) ∧ PC w' b (c.stepC x) ∧ Keeps (fun k => k = b) u w' := by
  have HR : Hid (PC u b c) := hR
  have c1 := Blk.c hR 1 _ rfl
  have f1 := Blk.f hR 1
  clear hR
  by_cases hx : x < 0 ∨ 1000000000000 < x
  · have e : c.stepE x = 1 := by unfold Ck.stepE; rw [if_pos hx]
    have ec : c.stepC x = c := by unfold Ck.stepC; rw [if_neg (by rw [e]; decide)]
    rw [e, ec]
    have hx2 : x < 0 ∨ (¬ x < 0 ∧ 1000000000000 < x) := by omega
    clear hx e ec
    rcases hx2 with d1 | ⟨d1, d2⟩
    all_goals
      go_enter Tryz.func11, Tryz.ntmps11
      go_wp2
      go_ret
      exact ⟨rfl, HR.out, Keeps.refl _ _⟩
  · have d1 : ¬ (x < 0) := by omega
    have d2 : ¬ (1000000000000 < x) := by omega
    by_cases hl : x < c.h
    · have e : c.stepE x = 8 := by unfold Ck.stepE; rw [if_neg hx, if_pos hl]
      have ec : c.stepC x = c := by unfold Ck.stepC; rw [if_neg (by rw [e]; decide)]
      rw [e, ec]
      clear hx e ec
      go_enter Tryz.func11, Tryz.ntmps11
      go_wp2
      go_ret
      exact ⟨rfl, HR.out, Keeps.refl _ _⟩
    · have e : c.stepE x = 0 := by unfold Ck.stepE; rw [if_neg hx, if_neg hl]
      have ec : c.stepC x = { c with h := x } := by unfold Ck.stepC; rw [if_pos e]
      rw [e, ec]
      clear hx e ec
      go_enter Tryz.func11, Tryz.ntmps11
      go_wp2
      go_ret
      exact ⟨rfl, Blk.put 1 HR.out, Keeps.put (S := fun k => k = b) rfl (Keeps.refl _ _)⟩
end Go.Proofs.YtigcliepeapcpajGreatDoor
namespace Go.Proofs.YtigcliepeapcpajGreatDoor
open Go.ChangeShapes Go.WideShapes Go.ChangeAt Go.RowKit Go.Joins
set_option linter.unusedVariables false
set_option linter.unusedSimpArgs false

def pkK (c : Kp) : List Value := [.int .i64 c.a, .int .i64 (c.l + 1), .int .i64 c.k, .int .i64 c.s]
def PK (u : World) (b : Nat) (c : Kp) : Prop := Blk u 73 b (pkK c)
theorem PK.keep {u w : World} {b : Nat} {c : Kp} (hb : Below u.heap.size u w) (h : PK u b c) : PK w b c := Blk.on hb h
theorem knew_ok (a : Int) (u : World) (h0 : 1 ≤ a) (h1 : a ≤ 1000000) : Calls Tryz.prog 6 #[.int .i64 a] u fun o w' => ∃ b : Nat, o = .returned (.tuple #[.pointer (some ⟨b, 0, none⟩), .nilIface]) ∧ u.heap.size ≤ b ∧ PK w' b (Kp.made a) ∧ Below u.heap.size u w' := by
  have d1 : ¬ (a < 1) := by omega
  have d2 : ¬ (1000000 < a) := by omega
  go_enter Tryz.func6, Tryz.ntmps6
  go_wp2
  go_ret2
  exact ⟨u.heap.size, rfl, Nat.le_refl _, Blk.made (vs := pkK (Kp.made a)) rfl, rbel_al (Below.refl _ _)⟩
theorem knew_no (a : Int) (u : World) (h : a < 1 ∨ 1000000 < a) : Calls Tryz.prog 6 #[.int .i64 a] u fun o w' => ∃ v : Value, o = .returned (.tuple #[v, .iface 71 (.int .i64 1)]) ∧ Below u.heap.size u w' := by
  have h' : a < 1 ∨ (¬ a < 1 ∧ 1000000 < a) := by omega
  clear h
  rcases h' with d1 | ⟨d1, d2⟩
  all_goals
    go_enter Tryz.func6, Tryz.ntmps6
    go_wp2
    go_ret2
    first
      | exact ⟨_, rfl, Below.refl _ _⟩
      | exact ⟨⟨_, rfl⟩, Below.refl _ _⟩
theorem kwrite (b : Nat) (c : Kp) (x : Int) (u : World) (hR : PK u b c) (h0 : 0 ≤ c.s) (h1 : c.s ≤ 1000000) :
    Calls Tryz.prog 31 #[.pointer (some ⟨b, 0, none⟩), .int .i64 x] u fun o w' => o = .returned (.tuple #[]) ∧ PK w' b ⟨c.a, c.l, x, c.s + 1⟩ ∧ Keeps (fun k => k = b) u w' := by
  have HR : Hid (PK u b c) := hR
  have c2 := Blk.c hR 2 _ rfl
  have c3 := Blk.c hR 3 _ rfl
  have f2 := Blk.f hR 2
  have f3 := Blk.f hR 3
  clear hR
  go_enter Tryz.func31, Tryz.ntmps31
  go_wp2
  go_end0
  exact ⟨rfl, Blk.put 3 (Blk.put 2 HR.out), Keeps.put (S := fun k => k = b) rfl (Keeps.put (S := fun k => k = b) rfl (Keeps.refl _ _))⟩
/-- Read, where one of the two is the greater one. -/
theorem kread_bad (b : Nat) (c : Kp) (x : Int) (u : World) (hR : PK u b c) (h : x < 0 ∨ 1000000000000 < x) :
    Calls Tryz.prog 16 #[.pointer (some ⟨b, 0, none⟩), .int .i64 x] u fun o w' => o = .returned (.tuple #[.int .i64 0, .iface 71 (.int .i64 1)]) ∧ w' = u := by
  clear hR
  have h' : x < 0 ∨ (¬ x < 0 ∧ 1000000000000 < x) := by omega
  clear h
  rcases h' with d1 | ⟨d1, d2⟩
  all_goals
    go_enter Tryz.func16, Tryz.ntmps16
    go_wp2
    go_ret2
    exact ⟨rfl, rfl⟩
theorem kread_full (b : Nat) (c : Kp) (x : Int) (u : World) (hR : PK u b c) (d1 : ¬ x < 0) (d2 : ¬ 1000000000000 < x) (q : 1000000000000 < c.l + 1) (q1 : c.l ≤ 1000001000000) :
    Calls Tryz.prog 16 #[.pointer (some ⟨b, 0, none⟩), .int .i64 x] u fun o w' => o = .returned (.tuple #[.int .i64 0, .iface 71 (.int .i64 4)]) ∧ w' = u := by
  have c1 := Blk.c hR 1 _ rfl
  have l1 := Blk.lt hR
  clear hR
  generalize c.l = l at *
  have d3 : x < l + 1 := by omega
  go_enter Tryz.func16, Tryz.ntmps16
  go_wp2
  go_ret2
  exact ⟨rfl, rfl⟩
/-- Something is told, t, and written, or not. -/
theorem kread_yes (b : Nat) (c : Kp) (m : Nat) (x t : Int) (u : World) (hR : PK u b c) (hI : c.I m) (hm : m ≤ 1000) (d1 : ¬ x < 0) (d2 : ¬ 1000000000000 < x) (ht : (¬ x < c.l + 1 ∧ t = x) ∨ (x < c.l + 1 ∧ t = c.l + 1)) (d3 : ¬ 1000000000000 < t) :
    Calls Tryz.prog 16 #[.pointer (some ⟨b, 0, none⟩), .int .i64 x] u fun o w' => o = .returned (.tuple #[.int .i64 t, .nilIface]) ∧ PK w' b (if t < c.k then ⟨c.a, t, c.k, c.s⟩ else ⟨c.a, t, t + c.a, c.s + 1⟩) ∧ Keeps (fun k => k = b) u w' := by
  have HR : Hid (PK u b c) := hR
  have c0 := Blk.c hR 0 _ rfl
  have c1 := Blk.c hR 1 _ rfl
  have c2 := Blk.c hR 2 _ rfl
  have f1 := Blk.f hR 1
  obtain ⟨a0, a1, l0, lk, l1, k1, s0, s1⟩ := hI
  have cW := fun (y : Int) => kwrite b c y u hR s0 (by omega)
  clear hR hm s0 s1
  by_cases q : t < c.k
  · rw [if_pos q]
    clear cW
    rcases ht with ⟨e, rfl⟩ | ⟨e, rfl⟩
    all_goals
      have q' : ¬ c.k ≤ _ := Int.not_le.2 q
      go_enter Tryz.func16, Tryz.ntmps16
      go_wp2
      go_ret2
      exact ⟨rfl, Blk.put 1 HR.out, Keeps.put (S := fun k => k = b) rfl (Keeps.refl _ _)⟩
  · rw [if_neg q]
    rcases ht with ⟨e, rfl⟩ | ⟨e, rfl⟩
    all_goals
      go_enter Tryz.func16, Tryz.ntmps16
      go_wp2_with (go_at_call 31; refine (cW _).mono ?_; rintro o u2 ⟨rfl, hP, hK⟩; have HP : Hid (PK u2 b _) := hP; have HK : Hid (Keeps (fun k => k = b) u u2) := hK; have g1 := Blk.f hP 1; have g2 := Blk.c hP 1 _ rfl; clear hP hK)
      go_ret2
      exact ⟨rfl, Blk.put 1 HP.out, Keeps.put (S := fun k => k = b) rfl HK.out⟩
theorem kread_any (b : Nat) (c : Kp) (m : Nat) (x : Int) (u : World) (hR : PK u b c) (hI : c.I m) (hm : m ≤ 1000) :
    Calls Tryz.prog 16 #[.pointer (some ⟨b, 0, none⟩), .int .i64 x] u fun o w' => o = .returned (.tuple #[.int .i64 (c.readN x), errc (c.readE x)]) ∧ PK w' b (c.readC x) ∧ Keeps (fun k => k = b) u w' := by
  by_cases h : x < 0 ∨ 1000000000000 < x
  · have e : c.readE x = 1 := by unfold Kp.readE; rw [if_pos h]
    have en : c.readN x = 0 := by unfold Kp.readN; rw [if_neg (by rw [e]; decide)]
    have ec : c.readC x = c := by unfold Kp.readC; rw [if_neg (by rw [e]; decide)]
    rw [e, en, ec]
    exact (kread_bad b c x u hR h).mono fun _ _ ⟨ho, hw⟩ => by subst hw; exact ⟨ho, hR, Keeps.refl _ _⟩
  · by_cases f : 1000000000000 < c.n x
    · have e : c.readE x = 4 := by unfold Kp.readE; rw [if_neg h, if_pos f]
      have en : c.readN x = 0 := by unfold Kp.readN; rw [if_neg (by rw [e]; decide)]
      have ec : c.readC x = c := by unfold Kp.readC; rw [if_neg (by rw [e]; decide)]
      rw [e, en, ec]
      have q : 1000000000000 < c.l + 1 := by unfold Kp.n at f; split at f <;> omega
      exact (kread_full b c x u hR (by omega) (by omega) q hI.l1).mono fun _ _ ⟨ho, hw⟩ => by subst hw; exact ⟨ho, hR, Keeps.refl _ _⟩
    · have e : c.readE x = 0 := by unfold Kp.readE; rw [if_neg h, if_neg f]
      have en : c.readN x = c.n x := by unfold Kp.readN; rw [if_pos e]
      have ec : c.readC x = if c.n x < c.k then ⟨c.a, c.n x, c.k, c.s⟩ else ⟨c.a, c.n x, c.n x + c.a, c.s + 1⟩ := by unfold Kp.readC; rw [if_pos e]
      rw [e, en, ec]
      exact kread_yes b c m x (c.n x) u hR hI hm (by omega) (by omega) (by
        unfold Kp.n
        by_cases g : c.l + 1 < x
        · rw [if_pos g]; exact Or.inl ⟨by omega, rfl⟩
        · rw [if_neg g]
          by_cases g2 : x < c.l + 1
          · exact Or.inr ⟨g2, rfl⟩
          · exact Or.inl ⟨g2, by omega⟩) f
end Go.Proofs.YtigcliepeapcpajGreatDoor
