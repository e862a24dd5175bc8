/- What package stat must answer: Median, Mean, Wander. -/
import Derived.Test.YthejaecljkjliakDoorStatMath
import Derived.Test.YthejaecljkjliakDoorErrC
import Derived.Test.YthejaecljkjliakDoorInts
namespace Go.Proofs.YthejaecljkjliakDoor
open Go.ChangeShapes Go.WideShapes Go.ChangeAt Go.RowKit
set_option linter.unusedVariables false

/-- The error of wandering n apart. -/
def WnE (n : Nat) (z : Nat → Int) (d e : Int) : Prop := (NmE n z e ∧ e ≠ 0) ∨ (NmE n z 0 ∧ (d < 1 ∨ (n : Int) ≤ d) ∧ e = 1) ∨ (NmE n z 0 ∧ 1 ≤ d ∧ d < n ∧ e = 0)
theorem wnE_some (n : Nat) (z : Nat → Int) (d : Int) : ∃ e, WnE n z d e := by
  obtain ⟨e, h⟩ := nmE_some n z
  by_cases q : e = 0
  · subst q
    by_cases r : d < 1 ∨ (n : Int) ≤ d
    · exact ⟨1, Or.inr (Or.inl ⟨h, r, rfl⟩)⟩
    · exact ⟨0, Or.inr (Or.inr ⟨h, by omega, by omega, rfl⟩)⟩
  · exact ⟨e, Or.inl ⟨h, q⟩⟩
theorem WnE.zero {n : Nat} {z : Nat → Int} {d : Int} (h : WnE n z d 0) : NmE n z 0 ∧ 1 ≤ d ∧ d < n := by
  rcases h with ⟨_, b⟩ | ⟨_, _, b⟩ | ⟨a, b, c, _⟩
  · exact absurd rfl b
  · cases b
  · exact ⟨a, b, c⟩
/-- What package stat must answer, behind a world w0. -/
structure StM (w0 : World) : Prop where
  median : ∀ (a : Option Addr) (n cap : Nat) (z : Nat → Int) (e v : Int) (u : World), Below w0.heap.size w0 u → NHanded u a n z → n ≤ cap → NmE n z e → (e = 0 → IsMid (lsN z n) ((n - 1) / 2) v) → (e ≠ 0 → v = 0) → Calls Tryd.prog 11 #[.slice a n cap] u fun o w' => o = .returned (.tuple #[.int .i64 v, errc e]) ∧ Below u.heap.size u w'
  mean : ∀ (a : Option Addr) (n cap : Nat) (z : Nat → Int) (e : Int) (u : World), Below w0.heap.size w0 u → NHanded u a n z → n ≤ cap → NmE n z e → Calls Tryd.prog 12 #[.slice a n cap] u fun o w' => o = .returned (.tuple #[.int .i64 (if e = 0 then mnN z n else 0), errc e]) ∧ Below u.heap.size u w'
  wander : ∀ (a : Option Addr) (n cap : Nat) (z : Nat → Int) (d e : Int) (u : World), Below w0.heap.size w0 u → NHanded u a n z → n ≤ cap → In64 d → WnE n z d e → Calls Tryd.prog 13 #[.slice a n cap, .int .i64 d] u fun o w' => o = .returned (.tuple #[.int .i64 (if e = 0 then wnN z d.toNat n else 0), errc e]) ∧ Below u.heap.size u w'
/-- The middle there is. -/
theorem med_some (n : Nat) (z : Nat → Int) (e : Int) (h : NmE n z e) : ∃ v, (e = 0 → IsMid (lsN z n) ((n - 1) / 2) v) ∧ (e ≠ 0 → v = 0) := by
  by_cases q : e = 0
  · subst q
    obtain ⟨a, _, _⟩ := h.zero
    obtain ⟨v, hv⟩ := mid_some (l := lsN z n) (k := (n - 1) / 2) (by rw [lsN_len]; omega)
    exact ⟨v, fun _ => hv, fun x => absurd rfl x⟩
  · exact ⟨0, fun x => absurd x q, fun _ => rfl⟩
end Go.Proofs.YthejaecljkjliakDoor
