/- Package net: New and Do, as the laws want them. What package net must answer: Offset. Package net: New, Do and Offset, as the laws want them. What package net must answer: Show. What package net must answer: Edges. -/
import Derived.Test.YtnagdjipmpjaaahDoorNm09
import Derived.Test.YtnagdjipmpjaaahDoorNm08
import Derived.Test.YtnagdjipmpjaaahDoorNm11
import Derived.Test.YtnagdjipmpjaaahDoorNetPkgO
namespace Go.Proofs.YtnagdjipmpjaaahDoor
open Go.ChangeShapes Go.WideShapes Go.ChangeAt Go.RowKit Go.Joins
set_option linter.unusedVariables false
set_option linter.unusedSimpArgs false

def ntt (w : World) : Nt w where
  R := Nkn
  on := Nkn.on
  lt := Nkn.lt
  new := fun sa n sc z ra m rc r ppm e u _ h1 h2 _ hE => by
    by_cases he : e = 0
    · subst he
      refine (nnet_ok sa n sc z ra m rc r ppm u h1 h2 hE).mono fun _ _ ⟨b, L, q1, q2, q3, q4⟩ => ⟨_, by rw [errc_zero]; exact q1, q3, fun _ => ⟨b, L.F b n, rfl, ⟨L, q2, rfl⟩, q4⟩⟩
    · refine (nnet_bad sa n sc z ra m rc r ppm e u h1 h2 hE he).mono fun _ _ ⟨q1, q2⟩ => ⟨_, by rw [errc_not he]; exact q1, q2, fun q => absurd q he⟩
  act := fun b F N N' wh x y e u hR hT _ _ _ hD => by
    obtain ⟨L, hP, rfl⟩ := hR
    have sm := (hD.t hT).2.1
    refine (nact_any hP hT hD).mono fun _ _ ⟨q1, L', q2, q3⟩ => ⟨L'.F b N'.W.n, q1, ⟨L', q2, rfl⟩, q3.1, ?_⟩
    rw [sm]
    exact q3.2
end Go.Proofs.YtnagdjipmpjaaahDoor
namespace Go.Proofs.YtnagdjipmpjaaahDoor
open Go.ChangeShapes Go.WideShapes Go.ChangeAt Go.RowKit
set_option linter.unusedVariables false

/-- .. and Offset. -/
structure NtO (w0 : World) extends Nt w0 where
  off : ∀ (b : Nat) (F : Nat → Prop) (N : Nn) (x y lo hi e : Int) (u : World), R u b F N → N.T → In64 x → In64 y → BetA N.W.n (egf (eoN N)) (eoN N).length x y lo hi e → Calls Tryd.prog 32 #[.pointer (some ⟨b, 0, none⟩), .int .i64 x, .int .i64 y] u fun o w' => o = .returned (.tuple #[.agg #[.int .i64 lo, .int .i64 hi], errc e]) ∧ Below u.heap.size u w'
end Go.Proofs.YtnagdjipmpjaaahDoor
namespace Go.Proofs.YtnagdjipmpjaaahDoor
open Go.ChangeShapes Go.WideShapes Go.ChangeAt Go.RowKit Go.Joins
set_option linter.unusedVariables false
set_option linter.unusedSimpArgs false

def nto (w : World) : NtO w := { ntt w with
  off := fun b F N x y lo hi e u hR hT _ _ hB => by
    obtain ⟨L, hP, rfl⟩ := hR
    exact noff_any hP hT x y lo hi e hB
  }
end Go.Proofs.YtnagdjipmpjaaahDoor
namespace Go.Proofs.YtnagdjipmpjaaahDoor
open Go.ChangeShapes Go.WideShapes Go.ChangeAt Go.RowKit
set_option linter.unusedVariables false

/-- .. and Show. -/
structure NtR (w0 : World) extends NtO w0 where
  read : ∀ (b : Nat) (F : Nat → Prop) (N : Nn) (i : Int) (u : World), R u b F N → N.T → In64 i → Calls Tryd.prog 33 #[.pointer (some ⟨b, 0, none⟩), .int .i64 i] u fun o w' => ((N.W.hs i ∧ o = .returned (.tuple #[.int .i64 (N.W.rd i.toNat), errc 0])) ∨ (¬ N.W.hs i ∧ o = .returned (.tuple #[.int .i64 0, errc 1]))) ∧ Below u.heap.size u w'
end Go.Proofs.YtnagdjipmpjaaahDoor
namespace Go.Proofs.YtnagdjipmpjaaahDoor
open Go.ChangeShapes Go.WideShapes Go.ChangeAt Go.RowKit
set_option linter.unusedVariables false

/-- .. and Edges. -/
structure NtE (w0 : World) extends NtR w0 where
  edges : ∀ (b : Nat) (F : Nat → Prop) (N : Nn) (u : World), R u b F N → N.T → Calls Tryd.prog 34 #[.pointer (some ⟨b, 0, none⟩)] u fun o w' => ∃ (ea : Option Addr) (ec : Nat), o = .returned (.tuple #[.slice ea (eoN N).length ec, .nilIface]) ∧ EHanded w' ea (eoN N).length (egf (eoN N)) ∧ Below u.heap.size u w' ∧ (eoN N).length ≤ ec ∧ ec ≤ 9223372036854775807
/-- Edges, without how much room there is. -/
theorem NtE.edgesB {w0 : World} (C : NtE w0) (b : Nat) (F : Nat → Prop) (N : Nn) (u : World) (h : C.R u b F N) (t : N.T) : Calls Tryd.prog 34 #[.pointer (some ⟨b, 0, none⟩)] u fun o w' => ∃ (ea : Option Addr) (ec : Nat), o = .returned (.tuple #[.slice ea (eoN N).length ec, .nilIface]) ∧ EHanded w' ea (eoN N).length (egf (eoN N)) ∧ Below u.heap.size u w' :=
  (C.edges b F N u h t).mono fun _ _ ⟨ea, ec, e, h1, h2, _⟩ => ⟨ea, ec, e, h1, h2⟩
end Go.Proofs.YtnagdjipmpjaaahDoor
