/- What package hull must answer: Check, Lower. -/
import Derived.Test.YtcofpgbaokmbmafDoorHullDef
namespace Go.Proofs.YtcofpgbaokmbmafDoor
open Go.ChangeShapes Go.WideShapes Go.ChangeAt Go.RowKit
set_option linter.unusedVariables false

structure HlT (w0 : World) : Prop where
  check : ∀ (a : Option Addr) (n cap : Nat) (f : Nat → Int × Int) (e : Int) (u : World), Below w0.heap.size w0 u → PHanded u a n f → PtE n f e → Calls Tryd.prog 7 #[.slice a n cap] u fun o w' => o = .returned (errc e) ∧ Below u.heap.size u w'
  lower : ∀ (a : Option Addr) (n cap : Nat) (f : Nat → Int × Int) (e : Int) (u : World), Below w0.heap.size w0 u → PHanded u a n f → PtE n f e → Calls Tryd.prog 11 #[.slice a n cap] u fun o w' => ∃ (ca : Option Addr) (k cc : Nat) (c : Nat → Int × Int), o = .returned (.tuple #[.slice ca k cc, errc e]) ∧ PHanded w' ca k c ∧ (e ≠ 0 → k = 0) ∧ (e = 0 → Up ((lst f n).map flp) ((lst c k).map flp)) ∧ Below u.heap.size u w'
end Go.Proofs.YtcofpgbaokmbmafDoor
