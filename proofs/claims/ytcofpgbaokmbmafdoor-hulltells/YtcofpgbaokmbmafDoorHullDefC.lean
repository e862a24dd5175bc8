/- What package hull must answer. -/
import Derived.Test.YtcofpgbaokmbmafDoorHullDef
namespace Go.Proofs.YtcofpgbaokmbmafDoor
open Go.ChangeShapes Go.WideShapes Go.ChangeAt Go.RowKit
set_option linter.unusedVariables false

/-- What package hull must answer of corners, behind a world w0. -/
structure HlU (w0 : World) : Prop where
  upper : ∀ (a : Option Addr) (n cap : Nat) (f : Nat → Int × Int) (e : Int) (u : World), Below w0.heap.size w0 u → PHanded u a n f → PtE n f e → Calls Tryd.prog 10 #[.slice a n cap] u fun o w' => ∃ (ca : Option Addr) (k cc : Nat) (c : Nat → Int × Int), o = .returned (.tuple #[.slice ca k cc, errc e]) ∧ PHanded w' ca k c ∧ (e ≠ 0 → k = 0) ∧ (e = 0 → Up (lst f n) (lst c k)) ∧ Below u.heap.size u w'
/-- .. of what is over and under points. -/
structure HlO (w0 : World) : Prop where
  over : ∀ (a : Option Addr) (n cap : Nat) (f : Nat → Int × Int) (x v e : Int) (u : World), Below w0.heap.size w0 u → PHanded u a n f → In64 x → OvE n f x v e → Calls Tryd.prog 14 #[.slice a n cap, .int .i64 x] u fun o w' => o = .returned (.tuple #[.int .i64 v, errc e]) ∧ Below u.heap.size u w'
  under : ∀ (a : Option Addr) (n cap : Nat) (f : Nat → Int × Int) (x v e : Int) (u : World), Below w0.heap.size w0 u → PHanded u a n f → In64 x → UnE n f x v e → Calls Tryd.prog 15 #[.slice a n cap, .int .i64 x] u fun o w' => o = .returned (.tuple #[.int .i64 v, errc e]) ∧ Below u.heap.size u w'
end Go.Proofs.YtcofpgbaokmbmafDoor
