/- What package order must answer: Check. -/
import Derived.Test.YtbghpjmjhhjcgagDoorOrdDef
namespace Go.Proofs.YtbghpjmjhhjcgagDoor
open Go.ChangeShapes Go.WideShapes Go.ChangeAt Go.RowKit
set_option linter.unusedVariables false

structure OdC (w0 : World) : Prop where
  check : ∀ (a : Option Addr) (n cap : Nat) (f : Nat → Ev) (e : Int) (u : World), Below w0.heap.size w0 u → VHanded u a n f → n ≤ cap → EvE n f e → Calls Tryd.prog 18 #[.slice a n cap] u fun r w' => r = .returned (errc e) ∧ Below u.heap.size u w'
end Go.Proofs.YtbghpjmjhhjcgagDoor
