/- What package stat must answer: Widths. -/
import Derived.Test.YthejaecljkjliakDoorStatDef
import Derived.Test.YthejaecljkjliakDoorStatSpn
namespace Go.Proofs.YthejaecljkjliakDoor
open Go.ChangeShapes Go.WideShapes Go.ChangeAt Go.RowKit
set_option linter.unusedVariables false

structure StW (w0 : World) : Prop extends StM w0 where
  widths : ∀ (a : Option Addr) (n cap : Nat) (q : Nat → Int × Int) (u : World), Below w0.heap.size w0 u → SHd u a n q → n ≤ cap → Calls Tryd.prog 5 #[.slice a n cap] u fun o w' => ∃ (ta : Option Addr) (k tc : Nat), o = .returned (.tuple #[.slice ta k tc, errc (svE q n)]) ∧ NHanded w' ta k (fun i => (q i).2 - (q i).1) ∧ k = (if svE q n = 0 then n else 0) ∧ Below u.heap.size u w'
end Go.Proofs.YthejaecljkjliakDoor
