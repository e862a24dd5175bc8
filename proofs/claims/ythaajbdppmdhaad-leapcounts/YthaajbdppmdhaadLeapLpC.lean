/- What leap.Check and leap.Ahead must answer, as the document says it. -/
import Derived.Test.YthaajbdppmdhaadLeapDef
namespace Go.Proofs.Ythaajbdppmdhaad
open Go.ChangeShapes Go.WideShapes Go.ChangeAt Go.RowKit
set_option linter.unusedVariables false

structure LpC (w0 : World) : Prop where
  check : ∀ (a : Option Addr) (n cap : Nat) (q : Nat → Int × Bool) (u : World), Below w0.heap.size w0 u → LHanded u a n q → Calls Try.prog 4 #[.slice a n cap] u fun x w' => x = .returned (errc (lE q n)) ∧ Below u.heap.size u w'
  ahead : ∀ (a : Option Addr) (n cap : Nat) (q : Nat → Int × Bool) (x v e : Int) (u : World), Below w0.heap.size w0 u → LHanded u a n q → In64 x → AheadA q n x v e → Calls Try.prog 5 #[.slice a n cap, .int .i64 x] u fun r w' => r = .returned (.tuple #[.int .i64 v, errc e]) ∧ Below u.heap.size u w'
end Go.Proofs.Ythaajbdppmdhaad
