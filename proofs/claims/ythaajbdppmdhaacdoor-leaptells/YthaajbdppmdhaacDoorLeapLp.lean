/- What package leap must answer, as the document says it. -/
import Derived.Test.YthaajbdppmdhaacDoorLeapDef
namespace Go.Proofs.YthaajbdppmdhaacDoor
open Go.ChangeShapes Go.WideShapes Go.ChangeAt Go.RowKit
set_option linter.unusedVariables false

structure Lp (w0 : World) : Prop where
  check : ∀ (a : Option Addr) (n cap : Nat) (q : Nat → Int × Bool) (u : World), Below w0.heap.size w0 u → LHanded u a n q → Calls Tryd.prog 28 #[.slice a n cap] u fun x w' => x = .returned (errc (lE q n)) ∧ Below u.heap.size u w'
  utc : ∀ (a : Option Addr) (n cap : Nat) (q : Nat → Int × Bool) (x y m d h i s e : Int) (u : World), Below w0.heap.size w0 u → LHanded u a n q → In64 x → UtcA q n x y m d h i s e → Calls Tryd.prog 36 #[.slice a n cap, .int .i64 x] u fun r w' => r = .returned (.tuple #[lbl y m d h i s, errc e]) ∧ Below u.heap.size u w'
  ahead : ∀ (a : Option Addr) (n cap : Nat) (q : Nat → Int × Bool) (x v e : Int) (u : World), Below w0.heap.size w0 u → LHanded u a n q → In64 x → AheadA q n x v e → Calls Tryd.prog 37 #[.slice a n cap, .int .i64 x] u fun r w' => r = .returned (.tuple #[.int .i64 v, errc e]) ∧ Below u.heap.size u w'
structure LpS (w0 : World) : Prop where
  smear : ∀ (a : Option Addr) (n cap : Nat) (q : Nat → Int × Bool) (x v e : Int) (u : World), Below w0.heap.size w0 u → LHanded u a n q → In64 x → SmearA q n x v e → Calls Tryd.prog 38 #[.slice a n cap, .int .i64 x] u fun r w' => r = .returned (.tuple #[.int .i64 v, errc e]) ∧ Below u.heap.size u w'
structure LpT (w0 : World) : Prop where
  tai : ∀ (a : Option Addr) (n cap : Nat) (q : Nat → Int × Bool) (y m d h i s v e : Int) (u : World), Below w0.heap.size w0 u → LHanded u a n q → In64 y → In64 m → In64 d → In64 h → In64 i → In64 s → TaiA q n y m d h i s v e → Calls Tryd.prog 30 #[.slice a n cap, lbl y m d h i s] u fun r w' => r = .returned (.tuple #[.int .i64 v, errc e]) ∧ Below u.heap.size u w'
  print : ∀ (y m d h i s : Int) (u : World), Below w0.heap.size w0 u → In64 y → In64 m → In64 d → In64 h → In64 i → In64 s → Calls Tryd.prog 41 #[lbl y m d h i s] u fun r w' => r = .returned (.tuple #[.string (if (okD y m d && okH h i s) = true then ltext y m d h i s else ⟨#[]⟩), errc (if (okD y m d && okH h i s) = true then 0 else 1)]) ∧ Below u.heap.size u w'
  parse : ∀ (t : ByteArray) (y m d h i s e : Int) (u : World), Below w0.heap.size w0 u → t.size ≤ maxLen → RL t y m d h i s e → Calls Tryd.prog 43 #[.string t] u fun r w' => r = .returned (.tuple #[lbl y m d h i s, errc e]) ∧ Below u.heap.size u w'
end Go.Proofs.YthaajbdppmdhaacDoor
