/- What package bounds must answer. -/
import Derived.Test.YtjdeeeefapijeaeDoorBoundsDefA
namespace Go.Proofs.YtjdeeeefapijeaeDoor
open Go.ChangeShapes Go.WideShapes Go.ChangeAt Go.RowKit
set_option linter.unusedVariables false

/-- What package bounds must answer, behind a world w0. -/
structure Bd (w0 : World) : Prop where
  check : ∀ (z : Int) (a : Option Addr) (m cap : Nat) (q : Nat → Eg) (u : World), Below w0.heap.size w0 u → EHanded u a m q → In64 z → Calls Tryd.prog 27 #[.int .i64 z, .slice a m cap] u fun r w' => r = .returned (errc (eE z q m)) ∧ Below u.heap.size u w'
  fits : ∀ (z : Int) (a : Option Addr) (m cap : Nat) (q : Nat → Eg) (ca : Option Addr) (k cc : Nat) (c : Nat → Int) (b : Bool) (e : Int) (u : World), Below w0.heap.size w0 u → EHanded u a m q → NHanded u ca k c → In64 z → FitA z q m k c b e → Calls Tryd.prog 17 #[.int .i64 z, .slice a m cap, .slice ca k cc] u fun r w' => r = .returned (.tuple #[.bool b, errc e]) ∧ Below u.heap.size u w'
  between : ∀ (z : Int) (a : Option Addr) (m cap : Nat) (q : Nat → Eg) (x y lo hi e : Int) (u : World), Below w0.heap.size w0 u → EHanded u a m q → In64 z → In64 x → In64 y → BetA z q m x y lo hi e → Calls Tryd.prog 25 #[.int .i64 z, .slice a m cap, .int .i64 x, .int .i64 y] u fun r w' => r = .returned (.tuple #[sp lo hi, errc e]) ∧ Below u.heap.size u w'
structure BdA (w0 : World) : Prop extends Bd w0 where
  all : ∀ (z : Int) (a : Option Addr) (m cap : Nat) (q : Nat → Eg) (e : Int) (T : Tb) (u : World), Below w0.heap.size w0 u → EHanded u a m q → In64 z → AllE z q m e T → Calls Tryd.prog 16 #[.int .i64 z, .slice a m cap] u fun r w' => ∃ s h, r = .returned (.tuple #[s, h, errc e]) ∧ (e = 0 → STab w' s h z.toNat T) ∧ Below u.heap.size u w'
end Go.Proofs.YtjdeeeefapijeaeDoor
