/- What package order must answer: Ranks, Many. -/
import Derived.Test.YtbghpjmjhhjcgagDoorOrdDef
namespace Go.Proofs.YtbghpjmjhhjcgagDoor
open Go.ChangeShapes Go.WideShapes Go.ChangeAt Go.RowKit
set_option linter.unusedVariables false

/-- .. of ranks, and of how many orders there are. -/
structure OdF (w0 : World) : Prop where
  ranks : ∀ (a : Option Addr) (n cap : Nat) (f : Nat → Ev) (e : Int) (u : World), Below w0.heap.size w0 u → VHanded u a n f → n ≤ cap → IdW n f → EvE n f e → Calls Tryd.prog 27 #[.slice a n cap] u fun r w' => ∃ (ta : Option Addr) (k tc : Nat) (t : Nat → Int), r = .returned (.tuple #[.slice ta k tc, errc e]) ∧ NHanded w' ta k t ∧ (e ≠ 0 → k = 0) ∧ (e = 0 → k = n ∧ ∀ i, i < n → t i = rkO f n i) ∧ Below u.heap.size u w'
  many : ∀ (a : Option Addr) (n cap : Nat) (f : Nat → Ev) (e : Int) (u : World), Below w0.heap.size w0 u → VHanded u a n f → n ≤ cap → EvE n f e → Calls Tryd.prog 28 #[.slice a n cap] u fun r w' => r = .returned (.tuple #[.int .i64 (if e = 0 then ((mny f n : Nat) : Int) else 0), errc e]) ∧ Below u.heap.size u w'
end Go.Proofs.YtbghpjmjhhjcgagDoor
