/- What package order must answer: Surely, Could, Times. -/
import Derived.Test.YtbghpjmjhhjcgagDoorOrdDef
namespace Go.Proofs.YtbghpjmjhhjcgagDoor
open Go.ChangeShapes Go.WideShapes Go.ChangeAt Go.RowKit
set_option linter.unusedVariables false

/-- What package order must answer, behind a world w0. -/
structure OdS (w0 : World) : Prop where
  surely : ∀ (a : Option Addr) (n cap : Nat) (f : Nat → Ev) (i k : Int) (e : Int) (b : Bool) (u : World), Below w0.heap.size w0 u → VHanded u a n f → n ≤ cap → In64 i → In64 k → ((EvE n f e ∧ e ≠ 0 ∧ b = false) ∨ (EvE n f 0 ∧ (i < 0 ∨ (n : Int) ≤ i ∨ k < 0 ∨ (n : Int) ≤ k) ∧ e = 1 ∧ b = false) ∨ (EvE n f 0 ∧ (0 ≤ i ∧ i < n ∧ 0 ≤ k ∧ k < n) ∧ e = 0 ∧ b = sur f i.toNat k.toNat)) → Calls Tryd.prog 19 #[.slice a n cap, .int .i64 i, .int .i64 k] u fun o w' => o = .returned (.tuple #[.bool b, errc e]) ∧ Below u.heap.size u w'
  could : ∀ (a : Option Addr) (n cap : Nat) (f : Nat → Ev) (oa : Option Addr) (m oc : Nat) (o : Nat → Int) (e : Int) (b : Bool) (u : World), Below w0.heap.size w0 u → VHanded u a n f → n ≤ cap → NHanded u oa m o → m ≤ oc → OrE n f o m e → (e ≠ 0 → b = false) → (e = 0 → (b = true ↔ CouldP f o m)) → Calls Tryd.prog 22 #[.slice a n cap, .slice oa m oc] u fun r w' => r = .returned (.tuple #[.bool b, errc e]) ∧ Below u.heap.size u w'
  times : ∀ (a : Option Addr) (n cap : Nat) (f : Nat → Ev) (oa : Option Addr) (m oc : Nat) (o : Nat → Int) (e : Int) (u : World), Below w0.heap.size w0 u → VHanded u a n f → n ≤ cap → NHanded u oa m o → m ≤ oc → ((OrE n f o m e ∧ e ≠ 0) ∨ (OrE n f o m 0 ∧ ¬ CouldP f o m ∧ e = 5) ∨ (OrE n f o m 0 ∧ CouldP f o m ∧ e = 0)) → Calls Tryd.prog 23 #[.slice a n cap, .slice oa m oc] u fun r w' => ∃ (ta : Option Addr) (k tc : Nat) (t : Nat → Int), r = .returned (.tuple #[.slice ta k tc, errc e]) ∧ NHanded w' ta k t ∧ (e ≠ 0 → k = 0) ∧ (e = 0 → k = m ∧ ∀ i, i < m → t i = tmO f o i) ∧ Below u.heap.size u w'
end Go.Proofs.YtbghpjmjhhjcgagDoor
