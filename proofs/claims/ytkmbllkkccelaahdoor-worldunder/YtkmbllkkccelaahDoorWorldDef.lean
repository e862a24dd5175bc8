/- What package world must answer. -/
import Derived.Test.YtkmbllkkccelaahDoorWorldLt
import Derived.Test.YtkmbllkkccelaahDoorKeeps
import Derived.Test.YtkmbllkkccelaahDoorErrC
import Derived.Test.YtkmbllkkccelaahDoorInts
namespace Go.Proofs.YtkmbllkkccelaahDoor
open Go.ChangeShapes Go.WideShapes Go.ChangeAt Go.RowKit
set_option linter.unusedVariables false

/-- What comes: nothing, or a letter in a block of its own. -/
def Cme (u w' : World) (F : Nat → Prop) (pv : Value) (r : Option Lt) : Prop := (r = none ∧ pv = .pointer none) ∨ ∃ l g, r = some l ∧ pv = .pointer (some ⟨g, 0, none⟩) ∧ Row w' g (ltc l) ∧ u.heap.size ≤ g ∧ ¬ F g
/-- Package world, behind a world w0: R: what a world of clocks keeps, at block b, in blocks F. -/
structure Wp (w0 : World) where
  R : World → Nat → (Nat → Prop) → Ws → Prop
  on : ∀ {u v : World} {b : Nat} {F : Nat → Prop} {S : Ws}, R u b F S → u.heap.size ≤ v.heap.size → (∀ k, F k → v.heap[k]? = u.heap[k]?) → R v b F S
  lt : ∀ {u : World} {b : Nat} {F : Nat → Prop} {S : Ws}, R u b F S → ∀ k, F k → k < u.heap.size
  new : ∀ (sa : Option Addr) (n sc : Nat) (z : Nat → Int) (ra : Option Addr) (m rc : Nat) (r : Nat → Int) (ppm e : Int) (u : World), Below w0.heap.size w0 u → NHanded u sa n z → NHanded u ra m r → In64 ppm → BeE n z m r ppm e → Calls Tryd.prog 5 #[.slice sa n sc, .slice ra m rc, .int .i64 ppm] u fun o w' => ∃ pv, o = .returned (.tuple #[pv, errc e]) ∧ Below u.heap.size u w' ∧ (e = 0 → ∃ b F, pv = .pointer (some ⟨b, 0, none⟩) ∧ R w' b F (ws0 n z r) ∧ ∀ k, F k → u.heap.size ≤ k)
  read : ∀ (b : Nat) (F : Nat → Prop) (S : Ws) (i : Int) (u : World), R u b F S → S.I → In64 i → Calls Tryd.prog 16 #[.pointer (some ⟨b, 0, none⟩), .int .i64 i] u fun o w' => ((S.hs i ∧ o = .returned (.tuple #[.int .i64 (S.rd i.toNat), errc 0])) ∨ (¬ S.hs i ∧ o = .returned (.tuple #[.int .i64 0, errc 1]))) ∧ Below u.heap.size u w'
  act : ∀ (b : Nat) (F : Nat → Prop) (S S' : Ws) (wh x y e : Int) (r : Option Lt) (u : World), R u b F S → S.I → In64 wh → In64 x → In64 y → DoR S wh x y S' r e → Calls Tryd.prog 6 #[.pointer (some ⟨b, 0, none⟩), .agg #[.int .i64 wh, .int .i64 x, .int .i64 y]] u fun o w' => ∃ pv F', o = .returned (.tuple #[pv, errc e]) ∧ Cme u w' F' pv r ∧ R w' b F' S' ∧ Keeps F u w' ∧ ∀ k, F' k → F k ∨ u.heap.size ≤ k
  time : ∀ (b : Nat) (F : Nat → Prop) (S : Ws) (u : World), R u b F S → S.I → Calls Tryd.prog 14 #[.pointer (some ⟨b, 0, none⟩)] u fun o w' => o = .returned (.int .i64 S.time) ∧ Below u.heap.size u w'
end Go.Proofs.YtkmbllkkccelaahDoor
