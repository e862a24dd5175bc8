/- What package node must answer. -/
import Derived.Test.YtmomcaodmdlnpahDoorNodeMath
import Derived.Test.YtmomcaodmdlnpahDoorHandBS
import Derived.Test.YtmomcaodmdlnpahDoorBoundsSpn
import Derived.Test.YtmomcaodmdlnpahDoorKeeps
import Derived.Test.YtmomcaodmdlnpahDoorWorldLt
import Derived.Test.YtmomcaodmdlnpahDoorErrC
import Derived.Test.YtmomcaodmdlnpahDoorNodeOut
namespace Go.Proofs.YtmomcaodmdlnpahDoor
open Go.ChangeShapes Go.WideShapes Go.ChangeAt Go.RowKit
set_option linter.unusedVariables false

/-- What Spans answers. -/
def SpO (F : Nat → Prop) (c : Nd) (t e : Int) (o : Ending) (w' : World) : Prop := ∃ (sa : Option Addr) (sc : Nat) (ha : Option Addr) (hc : Nat), o = .returned (.tuple #[.slice sa (nOf e c.n) sc, .slice ha (nOf e c.n) hc, errc e]) ∧ SHanded w' sa (nOf e c.n) (c.so t) ∧ BHanded w' ha (nOf e c.n) c.ho ∧ Apt F sa ∧ Apt F ha
/-- What Edges answers. -/
def EdO (c : Nd) (t e : Int) (o : Ending) (w' : World) : Prop := ∃ (ea : Option Addr) (ec : Nat), o = .returned (.tuple #[.slice ea (nOf e (c.eo t).length) ec, errc e]) ∧ EHanded w' ea (nOf e (c.eo t).length) (egf (c.eo t))
/-- Package node, behind a world w0: R: what a node keeps, at block b, in blocks F. -/
structure Np (w0 : World) where
  R : World → Nat → (Nat → Prop) → Nd → Prop
  on : ∀ {u v : World} {b : Nat} {F : Nat → Prop} {c : Nd}, R u b F c → u.heap.size ≤ v.heap.size → (∀ k, F k → v.heap[k]? = u.heap[k]?) → R v b F c
  lt : ∀ {u : World} {b : Nat} {F : Nat → Prop} {c : Nd}, R u b F c → ∀ k, F k → k < u.heap.size
  new : ∀ (id n : Nat) (p : Int) (u : World), Below w0.heap.size w0 u → id < n → n ≤ 6 → 0 ≤ p → p ≤ 1000 → Calls Tryd.prog 19 #[.int .i64 id, .int .i64 n, .int .i64 p] u fun o w' => ∃ b F, o = .returned (.tuple #[.pointer (some ⟨b, 0, none⟩), .nilIface]) ∧ R w' b F (Nd.made id n p) ∧ Below u.heap.size u w' ∧ ∀ k, F k → u.heap.size ≤ k
  bad : ∀ (id n p : Int) (u : World), Below w0.heap.size w0 u → In64 id → In64 n → In64 p → (n < 1 ∨ 6 < n ∨ id < 0 ∨ n ≤ id ∨ p < 0 ∨ 1000 < p) → Calls Tryd.prog 19 #[.int .i64 id, .int .i64 n, .int .i64 p] u fun o w' => ∃ v, o = .returned (.tuple #[v, errc 1]) ∧ Below u.heap.size u w'
  hear : ∀ (b : Nat) (F : Nat → Prop) (c c' : Nd) (l : Lt) (t e : Int) (B : Bool) (u : World), R u b F c → c.I → l.In6 → In64 t → HearR c l t c' B e → Calls Tryd.prog 21 #[.pointer (some ⟨b, 0, none⟩), ltv l, .int .i64 t] u fun o w' => ∃ F', o = .returned (.tuple #[.bool B, errc e]) ∧ R w' b F' c' ∧ Keeps F u w' ∧ ∀ k, F' k → F k ∨ u.heap.size ≤ k
  spans : ∀ (b : Nat) (F : Nat → Prop) (c : Nd) (t e : Int) (u : World), R u b F c → c.I → In64 t → SpR c t e → Calls Tryd.prog 20 #[.pointer (some ⟨b, 0, none⟩), .int .i64 t] u fun o w' => SpO F c t e o w' ∧ Below u.heap.size u w'
/-- .. and Edges. -/
structure NpE (w0 : World) extends Np w0 where
  edges : ∀ (b : Nat) (F : Nat → Prop) (c : Nd) (t e : Int) (u : World), R u b F c → c.I → In64 t → SpR c t e → Calls Tryd.prog 27 #[.pointer (some ⟨b, 0, none⟩), .int .i64 t] u fun o w' => EdO c t e o w' ∧ Below u.heap.size u w'
end Go.Proofs.YtmomcaodmdlnpahDoor
