/- What package clock must answer. -/
import Derived.Test.YthdjjjajhjmajafDoorClockMath
import Derived.Test.YthdjjjajhjmajafDoorErrC
import Derived.Test.YthdjjjajhjmajafDoorKeeps
import Derived.Test.YthdjjjajhjmajafDoorBoundsTab
import Derived.Test.YthdjjjajhjmajafDoorInts
namespace Go.Proofs.YthdjjjajhjmajafDoor
open Go.ChangeShapes Go.WideShapes Go.ChangeAt Go.RowKit
set_option linter.unusedVariables false

/-- A clock lies in a block b, whatever it keeps there (R); what its methods answer, behind a world w0. -/
structure Cp (w0 : World) where
  R : World → Nat → Ck → Prop
  lt : ∀ {u : World} {b : Nat} {c : Ck}, R u b c → b < u.heap.size
  on : ∀ {u u' : World} {b : Nat} {c : Ck}, R u b c → u'.heap[b]? = u.heap[b]? → R u' b c
  new : ∀ (p : Int) (u : World), Below w0.heap.size w0 u → 0 ≤ p → p ≤ 1000 → Calls Tryd.prog 19 #[.int .i64 p] u fun o w' => ∃ b : Nat, o = .returned (.tuple #[.pointer (some ⟨b, 0, none⟩), .nilIface]) ∧ u.heap.size ≤ b ∧ R w' b (Ck.made p) ∧ Below u.heap.size u w'
  bad : ∀ (p : Int) (u : World), Below w0.heap.size w0 u → In64 p → (p < 0 ∨ 1000 < p) → Calls Tryd.prog 19 #[.int .i64 p] u fun o w' => ∃ v : Value, o = .returned (.tuple #[v, .iface 68 (.int .i64 1)]) ∧ Below u.heap.size u w'
  step : ∀ (b : Nat) (c : Ck) (x : Int) (u : World), Below w0.heap.size w0 u → w0.heap.size ≤ b → R u b c → c.I → In64 x → Calls Tryd.prog 20 #[.pointer (some ⟨b, 0, none⟩), .int .i64 x] u fun o w' => o = .returned (errc (c.stepE x)) ∧ R w' b (c.stepC x) ∧ Keeps (fun k => k = b) u w'
  learn : ∀ (b : Nat) (c : Ck) (x y : Int) (u : World), Below w0.heap.size w0 u → w0.heap.size ≤ b → R u b c → c.I → In64 x → In64 y → Calls Tryd.prog 21 #[.pointer (some ⟨b, 0, none⟩), .agg #[.int .i64 x, .int .i64 y]] u fun o w' => o = .returned (errc (c.learnE x y)) ∧ R w' b (c.learnC x y) ∧ Keeps (fun k => k = b) u w'
  now : ∀ (b : Nat) (c : Ck) (u : World), Below w0.heap.size w0 u → w0.heap.size ≤ b → R u b c → c.I → Calls Tryd.prog 22 #[.pointer (some ⟨b, 0, none⟩)] u fun o w' => o = .returned (.tuple #[.agg #[.int .i64 c.nowLo, .int .i64 c.nowHi], errc c.nowE]) ∧ R w' b c ∧ Keeps (fun k => k = b) u w'
/-- .. and Point, Here. -/
structure CpP (w0 : World) extends Cp w0 where
  point : ∀ (b : Nat) (c : Ck) (u : World), Below w0.heap.size w0 u → w0.heap.size ≤ b → R u b c → c.I → Calls Tryd.prog 24 #[.pointer (some ⟨b, 0, none⟩)] u fun o w' => o = .returned (.tuple #[.int .i64 c.pointN, errc c.pointE]) ∧ R w' b c.pointC ∧ Keeps (fun k => k = b) u w'
structure CpH (w0 : World) extends CpP w0 where
  here : ∀ (b : Nat) (c : Ck) (u : World), Below w0.heap.size w0 u → w0.heap.size ≤ b → R u b c → c.I → Calls Tryd.prog 30 #[.pointer (some ⟨b, 0, none⟩)] u fun o w' => o = .returned (.int .i64 c.h) ∧ R w' b c ∧ Keeps (fun k => k = b) u w'
section
variable {w0 u u' : World} {b : Nat} {c : Ck}
theorem Cp.keep (C : Cp w0) (h : C.R u b c) (hb : Below u.heap.size u u') : C.R u' b c := C.on h (hb.block b (C.lt h))
theorem Cp.al (C : Cp w0) {ob : Obj} (h : C.R u b c) : C.R (u.alloc ob) b c := C.on h (Below.heap_alloc _ _ _ (C.lt h))
theorem Cp.dr (C : Cp w0) (h : C.R u b c) : C.R u.drew b c := C.on h rfl
theorem Cp.drn (C : Cp w0) {n : Nat} (h : C.R u b c) : C.R (u.drewN n) b c := C.on h rfl
theorem Cp.put (C : Cp w0) {a i : Nat} {x : Value} (h : C.R u b c) (hne : b ≠ a) : C.R (u.setCell ⟨a, i, none⟩ x) b c := C.on h (Deep.blk_setCell_other u ⟨a, i, none⟩ x b hne)
theorem kbel {B : Nat} {w : World} (hB : w.heap.size ≤ b) (hK : Keeps (fun k => k = b) u u') (h : Below w.heap.size w u) : Below w.heap.size w u' :=
  h.trans (hK.below h.size (fun k hk => by rw [hk]; exact hB))
end
end Go.Proofs.YthdjjjajhjmajafDoor
