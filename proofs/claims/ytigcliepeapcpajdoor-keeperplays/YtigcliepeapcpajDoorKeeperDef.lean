/- What package keeper must answer: New, Read, Writes. -/
import Derived.Test.YtigcliepeapcpajDoorKeeperMath
import Derived.Test.YtigcliepeapcpajDoorErrC
import Derived.Test.YtigcliepeapcpajDoorKeeps
import Derived.Deep.Heap
namespace Go.Proofs.YtigcliepeapcpajDoor
open Go.ChangeShapes Go.WideShapes Go.ChangeAt Go.RowKit
set_option linter.unusedVariables false

/-- A keeper lies in a block b, whatever it keeps there (R); what its methods answer, behind a world w0. -/
structure Kq (w0 : World) where
  R : World → Nat → Kp → Prop
  lt : ∀ {u : World} {b : Nat} {c : Kp}, R u b c → b < u.heap.size
  on : ∀ {u u' : World} {b : Nat} {c : Kp}, R u b c → u'.heap[b]? = u.heap[b]? → R u' b c
  new : ∀ (a : Int) (u : World), Below w0.heap.size w0 u → 1 ≤ a → a ≤ 1000000 → Calls Tryd.prog 4 #[.int .i64 a] u fun o w' => ∃ b : Nat, o = .returned (.tuple #[.pointer (some ⟨b, 0, none⟩), .nilIface]) ∧ u.heap.size ≤ b ∧ R w' b (Kp.made a) ∧ Below u.heap.size u w'
  bad : ∀ (a : Int) (u : World), Below w0.heap.size w0 u → In64 a → (a < 1 ∨ 1000000 < a) → Calls Tryd.prog 4 #[.int .i64 a] u fun o w' => ∃ v : Value, o = .returned (.tuple #[v, .iface 40 (.int .i64 1)]) ∧ Below u.heap.size u w'
  read : ∀ (b : Nat) (c : Kp) (m : Nat) (x : Int) (u : World), Below w0.heap.size w0 u → w0.heap.size ≤ b → R u b c → c.I m → m ≤ 1000 → In64 x → Calls Tryd.prog 8 #[.pointer (some ⟨b, 0, none⟩), .int .i64 x] u fun o w' => o = .returned (.tuple #[.int .i64 (c.readN x), errc (c.readE x)]) ∧ R w' b (c.readC x) ∧ Keeps (fun k => k = b) u w'
  writes : ∀ (b : Nat) (c : Kp) (m : Nat) (u : World), Below w0.heap.size w0 u → w0.heap.size ≤ b → R u b c → c.I m → m ≤ 1000 → Calls Tryd.prog 10 #[.pointer (some ⟨b, 0, none⟩)] u fun o w' => o = .returned (.int .i64 c.s) ∧ R w' b c ∧ Keeps (fun k => k = b) u w'
section
variable {w0 u u' : World} {b : Nat} {c : Kp}
theorem Kq.keep (C : Kq w0) (h : C.R u b c) (hb : Below u.heap.size u u') : C.R u' b c := C.on h (hb.block b (C.lt h))
theorem Kq.al (C : Kq w0) {ob : Obj} (h : C.R u b c) : C.R (u.alloc ob) b c := C.on h (Below.heap_alloc _ _ _ (C.lt h))
theorem Kq.dr (C : Kq w0) (h : C.R u b c) : C.R u.drew b c := C.on h rfl
theorem Kq.put (C : Kq w0) {a i : Nat} {x : Value} (h : C.R u b c) (hne : b ≠ a) : C.R (u.setCell ⟨a, i, none⟩ x) b c := C.on h (Deep.blk_setCell_other u ⟨a, i, none⟩ x b hne)
theorem kbelK {w : World} (hB : w.heap.size ≤ b) (hK : Keeps (fun k => k = b) u u') (h : Below w.heap.size w u) : Below w.heap.size w u' :=
  h.trans (hK.below h.size (fun k hk => by rw [hk]; exact hB))
/-- A keeper as a law has it on the way. -/
structure Ks (w : World) (C : Kq w) (u : World) (b : Nat) (c : Kp) (m : Nat) : Prop where
  r : C.R u b c
  i : c.I m
  hw : Below w.heap.size w u
  lb : w.heap.size ≤ b
theorem Ks.on {w : World} {C : Kq w} {m : Nat} (hb : Below u.heap.size u u') (h : Ks w C u b c m) : Ks w C u' b c m := ⟨C.keep h.r hb, h.i, rbel_on hb h.hw, h.lb⟩
theorem Ks.go {w : World} {C : Kq w} {m m' : Nat} {c' : Kp} (h : Ks w C u b c m) (hR : C.R u' b c') (hI : c'.I m') (hK : Keeps (fun k => k = b) u u') : Ks w C u' b c' m' := ⟨hR, hI, kbelK h.lb hK h.hw, h.lb⟩
theorem Ks.put {w : World} {C : Kq w} {m V i : Nat} {x : Value} (h : Ks w C u b c m) (h1 : b ≠ V) (h3 : w.heap.size ≤ V) : Ks w C (u.setCell ⟨V, i, none⟩ x) b c m := ⟨C.put h.r h1, h.i, rbel_put h3 h.hw, h.lb⟩
end
end Go.Proofs.YtigcliepeapcpajDoor
