/- Two clocks side by side, the program's and the document's; rows of rows of numbers. -/
import Derived.Test.YthdjjjajhjmajafDoorClockRefQ
import Derived.Test.YthdjjjajhjmajafDoorTold
import Derived.Test.YthdjjjajhjmajafDoorClockRow
namespace Go.Proofs.YthdjjjajhjmajafDoor
open Go.ChangeShapes Go.WideShapes Go.ChangeAt Go.RowKit Go.Joins Go.Proofs.YthdjjjajhjmajafDoor.told
set_option linter.unusedVariables false

theorem error_c (f : Int) (w : World) (he : EnvE w) : Calls Tryd.prog 9 #[errc f, .int .i64 f] w fun e w' => e = .returned (.bool true) ∧ Below w.heap.size w w' := error_same f w he
theorem Blk.keeps {S : Nat → Prop} {u u' : World} {e : TypeId} {b : Nat} {vs : List Value} (hK : Keeps S u u') (hn : ¬ S b) (h : Blk u e b vs) : Blk u' e b vs := (hK.block b h.lt hn).trans h
/-- The program's clock and the document's are the same. -/
structure St2 (w : World) (C : Cp w) (u : World) (p b : Nat) (c : Ck) : Prop where
  r : C.R u p c
  m : RC u b c
  i : c.I
  hw : Below w.heap.size w u
  ne : p ≠ b
  lp : w.heap.size ≤ p
  lb : w.heap.size ≤ b
section
variable {w u u' : World} {C : Cp w} {p b : Nat} {c c' : Ck}
theorem St2.on (hb : Below u.heap.size u u') (h : St2 w C u p b c) : St2 w C u' p b c := ⟨C.keep h.r hb, RC.keep hb h.m, h.i, rbel_on hb h.hw, h.ne, h.lp, h.lb⟩
theorem St2.put {V i : Nat} {x : Value} (h : St2 w C u p b c) (h1 : p ≠ V) (h2 : b ≠ V) (h3 : w.heap.size ≤ V) : St2 w C (u.setCell ⟨V, i, none⟩ x) p b c := ⟨C.put h.r h1, Blk.far h2 h.m, h.i, rbel_put h3 h.hw, h.ne, h.lp, h.lb⟩
/-- One goes on: the other one stands. -/
structure St1 (w : World) (C : Cp w) (u : World) (p b : Nat) (c c' : Ck) : Prop where
  r : C.R u p c
  m : RC u b c'
  i : c.I
  i' : c'.I
  hw : Below w.heap.size w u
  ne : p ≠ b
  lp : w.heap.size ≤ p
  lb : w.heap.size ≤ b
theorem St2.go (h : St2 w C u p b c) (hR : C.R u' p c') (hI : c'.I) (hK : Keeps (fun k => k = p) u u') : St1 w C u' p b c' c :=
  ⟨hR, Blk.keeps hK (fun e => h.ne e.symm) h.m, hI, h.i, kbel (B := 0) h.lp hK h.hw, h.ne, h.lp, h.lb⟩
theorem St2.goM (h : St2 w C u p b c) (hR : RC u' b c') (hI : c'.I) (hK : Keeps (fun k => k = b) u u') : St1 w C u' p b c c' :=
  ⟨C.on h.r (hK.block p (C.lt h.r) (fun e => h.ne e)), hR, h.i, hI, kbel (B := 0) h.lb hK h.hw, h.ne, h.lp, h.lb⟩
theorem St1.goM {d : Ck} (h : St1 w C u p b c' c) (hR : RC u' b d) (e : d = c') (hK : Keeps (fun k => k = b) u u') : St2 w C u' p b c' := by
  subst e
  exact ⟨C.on h.r (hK.block p (C.lt h.r) (fun e => h.ne e)), hR, h.i, kbel (B := 0) h.lb hK h.hw, h.ne, h.lp, h.lb⟩
theorem St1.go {d : Ck} (h : St1 w C u p b c c') (hR : C.R u' p d) (e : d = c') (hK : Keeps (fun k => k = p) u u') : St2 w C u' p b c' := by
  subst e
  exact ⟨hR, Blk.keeps hK (fun e => h.ne e.symm) h.m, h.i', kbel (B := 0) h.lp hK h.hw, h.ne, h.lp, h.lb⟩
theorem St2.same (h : St2 w C u p b c) (hR : C.R u' p c) (hK : Keeps (fun k => k = p) u u') : St2 w C u' p b c :=
  ⟨hR, Blk.keeps hK (fun e => h.ne e.symm) h.m, h.i, kbel (B := 0) h.lp hK h.hw, h.ne, h.lp, h.lb⟩
theorem St1.on (hb : Below u.heap.size u u') (h : St1 w C u p b c c') : St1 w C u' p b c c' := ⟨C.keep h.r hb, RC.keep hb h.m, h.i, h.i', rbel_on hb h.hw, h.ne, h.lp, h.lb⟩
end
end Go.Proofs.YthdjjjajhjmajafDoor
