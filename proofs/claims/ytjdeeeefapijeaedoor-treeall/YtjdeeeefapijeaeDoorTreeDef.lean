/- Bools and spans in a row, as they are handed over; what package tree must answer. -/
import Derived.Test.YtjdeeeefapijeaeDoorTreeSpan
import Derived.Test.YtjdeeeefapijeaeDoorInts
import Derived.Test.YtjdeeeefapijeaeDoorErrC
namespace Go.Proofs.YtjdeeeefapijeaeDoor
open Go.ChangeShapes Go.WideShapes Go.ChangeAt Go.RowKit
set_option linter.unusedVariables false

def Bls (w : World) (b off n : Nat) (f : Nat → Bool) : Prop := ∀ i, i < n → w.cell? ⟨b, off + i, none⟩ = some (.bool (f i))
theorem Bls.on {W u : World} {b off n : Nat} {f : Nat → Bool} (hb : Below W.heap.size W u) (h : Bls W b off n f) : Bls u b off n f := fun i hi => by
  rw [hb.cell (World.block_lt_of_cell? _ _ (h i hi))]; exact h i hi
def BHanded (w : World) (a : Option Addr) (n : Nat) (f : Nat → Bool) : Prop := n ≤ 9223372036854775807 ∧ (n = 0 ∨ ∃ b off : Nat, a = some ⟨b, off, none⟩ ∧ Bls w b off n f)
theorem BHanded.on {W u : World} {a : Option Addr} {n : Nat} {f : Nat → Bool} (hb : Below W.heap.size W u) (h : BHanded W a n f) : BHanded u a n f :=
  ⟨h.1, h.2.imp id (fun ⟨b, off, e, s⟩ => ⟨b, off, e, s.on hb⟩)⟩
def Sls (w : World) (b off n : Nat) (f : Nat → Int × Int) : Prop := ∀ i, i < n → w.cell? ⟨b, off + i * 2, none⟩ = some (.int .i64 (f i).1) ∧ w.cell? ⟨b, off + i * 2 + 1, none⟩ = some (.int .i64 (f i).2)
theorem Sls.on {W u : World} {b off n : Nat} {f : Nat → Int × Int} (hb : Below W.heap.size W u) (h : Sls W b off n f) : Sls u b off n f := fun i hi => by
  obtain ⟨h0, h1⟩ := h i hi
  exact ⟨by rw [hb.cell (World.block_lt_of_cell? _ _ h0)]; exact h0, by rw [hb.cell (World.block_lt_of_cell? _ _ h1)]; exact h1⟩
def SHanded (w : World) (a : Option Addr) (n : Nat) (f : Nat → Int × Int) : Prop := n ≤ 9223372036854775807 ∧ (n = 0 ∨ ∃ b off : Nat, a = some ⟨b, off, none⟩ ∧ Sls w b off n f)
theorem SHanded.on {W u : World} {a : Option Addr} {n : Nat} {f : Nat → Int × Int} (hb : Below W.heap.size W u) (h : SHanded W a n f) : SHanded u a n f :=
  ⟨h.1, h.2.imp id (fun ⟨b, off, e, s⟩ => ⟨b, off, e, s.on hb⟩)⟩
/-- Who is in the tree, and what it says of each: none is told by zeros. -/
def inT (q : Nat → Eg) (m n r v : Nat) : Bool := decide (v ∈ (treeT q m n r).row)
def teT (q : Nat → Eg) (m n r v : Nat) : Int × Int := if v ∈ (treeT q m n r).row then wantT q m n r v else (0, 0)
/-- What package tree must answer, behind a world w0. -/
structure Ts (w0 : World) : Prop where
  parents : ∀ (z : Int) (a : Option Addr) (m cap : Nat) (q : Nat → Eg) (root e : Int) (u : World), Below w0.heap.size w0 u → EHanded u a m q → In64 z → In64 root → PaE z q m root e → Calls Tryd.prog 19 #[.int .i64 z, .slice a m cap, .int .i64 root] u fun o w' => ∃ (la : Option Addr) (k lc : Nat) (s : Nat → Int), o = .returned (.tuple #[.slice la k lc, errc e]) ∧ NHanded w' la k s ∧ (e ≠ 0 → k = 0) ∧ (e = 0 → k = z.toNat ∧ ∀ i, i < k → s i = (treeT q m z.toNat root.toNat).by_ i) ∧ Below u.heap.size u w'
/-- .. and Spans. -/
structure TsS (w0 : World) : Prop where
  spans : ∀ (z : Int) (a : Option Addr) (m cap : Nat) (q : Nat → Eg) (root e : Int) (u : World), Below w0.heap.size w0 u → EHanded u a m q → In64 z → In64 root → SpE z q m root e → Calls Tryd.prog 22 #[.int .i64 z, .slice a m cap, .int .i64 root] u fun o w' => ∃ (la : Option Addr) (k lc : Nat) (s : Nat → Int × Int) (ha : Option Addr) (k' hc : Nat) (g : Nat → Bool), o = .returned (.tuple #[.slice la k lc, .slice ha k' hc, errc e]) ∧ SHanded w' la k s ∧ BHanded w' ha k' g ∧ (e ≠ 0 → k = 0 ∧ k' = 0) ∧ (e = 0 → k = z.toNat ∧ k' = z.toNat ∧ ∀ i, i < k → s i = teT q m z.toNat root.toNat i ∧ g i = inT q m z.toNat root.toNat i) ∧ Below u.heap.size u w'
end Go.Proofs.YtjdeeeefapijeaeDoor
