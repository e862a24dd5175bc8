/- Worlds that keep all but some blocks. Numbers in a row, as they are handed over; errors by their numbers. Bools and spans in a row, as they are handed over. Numbers in a row of a law's own. -/
import Derived.Test.YtnagdjipmpjaaahDoorNm01
import Derived.OwnWalk
import Derived.WalkSmall
import Derived.WalkArith
import Derived.Test.YtnagdjipmpjaaahDoorNm02
import Derived.Laws.AppendOwnNone
namespace Go.Proofs.YtnagdjipmpjaaahDoor
open Go.ChangeShapes Go.WideShapes Go.ChangeAt Go.RowKit
set_option linter.unusedVariables false

/-- All blocks but those of S are as they were. -/
structure Keeps (S : Nat → Prop) (w w' : World) : Prop where
  os : w'.os = w.os
  tape : w'.tape = w.tape
  output : w'.output = w.output
  size : w.heap.size ≤ w'.heap.size
  block : ∀ k, k < w.heap.size → ¬ S k → w'.heap[k]? = w.heap[k]?
section
variable {S : Nat → Prop} {a b c w W u : World} {B k : Nat} {vs : List Value}
theorem Keeps.refl (S : Nat → Prop) (w : World) : Keeps S w w := ⟨rfl, rfl, rfl, Nat.le_refl _, fun _ _ _ => rfl⟩
theorem Keeps.trans (h : Keeps S a b) (g : Keeps S b c) : Keeps S a c :=
  ⟨g.os.trans h.os, g.tape.trans h.tape, g.output.trans h.output, Nat.le_trans h.size g.size, fun i hi hn => (g.block i (Nat.lt_of_lt_of_le hi h.size) hn).trans (h.block i hi hn)⟩
theorem Keeps.of (h : Below a.heap.size a b) : Keeps S a b := ⟨h.os, h.tape, h.output, h.size, fun i hi _ => h.block i hi⟩
theorem Keeps.on (hb : Below W.heap.size W u) (h : Keeps S w W) : Keeps S w u := h.trans (.of hb)
theorem Keeps.al {ob : Obj} (h : Keeps S w W) : Keeps S w (W.alloc ob) := h.trans ⟨rfl, rfl, rfl, by simp, fun k hk _ => Below.heap_alloc _ _ _ hk⟩
theorem Keeps.dr (h : Keeps S w W) : Keeps S w W.drew := h.trans ⟨rfl, rfl, rfl, Nat.le_refl _, fun _ _ _ => rfl⟩
theorem Keeps.drn {n : Nat} (h : Keeps S w W) : Keeps S w (W.drewN n) := h.trans ⟨rfl, rfl, rfl, Nat.le_refl _, fun _ _ _ => rfl⟩
theorem Keeps.put {p : Addr} {x : Value} (hp : S p.block) (h : Keeps S w W) : Keeps S w (W.setCell p x) :=
  h.trans ⟨rfl, rfl, rfl, by simp [World.setCell], fun k hk hn => Below.heap_setCell _ _ _ _ (fun e => hn (e ▸ hp))⟩
theorem Keeps.below (hB : B ≤ w.heap.size) (hS : ∀ k, S k → B ≤ k) (h : Keeps S w W) : Below B w W :=
  ⟨h.os, h.tape, h.output, h.size, fun k hk => h.block k (by omega) (fun s => by have := hS k s; omega)⟩
theorem Keeps.cell {p : Addr} {v : Value} (h : Keeps S w W) (hn : ¬ S p.block) (hc : w.cell? p = some v) : W.cell? p = some v :=
  (World.cell?_of_block (w := w) (h.block p.block (World.block_lt_of_cell? _ _ hc) hn)).trans hc
theorem Keeps.row (h : Keeps S w W) (hn : ¬ S k) (r : Row w k vs) : Row W k vs :=
  ⟨fun i v hv => h.cell hn (r.c i v hv), fun i v hv => (World.frozen?_of_block (w := w) (h.block k (World.block_lt_of_cell? _ _ (r.c i v hv)) hn)).trans (r.f i v hv)⟩
end

end Go.Proofs.YtnagdjipmpjaaahDoor
namespace Go.Proofs.YtnagdjipmpjaaahDoor
open Go.ChangeShapes Go.WideShapes Go.ChangeAt Go.RowKit
set_option linter.unusedVariables false

/-- n numbers lie in a row behind an address. -/
def Nrd (w : World) (b off n : Nat) (z : Nat → Int) : Prop := ∀ i, i < n → w.cell? ⟨b, off + i, none⟩ = some (.int .i64 (z i))
theorem Nrd.on {W u : World} {b off n : Nat} {z : Nat → Int} (hb : Below W.heap.size W u) (h : Nrd W b off n z) : Nrd u b off n z := fun i hi => by
  rw [hb.cell (World.block_lt_of_cell? _ _ (h i hi))]; exact h i hi
def NHanded (w : World) (a : Option Addr) (n : Nat) (z : Nat → Int) : Prop := n ≤ 9223372036854775807 ∧ (n = 0 ∨ ∃ b off : Nat, a = some ⟨b, off, none⟩ ∧ Nrd w b off n z)
theorem NHanded.on {W u : World} {a : Option Addr} {n : Nat} {z : Nat → Int} (hb : Below W.heap.size W u) (h : NHanded W a n z) : NHanded u a n z :=
  ⟨h.1, h.2.imp id (fun ⟨b, off, e, s⟩ => ⟨b, off, e, s.on hb⟩)⟩
end Go.Proofs.YtnagdjipmpjaaahDoor
namespace Go.Proofs.YtnagdjipmpjaaahDoor
open Go.ChangeShapes Go.WideShapes Go.ChangeAt Go.RowKit
set_option linter.unusedVariables false

def Bls (w : World) (b off n : Nat) (f : Nat → Bool) : Prop := ∀ i, i < n → w.cell? ⟨b, off + i, none⟩ = some (.bool (f i))
theorem Bls.on {W u : World} {b off n : Nat} {f : Nat → Bool} (hb : Below W.heap.size W u) (h : Bls W b off n f) : Bls u b off n f := fun i hi => by
  rw [hb.cell (World.block_lt_of_cell? _ _ (h i hi))]; exact h i hi
def BHanded (w : World) (a : Option Addr) (n : Nat) (f : Nat → Bool) : Prop := n ≤ 9223372036854775807 ∧ (n = 0 ∨ ∃ b off : Nat, a = some ⟨b, off, none⟩ ∧ Bls w b off n f)
theorem BHanded.on {W u : World} {a : Option Addr} {n : Nat} {f : Nat → Bool} (hb : Below W.heap.size W u) (h : BHanded W a n f) : BHanded u a n f :=
  ⟨h.1, h.2.imp id (fun ⟨b, off, e, s⟩ => ⟨b, off, e, s.on hb⟩)⟩
def Sls (w : World) (b off n : Nat) (f : Nat → Int × Int) : Prop := ∀ i, i < n → w.cell? ⟨b, off + i * 2, none⟩ = some (.int .i64 (f i).1) ∧ w.cell? ⟨b, off + i * 2 + 1, none⟩ = some (.int .i64 (f i).2)
theorem Sls.on {W u : World} {b off n : Nat} {f : Nat → Int × Int} (hb : Below W.heap.size W u) (h : Sls W b off n f) : Sls u b off n f := fun i hi => by
  obtain ⟨h0, h1⟩ := h i hi
  exact ⟨by rw [hb.cell (World.block_lt_of_cell? _ _ h0)]; exact h0, by rw [hb.cell (World.block_lt_of_cell? _ _ h1)]; exact h1⟩
def SHanded (w : World) (a : Option Addr) (n : Nat) (f : Nat → Int × Int) : Prop := n ≤ 9223372036854775807 ∧ (n = 0 ∨ ∃ b off : Nat, a = some ⟨b, off, none⟩ ∧ Sls w b off n f)
theorem SHanded.on {W u : World} {a : Option Addr} {n : Nat} {f : Nat → Int × Int} (hb : Below W.heap.size W u) (h : SHanded W a n f) : SHanded u a n f :=
  ⟨h.1, h.2.imp id (fun ⟨b, off, e, s⟩ => ⟨b, off, e, s.on hb⟩)⟩
end Go.Proofs.YtnagdjipmpjaaahDoor
namespace Go.Proofs.YtnagdjipmpjaaahDoor
open Go.ChangeShapes Go.WideShapes Go.ChangeAt Go.RowKit
set_option linter.unusedVariables false

/-- Numbers as cells. -/
def icn (t : Nat → Int) : Nat → List Value
  | 0 => []
  | m + 1 => icn t m ++ [.int .i64 (t m)]
theorem icn_len (t : Nat → Int) : ∀ m, (icn t m).length = m
  | 0 => rfl
  | m + 1 => by simp [icn, icn_len t m]
theorem icn_at (t : Nat → Int) : ∀ {m i : Nat}, i < m → (icn t m)[i]? = some (.int .i64 (t i))
  | 0, i, h => by omega
  | m + 1, i, h => by
    simp only [icn]
    by_cases c : i = m
    · subst c
      rw [List.getElem?_append_right (by rw [icn_len]; omega), icn_len]
      simp
    · rw [List.getElem?_append_left (by rw [icn_len]; omega)]
      exact icn_at t (by omega)
theorem infoIntN : (Tryd.prog.info? 3).map (fun i => (i.zero, i.size, i.bytes)) = some (some (.int .i64 0), 1, 8) := by kernel_rfl
theorem own_onN {W u : World} {base n size : Nat} {e : TypeId} {v : Value} {xs : List Value} (hb : Below W.heap.size W u) (h : W.ownsRow base e size v n xs) : u.ownsRow base e size v n xs := by
  refine ⟨h.1, ?_⟩
  rcases h.2 with h' | ⟨g, cap, cur, h1, h2, h3, h4⟩
  · exact Or.inl h'
  · refine Or.inr ⟨g, cap, cur, h1, h2, (hb.block g ?_).trans h3, h4⟩
    rcases Nat.lt_or_ge g W.heap.size with hlt | hge
    · exact hlt
    · rw [Array.getElem?_eq_none hge] at h3; cases h3
/-- .. and where some blocks turn that it does not lie in. -/
theorem own_keepN {W u : World} {base n size : Nat} {e : TypeId} {v : Value} {xs : List Value} {F : Nat → Prop} (k : Keeps F W u) (hn : ∀ g, v.ownBlock = some g → ¬ F g) (h : W.ownsRow base e size v n xs) : u.ownsRow base e size v n xs := by
  refine ⟨h.1, ?_⟩
  rcases h.2 with h' | ⟨g, cap, cur, h1, h2, h3, h4⟩
  · exact Or.inl h'
  · refine Or.inr ⟨g, cap, cur, h1, h2, (k.block g ?_ (hn g (by rw [h1]; rfl))).trans h3, h4⟩
    rcases Nat.lt_or_ge g W.heap.size with hlt | hge
    · exact hlt
    · rw [Array.getElem?_eq_none hge] at h3; cases h3
/-- .. and where another row grows. -/
theorem own_grownN {W u : World} {base n size : Nat} {e : TypeId} {v : Value} {xs : List Value} {row : Option Nat} (hg : W.grownBy u row) (hn : ∀ g, v.ownBlock = some g → some g ≠ row) (h : W.ownsRow base e size v n xs) : u.ownsRow base e size v n xs := by
  refine ⟨h.1, ?_⟩
  rcases h.2 with h' | ⟨g, cap, cur, h1, h2, h3, h4⟩
  · exact Or.inl h'
  · refine Or.inr ⟨g, cap, cur, h1, h2, (hg.block g ?_ (hn g (by rw [h1]; rfl))).trans h3, h4⟩
    rcases Nat.lt_or_ge g W.heap.size with hlt | hge
    · exact hlt
    · rw [Array.getElem?_eq_none hge] at h3; cases h3
theorem own_intsN {w : World} {base k : Nat} {v : Value} {t : Nat → Int} (h : w.ownsRow base 3 1 v k (icn t k)) (hk : k ≤ 9223372036854775807) : ∃ a cap, v = .slice a k cap ∧ NHanded w a k t ∧ (k = 0 ∨ ∃ g, a = some ⟨g, 0, none⟩ ∧ v.ownBlock = some g) := by
  rcases h.2 with ⟨rfl, e⟩ | ⟨g, cap, cur, rfl, hb, hg, hc, _, hcs, htk⟩
  · subst e
    exact ⟨none, 0, rfl, ⟨hk, Or.inl rfl⟩, Or.inl rfl⟩
  · refine ⟨_, cap, rfl, ⟨hk, Or.inr ⟨g, 0, rfl, fun i hi => ?_⟩⟩, Or.inr ⟨g, rfl, rfl⟩⟩
    rw [Nat.zero_add, h.cellAt i (by omega)]
    exact icn_at t hi
theorem own_capN {w : World} {base k : Nat} {v : Value} {t : Nat → Int} (h : w.ownsRow base 3 1 v k (icn t k)) (hk : k ≤ 9223372036854775807) : ∃ a cap, v = .slice a k cap ∧ NHanded w a k t ∧ k ≤ cap := by
  rcases h.2 with ⟨rfl, e⟩ | ⟨g, cap, cur, rfl, hb, hg, hc, _, hcs, htk⟩
  · subst e
    exact ⟨none, 0, rfl, ⟨hk, Or.inl rfl⟩, Nat.le_refl _⟩
  · refine ⟨_, cap, rfl, ⟨hk, Or.inr ⟨g, 0, rfl, fun i hi => ?_⟩⟩, hc⟩
    rw [Nat.zero_add, h.cellAt i (by omega)]
    exact icn_at t hi
theorem row2N {W : World} {B : Nat} {z : Nat → Int} (r : Row W B [.int .i64 (z 0), .int .i64 (z 1)]) : NHanded W (some ⟨B, 0, none⟩) 2 z := ⟨by omega, Or.inr ⟨B, 0, rfl, fun i hi => by
  have : i = 0 ∨ i = 1 := by omega
  rcases this with rfl | rfl
  · exact r.c 0 _ rfl
  · exact r.c 1 _ rfl⟩⟩
theorem in64N {n : Int} (h : -9223372036854775808 ≤ n ∧ n ≤ 9223372036854775807) : (Lit.int .i64 n).wf = true := by
  simp [Lit.wf, IntKind.min, IntKind.max, IntKind.signed, IntKind.bits]
  omega
end Go.Proofs.YtnagdjipmpjaaahDoor
