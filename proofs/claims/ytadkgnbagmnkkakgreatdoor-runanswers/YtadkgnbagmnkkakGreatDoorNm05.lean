/- Worlds that keep all but some blocks. Numbers in a row of a law's own. What package node must answer. -/
import Derived.Test.YtadkgnbagmnkkakGreatDoorNm03
import Derived.OwnWalk
import Derived.WalkSmall
import Derived.Test.YtadkgnbagmnkkakGreatDoorNm04
import Derived.Laws.AppendOwnNone
namespace Go.Proofs.YtadkgnbagmnkkakGreatDoor
open Go.ChangeShapes Go.WideShapes Go.ChangeAt Go.RowKit
set_option linter.unusedVariables false

structure Keeps (S : Nat → Prop) (w w' : World) : Prop where
 os : w'.os = w.os
 tape : w'.tape = w.tape
 output : w'.output = w.output
 size : w.heap.size ≤ w'.heap.size
 block : ∀ k, k < w.heap.size → ¬ S k → w'.heap[k]? = w.heap[k]?
section
variable {S : Nat → Prop} {a b c w W u : World} {B k : Nat} {vs : List Value}
theorem Keeps.refl (S : Nat → Prop) (w : World) : Keeps S w w := ⟨rfl, rfl, rfl, Nat.le_refl _, fun _ _ _ => rfl⟩
theorem Keeps.trans (h : Keeps S a b) (g : Keeps S b c) : Keeps S a c :=
 ⟨g.os.trans h.os, g.tape.trans h.tape, g.output.trans h.output, Nat.le_trans h.size g.size, fun i hi hn => (g.block i (Nat.lt_of_lt_of_le hi h.size) hn).trans (h.block i hi hn)⟩
theorem Keeps.of (h : Below a.heap.size a b) : Keeps S a b := ⟨h.os, h.tape, h.output, h.size, fun i hi _ => h.block i hi⟩
theorem Keeps.on (hb : Below W.heap.size W u) (h : Keeps S w W) : Keeps S w u := h.trans (.of hb)
theorem Keeps.al {ob : Obj} (h : Keeps S w W) : Keeps S w (W.alloc ob) := h.trans ⟨rfl, rfl, rfl, by simp, fun k hk _ => Below.heap_alloc _ _ _ hk⟩
theorem Keeps.dr (h : Keeps S w W) : Keeps S w W.drew := h.trans ⟨rfl, rfl, rfl, Nat.le_refl _, fun _ _ _ => rfl⟩
theorem Keeps.drn {n : Nat} (h : Keeps S w W) : Keeps S w (W.drewN n) := h.trans ⟨rfl, rfl, rfl, Nat.le_refl _, fun _ _ _ => rfl⟩
theorem Keeps.put {p : Addr} {x : Value} (hp : S p.block) (h : Keeps S w W) : Keeps S w (W.setCell p x) :=
 h.trans ⟨rfl, rfl, rfl, by simp [World.setCell], fun k hk hn => Below.heap_setCell _ _ _ _ (fun e => hn (e ▸ hp))⟩
theorem Keeps.below (hB : B ≤ w.heap.size) (hS : ∀ k, S k → B ≤ k) (h : Keeps S w W) : Below B w W :=
 ⟨h.os, h.tape, h.output, h.size, fun k hk => h.block k (by omega) (fun s => by have := hS k s; omega)⟩
theorem Keeps.cell {p : Addr} {v : Value} (h : Keeps S w W) (hn : ¬ S p.block) (hc : w.cell? p = some v) : W.cell? p = some v :=
 (World.cell?_of_block (w := w) (h.block p.block (World.block_lt_of_cell? _ _ hc) hn)).trans hc
theorem Keeps.row (h : Keeps S w W) (hn : ¬ S k) (r : Row w k vs) : Row W k vs :=
 ⟨fun i v hv => h.cell hn (r.c i v hv), fun i v hv => (World.frozen?_of_block (w := w) (h.block k (World.block_lt_of_cell? _ _ (r.c i v hv)) hn)).trans (r.f i v hv)⟩
end

theorem own_onN {W u : World} {base n size : Nat} {e : TypeId} {v : Value} {xs : List Value} (hb : Below W.heap.size W u) (h : W.ownsRow base e size v n xs) : u.ownsRow base e size v n xs := by
 refine ⟨h.1, ?_⟩
 rcases h.2 with h' | ⟨g, cap, cur, h1, h2, h3, h4⟩
 ·exact Or.inl h'
 ·refine Or.inr ⟨g, cap, cur, h1, h2, (hb.block g ?_).trans h3, h4⟩
  rcases Nat.lt_or_ge g W.heap.size with hlt | hge
  ·exact hlt
  ·rw [Array.getElem?_eq_none hge] at h3; cases h3
theorem own_keepN {W u : World} {base n size : Nat} {e : TypeId} {v : Value} {xs : List Value} {F : Nat → Prop} (k : Keeps F W u) (hn : ∀ g, v.ownBlock = some g → ¬ F g) (h : W.ownsRow base e size v n xs) : u.ownsRow base e size v n xs := by
 refine ⟨h.1, ?_⟩
 rcases h.2 with h' | ⟨g, cap, cur, h1, h2, h3, h4⟩
 ·exact Or.inl h'
 ·refine Or.inr ⟨g, cap, cur, h1, h2, (k.block g ?_ (hn g (by rw [h1]; rfl))).trans h3, h4⟩
  rcases Nat.lt_or_ge g W.heap.size with hlt | hge
  ·exact hlt
  ·rw [Array.getElem?_eq_none hge] at h3; cases h3
end Go.Proofs.YtadkgnbagmnkkakGreatDoor
