/- Worlds behind calls that lay blocks of their own and turn nothing. -/
import Derived.Test.YtadkgnbagmnkkakGreatDoorNm03
import Derived.Shelf.SlSorted.Search
import Derived.Shelf.SlSortCmp.QuietGrown
namespace Go.Proofs.YtadkgnbagmnkkakGreatDoor
open Go.ChangeShapes Go.WideShapes Go.ChangeAt Go.RowKit
set_option linter.unusedVariables false

def Gr (w u : World) : Prop := ∃ q os, u = Go.Sort.grow (w.drewN q) os
section
variable {w u v : World} {o : Obj} {n : Nat}
theorem Gr.refl : Gr w w := ⟨0, #[], by rw [Go.Sort.grow_empty]; rfl⟩
theorem Gr.same (h : u = w) : Gr w u := by rw [h]; exact Gr.refl
theorem Gr.al (h : Gr w u) : Gr w (u.alloc o) := by
 obtain ⟨q, os, rfl⟩ := h
 exact ⟨q, os ++ #[o], by rw [Go.Sort.alloc_eq_grow, Go.Sort.grow_grow]⟩
theorem Gr.tr (h : Gr w u) (k : Gr u v) : Gr w v := by
 obtain ⟨q, os, rfl⟩ := h
 obtain ⟨q', os', rfl⟩ := k
 refine ⟨q + q', os ++ os', ?_⟩
 show Go.Sort.grow (Go.Sort.grow ((w.drewN q).drewN q') os) os' = _
 rw [Go.Sort.grow_grow, World.drewN_drewN]
theorem Gr.drn (h : Gr w u) : Gr w (u.drewN n) := h.tr ⟨n, #[], by rw [Go.Sort.grow_empty]⟩
theorem Gr.grown (h : Gr w u) (n : Nat) (os : Array Obj) : Gr w (Go.Sort.grow (u.drewN n) os) := h.tr ⟨n, os, rfl⟩
theorem Gr.below (h : Gr w u) : Below w.heap.size w u := by
 obtain ⟨q, os, rfl⟩ := h
 exact below_grown_sl _ _ _ _ (Nat.le_refl _)
end
theorem gcount_first (p : Nat → Bool) : ∀ (N k : Nat), k ≤ N → (∀ i, i < k → p i = false) → (∀ i, k ≤ i → i < N → p i = true) → (List.range N).countP (fun i => !p i) = k
 | 0, k, hk, _, _ => by simp; omega
 | N + 1, k, hk, h1, h2 => by
  rw [List.range_succ, List.countP_append]
  by_cases e : k = N + 1
  ·subst e
   rw [gcount_first p N N (Nat.le_refl _) (fun i hi => h1 i (by omega)) (fun i a b => absurd a (by omega))]
   simp [h1 N (by omega)]
  ·rw [gcount_first p N k (by omega) h1 (fun i a b => h2 i a (by omega))]
   simp [h2 N (by omega) (by omega)]
end Go.Proofs.YtadkgnbagmnkkakGreatDoor
