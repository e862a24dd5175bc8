/- Worlds behind calls that lay blocks of their own and turn nothing. What package leap reckons of leaps: by, more, begin. -/
import Derived.Test.YtadkgnbagmnkkakGreatDoorNm03
import Derived.Shelf.SlSorted.Search
import Derived.Shelf.SlSortCmp.QuietGrown
import Derived.WalkKit
import Derived.ProofKit
import Derived.OpenShut
import Derived.Outline
import Derived.IntWalk
import Derived.Below
import Derived.WalkLawsBesides
import Derived.BigQuiet
namespace Go.Proofs.YtadkgnbagmnkkakGreatDoor
open Go.ChangeShapes Go.WideShapes Go.ChangeAt Go.RowKit
set_option linter.unusedVariables false

def Gr (w u : World) : Prop := ∃ q os, u = Go.Sort.grow (w.drewN q) os
section
variable {w u v : World} {o : Obj} {n : Nat}
theorem Gr.refl : Gr w w := ⟨0, #[], by rw [Go.Sort.grow_empty]; rfl⟩
theorem Gr.same (h : u = w) : Gr w u := by rw [h]; exact Gr.refl
theorem Gr.al (h : Gr w u) : Gr w (u.alloc o) := by
 obtain ⟨q, os, rfl⟩ := h
 exact ⟨q, os ++ #[o], by rw [Go.Sort.alloc_eq_grow, Go.Sort.grow_grow]⟩
theorem Gr.tr (h : Gr w u) (k : Gr u v) : Gr w v := by
 obtain ⟨q, os, rfl⟩ := h
 obtain ⟨q', os', rfl⟩ := k
 refine ⟨q + q', os ++ os', ?_⟩
 show Go.Sort.grow (Go.Sort.grow ((w.drewN q).drewN q') os) os' = _
 rw [Go.Sort.grow_grow, World.drewN_drewN]
theorem Gr.drn (h : Gr w u) : Gr w (u.drewN n) := h.tr ⟨n, #[], by rw [Go.Sort.grow_empty]⟩
theorem Gr.grown (h : Gr w u) (n : Nat) (os : Array Obj) : Gr w (Go.Sort.grow (u.drewN n) os) := h.tr ⟨n, os, rfl⟩
theorem Gr.below (h : Gr w u) : Below w.heap.size w u := by
 obtain ⟨q, os, rfl⟩ := h
 exact below_grown_sl _ _ _ _ (Nat.le_refl _)
end
theorem gcount_first (p : Nat → Bool) : ∀ (N k : Nat), k ≤ N → (∀ i, i < k → p i = false) → (∀ i, k ≤ i → i < N → p i = true) → (List.range N).countP (fun i => !p i) = k
 | 0, k, hk, _, _ => by simp; omega
 | N + 1, k, hk, h1, h2 => by
  rw [List.range_succ, List.countP_append]
  by_cases e : k = N + 1
  ·subst e
   rw [gcount_first p N N (Nat.le_refl _) (fun i hi => h1 i (by omega)) (fun i a b => absurd a (by omega))]
   simp [h1 N (by omega)]
  ·rw [gcount_first p N k (by omega) h1 (fun i a b => h2 i a (by omega))]
   simp [h2 N (by omega) (by omega)]
end Go.Proofs.YtadkgnbagmnkkakGreatDoor
namespace Go.Proofs.YtadkgnbagmnkkakGreatDoor
open Go.ChangeShapes Go.WideShapes Go.ChangeAt Go.RowKit
set_option linter.unusedVariables false
set_option linter.unusedSimpArgs false

set_option maxHeartbeats 2000000
theorem by_any (d : Int) (b : Bool) (w : World) :
  Calls Tryz.prog 189 #[.agg #[.int .i64 d, .bool b]] w fun e w' => e = .returned (.int .i64 (sgn b)) ∧ Gr w w' := by
 cases b with
 | true =>
  go_enter Tryz.func189, Tryz.ntmps189
  go_wp2
  go_ret
  exact ⟨rfl, Gr.refl.al⟩
 | false =>
  go_enter Tryz.func189, Tryz.ntmps189
  go_wp2
  go_ret
  exact ⟨rfl, Gr.refl.al⟩
theorem more_row (b off n cap : Nat) (q : Nat → Int × Bool) (d : Int) (w : World) (h20 : n ≤ 20) (hP : Lsp w b off n q) :
  Calls Tryz.prog 167 #[.slice (some ⟨b, off, none⟩) n cap, .int .i64 d] w fun e w' => e = .returned (.int .i64 (mor q n d)) ∧ Gr w w' := by
 have HP : Hid (Lsp w b off n q) := hP
 clear hP
 go_enter Tryz.func167, Tryz.ntmps167
 go_wp2
 go_loopw [5, 10] (fun v i wr => ∃ k : Nat, k ≤ n ∧ i = .int .i64 k ∧ v = .int .i64 (mor q k d) ∧ Gr w wr) (fun _ i _ => n - (intOf i).toNat)
 case atStart => exact ⟨0, Nat.zero_le _, rfl, rfl, Gr.refl⟩
 case round =>
  obtain ⟨k, hk, rfl, rfl, hg⟩ := hrel
  obtain ⟨m1, m2⟩ := mor_le (q := q) k d
  by_cases hlt : k < n
  ·obtain ⟨x0, x1⟩ := (HP.out.on hg.below) k hlt
   have cK := fun u => by_any (q k).1 (q k).2 u
   have MS : Hid (mor q (k + 1) d = mor q k d + if (q k).1 < d then sgn (q k).2 else 0) := rfl
   obtain ⟨s1, s2⟩ := sgn_le (q k).2
   by_cases c : (q k).1 < d
   ·have MS : Hid (mor q (k + 1) d = mor q k d + sgn (q k).2) := MS.out.trans (by rw [if_pos c])
    go_wp2_with (go_at_call 189; refine (cK _).mono ?_; rintro e u ⟨rfl, hu⟩; have hg2 : Gr w u := hg.al.tr hu; clear hu)
    go_roundw
    case rel => exact ⟨k + 1, by omega, by go_num, by rw [MS.out], hg2⟩
    case measure => simp [intOf]; omega
   ·have MS : Hid (mor q (k + 1) d = mor q k d) := MS.out.trans (by rw [if_neg c]; omega)
    go_wp2
    go_roundw
    case rel => exact ⟨k + 1, by omega, by go_num, by rw [MS.out], hg.al⟩
    case measure => simp [intOf]; omega
  ·have kn : k = n := by omega
   subst kn
   go_wp2
   go_ret
   exact ⟨rfl, hg⟩
theorem more_none (a : Option Addr) (cap : Nat) (q : Nat → Int × Bool) (d : Int) (w : World) :
  Calls Tryz.prog 167 #[.slice a 0 cap, .int .i64 d] w fun e w' => e = .returned (.int .i64 (mor q 0 d)) ∧ Gr w w' := by
 go_enter Tryz.func167, Tryz.ntmps167
 go_wp2
 refine wp_loop_rounds 1 ?_
 rw [rounds_succ]
 go_wp2
 go_ret
 exact ⟨rfl, Gr.refl⟩
theorem more_any (a : Option Addr) (n cap : Nat) (q : Nat → Int × Bool) (d : Int) (w : World) (h20 : n ≤ 20) (hH : LHanded w a n q) :
  Calls Tryz.prog 167 #[.slice a n cap, .int .i64 d] w fun e w' => e = .returned (.int .i64 (mor q n d)) ∧ Gr w w' := by
 rcases hH.2 with rfl | ⟨b, off, rfl, hP⟩
 ·exact more_none a cap q d w
 ·exact more_row b off n cap q d w h20 hP
theorem begin_any (a : Option Addr) (n cap : Nat) (q : Nat → Int × Bool) (d : Int) (w : World) (h20 : n ≤ 20) (hH : LHanded w a n q) (h0 : 0 ≤ d) (h1 : d ≤ 100000) :
  Calls Tryz.prog 130 #[.slice a n cap, .int .i64 d] w fun e w' => e = .returned (.int .i64 (bg q n d)) ∧ Gr w w' := by
 have cM := more_any a n cap q d w h20 hH
 have ml := mor_le (q := q) n d
 have B : Hid (bg q n d = 86400 * d + mor q n d) := rfl
 obtain ⟨m1, m2⟩ := ml
 clear hH
 go_enter Tryz.func130, Tryz.ntmps130
 go_wp2_with (go_at_call 167; refine cM.mono ?_; rintro e u ⟨rfl, hu⟩)
 go_ret
 exact ⟨by rw [B.out]; rfl, hu⟩
end Go.Proofs.YtadkgnbagmnkkakGreatDoor
