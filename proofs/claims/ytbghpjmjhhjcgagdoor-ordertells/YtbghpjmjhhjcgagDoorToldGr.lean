/- noonsame.Error leaves all that was there as it was: some draws, some blocks behind it. -/
import Derived.Test.YtbghpjmjhhjcgagDoorTold
import Derived.Shelf.SlSortCmp.QuietGrown
import Derived.BigQuiet
namespace Go.Proofs.YtbghpjmjhhjcgagDoor.told
open Go.ChangeShapes Go.WideShapes Go.ChangeAt Go.RowKit
set_option linter.unusedVariables false
set_option linter.unusedSimpArgs false

/-- A world behind another one: some draws, some blocks behind it, nothing else. -/
def Grw (w u : World) : Prop := ∃ q os, u = Go.Sort.grow (w.drewN q) os
section
variable {w u v : World} {o : Obj} {n b i : Nat} {x : Value}
theorem Grw.refl : Grw w w := ⟨0, #[], by rw [Go.Sort.grow_empty]; rfl⟩
theorem Grw.al (h : Grw w u) : Grw w (u.alloc o) := by
  obtain ⟨q, os, rfl⟩ := h
  exact ⟨q, os ++ #[o], by rw [Go.Sort.alloc_eq_grow, Go.Sort.grow_grow]⟩
theorem Grw.tr (h : Grw w u) (k : Grw u v) : Grw w v := by
  obtain ⟨q, os, rfl⟩ := h
  obtain ⟨q', os', rfl⟩ := k
  refine ⟨q + q', os ++ os', ?_⟩
  show Go.Sort.grow (Go.Sort.grow ((w.drewN q).drewN q') os) os' = _
  rw [Go.Sort.grow_grow, World.drewN_drewN]
theorem Grw.drn (h : Grw w u) : Grw w (u.drewN n) := h.tr ⟨n, #[], by rw [Go.Sort.grow_empty]⟩
theorem modify_app (H os : Array Obj) (b : Nat) (g : Obj → Obj) (hb : H.size ≤ b) : (H ++ os).modify b g = H ++ os.modify (b - H.size) g := by
  apply Array.ext
  · simp
  · intro j h1 h2
    simp only [Array.getElem_modify, Array.getElem_append]
    by_cases c : j < H.size
    · rw [if_neg (by omega), dif_pos c]
      simp [c]
    · rw [dif_neg c]
      by_cases e : b = j
      · subst e
        simp [c]
      · rw [if_neg e, dif_neg c, if_neg (by omega)]
theorem Grw.put (hb : w.heap.size ≤ b) (h : Grw w u) : Grw w (u.setCell ⟨b, i, none⟩ x) := by
  obtain ⟨q, os, rfl⟩ := h
  obtain ⟨g, hg⟩ : ∃ g : Obj → Obj, ∀ W : World, W.setCell ⟨b, i, none⟩ x = { W with heap := W.heap.modify b g } := ⟨_, fun _ => rfl⟩
  refine ⟨q, os.modify (b - w.heap.size) g, ?_⟩
  rw [hg]
  show ({ (w.drewN q) with heap := (w.heap ++ os).modify b g } : World) = { (w.drewN q) with heap := w.heap ++ os.modify (b - w.heap.size) g }
  rw [modify_app _ _ _ _ hb]
theorem Grw.below (h : Grw w u) : Below w.heap.size w u := by
  obtain ⟨q, os, rfl⟩ := h
  refine ⟨rfl, rfl, rfl, by simp [Go.Sort.grow], fun k hk => ?_⟩
  show (w.heap ++ os)[k]? = w.heap[k]?
  rw [Array.getElem?_append, if_pos hk]
end
set_option maxHeartbeats 400000 in
theorem told_nil_g (w : World) :
    Calls Tryd.prog 30 #[.nilIface] w fun e w' => e = .returned (.int .i64 0) ∧ Grw w w' := by
  go_enter Tryd.func30, Tryd.ntmps30
  go_wp2
  go_ret
  exact ⟨rfl, Grw.refl⟩
set_option maxHeartbeats 1000000 in
theorem told_errno_g (k : Int) (w : World) (he : EnvE w) :
    Calls Tryd.prog 30 #[.iface 60 (.int .i64 k)] w fun e w' => e = .returned (.int .i64 k) ∧ Grw w w' := by
  have hg : (w.alloc (.cells #[.int .i64 0] 60)).cell? ⟨0, 0, none⟩ = some (.iface 104 (.agg #[.pointer (some ⟨1, 27, none⟩)])) := EnvE.below he ((Below.refl _ _).alloc (Nat.le_refl _) _)
  clear he
  have H : Hid ((w.alloc (.cells #[.int .i64 0] 60)).cell? ⟨0, 0, none⟩ = some (.iface 104 (.agg #[.pointer (some ⟨1, 27, none⟩)]))) := hg
  clear hg
  go_enter Tryd.func30, Tryd.ntmps30
  go_wp2_with (go_at_call 47; refine (as_hit k ⟨w.heap.size, 0, none⟩ (.int .i64 0) _ H.out (by simp) (by simp)).mono ?_; rintro e w' ⟨rfl, rfl⟩)
  go_ret
  refine ⟨rfl, ?_⟩
  (repeat (first | exact Grw.refl | refine Grw.al ?_ | refine Grw.put (by first | exact Nat.le_refl _ | (simp; done) | (simp; omega) | omega) ?_ | refine Grw.drn ?_))
set_option maxHeartbeats 400000 in
theorem error_same_g (f : Int) (w : World) (he : EnvE w) :
    Calls Tryd.prog 10 #[errv f, .int .i64 f] w fun e w' => e = .returned (.bool true) ∧ Grw w w' := by
  have H : Hid (EnvE w) := he
  clear he
  unfold errv
  by_cases h : f = 0
  · subst h
    rw [if_pos rfl]
    go_enter Tryd.func10, Tryd.ntmps10
    go_wp2_with (go_at_call 30; refine (told_nil_g _).mono ?_; rintro e u ⟨rfl, hb⟩)
    go_ret
    exact ⟨rfl, hb⟩
  · rw [if_neg h]
    go_enter Tryd.func10, Tryd.ntmps10
    go_wp2_with (go_at_call 30; refine (told_errno_g f _ H.out).mono ?_; rintro e u ⟨rfl, hb⟩)
    go_ret
    exact ⟨by simp, hb⟩
end Go.Proofs.YtbghpjmjhhjcgagDoor.told
