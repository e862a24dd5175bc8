/- What a strings.Builder of the call's own hands out at the end: nothing turns but its row. -/
import Derived.Test.YtadkgnbagmnkkakGreatDoorRunBld
import Derived.Test.YtadkgnbagmnkkakGreatDoorNm08
import Derived.Lib.UnsafeStr
import Derived.Lib.SmallJoins
namespace Go.Proofs.YtadkgnbagmnkkakGreatDoor.rn
open Go.ChangeShapes Go.WideShapes Go.ChangeAt Go.RowKit Go.Joins
set_option linter.unusedVariables false
set_option linter.unusedSimpArgs false

set_option maxHeartbeats 2000000
set_option maxRecDepth 100000
theorem keeps_freeze {S : Nat → Prop} {a w : World} (h : Keeps S a w) {p : Addr} (hp : S p.block) (n : Nat) : Keeps S a (w.freeze p n) := by
 refine h.trans ?_
 unfold World.freeze
 split
 ·exact Keeps.refl _ _
 ·exact ⟨rfl, rfl, rfl, by simp, fun k hk hn => by
   simp only [Array.getElem?_modify]
   rw [if_neg (fun e => hn (by rw [← e]; exact hp))]⟩
theorem cellsU8 : Tryz.prog.cellsOf 5 = 1 := by kernel_rfl
theorem bstr_nil (b : Nat) (p : Value) (w : World) (hbk : w.heap[b]? = some (.cells #[p, .slice none 0 0] 49 (0, 0))) : Calls Tryz.prog 20 #[.pointer (some ⟨b, 0, none⟩)] w fun e w' => e = .returned (.string (txt [])) ∧ w' = w.drew := by
 have hUS : (Builtin.unsafeString_ #[111, 3] 9 #[.pointer none, .int .i64 0]).run Tryz.prog w.drew = .ok (.string .empty) w.drew := Lib.run_unsafeString_none _ _ _ _ _
 have c1 : w.drew.cell? ⟨b, 1, none⟩ = some (.slice none 0 0) := by
  have : w.drew.heap[b]? = some (.cells #[p, .slice none 0 0] 49 (0, 0)) := hbk
  rw [Lib.cell_of_heap this]; rfl
 have hSD : (Builtin.unsafeSliceData_ #[47] 111 #[.slice none 0 0]).run Tryz.prog w.drew = .ok (.pointer none) w.drew := rfl
 go_enter Tryz.func20, Tryz.ntmps20
 go_wp2
 go_region
 all_goals (go_wp2; go_ret; exact ⟨rfl, rfl⟩)
theorem bstr_row (b g cap : Nat) (p : Value) (x : List UInt8) (cur : Array Value) (w : World) (hx : x ≠ []) (hc : x.length ≤ cap) (hm : cap ≤ maxLen) (hbk : w.heap[b]? = some (.cells #[p, .slice (some ⟨g, 0, none⟩) x.length cap] 49 (0, 0))) (hg : w.heap[g]? = some (.cells cur 5 (0, 0))) (hcs : cur.size = cap) (hcells : ∀ j y, x[j]? = some y → w.cell? ((⟨g, 0, none⟩ : Addr).add j) = some (.int .u8 (y.toNat : Int))) : Calls Tryz.prog 20 #[.pointer (some ⟨b, 0, none⟩)] w fun e w' => e = .returned (.string (txt x)) ∧ Keeps (fun k => k = g) w w' := by
 have hl0 : x.length ≠ 0 := by simpa using hx
 have c1 : w.drew.cell? ⟨b, 1, none⟩ = some (.slice (some ⟨g, 0, none⟩) x.length cap) := by
  have : w.drew.heap[b]? = some (.cells #[p, .slice (some ⟨g, 0, none⟩) x.length cap] 49 (0, 0)) := hbk
  rw [Lib.cell_of_heap this]; rfl
 have hSD : (Builtin.unsafeSliceData_ #[47] 111 #[.slice (some ⟨g, 0, none⟩) x.length cap]).run Tryz.prog w.drew = .ok (.pointer (some ⟨g, 0, none⟩)) w.drew :=
  Lib.run_unsafeSliceData_row _ _ _ _ _ _ (by omega)
 have hUS : (Builtin.unsafeString_ #[111, 3] 9 #[.pointer (some ⟨g, 0, none⟩), .int .i64 x.length]).run Tryz.prog w.drew = .ok (.string ⟨x.toArray⟩) (w.drew.freeze ⟨g, 0, none⟩ x.length) := by
  refine Lib.run_unsafeString_row w.drew 111 3 9 5 Tryz.underlying111 cellsU8 g cur.size (by have hg' : w.drew.heap[g]? = some (.cells cur 5 (0, 0)) := hg; simp [World.shape?, hg']) x hx (by omega) (by unfold maxLen at hm; omega) ?_
  intro j y hy
  exact hcells j y hy
 clear hx hcells
 go_enter Tryz.func20, Tryz.ntmps20
 go_wp2
 go_region
 all_goals (go_wp2; go_ret; exact ⟨rfl, keeps_freeze (S := fun k => k = g) (p := ⟨g, 0, none⟩) (Keeps.dr (Keeps.refl _ _)) rfl _⟩)
theorem bstr_any {B b : Nat} {v : Value} {x : List UInt8} {w : World} (h : Bdv B b v x w) (h0 : x = [] → v = .slice none 0 0) : Calls Tryz.prog 20 #[.pointer (some ⟨b, 0, none⟩)] w fun e w' => e = .returned (.string (txt x)) ∧ Keeps (fun k => v.ownBlock = some k) w w' := by
 obtain ⟨p, hp⟩ : ∃ p, w.heap[b]? = some (.cells #[p, v] 49 (0, 0)) := h.at_.elim (fun q => ⟨_, q⟩) (fun q => ⟨_, q⟩)
 by_cases e : x = []
 ·have ev := h0 e
  subst ev e
  refine (bstr_nil b p w hp).mono ?_
  rintro o w' ⟨rfl, rfl⟩
  exact ⟨rfl, Keeps.dr (Keeps.refl _ _)⟩
 ·have ho := h.own
  rcases ho.2 with ⟨_, hz⟩ | ⟨g, cap, cur, hv, hbg, hg, hnc, hcm, hcs, htake⟩
  ·exact absurd (List.length_eq_zero_iff.1 hz) e
  ·subst hv
   refine (bstr_row b g cap p x cur w e hnc hcm hp hg (by omega) ?_).mono ?_
   ·intro j y hy
    exact ho.cells (g := g) rfl j (.int .u8 y.toNat) (by simp [Lib.byteCells, hy])
   ·rintro o w' ⟨rfl, hK⟩
    exact ⟨rfl, ⟨hK.os, hK.tape, hK.output, hK.size, fun k hk hn => hK.block k hk (fun q => hn (by rw [q]; rfl))⟩⟩
end Go.Proofs.YtadkgnbagmnkkakGreatDoor.rn
