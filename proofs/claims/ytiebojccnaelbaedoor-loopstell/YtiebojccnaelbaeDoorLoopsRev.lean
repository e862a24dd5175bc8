/- slices.Reverse of a row of numbers of the call's own. -/
import Derived.Test.YtiebojccnaelbaeDoorLoopsBf
import Derived.Test.YtiebojccnaelbaeDoorKeeps
import Derived.Lib.SmallJoins
import Derived.Deep.CutRange
import Derived.BigRegion
import Derived.IntWalk
namespace Go.Proofs.YtiebojccnaelbaeDoor
open Go.ChangeShapes Go.WideShapes Go.ChangeAt Go.RowKit Go.Joins
set_option linter.unusedVariables false
set_option linter.unusedSimpArgs false

/-- n numbers lie from the start of a block on, and can be written. -/
structure Wrd (u : World) (g n : Nat) (z : Nat → Int) : Prop where
  c : ∀ i, i < n → u.cell? ⟨g, i, none⟩ = some (.int .i64 (z i))
  f : ∀ i, i < n → u.frozen? ⟨g, i, none⟩ = false
section
variable {W u : World} {g n : Nat} {z z' : Nat → Int}
theorem Wrd.dr (h : Wrd W g n z) : Wrd W.drew g n z := ⟨h.c, h.f⟩
theorem Wrd.put {i : Nat} {x : Int} (hi : i < n) (h : Wrd W g n z) : Wrd (W.setCell ⟨g, i, none⟩ (.int .i64 x)) g n (updI z i x) := by
  refine ⟨fun j hj => ?_, fun j hj => ?_⟩
  · by_cases e : j = i
    · subst e
      rw [updI_at]
      exact World.cell?_setCell_same _ _ _ (h.c j hj)
    · rw [updI_ne _ _ e, World.cell?_setCell_other _ _ _ _ (fun q => e (by injection q with _ q; exact q.symm))]
      exact h.c j hj
  · rw [World.frozen?_setCell]; exact h.f j hj
theorem Wrd.same (h : Wrd W g n z) (e : ∀ i, i < n → z i = z' i) : Wrd W g n z' := ⟨fun i hi => by rw [← e i hi]; exact h.c i hi, h.f⟩
end
/-- The first j and the last j are swapped. -/
def swS (z : Nat → Int) (n j i : Nat) : Int := if i < j ∨ n ≤ i + j then z (n - 1 - i) else z i
theorem sw_next {z : Nat → Int} {n j : Nat} (h : j + j + 1 < n) : ∀ i, i < n → updI (updI (swS z n j) j (swS z n j (n - 1 - j))) (n - 1 - j) (swS z n j j) i = swS z n (j + 1) i := fun i hi => by
  by_cases e1 : i = n - 1 - j
  · subst e1
    rw [updI_at]
    unfold swS
    rw [if_neg (by omega), if_pos (by omega), show n - 1 - (n - 1 - j) = j by omega]
  · rw [updI_ne _ _ e1]
    by_cases e2 : i = j
    · subst e2
      rw [updI_at]
      unfold swS
      rw [if_neg (by omega), if_pos (by omega)]
    · rw [updI_ne _ _ e2]
      unfold swS
      by_cases c : i < j ∨ n ≤ i + j
      · rw [if_pos c, if_pos (by omega)]
      · rw [if_neg c, if_neg (by omega)]
theorem sw_all {z : Nat → Int} {n j : Nat} (h : n ≤ j + j + 1) : ∀ i, i < n → swS z n j i = z (n - 1 - i) := fun i hi => by
  unfold swS
  by_cases c : i < j ∨ n ≤ i + j
  · rw [if_pos c]
  · rw [if_neg c, show n - 1 - i = i by omega]
set_option maxRecDepth 100000 in
set_option maxHeartbeats 8000000 in
theorem reverse_any (g n cap : Nat) (z : Nat → Int) (w : World) (hZ : Wrd w g n z) (h0 : 0 < n) (h6 : n ≤ 6) :
    Calls Tryd.prog 53 #[.slice (some ⟨g, 0, none⟩) n cap] w fun e w' => e = (.returned (.tuple #[])) ∧ Wrd w' g n (fun i => z (n - 1 - i)) ∧ Keeps (fun k => k = g) w w' := by
  have wn : IntKind.i64.wrap ((n : Int) - 1) = (n : Int) - 1 := IntWalk.i64_in _ (by omega)
  have HZ : Hid (Wrd w g n z) := hZ
  clear hZ
  go_enter Tryd.func53, Tryd.ntmps53
  go_wp2
  go_loopw [2, 3] (fun vi vj wr => ∃ j : Nat, j + j ≤ n ∧ vi = .int .i64 j ∧ vj = .int .i64 ((n : Int) - 1 - j) ∧ Wrd wr g n (swS z n j) ∧ Keeps (fun k => k = g) w wr) (fun i _ _ => n - (intOf i).toNat)
  case atStart => exact ⟨0, by omega, rfl, by simp, HZ.out.same (fun i hi => by unfold swS; rw [if_neg (by omega)]), Keeps.refl _ _⟩
  case round =>
    clear HZ wn
    obtain ⟨j, hj, rfl, rfl, hZ, hK⟩ := hrel
    have HK : Hid _ := hK
    have HZ : Hid _ := hZ
    by_cases hlt : j + j + 1 < n
    · obtain ⟨p, hp⟩ : ∃ p : Nat, p = n - 1 - j := ⟨_, rfl⟩
      rw [show (n : Int) - 1 - j = (p : Int) by omega]
      have hjp : (j : Int) < p := by omega
      have c1 := hZ.c j (by omega)
      have c2 := hZ.c p (by omega)
      have f1 := hZ.f j (by omega)
      have f2 := hZ.f p (by omega)
      have hj3 : (j : Int) < n := by omega
      have hp3 : (p : Int) < n := by omega
      have njp : ¬ (j = p) := by omega
      have npj : ¬ (p = j) := by omega
      have HN : Hid (∀ i, i < n → updI (updI (swS z n j) j (swS z n j p)) p (swS z n j j) i = swS z n (j + 1) i) := by show ∀ i, i < n → _; rw [hp]; exact sw_next hlt
      have HP : Hid (p = n - 1 - j) := hp
      clear hK hZ hp
      generalize swS z n j j = zj at *
      generalize swS z n j p = zp at *
      go_wp2
      go_region
      go_wp2
      go_roundw
      case rel => exact ⟨j + 1, by omega, by go_num, by rw [show (n : Int) - 1 - ((j + 1 : Nat) : Int) = (p : Int) - 1 by have := HP.out; omega], (((HZ.out.put (by omega)).put (by omega)).same HN.out).dr, (Keeps.put (S := fun k => k = g) rfl (Keeps.put (S := fun k => k = g) rfl HK.out)).dr⟩
      case measure => simp [intOf]; omega
    · have hl3 : ¬ ((j : Int) < (n : Int) - 1 - j) := by omega
      have HN : Hid (∀ i, i < n → swS z n j i = z (n - 1 - i)) := sw_all (by omega)
      clear hK hZ
      go_wp2
      exact bodyPost_end (v := .tuple #[]) (by simp [results, Tryd.results53, go_sem, *]) rfl ⟨rfl, HZ.out.same HN.out, HK.out⟩
end Go.Proofs.YtiebojccnaelbaeDoor
