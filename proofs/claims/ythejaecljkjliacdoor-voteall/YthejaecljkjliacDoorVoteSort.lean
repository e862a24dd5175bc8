/- What a sort of a row of the call's own leaves of what was there ahead, and what it holds then. -/
import Derived.Test.YthejaecljkjliacDoorVoteSpn
import Derived.Shelf.SlSortCmp.WholeK
namespace Go.Proofs.YthejaecljkjliacDoor
open Go.ChangeShapes Go.WideShapes Go.ChangeAt Go.RowKit
set_option linter.unusedVariables false

section
open Go.Sort Go.Shelf
/-- Two numbers of a step. -/
def encS (x : Int × Int) : List Value := [.int .i64 x.1, .int .i64 x.2]
theorem sort_below {w0 w : World} {base blk off n : Nat} {d : Array (Int × Int)} {os : Array Obj} (h : Below base w0 w) (h1 : base ≤ blk) (h2 : base ≤ w.heap.size) : Below base w0 (sortWorldK encS 2 w blk off n d os) := by
  refine h.trans ⟨rfl, rfl, rfl, ?_, fun k hk => ?_⟩
  · exact size_sortWorldK_c encS 2 w blk off n d os
  · unfold sortWorldK grow putRowK putRow mapBlock
    simp only [Array.getElem?_append]
    rw [if_pos (by simp [Sort.ahead]; omega)]
    simp only [Array.getElem?_modify]
    rw [if_neg (by omega)]
    rfl
theorem swoS : SWO (ltOf fun x y : Int × Int => Lib.compareInt x.1 y.1) := by
  have lt : ∀ x y : Int × Int, ltOf (fun x y : Int × Int => Lib.compareInt x.1 y.1) x y = decide (x.1 < y.1) := fun x y => by
    unfold ltOf Lib.compareInt
    by_cases h1 : x.1 < y.1
    · simp [h1]
    · by_cases h2 : y.1 < x.1 <;> simp [h1, h2]
  exact ⟨fun x => by rw [lt]; simp, fun x y z h1 h2 => by rw [lt] at *; simp at *; omega, fun x y z h1 h2 => by rw [lt] at *; simp at *; omega⟩
theorem el_get (d : Array (Int × Int)) (i : Nat) (h : i < d.size) : el d.toList i = d[i]! := by
  simp [el, List.getD, h]
/-- What the sort leaves is the steps, sorted. -/
theorem steps_of {q : Nat → Int × Int} {n : Nat} {d d' : Array (Int × Int)} (hd : d.toList = stepsOf q n) (hp : PermIn 0 d.size d d') (hs : SortedIn (ltOf fun x y : Int × Int => Lib.compareInt x.1 y.1) 0 d.size d') : Steps q n d'.toList := by
  obtain ⟨p1, _, p3⟩ := hp
  have ds : d.size = 2 * n := by rw [← Array.length_toList, hd, stepsOf_length]
  have e1 : d.extract 0 d.size = d := by simp
  have e2 : d'.extract 0 d.size = d' := by rw [← p1]; simp
  rw [e1, e2, hd] at p3
  refine ⟨by simp [p1, ds], fun i j hij hj => ?_, p3⟩
  simp at hj
  have := hs i j (Nat.zero_le _) hij (by omega)
  rw [el_get _ _ (by omega), el_get _ _ hj]
  unfold ltOf Lib.compareInt at this
  simp only [decide_eq_false_iff_not] at this
  by_cases h1 : d'[j]!.1 < d'[i]!.1
  · simp [h1] at this
  · omega
/-- The cells of steps in a row. -/
def cellsOf (L : List (Int × Int)) : List Value := L.flatMap encS
theorem cellsOf_length : ∀ L : List (Int × Int), (cellsOf L).length = L.length * 2
  | [] => rfl
  | p :: L => by have := cellsOf_length L; simp [cellsOf, encS] at this ⊢; omega
theorem cellsOf_append (L M : List (Int × Int)) : cellsOf (L ++ M) = cellsOf L ++ cellsOf M := by simp [cellsOf]
theorem cellsOf_get : ∀ (L : List (Int × Int)) (t : Nat), t < L.length * 2 → (cellsOf L)[t]? = some (encS (el L (t / 2)))[t % 2]!
  | [], t, h => by simp at h
  | p :: L, 0, h => rfl
  | p :: L, 1, h => rfl
  | p :: L, t + 2, h => by
    have ih := cellsOf_get L t (by simp at h; omega)
    have e1 : (t + 2) / 2 = t / 2 + 1 := by omega
    have e2 : (t + 2) % 2 = t % 2 := by omega
    have e3 : cellsOf (p :: L) = .int .i64 p.1 :: .int .i64 p.2 :: cellsOf L := rfl
    rw [e1, e2, e3]
    simpa [el] using ih
/-- What a row of the call's own holds, to the sort's eyes. -/
theorem holds_of_own {w : World} {base g n cap : Nat} {e : TypeId} {d : Array (Int × Int)} (h : w.ownsRow base e 2 (.slice (some ⟨g, 0, none⟩) n cap) n (cellsOf d.toList)) (hn : d.size = n) : HoldsK encS 2 w g 0 d := by
  intro j hj
  have hj' : j < d.size * 2 := by simpa using hj
  rw [Nat.zero_add, h.cellAt j (by omega), cellsOf_get _ _ (by simpa using hj'), get_flatK _ _ _ _ hj', el_get _ _ (by omega)]
  exact ⟨rfl, h.frozenAt j⟩
theorem holds_cell {w : World} {g : Nat} {d : Array (Int × Int)} (h : HoldsK encS 2 w g 0 d) {i : Nat} (hi : i < d.size) :
    w.cell? ⟨g, i * 2, none⟩ = some (.int .i64 (el d.toList i).1) ∧ w.cell? ⟨g, i * 2 + 1, none⟩ = some (.int .i64 (el d.toList i).2) := by
  have h0 := (h.cell hi (show 0 < 2 by decide)).1
  have h1 := (h.cell hi (show 1 < 2 by decide)).1
  rw [el_get _ _ hi]
  simp [encS] at h0 h1
  exact ⟨h0, h1⟩
theorem holds_on {W u : World} {g : Nat} {d : Array (Int × Int)} (hb : Below W.heap.size W u) (hg : g < W.heap.size) (h : HoldsK encS 2 W g 0 d) : HoldsK encS 2 u g 0 d := fun j hj =>
  ⟨(hb.cell (p := ⟨g, 0 + j, none⟩) hg).trans (h j hj).1, (hb.frozen (p := ⟨g, 0 + j, none⟩) hg).trans (h j hj).2⟩
end
end Go.Proofs.YthejaecljkjliacDoor
