/- Words as strings.Split tells them: what the library's contract says of it, in the document's words. -/
import Derived.Test.YtadkgnbagmnkkakGreatDoorNm08
import Derived.Test.YtadkgnbagmnkkakGreatDoorNm09
import Derived.Test.YtadkgnbagmnkkakGreatDoorShelf
import Derived.Lib.SplitLaws
namespace Go.Proofs.YtadkgnbagmnkkakGreatDoor.rn
open Go.ChangeShapes Go.WideShapes Go.ChangeAt Go.RowKit Go.Shelf
set_option linter.unusedVariables false

theorem split_cut (c : UInt8) : ∀ (n : Nat) (t : List UInt8), t.length ≤ n → Lib.splitK [c] 0 (Lib.count t [c]) t = cutB c t := by
 intro n
 induction n with
 | zero =>
  intro t h
  have : t = [] := List.length_eq_zero_iff.1 (by omega)
  subst this
  rw [Lib.count_miss (by simp [Lib.index])]
  rfl
 | succ n ih =>
  intro t h
  rcases cut_cases t c with ⟨e, hn⟩ | ⟨p, r, et, hn, e⟩
  ·have ix : Lib.index t [c] = -1 := by
    have hge := Lib.indexByte_ge t c
    rw [Lib.index_one]
    apply Classical.byContradiction
    intro q
    obtain ⟨o, ho⟩ : ∃ o : Nat, Lib.indexByte t c = o := ⟨(Lib.indexByte t c).toNat, by omega⟩
    obtain ⟨h1, _⟩ := Lib.indexByte_some ho
    exact hn c (List.mem_of_getElem? h1) rfl
   rw [Lib.count_miss ix, cut_step, e]
   rfl
  ·have ix : Lib.index t [c] = (p.length : Int) := by
    unfold Lib.cut at e
    split at e
    ·rename_i hp
     have e1 := (Prod.mk.inj e).1
     have e2 := (Prod.mk.inj (Prod.mk.inj e).2).1
     have l1 := congrArg List.length e1
     have l2 := congrArg List.length e2
     rw [List.length_take] at l1
     rw [List.length_drop] at l2
     have lt := congrArg List.length et
     simp only [List.length_append, List.length_cons, List.length_nil] at l2 lt
     omega
    ·have := (Prod.mk.inj (Prod.mk.inj e).2).2
     cases this
   have ed : t.drop (p.length + [c].length) = r := by
    rw [et, show p ++ c :: r = (p ++ [c]) ++ r by simp]
    exact List.drop_left' (by simp)
   have lr : r.length ≤ n := by
    have := congrArg List.length et
    simp only [List.length_append, List.length_cons] at this
    omega
   rw [Lib.count_hit (by simp) ix, ed, Nat.add_comm 1, cut_step, e, if_pos rfl, Lib.splitK, if_neg (by rw [ix, beq_iff_eq]; omega), ix]
   show t.take (p.length + 0) :: Lib.splitK [c] 0 (Lib.count r [c]) (t.drop (p.length + [c].length)) = p :: cutB c r
   rw [ed, ih r lr, Nat.add_zero]
   congr 1
   rw [et]
   exact List.take_left' rfl
theorem map_data : ∀ (l : List ByteArray) (m : List (List UInt8)), l.map (·.data.toList) = m → l = m.map txt
 | [], m, h => by subst h; rfl
 | x :: l, m, h => by
  subst h
  rw [List.map_cons, List.map_cons, ← map_data l _ rfl]
  rfl
theorem split_any (t : List UInt8) (m : Int) (w : World) (hs : t.length ≤ 3000) (hm : w.cell? ⟨1, 0, none⟩ = some (.int .i64 m)) :
  Calls Tryz.prog 70 #[.string (txt t), .string ⟨#[32]⟩] w fun e w' => e = .returned (.slice (some ⟨w.heap.size, 0, none⟩) (cutB 32 t).length (cutB 32 t).length) ∧ w' = w.alloc (.cells (((cutB 32 t).map txt).map Value.string).toArray 9) := by
 have e1 : Lib.splitB ⟨#[32]⟩ 0 (Lib.countB (txt t) ⟨#[32]⟩) (txt t) = (cutB 32 t).map txt := by
  apply map_data
  rw [Lib.splitB_data]
  exact split_cut 32 t.length t (Nat.le_refl _)
 have e2 : (cutB 32 t).length = Lib.countB (txt t) ⟨#[32]⟩ + 1 := by
  have := Lib.splitB_all ⟨#[32]⟩ (by decide) 0 _ (txt t) rfl
  rw [e1, List.length_map] at this
  exact this
 refine (Tryz.strings_Split (txt t) ⟨#[32]⟩ m w (by show t.length < _; omega) hm (by decide)).mono ?_
 rintro e w' ⟨rfl, h⟩
 rw [e1] at h
 exact ⟨by rw [e2], h⟩
end Go.Proofs.YtadkgnbagmnkkakGreatDoor.rn
