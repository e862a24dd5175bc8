/- What the document's own reckoning (package noonref2) answers: the letter, and the span, of bytes. -/
import Derived.Test.YtfmaoblhoafnhaiDoorWireRefQ
import Derived.Deep.QuietTactic
import Derived.Deep.RegionHeld
namespace Go.Proofs.YtfmaoblhoafnhaiDoor
open Go.ChangeShapes Go.WideShapes Go.ChangeAt Go.RowKit Go.Joins
set_option linter.unusedVariables false
set_option linter.unusedSimpArgs false

theorem get_d {s : ByteArray} {i : Nat} (h : i < s.size) : (s.data.toList).getD i 0 = s[i] := by
  have h' : i < s.data.toList.length := by rw [Array.length_toList]; exact h
  rw [List.getD_eq_getElem?_getD, List.getElem?_eq_getElem h']
  rfl
theorem rreadBytes (s : ByteArray) (u : World) (hs : s.size ≤ maxLen) :
    Calls Tryd.prog 9 #[.string s] u fun o w' => o = .returned (.tuple #[ltv ((rdL s.data.toList).getD lt0), .bool (rdL s.data.toList).isSome]) ∧ Below u.heap.size u w' := by
  have hl : s.data.toList.length = s.size := Array.length_toList
  have fin : ∀ (e : Int) (q : ByteArray) (L : Lt) (o : Ending) (w' : World), (s.size = 10 ∨ s.size = 22) → lto s.data.toList = L → ltE L = e → wst (wb L) = q → RdR e q s (ltv L) u o w' → o = .returned (.tuple #[ltv ((rdL s.data.toList).getD lt0), .bool (rdL s.data.toList).isSome]) ∧ Below u.heap.size u w' := by
    rintro e q L o w' hz rfl rfl rfl ⟨h, hb⟩
    refine ⟨?_, hb⟩
    rcases h with ⟨h, rfl⟩ | ⟨h1, h2, rfl⟩
    · have n : rdL s.data.toList = none := by
        unfold rdL
        rw [if_neg]
        rintro ⟨_, a, b⟩
        rcases h with h | h
        · exact h a
        · exact h (by rw [b, wst_back])
      rw [n]
      rfl
    · have n : rdL s.data.toList = some (lto s.data.toList) := by
        unfold rdL
        rw [if_pos ⟨by rw [hl]; exact hz, h1, wst_inj (h2.trans (wst_back s).symm)⟩]
      rw [n]
      rfl
  by_cases h10 : s.size = 10
  · refine (rread_ask s s[0] s[1] _ 0 0 u h10 rfl rfl rfl _ rfl _ rfl).mono (fun o w' h => fin _ _ _ o w' (Or.inl h10) ?_ rfl rfl h)
    unfold lto
    rw [get_d (i := 0) (by omega), get_d (i := 1) (by omega), hl, if_neg (by omega), if_neg (by omega), decide_eq_false (by omega), ext_list]
  by_cases h22 : s.size = 22
  · refine (rread_ans s s[0] s[1] _ _ _ u h22 rfl rfl rfl rfl rfl _ rfl _ rfl).mono (fun o w' h => fin _ _ _ o w' (Or.inr h22) ?_ rfl rfl h)
    unfold lto
    rw [get_d (i := 0) (by omega), get_d (i := 1) (by omega), hl, if_pos h22, if_pos h22, decide_eq_true h22, ext_list, ext_list, ext_list]
  refine (rread_len s u h10 h22 (by unfold maxLen at hs; omega)).mono ?_
  rintro o w' ⟨rfl, hb⟩
  refine ⟨?_, hb⟩
  have n : rdL s.data.toList = none := by
    unfold rdL
    rw [if_neg]
    rintro ⟨a, _⟩
    rw [hl] at a
    omega
  rw [n]
  rfl
end Go.Proofs.YtfmaoblhoafnhaiDoor
