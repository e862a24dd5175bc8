/- What the document's own world (package noonref2) answers of any answer. -/
import Derived.Test.YtkmbllkkccelaahDoorWorldRefL
namespace Go.Proofs.YtkmbllkkccelaahDoor
open Go.ChangeShapes Go.WideShapes Go.ChangeAt Go.RowKit Go.Joins
set_option linter.unusedVariables false

theorem ran_any {Ex : List Value} (w u : World) (mb sc rc : Nat) (sa ra : Option Addr) (S : Ws) (v : Value) (l : Lt) (hR : RW Ex w u mb sa sc ra rc S v) (hI : S.I) :
    Calls Tryd.prog 12 #[.pointer (some ⟨mb, 0, none⟩), ltv l] u fun o w' => ∃ v' S' e, AnR S l S' e ∧ o = .returned (.int .i64 e) ∧ RW Ex w w' mb sa sc ra rc S' v' ∧ Kp u w' mb v v' := by
  obtain ⟨x, y, an, t1, t2, t⟩ := l
  cases an with
  | true => exact (ran_ans w u mb sc rc sa ra S v x y t1 t2 t hR hI).mono fun _ _ ⟨he, hb⟩ => ⟨v, S, 3, Or.inl ⟨rfl, rfl, rfl⟩, he, hR.on hb, RW.kp hb⟩
  | false =>
    have no : ¬ (S.hs x ∧ S.hs y) → ∀ {o : Ending} {w' : World}, o = .returned (.int .i64 1) ∧ Below u.heap.size u w' → ∃ v' S' e, AnR S ⟨x, y, false, t1, t2, t⟩ S' e ∧ o = .returned (.int .i64 e) ∧ RW Ex w w' mb sa sc ra rc S' v' ∧ Kp u w' mb v v' := fun h o w' ⟨he, hb⟩ => ⟨v, S, 1, Or.inr (Or.inl ⟨rfl, h, rfl, rfl⟩), he, hR.on hb, RW.kp hb⟩
    by_cases hx : 0 ≤ x ∧ x < S.n
    · by_cases hy : 0 ≤ y ∧ y < S.n
      · by_cases hf : S.under.length < 40
        · exact (ran_ok w u mb sc rc sa ra S v x y t1 t2 t hR hI hx hy hf).mono fun _ _ ⟨v', he, h1, h2⟩ => ⟨v', _, 0, Or.inr (Or.inr (Or.inr ⟨rfl, ⟨hx, hy⟩, hf, rfl, rfl⟩)), he, h1, h2⟩
        · exact (ran_d w u mb sc rc sa ra S v x y t1 t2 t hR hI hx hy (by omega)).mono fun _ _ ⟨he, hb⟩ => ⟨v, S, 4, Or.inr (Or.inr (Or.inl ⟨rfl, ⟨hx, hy⟩, by omega, rfl, rfl⟩)), he, hR.on hb, RW.kp hb⟩
      · exact (ran_c w u mb sc rc sa ra S v x y t1 t2 t hR hI hx hy).mono fun _ _ h => no (fun q => hy q.2) h
    · by_cases hy : 0 ≤ y ∧ y < S.n
      · exact (ran_b w u mb sc rc sa ra S v x y t1 t2 t hR hI hx hy).mono fun _ _ h => no (fun q => hx q.1) h
      · exact (ran_a w u mb sc rc sa ra S v x y t1 t2 t hR hI hx hy).mono fun _ _ h => no (fun q => hx q.1) h
end Go.Proofs.YtkmbllkkccelaahDoor
