/- What the document's own world (package noonref2) answers of any act. -/
import Derived.Test.YtkmbllkkccelaahDoorWorldRefD
import Derived.Test.YtkmbllkkccelaahDoorWorldRefE
import Derived.Test.YtkmbllkkccelaahDoorWorldRefG
import Derived.Test.YtkmbllkkccelaahDoorWorldRefH
import Derived.Test.YtkmbllkkccelaahDoorWorldRefI
import Derived.Test.YtkmbllkkccelaahDoorWorldRefJ
import Derived.Test.YtkmbllkkccelaahDoorWorldRefK
namespace Go.Proofs.YtkmbllkkccelaahDoor
open Go.ChangeShapes Go.WideShapes Go.ChangeAt Go.RowKit Go.Joins
set_option linter.unusedVariables false

/-- What comes, or a letter of nothing. -/
def lt0 : Lt := ⟨0, 0, false, 0, 0, 0⟩
theorem rdo_any {Ex : List Value} (w u : World) (mb sc rc : Nat) (sa ra : Option Addr) (S : Ws) (v : Value) (wh x y : Int) (hR : RW Ex w u mb sa sc ra rc S v) (hI : S.I) :
    Calls Tryd.prog 10 #[.pointer (some ⟨mb, 0, none⟩), .agg #[.int .i64 wh, .int .i64 x, .int .i64 y]] u fun o w' => ∃ v' S' r e, DoR S wh x y S' r e ∧ o = .returned (.tuple #[ltv (r.getD lt0), .bool r.isSome, .int .i64 e]) ∧ RW Ex w w' mb sa sc ra rc S' v' ∧ Kp u w' mb v v' := by
  by_cases w0 : wh < 1 ∨ 5 < wh
  · exact (rdo_none w u mb sc rc sa ra S v x y hR hI wh w0).mono fun _ _ ⟨he, hb⟩ => ⟨v, S, none, 1, Or.inr (Or.inr (Or.inr (Or.inr (Or.inr (Or.inr (Or.inr (Or.inr (Or.inr (Or.inr (⟨w0, rfl, rfl, rfl⟩)))))))))), he, hR.on hb, RW.kp hb⟩
  by_cases w1 : wh = 1
  · subst w1
    by_cases a : x < 0
    · exact (rdo_go_a w u mb sc rc sa ra S v x y hR hI a).mono fun _ _ ⟨he, hb⟩ => ⟨v, S, none, 1, Or.inl ⟨rfl, by omega, rfl, rfl, rfl⟩, he, hR.on hb, RW.kp hb⟩
    · by_cases b : 1000000 < x
      · exact (rdo_go_b w u mb sc rc sa ra S v x y hR hI a b).mono fun _ _ ⟨he, hb⟩ => ⟨v, S, none, 1, Or.inl ⟨rfl, by omega, rfl, rfl, rfl⟩, he, hR.on hb, RW.kp hb⟩
      · by_cases c : 1000000000 - S.time < x
        · exact (rdo_go_c w u mb sc rc sa ra S v x y hR hI a b c).mono fun _ _ ⟨he, hb⟩ => ⟨v, S, none, 1, Or.inl ⟨rfl, by omega, rfl, rfl, rfl⟩, he, hR.on hb, RW.kp hb⟩
        · exact (rdo_go w u mb sc rc sa ra S v x y hR hI a b c).mono fun _ _ ⟨v', he, h1, h2⟩ => ⟨v', _, none, 0, Or.inr (Or.inl ⟨rfl, by omega, rfl, rfl, rfl⟩), he, h1, h2⟩
  by_cases w2 : wh = 2
  · subst w2
    by_cases hx : 0 ≤ x ∧ x < S.n
    · by_cases hy : 0 ≤ y ∧ y < S.n
      · by_cases e : x = y
        · subst e
          exact (rdo_ask_d w u mb sc rc sa ra S v x hR hI hx).mono fun _ _ ⟨he, hb⟩ => ⟨v, S, none, 3, Or.inr (Or.inr (Or.inr (Or.inl ⟨rfl, ⟨hx, hy⟩, rfl, rfl, rfl, rfl⟩))), he, hR.on hb, RW.kp hb⟩
        · by_cases hf : S.under.length < 40
          · exact (rdo_ask w u mb sc rc sa ra S v x y hR hI hx hy e hf).mono fun _ _ ⟨v', he, h1, h2⟩ => ⟨v', _, none, 0, Or.inr (Or.inr (Or.inr (Or.inr (Or.inr (Or.inl ⟨rfl, ⟨hx, hy⟩, e, hf, rfl, rfl, rfl⟩))))), he, h1, h2⟩
          · exact (rdo_ask_e w u mb sc rc sa ra S v x y hR hI hx hy e (by omega)).mono fun _ _ ⟨he, hb⟩ => ⟨v, S, none, 4, Or.inr (Or.inr (Or.inr (Or.inr (Or.inl ⟨rfl, ⟨hx, hy⟩, e, by omega, rfl, rfl, rfl⟩)))), he, hR.on hb, RW.kp hb⟩
      · exact (rdo_ask_c w u mb sc rc sa ra S v x y hR hI hx hy).mono fun _ _ ⟨he, hb⟩ => ⟨v, S, none, 1, Or.inr (Or.inr (Or.inl ⟨rfl, fun q => hy q.2, rfl, rfl, rfl⟩)), he, hR.on hb, RW.kp hb⟩
    · by_cases hy : 0 ≤ y ∧ y < S.n
      · exact (rdo_ask_b w u mb sc rc sa ra S v x y hR hI hx hy).mono fun _ _ ⟨he, hb⟩ => ⟨v, S, none, 1, Or.inr (Or.inr (Or.inl ⟨rfl, fun q => hx q.1, rfl, rfl, rfl⟩)), he, hR.on hb, RW.kp hb⟩
      · exact (rdo_ask_a w u mb sc rc sa ra S v x y hR hI hx hy).mono fun _ _ ⟨he, hb⟩ => ⟨v, S, none, 1, Or.inr (Or.inr (Or.inl ⟨rfl, fun q => hx q.1, rfl, rfl, rfl⟩)), he, hR.on hb, RW.kp hb⟩
  have w3 : wh = 3 ∨ wh = 4 ∨ wh = 5 := by omega
  clear w0 w1 w2
  by_cases a : x < 0
  · rcases w3 with rfl | rfl | rfl
    · exact (rdo_none_a3 w u mb sc rc sa ra S v x y hR hI a).mono fun _ _ ⟨he, hb⟩ => ⟨v, S, none, 5, Or.inr (Or.inr (Or.inr (Or.inr (Or.inr (Or.inr (Or.inl ⟨by omega, by omega, rfl, rfl, rfl⟩)))))), he, hR.on hb, RW.kp hb⟩
    · exact (rdo_none_a4 w u mb sc rc sa ra S v x y hR hI a).mono fun _ _ ⟨he, hb⟩ => ⟨v, S, none, 5, Or.inr (Or.inr (Or.inr (Or.inr (Or.inr (Or.inr (Or.inl ⟨by omega, by omega, rfl, rfl, rfl⟩)))))), he, hR.on hb, RW.kp hb⟩
    · exact (rdo_none_a5 w u mb sc rc sa ra S v x y hR hI a).mono fun _ _ ⟨he, hb⟩ => ⟨v, S, none, 5, Or.inr (Or.inr (Or.inr (Or.inr (Or.inr (Or.inr (Or.inl ⟨by omega, by omega, rfl, rfl, rfl⟩)))))), he, hR.on hb, RW.kp hb⟩
  by_cases b : (S.under.length : Int) ≤ x
  · rcases w3 with rfl | rfl | rfl
    · exact (rdo_none_b3 w u mb sc rc sa ra S v x y hR hI a b).mono fun _ _ ⟨he, hb⟩ => ⟨v, S, none, 5, Or.inr (Or.inr (Or.inr (Or.inr (Or.inr (Or.inr (Or.inl ⟨by omega, by omega, rfl, rfl, rfl⟩)))))), he, hR.on hb, RW.kp hb⟩
    · exact (rdo_none_b4 w u mb sc rc sa ra S v x y hR hI a b).mono fun _ _ ⟨he, hb⟩ => ⟨v, S, none, 5, Or.inr (Or.inr (Or.inr (Or.inr (Or.inr (Or.inr (Or.inl ⟨by omega, by omega, rfl, rfl, rfl⟩)))))), he, hR.on hb, RW.kp hb⟩
    · exact (rdo_none_b5 w u mb sc rc sa ra S v x y hR hI a b).mono fun _ _ ⟨he, hb⟩ => ⟨v, S, none, 5, Or.inr (Or.inr (Or.inr (Or.inr (Or.inr (Or.inr (Or.inl ⟨by omega, by omega, rfl, rfl, rfl⟩)))))), he, hR.on hb, RW.kp hb⟩
  obtain ⟨k, rfl⟩ : ∃ k : Nat, x = k := ⟨x.toNat, by omega⟩
  obtain ⟨l, hl⟩ : ∃ l, S.under[k]? = some l := ⟨S.under[k]'(by omega), List.getElem?_eq_getElem (by omega)⟩
  rcases w3 with rfl | rfl | rfl
  · exact (rdo_deliver w u mb sc rc sa ra S v k y hR hI l k hl rfl).mono fun _ _ ⟨v', he, h1, h2⟩ => ⟨v', _, some l, 0, Or.inr (Or.inr (Or.inr (Or.inr (Or.inr (Or.inr (Or.inr (Or.inl ⟨rfl, ⟨by omega, by omega⟩, rfl, hl.symm, rfl⟩))))))), he, h1, h2⟩
  · exact (rdo_lose w u mb sc rc sa ra S v k y hR hI l k hl rfl).mono fun _ _ ⟨v', he, h1, h2⟩ => ⟨v', _, none, 0, Or.inr (Or.inr (Or.inr (Or.inr (Or.inr (Or.inr (Or.inr (Or.inr (Or.inl ⟨rfl, ⟨by omega, by omega⟩, rfl, rfl, rfl⟩)))))))), he, h1, h2⟩
  · exact (rdo_repeat w u mb sc rc sa ra S v k y hR hI l k hl rfl).mono fun _ _ ⟨v', he, h1, h2⟩ => ⟨v', _, some l, 0, Or.inr (Or.inr (Or.inr (Or.inr (Or.inr (Or.inr (Or.inr (Or.inr (Or.inr (Or.inl ⟨rfl, ⟨by omega, by omega⟩, rfl, hl.symm, rfl⟩))))))))), he, h1, h2⟩
end Go.Proofs.YtkmbllkkccelaahDoor
