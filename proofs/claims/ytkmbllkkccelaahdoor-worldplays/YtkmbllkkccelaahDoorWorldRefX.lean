/- The document's own world (package noonref2): what it answers, just so. -/
import Derived.Test.YtkmbllkkccelaahDoorWorldRefM
import Derived.Test.YtkmbllkkccelaahDoorWorldRefN
import Derived.Test.YtkmbllkkccelaahDoorWorldRefB
namespace Go.Proofs.YtkmbllkkccelaahDoor
open Go.ChangeShapes Go.WideShapes Go.ChangeAt Go.RowKit Go.Joins
set_option linter.unusedVariables false

theorem beE_uniq {n m : Nat} {z r : Nat → Int} {p e e' : Int} (h : BeE n z m r p e) (h' : BeE n z m r p e') : e = e' := by
  rcases h with ⟨a, rfl⟩ | ⟨a, b, rfl⟩ | ⟨a, b, ⟨i, hi, c⟩, rfl⟩ | ⟨a, b, c, rfl⟩ <;> rcases h' with ⟨a', rfl⟩ | ⟨a', b', rfl⟩ | ⟨a', b', ⟨i', hi', c'⟩, rfl⟩ | ⟨a', b', c', rfl⟩ <;> first | rfl | omega | (have := c i' hi'; omega) | (have := c' i hi; omega)
theorem begin_at {sa : Option Addr} {n sc : Nat} {z : Nat → Int} {ra : Option Addr} {m rc : Nat} {r : Nat → Int} {p e : Int} {w : World} (hS : NHanded w sa n z) (hR : NHanded w ra m r) (hp : In64 p) (h : BeE n z m r p e) :
    Calls Tryd.prog 9 #[.slice sa n sc, .slice ra m rc, .int .i64 p] w fun o w' => o = .returned (.int .i64 e) ∧ Below w.heap.size w w' :=
  (begin_ex sa n sc z ra m rc r p w hS hR hp).mono fun _ _ ⟨e', he, h', hb⟩ => ⟨by rw [he, beE_uniq h h'], hb⟩
theorem anR_uniq {S S1 S2 : Ws} {l : Lt} {e1 e2 : Int} (h : AnR S l S1 e1) (h' : AnR S l S2 e2) : S1 = S2 ∧ e1 = e2 := by
  rcases h with ⟨a, rfl, rfl⟩ | ⟨a, b, rfl, rfl⟩ | ⟨a, b, c, rfl, rfl⟩ | ⟨a, b, c, rfl, rfl⟩ <;> rcases h' with ⟨a', rfl, rfl⟩ | ⟨a', b', rfl, rfl⟩ | ⟨a', b', c', rfl, rfl⟩ | ⟨a', b', c', rfl, rfl⟩ <;> first | exact ⟨rfl, rfl⟩ | exact absurd b b' | exact absurd b' b | (exfalso; omega) | (rw [a] at a'; exact absurd a' (by decide))
theorem ran_at {Ex : List Value} {w u : World} {mb sc rc : Nat} {sa ra : Option Addr} {S S' : Ws} {v : Value} {l : Lt} {e : Int} (hR : RW Ex w u mb sa sc ra rc S v) (hI : S.I) (h : AnR S l S' e) :
    Calls Tryd.prog 12 #[.pointer (some ⟨mb, 0, none⟩), ltv l] u fun o w' => ∃ v', o = .returned (.int .i64 e) ∧ RW Ex w w' mb sa sc ra rc S' v' ∧ Kp u w' mb v v' :=
  (ran_any w u mb sc rc sa ra S v l hR hI).mono fun _ _ ⟨v', S2, e2, h2, he, h3, h4⟩ => by
    obtain ⟨rfl, rfl⟩ := anR_uniq h h2
    exact ⟨v', he, h3, h4⟩
theorem rdo_at {Ex : List Value} {w u : World} {mb sc rc : Nat} {sa ra : Option Addr} {S : Ws} {v : Value} (wh x y : Int) (hR : RW Ex w u mb sa sc ra rc S v) (hI : S.I) :
    Calls Tryd.prog 10 #[.pointer (some ⟨mb, 0, none⟩), .agg #[.int .i64 wh, .int .i64 x, .int .i64 y]] u fun o w' => ∃ v' S' r e q1 q2 q3 q4 q5 q6 B, DoR S wh x y S' r e ∧ o = .returned (.tuple #[.agg #[.int .i64 q1, .int .i64 q2, .bool q3, .int .i64 q4, .int .i64 q5, .int .i64 q6], .bool B, .int .i64 e]) ∧ RW Ex w w' mb sa sc ra rc S' v' ∧ Kp u w' mb v v' ∧ r.getD lt0 = ⟨q1, q2, q3, q4, q5, q6⟩ ∧ r.isSome = B :=
  (rdo_any w u mb sc rc sa ra S v wh x y hR hI).mono fun _ _ ⟨v', S2, r, e, h2, he, h3, h4⟩ => ⟨v', S2, r, e, _, _, _, _, _, _, _, h2, he, h3, h4, rfl, rfl⟩
end Go.Proofs.YtkmbllkkccelaahDoor
