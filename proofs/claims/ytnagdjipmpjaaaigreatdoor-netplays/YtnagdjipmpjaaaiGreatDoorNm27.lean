/- What the document's own world (package noonref2) answers of an act: Go, taken. What the document's own world (package noonref2) answers of any act. What the document's own world (package noonref2) answers of any answer. The document's own world (package noonref2): what it answers, just so. What the document's own node (package noonref2) answers: Edges. The document's own node (package noonref2) at first. -/
import Derived.Test.YtnagdjipmpjaaaiGreatDoorNm23
import Derived.Test.YtnagdjipmpjaaaiGreatDoorWorldRefD
import Derived.Test.YtnagdjipmpjaaaiGreatDoorNm26
import Derived.Test.YtnagdjipmpjaaaiGreatDoorWorldRefH
import Derived.Test.YtnagdjipmpjaaaiGreatDoorWorldRefJ
import Derived.Test.YtnagdjipmpjaaaiGreatDoorWorldRefK
import Derived.Test.YtnagdjipmpjaaaiGreatDoorWorldRefL
import Derived.Test.YtnagdjipmpjaaaiGreatDoorNm22
import Derived.Test.YtnagdjipmpjaaaiGreatDoorNm25
import Derived.Test.YtnagdjipmpjaaaiGreatDoorNm03
import Derived.Test.YtnagdjipmpjaaaiGreatDoorNm07
namespace Go.Proofs.YtnagdjipmpjaaaiGreatDoor
open Go.ChangeShapes Go.WideShapes Go.ChangeAt Go.RowKit Go.Joins
set_option linter.unusedVariables false
set_option linter.unusedSimpArgs false

set_option maxRecDepth 100000 in
set_option maxHeartbeats 4000000 in
theorem rdo_go {Ex : List Value} (w u : World) (mb sc rc : Nat) (sa ra : Option Addr) (S : Ws) (v : Value) (x y : Int) (hR : RW Ex w u mb sa sc ra rc S v) (hI : S.I) (h0 : ¬ x < 0) (h1 : ¬ 1000000 < x) (h : ¬ 1000000000 - S.time < x) :
    Calls Tryz.prog 31 #[.pointer (some ⟨mb, 0, none⟩), .agg #[.int .i64 1, .int .i64 x, .int .i64 y]] u fun o w' => ∃ v', o = .returned (.tuple #[.agg #[.int .i64 0, .int .i64 0, .bool false, .int .i64 0, .int .i64 0, .int .i64 0], .bool false, .int .i64 0]) ∧ RW Ex w w' mb sa sc ra rc { S with time := S.time + x } v' ∧ Kp u w' mb v v' := by
  have HR : Hid (RW Ex w u mb sa sc ra rc S v) := hR
  obtain ⟨va, vcap, ev, hform⟩ := hR.len
  have HF : Hid _ := hform
  have EV : Hid _ := ev
  have lh := hI.un
  have t0 := hI.t0
  have t1 := hI.t1
  have HI : Hid S.I := hI
  have zb : mb < u.heap.size := hR.r.lt
  have c2 := hR.r.c 2 _ rfl
  have c3 := hR.r.c 3 _ rfl
  rw [ev] at c3
  have f2 := hR.r.f 2 _ rfl
  clear hR hI hform ev
  generalize eT : S.time = T at *
  generalize S.under.length = L at *
  have wT : IntKind.i64.wrap (1000000000 - T) = 1000000000 - T := IntWalk.i64_in _ (by omega)
  have wx : IntKind.i64.wrap (T + x) = T + x := IntWalk.i64_in _ (by omega)
  have d1 : decide (x < 0) = false := decide_eq_false h0
  have d2 : decide (1000000 < x) = false := decide_eq_false h1
  have d3 : decide (1000000000 - T < x) = false := decide_eq_false h
  go_enter Tryz.func31, Tryz.ntmps31
  go_wp2
  go_quiet (fail)
  go_wp2
  go_region
  all_goals
    go_wp2
    obtain ⟨g1, g2⟩ := RW.late (t := T + x) HR.out (W := ((u.alloc (Obj.cells #[.int .i64 1, .int .i64 x, .int .i64 y] 35)).alloc (Obj.cells #[.int .i64 0, .int .i64 0, .bool false, .int .i64 0, .int .i64 0, .int .i64 0] 98)).drewN (nq + 1)) (rbel_drn (rbel_al (rbel_al (Below.refl _ _))))
    have lo := HR.out.hw.size
    exact bodyPost_ret (v := .tuple #[.agg #[.int .i64 0, .int .i64 0, .bool false, .int .i64 0, .int .i64 0, .int .i64 0], .bool false, .int .i64 0]) (by simp [results, Tryz.results31, go_sem, *]) rfl ⟨v, rfl, RW.six g1 (by omega) (fun e => by have := (HR.out.o.lt _ e).2; omega) (by omega), Kp.six g2 (by omega)⟩
end Go.Proofs.YtnagdjipmpjaaaiGreatDoor
namespace Go.Proofs.YtnagdjipmpjaaaiGreatDoor
open Go.ChangeShapes Go.WideShapes Go.ChangeAt Go.RowKit Go.Joins
set_option linter.unusedVariables false

/-- What comes, or a letter of nothing. -/
def lt0 : Lt := ⟨0, 0, false, 0, 0, 0⟩
theorem rdo_any {Ex : List Value} (w u : World) (mb sc rc : Nat) (sa ra : Option Addr) (S : Ws) (v : Value) (wh x y : Int) (hR : RW Ex w u mb sa sc ra rc S v) (hI : S.I) :
    Calls Tryz.prog 31 #[.pointer (some ⟨mb, 0, none⟩), .agg #[.int .i64 wh, .int .i64 x, .int .i64 y]] u fun o w' => ∃ v' S' r e, DoR S wh x y S' r e ∧ o = .returned (.tuple #[ltv (r.getD lt0), .bool r.isSome, .int .i64 e]) ∧ RW Ex w w' mb sa sc ra rc S' v' ∧ Kp u w' mb v v' := by
  by_cases w0 : wh < 1 ∨ 5 < wh
  · exact (rdo_none w u mb sc rc sa ra S v x y hR hI wh w0).mono fun _ _ ⟨he, hb⟩ => ⟨v, S, none, 1, Or.inr (Or.inr (Or.inr (Or.inr (Or.inr (Or.inr (Or.inr (Or.inr (Or.inr (Or.inr (⟨w0, rfl, rfl, rfl⟩)))))))))), he, hR.on hb, RW.kp hb⟩
  by_cases w1 : wh = 1
  · subst w1
    by_cases a : x < 0
    · exact (rdo_go_a w u mb sc rc sa ra S v x y hR hI a).mono fun _ _ ⟨he, hb⟩ => ⟨v, S, none, 1, Or.inl ⟨rfl, by omega, rfl, rfl, rfl⟩, he, hR.on hb, RW.kp hb⟩
    · by_cases b : 1000000 < x
      · exact (rdo_go_b w u mb sc rc sa ra S v x y hR hI a b).mono fun _ _ ⟨he, hb⟩ => ⟨v, S, none, 1, Or.inl ⟨rfl, by omega, rfl, rfl, rfl⟩, he, hR.on hb, RW.kp hb⟩
      · by_cases c : 1000000000 - S.time < x
        · exact (rdo_go_c w u mb sc rc sa ra S v x y hR hI a b c).mono fun _ _ ⟨he, hb⟩ => ⟨v, S, none, 1, Or.inl ⟨rfl, by omega, rfl, rfl, rfl⟩, he, hR.on hb, RW.kp hb⟩
        · exact (rdo_go w u mb sc rc sa ra S v x y hR hI a b c).mono fun _ _ ⟨v', he, h1, h2⟩ => ⟨v', _, none, 0, Or.inr (Or.inl ⟨rfl, by omega, rfl, rfl, rfl⟩), he, h1, h2⟩
  by_cases w2 : wh = 2
  · subst w2
    by_cases hx : 0 ≤ x ∧ x < S.n
    · by_cases hy : 0 ≤ y ∧ y < S.n
      · by_cases e : x = y
        · subst e
          exact (rdo_ask_d w u mb sc rc sa ra S v x hR hI hx).mono fun _ _ ⟨he, hb⟩ => ⟨v, S, none, 3, Or.inr (Or.inr (Or.inr (Or.inl ⟨rfl, ⟨hx, hy⟩, rfl, rfl, rfl, rfl⟩))), he, hR.on hb, RW.kp hb⟩
        · by_cases hf : S.under.length < 40
          · exact (rdo_ask w u mb sc rc sa ra S v x y hR hI hx hy e hf).mono fun _ _ ⟨v', he, h1, h2⟩ => ⟨v', _, none, 0, Or.inr (Or.inr (Or.inr (Or.inr (Or.inr (Or.inl ⟨rfl, ⟨hx, hy⟩, e, hf, rfl, rfl, rfl⟩))))), he, h1, h2⟩
          · exact (rdo_ask_e w u mb sc rc sa ra S v x y hR hI hx hy e (by omega)).mono fun _ _ ⟨he, hb⟩ => ⟨v, S, none, 4, Or.inr (Or.inr (Or.inr (Or.inr (Or.inl ⟨rfl, ⟨hx, hy⟩, e, by omega, rfl, rfl, rfl⟩)))), he, hR.on hb, RW.kp hb⟩
      · exact (rdo_ask_c w u mb sc rc sa ra S v x y hR hI hx hy).mono fun _ _ ⟨he, hb⟩ => ⟨v, S, none, 1, Or.inr (Or.inr (Or.inl ⟨rfl, fun q => hy q.2, rfl, rfl, rfl⟩)), he, hR.on hb, RW.kp hb⟩
    · by_cases hy : 0 ≤ y ∧ y < S.n
      · exact (rdo_ask_b w u mb sc rc sa ra S v x y hR hI hx hy).mono fun _ _ ⟨he, hb⟩ => ⟨v, S, none, 1, Or.inr (Or.inr (Or.inl ⟨rfl, fun q => hx q.1, rfl, rfl, rfl⟩)), he, hR.on hb, RW.kp hb⟩
      · exact (rdo_ask_a w u mb sc rc sa ra S v x y hR hI hx hy).mono fun _ _ ⟨he, hb⟩ => ⟨v, S, none, 1, Or.inr (Or.inr (Or.inl ⟨rfl, fun q => hx q.1, rfl, rfl, rfl⟩)), he, hR.on hb, RW.kp hb⟩
  have w3 : wh = 3 ∨ wh = 4 ∨ wh = 5 := by omega
  clear w0 w1 w2
  by_cases a : x < 0
  · rcases w3 with rfl | rfl | rfl
    · exact (rdo_none_a3 w u mb sc rc sa ra S v x y hR hI a).mono fun _ _ ⟨he, hb⟩ => ⟨v, S, none, 5, Or.inr (Or.inr (Or.inr (Or.inr (Or.inr (Or.inr (Or.inl ⟨by omega, by omega, rfl, rfl, rfl⟩)))))), he, hR.on hb, RW.kp hb⟩
    · exact (rdo_none_a4 w u mb sc rc sa ra S v x y hR hI a).mono fun _ _ ⟨he, hb⟩ => ⟨v, S, none, 5, Or.inr (Or.inr (Or.inr (Or.inr (Or.inr (Or.inr (Or.inl ⟨by omega, by omega, rfl, rfl, rfl⟩)))))), he, hR.on hb, RW.kp hb⟩
    · exact (rdo_none_a5 w u mb sc rc sa ra S v x y hR hI a).mono fun _ _ ⟨he, hb⟩ => ⟨v, S, none, 5, Or.inr (Or.inr (Or.inr (Or.inr (Or.inr (Or.inr (Or.inl ⟨by omega, by omega, rfl, rfl, rfl⟩)))))), he, hR.on hb, RW.kp hb⟩
  by_cases b : (S.under.length : Int) ≤ x
  · rcases w3 with rfl | rfl | rfl
    · exact (rdo_none_b3 w u mb sc rc sa ra S v x y hR hI a b).mono fun _ _ ⟨he, hb⟩ => ⟨v, S, none, 5, Or.inr (Or.inr (Or.inr (Or.inr (Or.inr (Or.inr (Or.inl ⟨by omega, by omega, rfl, rfl, rfl⟩)))))), he, hR.on hb, RW.kp hb⟩
    · exact (rdo_none_b4 w u mb sc rc sa ra S v x y hR hI a b).mono fun _ _ ⟨he, hb⟩ => ⟨v, S, none, 5, Or.inr (Or.inr (Or.inr (Or.inr (Or.inr (Or.inr (Or.inl ⟨by omega, by omega, rfl, rfl, rfl⟩)))))), he, hR.on hb, RW.kp hb⟩
    · exact (rdo_none_b5 w u mb sc rc sa ra S v x y hR hI a b).mono fun _ _ ⟨he, hb⟩ => ⟨v, S, none, 5, Or.inr (Or.inr (Or.inr (Or.inr (Or.inr (Or.inr (Or.inl ⟨by omega, by omega, rfl, rfl, rfl⟩)))))), he, hR.on hb, RW.kp hb⟩
  obtain ⟨k, rfl⟩ : ∃ k : Nat, x = k := ⟨x.toNat, by omega⟩
  obtain ⟨l, hl⟩ : ∃ l, S.under[k]? = some l := ⟨S.under[k]'(by omega), List.getElem?_eq_getElem (by omega)⟩
  rcases w3 with rfl | rfl | rfl
  · exact (rdo_deliver w u mb sc rc sa ra S v k y hR hI l k hl rfl).mono fun _ _ ⟨v', he, h1, h2⟩ => ⟨v', _, some l, 0, Or.inr (Or.inr (Or.inr (Or.inr (Or.inr (Or.inr (Or.inr (Or.inl ⟨rfl, ⟨by omega, by omega⟩, rfl, hl.symm, rfl⟩))))))), he, h1, h2⟩
  · exact (rdo_lose w u mb sc rc sa ra S v k y hR hI l k hl rfl).mono fun _ _ ⟨v', he, h1, h2⟩ => ⟨v', _, none, 0, Or.inr (Or.inr (Or.inr (Or.inr (Or.inr (Or.inr (Or.inr (Or.inr (Or.inl ⟨rfl, ⟨by omega, by omega⟩, rfl, rfl, rfl⟩)))))))), he, h1, h2⟩
  · exact (rdo_repeat w u mb sc rc sa ra S v k y hR hI l k hl rfl).mono fun _ _ ⟨v', he, h1, h2⟩ => ⟨v', _, some l, 0, Or.inr (Or.inr (Or.inr (Or.inr (Or.inr (Or.inr (Or.inr (Or.inr (Or.inr (Or.inl ⟨rfl, ⟨by omega, by omega⟩, rfl, hl.symm, rfl⟩))))))))), he, h1, h2⟩
end Go.Proofs.YtnagdjipmpjaaaiGreatDoor
namespace Go.Proofs.YtnagdjipmpjaaaiGreatDoor
open Go.ChangeShapes Go.WideShapes Go.ChangeAt Go.RowKit Go.Joins
set_option linter.unusedVariables false

theorem ran_any {Ex : List Value} (w u : World) (mb sc rc : Nat) (sa ra : Option Addr) (S : Ws) (v : Value) (l : Lt) (hR : RW Ex w u mb sa sc ra rc S v) (hI : S.I) :
    Calls Tryz.prog 33 #[.pointer (some ⟨mb, 0, none⟩), ltv l] u fun o w' => ∃ v' S' e, AnR S l S' e ∧ o = .returned (.int .i64 e) ∧ RW Ex w w' mb sa sc ra rc S' v' ∧ Kp u w' mb v v' := by
  obtain ⟨x, y, an, t1, t2, t⟩ := l
  cases an with
  | true => exact (ran_ans w u mb sc rc sa ra S v x y t1 t2 t hR hI).mono fun _ _ ⟨he, hb⟩ => ⟨v, S, 3, Or.inl ⟨rfl, rfl, rfl⟩, he, hR.on hb, RW.kp hb⟩
  | false =>
    have no : ¬ (S.hs x ∧ S.hs y) → ∀ {o : Ending} {w' : World}, o = .returned (.int .i64 1) ∧ Below u.heap.size u w' → ∃ v' S' e, AnR S ⟨x, y, false, t1, t2, t⟩ S' e ∧ o = .returned (.int .i64 e) ∧ RW Ex w w' mb sa sc ra rc S' v' ∧ Kp u w' mb v v' := fun h o w' ⟨he, hb⟩ => ⟨v, S, 1, Or.inr (Or.inl ⟨rfl, h, rfl, rfl⟩), he, hR.on hb, RW.kp hb⟩
    by_cases hx : 0 ≤ x ∧ x < S.n
    · by_cases hy : 0 ≤ y ∧ y < S.n
      · by_cases hf : S.under.length < 40
        · exact (ran_ok w u mb sc rc sa ra S v x y t1 t2 t hR hI hx hy hf).mono fun _ _ ⟨v', he, h1, h2⟩ => ⟨v', _, 0, Or.inr (Or.inr (Or.inr ⟨rfl, ⟨hx, hy⟩, hf, rfl, rfl⟩)), he, h1, h2⟩
        · exact (ran_d w u mb sc rc sa ra S v x y t1 t2 t hR hI hx hy (by omega)).mono fun _ _ ⟨he, hb⟩ => ⟨v, S, 4, Or.inr (Or.inr (Or.inl ⟨rfl, ⟨hx, hy⟩, by omega, rfl, rfl⟩)), he, hR.on hb, RW.kp hb⟩
      · exact (ran_c w u mb sc rc sa ra S v x y t1 t2 t hR hI hx hy).mono fun _ _ h => no (fun q => hy q.2) h
    · by_cases hy : 0 ≤ y ∧ y < S.n
      · exact (ran_b w u mb sc rc sa ra S v x y t1 t2 t hR hI hx hy).mono fun _ _ h => no (fun q => hx q.1) h
      · exact (ran_a w u mb sc rc sa ra S v x y t1 t2 t hR hI hx hy).mono fun _ _ h => no (fun q => hx q.1) h
end Go.Proofs.YtnagdjipmpjaaaiGreatDoor
namespace Go.Proofs.YtnagdjipmpjaaaiGreatDoor
open Go.ChangeShapes Go.WideShapes Go.ChangeAt Go.RowKit Go.Joins
set_option linter.unusedVariables false

theorem beE_uniq {n m : Nat} {z r : Nat → Int} {p e e' : Int} (h : BeE n z m r p e) (h' : BeE n z m r p e') : e = e' := by
  rcases h with ⟨a, rfl⟩ | ⟨a, b, rfl⟩ | ⟨a, b, ⟨i, hi, c⟩, rfl⟩ | ⟨a, b, c, rfl⟩ <;> rcases h' with ⟨a', rfl⟩ | ⟨a', b', rfl⟩ | ⟨a', b', ⟨i', hi', c'⟩, rfl⟩ | ⟨a', b', c', rfl⟩ <;> first | rfl | omega | (have := c i' hi'; omega) | (have := c' i hi; omega)
theorem begin_at {sa : Option Addr} {n sc : Nat} {z : Nat → Int} {ra : Option Addr} {m rc : Nat} {r : Nat → Int} {p e : Int} {w : World} (hS : NHanded w sa n z) (hR : NHanded w ra m r) (hp : In64 p) (h : BeE n z m r p e) :
    Calls Tryz.prog 5 #[.slice sa n sc, .slice ra m rc, .int .i64 p] w fun o w' => o = .returned (.int .i64 e) ∧ Below w.heap.size w w' :=
  (begin_ex sa n sc z ra m rc r p w hS hR hp).mono fun _ _ ⟨e', he, h', hb⟩ => ⟨by rw [he, beE_uniq h h'], hb⟩
theorem anR_uniq {S S1 S2 : Ws} {l : Lt} {e1 e2 : Int} (h : AnR S l S1 e1) (h' : AnR S l S2 e2) : S1 = S2 ∧ e1 = e2 := by
  rcases h with ⟨a, rfl, rfl⟩ | ⟨a, b, rfl, rfl⟩ | ⟨a, b, c, rfl, rfl⟩ | ⟨a, b, c, rfl, rfl⟩ <;> rcases h' with ⟨a', rfl, rfl⟩ | ⟨a', b', rfl, rfl⟩ | ⟨a', b', c', rfl, rfl⟩ | ⟨a', b', c', rfl, rfl⟩ <;> first | exact ⟨rfl, rfl⟩ | exact absurd b b' | exact absurd b' b | (exfalso; omega) | (rw [a] at a'; exact absurd a' (by decide))
theorem ran_at {Ex : List Value} {w u : World} {mb sc rc : Nat} {sa ra : Option Addr} {S S' : Ws} {v : Value} {l : Lt} {e : Int} (hR : RW Ex w u mb sa sc ra rc S v) (hI : S.I) (h : AnR S l S' e) :
    Calls Tryz.prog 33 #[.pointer (some ⟨mb, 0, none⟩), ltv l] u fun o w' => ∃ v', o = .returned (.int .i64 e) ∧ RW Ex w w' mb sa sc ra rc S' v' ∧ Kp u w' mb v v' :=
  (ran_any w u mb sc rc sa ra S v l hR hI).mono fun _ _ ⟨v', S2, e2, h2, he, h3, h4⟩ => by
    obtain ⟨rfl, rfl⟩ := anR_uniq h h2
    exact ⟨v', he, h3, h4⟩
theorem rdo_at {Ex : List Value} {w u : World} {mb sc rc : Nat} {sa ra : Option Addr} {S : Ws} {v : Value} (wh x y : Int) (hR : RW Ex w u mb sa sc ra rc S v) (hI : S.I) :
    Calls Tryz.prog 31 #[.pointer (some ⟨mb, 0, none⟩), .agg #[.int .i64 wh, .int .i64 x, .int .i64 y]] u fun o w' => ∃ v' S' r e q1 q2 q3 q4 q5 q6 B, DoR S wh x y S' r e ∧ o = .returned (.tuple #[.agg #[.int .i64 q1, .int .i64 q2, .bool q3, .int .i64 q4, .int .i64 q5, .int .i64 q6], .bool B, .int .i64 e]) ∧ RW Ex w w' mb sa sc ra rc S' v' ∧ Kp u w' mb v v' ∧ r.getD lt0 = ⟨q1, q2, q3, q4, q5, q6⟩ ∧ r.isSome = B :=
  (rdo_any w u mb sc rc sa ra S v wh x y hR hI).mono fun _ _ ⟨v', S2, r, e, h2, he, h3, h4⟩ => ⟨v', S2, r, e, _, _, _, _, _, _, _, h2, he, h3, h4, rfl, rfl⟩
end Go.Proofs.YtnagdjipmpjaaaiGreatDoor
namespace Go.Proofs.YtnagdjipmpjaaaiGreatDoor
open Go.ChangeShapes Go.WideShapes Go.ChangeAt Go.RowKit Go.Joins
set_option linter.unusedVariables false
set_option linter.unusedSimpArgs false

/-- What Spans answers, the fault known. -/
theorem rnspans_at (b : Nat) (c : Nd) (t e : Int) (u : World) (hR : RN u b c) (hI : c.I) (h : SpR c t e) :
    Calls Tryz.prog 67 #[.pointer (some ⟨b, 0, none⟩), .int .i64 t] u fun o w' => ((e = 0 ∧ o = .returned (.tuple #[.slice (some ⟨u.heap.size, 0, none⟩) c.n c.n, .slice (some ⟨u.heap.size + 1, 0, none⟩) c.n c.n, .int .i64 0]) ∧ StS w' u.heap.size c.n c t) ∨ (e ≠ 0 ∧ o = .returned (.tuple #[.slice none 0 0, .slice none 0 0, .int .i64 e]))) ∧ Below u.heap.size u w' := by
  by_cases hb : c.bk t
  · refine (rnspans_bk b c t u hR hb).mono fun _ _ ⟨he, hw⟩ => ⟨Or.inr ?_, hw⟩
    obtain rfl : e = 8 := spR_uniq h (Or.inl ⟨hb, rfl⟩)
    exact ⟨by decide, he⟩
  · refine (rnspans_go b c t u hR hI hb).mono fun _ _ ⟨⟨e', h', q⟩, hw⟩ => ⟨?_, hw⟩
    obtain rfl := spR_uniq h h'
    exact q
end Go.Proofs.YtnagdjipmpjaaaiGreatDoor
namespace Go.Proofs.YtnagdjipmpjaaaiGreatDoor
open Go.ChangeShapes Go.WideShapes Go.ChangeAt Go.RowKit
set_option linter.unusedVariables false

/-- The document's node at first. -/
theorem RN.first {u : World} {id n : Nat} {p : Int} {t : TypeId} : RN (u.alloc (.cells #[.int .i64 id, .int .i64 n, .int .i64 p, .int .i64 (-1), .bool false, .bool false, .bool false, .bool false, .bool false, .bool false, .int .i64 0, .int .i64 0, .int .i64 0, .int .i64 0, .int .i64 0, .int .i64 0, .int .i64 0, .int .i64 0, .int .i64 0, .int .i64 0, .int .i64 0, .int .i64 0, .int .i64 0, .int .i64 0, .int .i64 0, .int .i64 0, .int .i64 0, .int .i64 0] t)) u.heap.size (Nd.made id n p) := by
  have r : Row (u.alloc (.cells #[.int .i64 id, .int .i64 n, .int .i64 p, .int .i64 (-1), .bool false, .bool false, .bool false, .bool false, .bool false, .bool false, .int .i64 0, .int .i64 0, .int .i64 0, .int .i64 0, .int .i64 0, .int .i64 0, .int .i64 0, .int .i64 0, .int .i64 0, .int .i64 0, .int .i64 0, .int .i64 0, .int .i64 0, .int .i64 0, .int .i64 0, .int .i64 0, .int .i64 0, .int .i64 0] t)) u.heap.size [.int .i64 id, .int .i64 n, .int .i64 p, .int .i64 (-1), .bool false, .bool false, .bool false, .bool false, .bool false, .bool false, .int .i64 0, .int .i64 0, .int .i64 0, .int .i64 0, .int .i64 0, .int .i64 0, .int .i64 0, .int .i64 0, .int .i64 0, .int .i64 0, .int .i64 0, .int .i64 0, .int .i64 0, .int .i64 0, .int .i64 0, .int .i64 0, .int .i64 0, .int .i64 0] := Row.made rfl
  have six : ∀ {i : Nat}, i < 6 → i = 0 ∨ i = 1 ∨ i = 2 ∨ i = 3 ∨ i = 4 ∨ i = 5 := fun h => by omega
  refine ⟨r.c 0 _ rfl, r.c 1 _ rfl, r.c 2 _ rfl, r.c 3 _ rfl, fun i hi => ?_, fun i hi => ?_, fun i hi => ?_, fun i hi => ?_, fun j => World.frozen?_alloc_at _ _ _ _ rfl⟩
  · rcases six hi with rfl | rfl | rfl | rfl | rfl | rfl
    · exact r.c 4 _ rfl
    · exact r.c 5 _ rfl
    · exact r.c 6 _ rfl
    · exact r.c 7 _ rfl
    · exact r.c 8 _ rfl
    · exact r.c 9 _ rfl
  · rcases six hi with rfl | rfl | rfl | rfl | rfl | rfl
    · exact r.c 10 _ rfl
    · exact r.c 12 _ rfl
    · exact r.c 14 _ rfl
    · exact r.c 16 _ rfl
    · exact r.c 18 _ rfl
    · exact r.c 20 _ rfl
  · rcases six hi with rfl | rfl | rfl | rfl | rfl | rfl
    · exact r.c 11 _ rfl
    · exact r.c 13 _ rfl
    · exact r.c 15 _ rfl
    · exact r.c 17 _ rfl
    · exact r.c 19 _ rfl
    · exact r.c 21 _ rfl
  · rcases six hi with rfl | rfl | rfl | rfl | rfl | rfl
    · exact r.c 22 _ rfl
    · exact r.c 23 _ rfl
    · exact r.c 24 _ rfl
    · exact r.c 25 _ rfl
    · exact r.c 26 _ rfl
    · exact r.c 27 _ rfl
end Go.Proofs.YtnagdjipmpjaaaiGreatDoor
