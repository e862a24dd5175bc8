/- What package world answers: Do. -/
import Derived.Test.YtfmaoblhoafnhajWorldPkgT
import Derived.BigQuiet
import Derived.Deep.QuietTactic
import Derived.Deep.RegionWith
import Derived.Deep.RegionLaw
import Derived.Laws.AppendOwnNone
import Derived.Maps.AppendAt
import Derived.Deep.CutRange
import Derived.Deep.CutBlock
import Derived.BigRegion
import Derived.IntWalk
namespace Go.Proofs.Ytfmaoblhoafnhaj
open Go.ChangeShapes Go.WideShapes Go.ChangeAt Go.RowKit Go.Joins
set_option linter.unusedVariables false
set_option linter.unusedSimpArgs false

section
variable {u : World} {mb cb cc : Nat} {S : Ws} {v : Value}
/-- A world of clocks behind a call. -/
def Gp (u w' : World) (mb cb cc : Nat) (v : Value) (S' : Ws) (v' : Value) : Prop := PW w' mb cb cc S' v' ∧ KpW u w' mb cb v v'
theorem Gp.same {w' : World} (h : PW u mb cb cc S v) (hb : Below u.heap.size u w') : Gp u w' mb cb cc v S v := ⟨h.on hb, .same hb⟩
theorem Gp.from {W w' : World} {S' : Ws} {v' : Value} (hW : Below u.heap.size u W) (h : Gp W w' mb cb cc v S' v') : Gp u w' mb cb cc v S' v' := ⟨h.1, h.2.from hW⟩
theorem goon_any (h : PW u mb cb cc S v) (hI : S.I) {a e : Int} {S' : Ws} (hD : ((a < 0 ∨ 1000000 < a ∨ 1000000000 < S.time + a) ∧ S' = S ∧ e = 1) ∨ ((0 ≤ a ∧ a ≤ 1000000 ∧ S.time + a ≤ 1000000000) ∧ S' = { S with time := S.time + a } ∧ e = 0)) (W : World) (hW : Below u.heap.size u W) :
    Calls Try.prog 35 #[.pointer (some ⟨mb, 0, none⟩), .int .i64 a] W fun o w' => o = .returned (errc e) ∧ ∃ v', Gp u w' mb cb cc v S' v' := by
  rcases hD with ⟨c, rfl, rfl⟩ | ⟨c, rfl, rfl⟩
  · refine (goon_bad (h.on hW) hI a c).mono ?_
    rintro o w' ⟨rfl, rfl⟩
    exact ⟨rfl, v, .same h hW⟩
  · refine (goon_ok (h.on hW) hI a c).mono ?_
    rintro o w' ⟨rfl, g1, g2⟩
    exact ⟨rfl, v, .from hW ⟨g1, g2⟩⟩
theorem wask_any (h : PW u mb cb cc S v) (hI : S.I) {a b e : Int} {S' : Ws} (hD : (¬ (S.hs a ∧ S.hs b) ∧ S' = S ∧ e = 1) ∨ ((S.hs a ∧ S.hs b) ∧ a = b ∧ S' = S ∧ e = 3) ∨ ((S.hs a ∧ S.hs b) ∧ a ≠ b ∧ 40 ≤ S.under.length ∧ S' = S ∧ e = 4) ∨ ((S.hs a ∧ S.hs b) ∧ a ≠ b ∧ S.under.length < 40 ∧ S' = { S with under := S.under ++ [⟨a, b, false, 0, 0, S.rd a.toNat⟩] } ∧ e = 0)) (W : World) (hW : Below u.heap.size u W) :
    Calls Try.prog 36 #[.pointer (some ⟨mb, 0, none⟩), .int .i64 a, .int .i64 b] W fun o w' => o = .returned (errc e) ∧ ∃ v', Gp u w' mb cb cc v S' v' := by
  rcases hD with ⟨c, rfl, rfl⟩ | ⟨c, d, rfl, rfl⟩ | ⟨c, d, l, rfl, rfl⟩ | ⟨c, d, l, rfl, rfl⟩
  · by_cases q : S'.hs a
    · refine (wask_none2 (h.on hW) hI a b q (fun r => c ⟨q, r⟩)).mono ?_
      rintro o w' ⟨rfl, rfl⟩
      exact ⟨rfl, v, .same h hW⟩
    · refine (wask_none1 (h.on hW) hI a b q).mono ?_
      rintro o w' ⟨rfl, rfl⟩
      exact ⟨rfl, v, .same h hW⟩
  · refine (wask_self (h.on hW) hI a b c.1 c.2 d).mono ?_
    rintro o w' ⟨rfl, rfl⟩
    exact ⟨rfl, v, .same h hW⟩
  · refine (wask_full (h.on hW) hI a b c.1 c.2 d l).mono ?_
    rintro o w' ⟨rfl, hb⟩
    exact ⟨rfl, v, .same h (rbel_on hb hW)⟩
  · refine (wask_ok (h.on hW) hI a b c.1 c.2 d l).mono ?_
    rintro o w' ⟨v', rfl, g1, g2⟩
    exact ⟨rfl, v', .from hW ⟨g1, g2⟩⟩
/-- What comes. -/
def Cm (u w' : World) (v' pv : Value) (r : Option Lt) : Prop := (r = none ∧ pv = .pointer none) ∨ ∃ l g, r = some l ∧ pv = .pointer (some ⟨g, 0, none⟩) ∧ Row w' g (ltc l) ∧ u.heap.size ≤ g ∧ v'.ownBlock ≠ some g
theorem take_any (h : PW u mb cb cc S v) (hI : S.I) {a e : Int} {S' : Ws} {r : Option Lt} (hD : ((a < 0 ∨ (S.under.length : Int) ≤ a) ∧ S' = S ∧ r = none ∧ e = 5) ∨ ((0 ≤ a ∧ a < S.under.length) ∧ S' = { S with under := S.under.eraseIdx a.toNat } ∧ r = S.under[a.toNat]? ∧ e = 0)) (W : World) (hW : Below u.heap.size u W) :
    Calls Try.prog 37 #[.pointer (some ⟨mb, 0, none⟩), .int .i64 a] W fun o w' => ∃ pv v', o = .returned (.tuple #[pv, errc e]) ∧ Gp u w' mb cb cc v S' v' ∧ Cm u w' v' pv r := by
  rcases hD with ⟨c, rfl, rfl, rfl⟩ | ⟨c, rfl, rfl, rfl⟩
  · refine (take_bad (h.on hW) hI a c).mono ?_
    rintro o w' ⟨rfl, rfl⟩
    exact ⟨_, v, rfl, .same h hW, Or.inl ⟨rfl, rfl⟩⟩
  · obtain ⟨k, rfl⟩ : ∃ k : Nat, a = k := ⟨a.toNat, by omega⟩
    rw [Int.toNat_natCast]
    have hk : k < S.under.length := by omega
    have e1 : S.under[k]? = some S.under[k] := List.getElem?_eq_getElem hk
    refine (take_ok (h.on hW) hI k _ e1).mono ?_
    rintro o w' ⟨g, v', rfl, hr, hg, g1, g2, g3⟩
    refine ⟨_, v', rfl, .from hW ⟨g1, g2⟩, Or.inr ⟨_, g, e1, rfl, hr, Nat.le_trans hW.size hg, fun q => ?_⟩⟩
    rw [g3] at q
    have := ((h.on hW).o.lt g q).2
    omega
theorem letter_any (h : PW u mb cb cc S v) (hI : S.I) {a e : Int} {S' : Ws} {r : Option Lt} (hD : ((a < 0 ∨ (S.under.length : Int) ≤ a) ∧ S' = S ∧ r = none ∧ e = 5) ∨ ((0 ≤ a ∧ a < S.under.length) ∧ S' = S ∧ r = S.under[a.toNat]? ∧ e = 0)) (W : World) (hW : Below u.heap.size u W) :
    Calls Try.prog 38 #[.pointer (some ⟨mb, 0, none⟩), .int .i64 a] W fun o w' => ∃ pv v', o = .returned (.tuple #[pv, errc e]) ∧ Gp u w' mb cb cc v S' v' ∧ Cm u w' v' pv r := by
  rcases hD with ⟨c, rfl, rfl, rfl⟩ | ⟨c, rfl, rfl, rfl⟩
  · refine (letter_bad (h.on hW) hI a c).mono ?_
    rintro o w' ⟨rfl, rfl⟩
    exact ⟨_, v, rfl, .same h hW, Or.inl ⟨rfl, rfl⟩⟩
  · obtain ⟨k, rfl⟩ : ∃ k : Nat, a = k := ⟨a.toNat, by omega⟩
    rw [Int.toNat_natCast]
    have hk : k < S'.under.length := by omega
    have e1 : S'.under[k]? = some S'.under[k] := List.getElem?_eq_getElem hk
    refine (letter_ok (h.on hW) hI k _ e1).mono ?_
    rintro o w' ⟨g, rfl, hr, hg, hb⟩
    refine ⟨_, v, rfl, .same h (rbel_on hb hW), Or.inr ⟨_, g, e1, rfl, hr, Nat.le_trans hW.size hg, fun q => ?_⟩⟩
    have := ((h.on hW).o.lt g q).2
    omega
set_option maxRecDepth 100000 in
set_option maxHeartbeats 8000000 in
theorem do_go (x y : Int) (ev : Value) (S' : Ws) (hc : ∀ W, Below u.heap.size u W → Calls Try.prog 35 #[.pointer (some ⟨mb, 0, none⟩), .int .i64 x] W fun o w' => o = .returned ev ∧ ∃ v', Gp u w' mb cb cc v S' v') :
    Calls Try.prog 21 #[.pointer (some ⟨mb, 0, none⟩), .agg #[.int .i64 1, .int .i64 x, .int .i64 y]] u fun o w' => ∃ pv v', o = .returned (.tuple #[pv, ev]) ∧ Gp u w' mb cb cc v S' v' ∧ Cm u w' v' pv none := by
  have HC : Hid _ := hc
  clear hc
  go_enter Try.func21, Try.ntmps21
  go_wp2_with (go_at_call 35; refine (HC.out _ (rbel_al (Below.refl _ _))).mono ?_; rintro o w1 ⟨rfl, v', hg⟩; have HG : Hid (Gp u w1 mb cb cc v S' v') := hg; clear hg)
  go_ret2
  first | exact ⟨_, v', rfl, HG.out, Or.inl ⟨rfl, rfl⟩⟩ | exact ⟨v', rfl, HG.out, Or.inl ⟨rfl, rfl⟩⟩ | exact ⟨v', HG.out, Or.inl ⟨rfl, rfl⟩⟩
set_option maxRecDepth 100000 in
set_option maxHeartbeats 8000000 in
theorem do_ask (x y : Int) (ev : Value) (S' : Ws) (hc : ∀ W, Below u.heap.size u W → Calls Try.prog 36 #[.pointer (some ⟨mb, 0, none⟩), .int .i64 x, .int .i64 y] W fun o w' => o = .returned ev ∧ ∃ v', Gp u w' mb cb cc v S' v') :
    Calls Try.prog 21 #[.pointer (some ⟨mb, 0, none⟩), .agg #[.int .i64 2, .int .i64 x, .int .i64 y]] u fun o w' => ∃ pv v', o = .returned (.tuple #[pv, ev]) ∧ Gp u w' mb cb cc v S' v' ∧ Cm u w' v' pv none := by
  have HC : Hid _ := hc
  clear hc
  go_enter Try.func21, Try.ntmps21
  go_wp2_with (go_at_call 36; refine (HC.out _ (rbel_al (Below.refl _ _))).mono ?_; rintro o w1 ⟨rfl, v', hg⟩; have HG : Hid (Gp u w1 mb cb cc v S' v') := hg; clear hg)
  go_ret2
  first | exact ⟨_, v', rfl, HG.out, Or.inl ⟨rfl, rfl⟩⟩ | exact ⟨v', rfl, HG.out, Or.inl ⟨rfl, rfl⟩⟩ | exact ⟨v', HG.out, Or.inl ⟨rfl, rfl⟩⟩
set_option maxRecDepth 100000 in
set_option maxHeartbeats 8000000 in
theorem do_deliver (x y : Int) (ev : Value) (S' : Ws) (r : Option Lt) (hc : ∀ W, Below u.heap.size u W → Calls Try.prog 37 #[.pointer (some ⟨mb, 0, none⟩), .int .i64 x] W fun o w' => ∃ pv v', o = .returned (.tuple #[pv, ev]) ∧ Gp u w' mb cb cc v S' v' ∧ Cm u w' v' pv r) :
    Calls Try.prog 21 #[.pointer (some ⟨mb, 0, none⟩), .agg #[.int .i64 3, .int .i64 x, .int .i64 y]] u fun o w' => ∃ pv v', o = .returned (.tuple #[pv, ev]) ∧ Gp u w' mb cb cc v S' v' ∧ Cm u w' v' pv r := by
  have HC : Hid _ := hc
  clear hc
  go_enter Try.func21, Try.ntmps21
  go_wp2_with (go_at_call 37; refine (HC.out _ (rbel_al (Below.refl _ _))).mono ?_; rintro o w1 ⟨pv, v', rfl, hg, hm⟩; have HG : Hid (Gp u w1 mb cb cc v S' v') := hg; have HM : Hid (Cm u w1 v' pv r) := hm; clear hg hm)
  go_ret2
  first | exact ⟨_, v', rfl, HG.out, HM.out⟩ | exact ⟨v', rfl, HG.out, HM.out⟩ | exact ⟨pv, rfl, v', HG.out, HM.out⟩ | exact ⟨v', HG.out, HM.out⟩
set_option maxRecDepth 100000 in
set_option maxHeartbeats 8000000 in
theorem do_lose (x y : Int) (ev : Value) (S' : Ws) (r : Option Lt) (hc : ∀ W, Below u.heap.size u W → Calls Try.prog 37 #[.pointer (some ⟨mb, 0, none⟩), .int .i64 x] W fun o w' => ∃ pv v', o = .returned (.tuple #[pv, ev]) ∧ Gp u w' mb cb cc v S' v' ∧ Cm u w' v' pv r) :
    Calls Try.prog 21 #[.pointer (some ⟨mb, 0, none⟩), .agg #[.int .i64 4, .int .i64 x, .int .i64 y]] u fun o w' => ∃ pv v', o = .returned (.tuple #[pv, ev]) ∧ Gp u w' mb cb cc v S' v' ∧ Cm u w' v' pv none := by
  have HC : Hid _ := hc
  clear hc
  go_enter Try.func21, Try.ntmps21
  go_wp2_with (go_at_call 37; refine (HC.out _ (rbel_al (Below.refl _ _))).mono ?_; rintro o w1 ⟨pv, v', rfl, hg, hm⟩; have HG : Hid (Gp u w1 mb cb cc v S' v') := hg; have HM : Hid (Cm u w1 v' pv r) := hm; clear hg hm)
  go_ret2
  first | exact ⟨_, v', rfl, HG.out, Or.inl ⟨rfl, rfl⟩⟩ | exact ⟨v', rfl, HG.out, Or.inl ⟨rfl, rfl⟩⟩ | exact ⟨pv, rfl, v', HG.out, Or.inl ⟨rfl, rfl⟩⟩ | exact ⟨v', HG.out, Or.inl ⟨rfl, rfl⟩⟩
set_option maxRecDepth 100000 in
set_option maxHeartbeats 8000000 in
theorem do_repeat (x y : Int) (ev : Value) (S' : Ws) (r : Option Lt) (hc : ∀ W, Below u.heap.size u W → Calls Try.prog 38 #[.pointer (some ⟨mb, 0, none⟩), .int .i64 x] W fun o w' => ∃ pv v', o = .returned (.tuple #[pv, ev]) ∧ Gp u w' mb cb cc v S' v' ∧ Cm u w' v' pv r) :
    Calls Try.prog 21 #[.pointer (some ⟨mb, 0, none⟩), .agg #[.int .i64 5, .int .i64 x, .int .i64 y]] u fun o w' => ∃ pv v', o = .returned (.tuple #[pv, ev]) ∧ Gp u w' mb cb cc v S' v' ∧ Cm u w' v' pv r := by
  have HC : Hid _ := hc
  clear hc
  go_enter Try.func21, Try.ntmps21
  go_wp2_with (go_at_call 38; refine (HC.out _ (rbel_al (Below.refl _ _))).mono ?_; rintro o w1 ⟨pv, v', rfl, hg, hm⟩; have HG : Hid (Gp u w1 mb cb cc v S' v') := hg; have HM : Hid (Cm u w1 v' pv r) := hm; clear hg hm)
  go_ret2
  first | exact ⟨_, v', rfl, HG.out, HM.out⟩ | exact ⟨v', rfl, HG.out, HM.out⟩ | exact ⟨pv, rfl, v', HG.out, HM.out⟩ | exact ⟨v', HG.out, HM.out⟩
set_option maxRecDepth 100000 in
set_option maxHeartbeats 8000000 in
theorem do_none (h : PW u mb cb cc S v) (wh x y : Int) (hw : wh < 1 ∨ 5 < wh) :
    Calls Try.prog 21 #[.pointer (some ⟨mb, 0, none⟩), .agg #[.int .i64 wh, .int .i64 x, .int .i64 y]] u fun o w' => ∃ pv v', o = .returned (.tuple #[pv, errc 1]) ∧ Gp u w' mb cb cc v S v' ∧ Cm u w' v' pv none := by
  rw [errc_not (e := 1) (by decide)]
  have HP : Hid (PW u mb cb cc S v) := h
  have n1 : ¬ wh = 1 := by omega
  have n2 : ¬ wh = 2 := by omega
  have n3 : ¬ wh = 3 := by omega
  have n4 : ¬ wh = 4 := by omega
  have n5 : ¬ wh = 5 := by omega
  clear h hw
  go_enter Try.func21, Try.ntmps21
  go_wp2
  go_ret2
  first | exact ⟨_, v, rfl, .same HP.out (rbel_al (Below.refl _ _)), Or.inl ⟨rfl, rfl⟩⟩ | exact ⟨v, .same HP.out (rbel_al (Below.refl _ _)), Or.inl ⟨rfl, rfl⟩⟩
/-- Any act. -/
theorem do_any (h : PW u mb cb cc S v) (hI : S.I) {wh x y e : Int} {S' : Ws} {r : Option Lt} (hD : DoR S wh x y S' r e) :
    Calls Try.prog 21 #[.pointer (some ⟨mb, 0, none⟩), .agg #[.int .i64 wh, .int .i64 x, .int .i64 y]] u fun o w' => ∃ pv v', o = .returned (.tuple #[pv, errc e]) ∧ Gp u w' mb cb cc v S' v' ∧ Cm u w' v' pv r := by
  rcases hD with ⟨rfl, c, rfl, rfl, rfl⟩ | ⟨rfl, c, rfl, rfl, rfl⟩ | ⟨rfl, c, rfl, rfl, rfl⟩ | ⟨rfl, c, d, rfl, rfl, rfl⟩ | ⟨rfl, c, d, l, rfl, rfl, rfl⟩ | ⟨rfl, c, d, l, rfl, rfl, rfl⟩ | ⟨hw, c, rfl, rfl, rfl⟩ | ⟨rfl, c, rfl, rfl, rfl⟩ | ⟨rfl, c, rfl, rfl, rfl⟩ | ⟨rfl, c, rfl, rfl, rfl⟩ | ⟨hw, rfl, rfl, rfl⟩
  · exact do_go x y _ _ (goon_any h hI (Or.inl ⟨c, rfl, rfl⟩))
  · exact do_go x y _ _ (goon_any h hI (Or.inr ⟨c, rfl, rfl⟩))
  · exact do_ask x y _ _ (wask_any h hI (Or.inl ⟨c, rfl, rfl⟩))
  · exact do_ask x y _ _ (wask_any h hI (Or.inr (Or.inl ⟨c, d, rfl, rfl⟩)))
  · exact do_ask x y _ _ (wask_any h hI (Or.inr (Or.inr (Or.inl ⟨c, d, l, rfl, rfl⟩))))
  · exact do_ask x y _ _ (wask_any h hI (Or.inr (Or.inr (Or.inr ⟨c, d, l, rfl, rfl⟩))))
  · rcases hw with rfl | rfl | rfl
    · exact do_deliver x y _ _ _ (take_any h hI (Or.inl ⟨c, rfl, rfl, rfl⟩))
    · exact do_lose x y _ _ none (take_any h hI (Or.inl ⟨c, rfl, rfl, rfl⟩))
    · exact do_repeat x y _ _ _ (letter_any h hI (Or.inl ⟨c, rfl, rfl, rfl⟩))
  · exact do_deliver x y _ _ _ (take_any h hI (Or.inr ⟨c, rfl, rfl, rfl⟩))
  · exact do_lose x y _ _ _ (take_any h hI (Or.inr ⟨c, rfl, rfl, rfl⟩))
  · exact do_repeat x y _ _ _ (letter_any h hI (Or.inr ⟨c, rfl, rfl, rfl⟩))
  · exact do_none h wh x y hw
end
end Go.Proofs.Ytfmaoblhoafnhaj
