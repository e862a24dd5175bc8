/- What package world answers: Answer. -/
import Derived.Test.YthejaecljkjliaiGreatDoorNm06
import Derived.BigQuiet
import Derived.Deep.QuietTactic
import Derived.Deep.RegionWith
import Derived.Deep.RegionLaw
import Derived.Laws.AppendOwnNone
import Derived.Maps.AppendAt
import Derived.Deep.CutRange
import Derived.Deep.CutBlock
import Derived.BigRegion
import Derived.IntWalk
namespace Go.Proofs.YthejaecljkjliaiGreatDoor
open Go.ChangeShapes Go.WideShapes Go.ChangeAt Go.RowKit Go.Joins
set_option linter.unusedVariables false
set_option linter.unusedSimpArgs false

section
variable {u : World} {mb cb cc : Nat} {S : Ws} {v : Value}
set_option maxRecDepth 100000 in
set_option maxHeartbeats 8000000 in
theorem an_ans (h : PW u mb cb cc S v) (hI : S.I) (l1 l2 : Int)  (l4 l5 l6 : Int)  :
    Calls Tryz.prog 54 #[.pointer (some ⟨mb, 0, none⟩), .agg #[.int .i64 l1, .int .i64 l2, .bool true, .int .i64 l4, .int .i64 l5, .int .i64 l6]] u fun o w' => o = .returned (errc 3) ∧ Below u.heap.size u w' := by
  rw [errc_not (e := 3) (by decide)]
  clear h hI
  go_enter Tryz.func54, Tryz.ntmps54
  go_wp2
  go_ret
  exact ⟨rfl, rbel_al (Below.refl _ _)⟩
set_option maxRecDepth 100000 in
set_option maxHeartbeats 8000000 in
theorem an_none1 (h : PW u mb cb cc S v) (hI : S.I) (l1 l2 : Int)  (l4 l5 l6 : Int) (h1 : ¬ S.hs l1) :
    Calls Tryz.prog 54 #[.pointer (some ⟨mb, 0, none⟩), .agg #[.int .i64 l1, .int .i64 l2, .bool false, .int .i64 l4, .int .i64 l5, .int .i64 l6]] u fun o w' => o = .returned (errc 1) ∧ Below u.heap.size u w' := by
  rw [errc_not (e := 1) (by decide)]
  have c1 : Hid (∀ W, Below u.heap.size u W → Calls Tryz.prog 68 #[.pointer (some ⟨mb, 0, none⟩), .int .i64 l1] W fun o w' => o = .returned (.bool false) ∧ w' = W) := fun W hW => iscl (h.on hW) hI l1 false (decide_eq_false (p := 0 ≤ l1 ∧ l1 < (S.n : Int)) h1).symm
  clear h hI h1
  go_enter Tryz.func54, Tryz.ntmps54
  go_wp2_with (first | (go_at_call 68; refine (c1.out _ (rbel_al (Below.refl _ _))).mono ?_; rintro o w0 ⟨rfl, hu⟩; rw [hu]; clear hu))
  go_ret
  exact ⟨rfl, rbel_al (Below.refl _ _)⟩
set_option maxRecDepth 100000 in
set_option maxHeartbeats 8000000 in
theorem an_none2 (h : PW u mb cb cc S v) (hI : S.I) (l1 l2 : Int)  (l4 l5 l6 : Int) (h1 : S.hs l1) (h2 : ¬ S.hs l2) :
    Calls Tryz.prog 54 #[.pointer (some ⟨mb, 0, none⟩), .agg #[.int .i64 l1, .int .i64 l2, .bool false, .int .i64 l4, .int .i64 l5, .int .i64 l6]] u fun o w' => o = .returned (errc 1) ∧ Below u.heap.size u w' := by
  rw [errc_not (e := 1) (by decide)]
  have c1 : Hid (∀ W, Below u.heap.size u W → Calls Tryz.prog 68 #[.pointer (some ⟨mb, 0, none⟩), .int .i64 l1] W fun o w' => o = .returned (.bool true) ∧ w' = W) := fun W hW => iscl (h.on hW) hI l1 true (decide_eq_true (p := 0 ≤ l1 ∧ l1 < (S.n : Int)) h1).symm
  have c2 : Hid (∀ W, Below u.heap.size u W → Calls Tryz.prog 68 #[.pointer (some ⟨mb, 0, none⟩), .int .i64 l2] W fun o w' => o = .returned (.bool false) ∧ w' = W) := fun W hW => iscl (h.on hW) hI l2 false (decide_eq_false (p := 0 ≤ l2 ∧ l2 < (S.n : Int)) h2).symm
  have cnt : Mark 0 := .mk _
  clear h hI h1 h2
  go_enter Tryz.func54, Tryz.ntmps54
  go_wp2_with (first | (go_at_call 68; (first | (have cm : Mark 0 := cnt; clear cm cnt; have cnt : Mark 1 := .mk _; refine (c1.out _ (rbel_al (Below.refl _ _))).mono ?_) | refine (c2.out _ (rbel_al (Below.refl _ _))).mono ?_); rintro o w0 ⟨rfl, hu⟩; rw [hu]; clear hu))
  go_ret
  exact ⟨rfl, rbel_al (Below.refl _ _)⟩
set_option maxRecDepth 100000 in
set_option maxHeartbeats 8000000 in
theorem an_full (h : PW u mb cb cc S v) (hI : S.I) (l1 l2 : Int)  (l4 l5 l6 : Int) (h1 : S.hs l1) (h2 : S.hs l2) (hl : 40 ≤ S.under.length) :
    Calls Tryz.prog 54 #[.pointer (some ⟨mb, 0, none⟩), .agg #[.int .i64 l1, .int .i64 l2, .bool false, .int .i64 l4, .int .i64 l5, .int .i64 l6]] u fun o w' => o = .returned (errc 4) ∧ Below u.heap.size u w' := by
  have c1 : Hid (∀ W, Below u.heap.size u W → Calls Tryz.prog 68 #[.pointer (some ⟨mb, 0, none⟩), .int .i64 l1] W fun o w' => o = .returned (.bool true) ∧ w' = W) := fun W hW => iscl (h.on hW) hI l1 true (decide_eq_true (p := 0 ≤ l1 ∧ l1 < (S.n : Int)) h1).symm
  have c2 : Hid (∀ W, Below u.heap.size u W → Calls Tryz.prog 68 #[.pointer (some ⟨mb, 0, none⟩), .int .i64 l2] W fun o w' => o = .returned (.bool true) ∧ w' = W) := fun W hW => iscl (h.on hW) hI l2 true (decide_eq_true (p := 0 ≤ l2 ∧ l2 < (S.n : Int)) h2).symm
  have cnt : Mark 0 := .mk _
  obtain ⟨k, rfl⟩ : ∃ k : Nat, l2 = k := ⟨l2.toNat, by have := h2.1; omega⟩
  have c3 : Hid (∀ W, Below u.heap.size u W → Calls Tryz.prog 69 #[.pointer (some ⟨mb, 0, none⟩), .int .i64 k] W fun o w' => o = .returned (.int .i64 (S.rd k)) ∧ Below W.heap.size W w') := fun W hW => shown (h.on hW) hI k (by have := h2.2; omega)
  have c4 : Hid (∀ W, Below u.heap.size u W → Calls Tryz.prog 88 #[.pointer (some ⟨mb, 0, none⟩), .agg #[.int .i64 (k : Int), .int .i64 l1, .bool true, .int .i64 l6, .int .i64 (S.rd k), .int .i64 (S.rd k)]] W fun o w' => o = .returned (errc 4) ∧ Below W.heap.size W w') := fun W hW => send_full (h.on hW) hI hl ⟨k, l1, true, l6, S.rd k, S.rd k⟩
  clear h hI h1 h2 hl
  generalize S.rd k = t at *
  go_enter Tryz.func54, Tryz.ntmps54
  go_wp2_with (first | (go_at_call 68; (first | (have cm : Mark 0 := cnt; clear cm cnt; have cnt : Mark 1 := .mk _; refine (c1.out _ (rbel_al (Below.refl _ _))).mono ?_) | refine (c2.out _ (rbel_al (Below.refl _ _))).mono ?_); rintro o w0 ⟨rfl, hu⟩; rw [hu]; clear hu) | (go_at_call 69; refine (c3.out _ (rbel_al (Below.refl _ _))).mono ?_; rintro o u1 ⟨rfl, hb⟩; have HB : Hid (Below u.heap.size u u1) := rbel_on hb (rbel_al (Below.refl _ _)); have RR : Hid (Row u1 u.heap.size [.int .i64 l1, .int .i64 (k : Int), .bool false, .int .i64 l4, .int .i64 l5, .int .i64 l6]) := Row.on hb (Row.made rfl); have z0 := RR.out.c 0 _ rfl; have z1 := RR.out.c 1 _ rfl; have z5 := RR.out.c 5 _ rfl; have zl := RR.out.lt; clear hb) | (go_at_call 88; refine (c4.out _ HB.out).mono ?_; rintro o u2 ⟨rfl, hb⟩; have HB2 : Hid (Below u.heap.size u u2) := rbel_on hb HB.out; clear hb))
  go_ret
  exact ⟨rfl, HB2.out⟩
set_option maxRecDepth 100000 in
set_option maxHeartbeats 8000000 in
theorem an_ok (h : PW u mb cb cc S v) (hI : S.I) (l1 l2 : Int)  (l4 l5 l6 : Int) (h1 : S.hs l1) (h2 : S.hs l2) (hl : S.under.length < 40) :
    Calls Tryz.prog 54 #[.pointer (some ⟨mb, 0, none⟩), .agg #[.int .i64 l1, .int .i64 l2, .bool false, .int .i64 l4, .int .i64 l5, .int .i64 l6]] u fun o w' => ∃ v', o = .returned (errc 0) ∧ Gp u w' mb cb cc v { S with under := S.under ++ [⟨l2, l1, true, l6, S.rd l2.toNat, S.rd l2.toNat⟩] } v' := by
  have c1 : Hid (∀ W, Below u.heap.size u W → Calls Tryz.prog 68 #[.pointer (some ⟨mb, 0, none⟩), .int .i64 l1] W fun o w' => o = .returned (.bool true) ∧ w' = W) := fun W hW => iscl (h.on hW) hI l1 true (decide_eq_true (p := 0 ≤ l1 ∧ l1 < (S.n : Int)) h1).symm
  have c2 : Hid (∀ W, Below u.heap.size u W → Calls Tryz.prog 68 #[.pointer (some ⟨mb, 0, none⟩), .int .i64 l2] W fun o w' => o = .returned (.bool true) ∧ w' = W) := fun W hW => iscl (h.on hW) hI l2 true (decide_eq_true (p := 0 ≤ l2 ∧ l2 < (S.n : Int)) h2).symm
  have cnt : Mark 0 := .mk _
  obtain ⟨k, rfl⟩ : ∃ k : Nat, l2 = k := ⟨l2.toNat, by have := h2.1; omega⟩
  have c3 : Hid (∀ W, Below u.heap.size u W → Calls Tryz.prog 69 #[.pointer (some ⟨mb, 0, none⟩), .int .i64 k] W fun o w' => o = .returned (.int .i64 (S.rd k)) ∧ Below W.heap.size W w') := fun W hW => shown (h.on hW) hI k (by have := h2.2; omega)
  have c4 : Hid (∀ W, Below u.heap.size u W → Calls Tryz.prog 88 #[.pointer (some ⟨mb, 0, none⟩), .agg #[.int .i64 (k : Int), .int .i64 l1, .bool true, .int .i64 l6, .int .i64 (S.rd k), .int .i64 (S.rd k)]] W fun o w' => ∃ v', o = .returned (errc 0) ∧ Gp u w' mb cb cc v { S with under := S.under ++ [⟨k, l1, true, l6, S.rd k, S.rd k⟩] } v') := fun W hW => (send_ok (h.on hW) hI hl ⟨k, l1, true, l6, S.rd k, S.rd k⟩).mono (by
    rintro o w' ⟨v', rfl, g1, g2⟩
    exact ⟨v', rfl, g1, g2.from hW⟩)
  rw [Int.toNat_natCast]
  clear h hI h1 h2 hl
  generalize S.rd k = t at *
  go_enter Tryz.func54, Tryz.ntmps54
  go_wp2_with (first | (go_at_call 68; (first | (have cm : Mark 0 := cnt; clear cm cnt; have cnt : Mark 1 := .mk _; refine (c1.out _ (rbel_al (Below.refl _ _))).mono ?_) | refine (c2.out _ (rbel_al (Below.refl _ _))).mono ?_); rintro o w0 ⟨rfl, hu⟩; rw [hu]; clear hu) | (go_at_call 69; refine (c3.out _ (rbel_al (Below.refl _ _))).mono ?_; rintro o u1 ⟨rfl, hb⟩; have HB : Hid (Below u.heap.size u u1) := rbel_on hb (rbel_al (Below.refl _ _)); have RR : Hid (Row u1 u.heap.size [.int .i64 l1, .int .i64 (k : Int), .bool false, .int .i64 l4, .int .i64 l5, .int .i64 l6]) := Row.on hb (Row.made rfl); have z0 := RR.out.c 0 _ rfl; have z1 := RR.out.c 1 _ rfl; have z5 := RR.out.c 5 _ rfl; have zl := RR.out.lt; clear hb) | (go_at_call 88; refine (c4.out _ HB.out).mono ?_; rintro o u2 ⟨v', rfl, hg⟩; have HG : Hid _ := hg; clear hg))
  go_ret
  exact ⟨v', rfl, HG.out⟩
theorem answer_any (h : PW u mb cb cc S v) (hI : S.I) (l : Lt) {S' : Ws} {e : Int} (hD : AnR S l S' e) :
    Calls Tryz.prog 54 #[.pointer (some ⟨mb, 0, none⟩), ltv l] u fun o w' => o = .returned (errc e) ∧ ∃ v', Gp u w' mb cb cc v S' v' := by
  obtain ⟨l1, l2, l3, l4, l5, l6⟩ := l
  unfold ltv
  rcases hD with ⟨a, rfl, rfl⟩ | ⟨a, c, rfl, rfl⟩ | ⟨a, c, d, rfl, rfl⟩ | ⟨a, c, d, rfl, rfl⟩
  · obtain rfl : l3 = true := a
    refine (an_ans h hI l1 l2 l4 l5 l6).mono ?_
    rintro o w' ⟨rfl, hb⟩
    exact ⟨rfl, v, .same h hb⟩
  · obtain rfl : l3 = false := a
    by_cases q : S'.hs l1
    · refine (an_none2 h hI l1 l2 l4 l5 l6 q (fun r => c ⟨q, r⟩)).mono ?_
      rintro o w' ⟨rfl, hb⟩
      exact ⟨rfl, v, .same h hb⟩
    · refine (an_none1 h hI l1 l2 l4 l5 l6 q).mono ?_
      rintro o w' ⟨rfl, hb⟩
      exact ⟨rfl, v, .same h hb⟩
  · obtain rfl : l3 = false := a
    refine (an_full h hI l1 l2 l4 l5 l6 c.1 c.2 d).mono ?_
    rintro o w' ⟨rfl, hb⟩
    exact ⟨rfl, v, .same h hb⟩
  · obtain rfl : l3 = false := a
    refine (an_ok h hI l1 l2 l4 l5 l6 c.1 c.2 d).mono ?_
    rintro o w' ⟨v', rfl, hg⟩
    exact ⟨rfl, v', hg⟩
end
end Go.Proofs.YthejaecljkjliaiGreatDoor
