/- The ways through the law WireLong. -/
import Derived.Test.YtfmaoblhoafnhajNm02
import Derived.Lib.SmallJoins
namespace Go.Proofs.Ytfmaoblhoafnhaj.wireLong
open Go.ChangeShapes Go.WideShapes Go.ChangeAt Go.RowKit Go.Joins
set_option linter.unusedVariables false
set_option linter.unusedSimpArgs false

def lO : Lt := ⟨1, 2, false, 0, 0, 0⟩
theorem lO_w : LtW lO := ⟨by decide, by decide, by decide, by decide, by decide⟩
theorem lO_e : ltE lO = 0 := by decide
set_option maxRecDepth 100000 in
set_option maxHeartbeats 4000000 in
theorem all_ways (l : Lt) (w : World) (W : Wr w) (hl : LtW l) :
    Calls Try.prog 3 #[ltv l] w fun o w' => o = .returned (.bool true) ∧ Below w.heap.size w w' := by
  have cO : Hid (∀ u, Below w.heap.size w u → Calls Try.prog 5 #[.agg #[.int .i64 1, .int .i64 2, .bool false, .int .i64 0, .int .i64 0, .int .i64 0]] u fun o w' => ∃ s : ByteArray, o = .returned (.tuple #[.string s, .nilIface]) ∧ s.size = 10 ∧ Below u.heap.size u w') := fun u hu => (W.letter lO u hu lO_w).mono (by
    rintro o w' ⟨rfl, hb⟩
    rw [lO_e, if_pos rfl, errc_zero]
    exact ⟨_, rfl, by rw [wst_size, wb_len]; rfl, hb⟩)
  have cnt : Mark 0 := .mk _
  by_cases e : ltE l = 0
  · have cL : Hid (∀ u, Below w.heap.size w u → Calls Try.prog 5 #[.agg #[.int .i64 l.frm, .int .i64 l.to, .bool l.ans, .int .i64 l.t1, .int .i64 l.t2, .int .i64 l.t]] u fun o w' => ∃ s : ByteArray, o = .returned (.tuple #[.string s, .nilIface]) ∧ s.size = (if l.ans then 22 else 10) ∧ Below u.heap.size u w') := fun u hu => (W.letter l u hu hl).mono (by
      rintro o w' ⟨rfl, hb⟩
      rw [e, if_pos rfl, errc_zero]
      exact ⟨_, rfl, by rw [wst_size, wb_len], hb⟩)
    unfold ltv
    clear hl e
    generalize l.frm = a1 at *
    generalize l.to = a2 at *
    generalize l.t1 = a3 at *
    generalize l.t2 = a4 at *
    generalize l.t = a5 at *
    cases hA : l.ans
    · rw [hA] at cL
      clear hA
      go_enter Try.func3, Try.ntmps3
      go_wp2_with (first
        | (go_at_call 5; have cq : Mark 0 := cnt; refine (cO.out _ (rbel_al (Below.refl _ _))).mono ?_; clear cq cnt; have cnt : Mark 1 := .mk _; rintro o u0 ⟨s, rfl, hs, hb⟩; have HB0 : Hid (Below w.heap.size w u0) := rbel_on hb (rbel_al (Below.refl _ _)); have R0 : Hid (Row u0 w.heap.size [.int .i64 a1, .int .i64 a2, .bool false, .int .i64 a3, .int .i64 a4, .int .i64 a5]) := Row.on hb (Row.made rfl); have y0 := R0.out.c 0 _ rfl; have y1 := R0.out.c 1 _ rfl; have y2 := R0.out.c 2 _ rfl; have y3 := R0.out.c 3 _ rfl; have y4 := R0.out.c 4 _ rfl; have y5 := R0.out.c 5 _ rfl; clear hb)
        | (go_at_call 5; have cq : Mark 1 := cnt; refine (cL.out _ HB0.out).mono ?_; clear cq cnt; rintro o u1 ⟨s1, rfl, hs1, hb⟩; rw [if_neg (by decide)] at hs1; have HB1 : Hid (Below w.heap.size w u1) := rbel_on hb HB0.out; have R1 : Hid _ := Row.on hb R0.out; have z2 := R1.out.c 2 _ rfl; clear hb))
      go_ret
      exact ⟨rfl, HB1.out⟩
    · rw [hA] at cL
      clear hA
      go_enter Try.func3, Try.ntmps3
      go_wp2_with (first
        | (go_at_call 5; have cq : Mark 0 := cnt; refine (cO.out _ (rbel_al (Below.refl _ _))).mono ?_; clear cq cnt; have cnt : Mark 1 := .mk _; rintro o u0 ⟨s, rfl, hs, hb⟩; have HB0 : Hid (Below w.heap.size w u0) := rbel_on hb (rbel_al (Below.refl _ _)); have R0 : Hid (Row u0 w.heap.size [.int .i64 a1, .int .i64 a2, .bool true, .int .i64 a3, .int .i64 a4, .int .i64 a5]) := Row.on hb (Row.made rfl); have y0 := R0.out.c 0 _ rfl; have y1 := R0.out.c 1 _ rfl; have y2 := R0.out.c 2 _ rfl; have y3 := R0.out.c 3 _ rfl; have y4 := R0.out.c 4 _ rfl; have y5 := R0.out.c 5 _ rfl; clear hb)
        | (go_at_call 5; have cq : Mark 1 := cnt; refine (cL.out _ HB0.out).mono ?_; clear cq cnt; rintro o u1 ⟨s1, rfl, hs1, hb⟩; replace hs1 : s1.size = 22 := hs1; have HB1 : Hid (Below w.heap.size w u1) := rbel_on hb HB0.out; have R1 : Hid _ := Row.on hb R0.out; have z2 := R1.out.c 2 _ rfl; clear hb))
      go_ret
      exact ⟨rfl, HB1.out⟩
  · have cL : Hid (∀ u, Below w.heap.size w u → Calls Try.prog 5 #[.agg #[.int .i64 l.frm, .int .i64 l.to, .bool l.ans, .int .i64 l.t1, .int .i64 l.t2, .int .i64 l.t]] u fun o w' => ∃ (s : ByteArray) (x : Int), o = .returned (.tuple #[.string s, .iface 73 (.int .i64 x)]) ∧ Below u.heap.size u w') := fun u hu => (W.letter l u hu hl).mono (by
      rintro o w' ⟨rfl, hb⟩
      rw [if_neg e, errc_not e]
      exact ⟨_, _, rfl, hb⟩)
    unfold ltv
    clear hl e
    generalize l.frm = a1 at *
    generalize l.to = a2 at *
    generalize l.t1 = a3 at *
    generalize l.t2 = a4 at *
    generalize l.t = a5 at *
    generalize l.ans = a6 at *
    go_enter Try.func3, Try.ntmps3
    go_wp2_with (first
      | (go_at_call 5; have cq : Mark 0 := cnt; refine (cO.out _ (rbel_al (Below.refl _ _))).mono ?_; clear cq cnt; have cnt : Mark 1 := .mk _; rintro o u0 ⟨s, rfl, hs, hb⟩; have HB0 : Hid (Below w.heap.size w u0) := rbel_on hb (rbel_al (Below.refl _ _)); have R0 : Hid (Row u0 w.heap.size [.int .i64 a1, .int .i64 a2, .bool a6, .int .i64 a3, .int .i64 a4, .int .i64 a5]) := Row.on hb (Row.made rfl); have y0 := R0.out.c 0 _ rfl; have y1 := R0.out.c 1 _ rfl; have y2 := R0.out.c 2 _ rfl; have y3 := R0.out.c 3 _ rfl; have y4 := R0.out.c 4 _ rfl; have y5 := R0.out.c 5 _ rfl; clear hb)
      | (go_at_call 5; have cq : Mark 1 := cnt; refine (cL.out _ HB0.out).mono ?_; clear cq cnt; rintro o u1 ⟨s1, x, rfl, hb⟩; have HB1 : Hid (Below w.heap.size w u1) := rbel_on hb HB0.out; clear hb))
    go_ret
    exact ⟨rfl, HB1.out⟩
end Go.Proofs.Ytfmaoblhoafnhaj.wireLong
