/- What the document's own world (package noonref2) answers of an act: Ask, taken. -/
import Derived.Test.YtnagdjipmpjaaaiGreatDoorNm23
namespace Go.Proofs.YtnagdjipmpjaaaiGreatDoor
open Go.ChangeShapes Go.WideShapes Go.ChangeAt Go.RowKit Go.Joins
set_option linter.unusedVariables false
set_option linter.unusedSimpArgs false

set_option maxRecDepth 100000 in
set_option maxHeartbeats 4000000 in
theorem rdo_ask {Ex : List Value} (w u : World) (mb sc rc : Nat) (sa ra : Option Addr) (S : Ws) (v : Value) (x y : Int) (hR : RW Ex w u mb sa sc ra rc S v) (hI : S.I) (hx : 0 ≤ x ∧ x < S.n) (hy : 0 ≤ y ∧ y < S.n) (he : ¬ x = y) (hf : S.under.length < 40) :
    Calls Tryz.prog 31 #[.pointer (some ⟨mb, 0, none⟩), .agg #[.int .i64 2, .int .i64 x, .int .i64 y]] u fun o w' => ∃ v', o = .returned (.tuple #[.agg #[.int .i64 0, .int .i64 0, .bool false, .int .i64 0, .int .i64 0, .int .i64 0], .bool false, .int .i64 0]) ∧ RW Ex w w' mb sa sc ra rc { S with under := S.under ++ [⟨x, y, false, 0, 0, S.rd x.toNat⟩] } v' ∧ Kp u w' mb v v' := by
  obtain ⟨va, vcap, rfl, hform⟩ := hR.len
  have EV : Hid ((Value.slice va S.under.length vcap) = (Value.slice va S.under.length vcap)) := rfl
  have HR : Hid (RW Ex w u mb sa sc ra rc S (.slice va S.under.length vcap)) := hR
  have zb : mb < u.heap.size := hR.r.lt
  have NB : Hid (∀ k, (Value.slice va S.under.length vcap).ownBlock = some k → k < u.heap.size) := fun k hk => (hR.o.lt k hk).2
  obtain ⟨i0, hi0, hz0, hz1, hz2⟩ := info_parts infoLetter
  obtain ⟨k, rfl⟩ : ∃ k : Nat, x = k := ⟨x.toNat, by omega⟩
  have hk : k < S.n := by omega
  have cH := fun (i : Int) (b : Bool) (W : World) (hW : Below u.heap.size u W) (hb : decide (0 ≤ i ∧ i < S.n) = b) => hb ▸ (RW.on hW HR.out).has i
  have cR := fun (W : World) (hW : Below u.heap.size u W) => (RW.on hW HR.out).read hI hk
  have ek : (k : Int).toNat = k := by omega
  rw [ek]
  have e1 : ((k : Int) == y) = false := by simp; exact he
  have d1 : ¬ ((40 : Int) ≤ (S.under.length : Int)) := by omega
  have d2 : decide ((40 : Int) ≤ (S.under.length : Int)) = false := decide_eq_false d1
  have cnt : Mark 0 := .mk _
  have hwsz := hR.hw.size
  clear hR hI hform ek hk
  generalize et : S.rd k = t at *
  go_enter Tryz.func31, Tryz.ntmps31
  go_wp2_with (first
    | (go_at_call 55; have cq : Mark 0 := cnt; clear cnt cq; have cnt : Mark 1 := .mk _; refine (cH (k : Int) true _ (rbel_al (rbel_al (Below.refl _ _))) (decide_eq_true (by first | assumption | omega))).mono ?_; rintro o u1 ⟨rfl, hb⟩; have ra1 : Hid (Row u1 u.heap.size [.int .i64 2, .int .i64 (k : Int), .int .i64 y]) := Row.on hb (Row.al (Row.made rfl)); have rz1 : Hid (Row u1 (u.heap.size + 1) [.int .i64 0, .int .i64 0, .bool false, .int .i64 0, .int .i64 0, .int .i64 0]) := Row.on hb (Row.made (by simp)); have B1 : Hid (Below u.heap.size u u1) := rbel_on hb (rbel_al (rbel_al (Below.refl _ _))); have sy1 : u.heap.size < u1.heap.size := ra1.out.lt; have x1_2 := ra1.out.c 2 _ rfl; clear hb)
    | (go_at_call 55; have cq : Mark 1 := cnt; clear cnt cq; have cnt : Mark 2 := .mk _; refine (cH y true _ B1.out (decide_eq_true (by first | assumption | omega))).mono ?_; rintro o u2 ⟨rfl, hb⟩; have ra2 : Hid (Row u2 u.heap.size [.int .i64 2, .int .i64 (k : Int), .int .i64 y]) := Row.on hb ra1.out; have rz2 : Hid (Row u2 (u.heap.size + 1) [.int .i64 0, .int .i64 0, .bool false, .int .i64 0, .int .i64 0, .int .i64 0]) := Row.on hb rz1.out; have B2 : Hid (Below u.heap.size u u2) := rbel_on hb B1.out; have sy2 : u.heap.size < u2.heap.size := ra2.out.lt; have x2_1 := ra2.out.c 1 _ rfl; have x2_2 := ra2.out.c 2 _ rfl; have mrow2 := (RW.on B2.out HR.out).r; have mc2 := mrow2.c 3 _ rfl; have zb2 := mrow2.lt; clear mrow2; clear hb)
    | (go_at_call 18; refine (cR _ B2.out).mono ?_; rintro o u3 ⟨rfl, hb⟩; have ra3 : Hid (Row u3 u.heap.size [.int .i64 2, .int .i64 (k : Int), .int .i64 y]) := Row.on hb ra2.out; have rz3 : Hid (Row u3 (u.heap.size + 1) [.int .i64 0, .int .i64 0, .bool false, .int .i64 0, .int .i64 0, .int .i64 0]) := Row.on hb rz2.out; have B3 : Hid (Below u.heap.size u u3) := rbel_on hb B2.out; have sy3 : u.heap.size < u3.heap.size := ra3.out.lt; have x3_1 := ra3.out.c 1 _ rfl; have x3_2 := ra3.out.c 2 _ rfl; have mrow3 := (RW.on B3.out HR.out).r; have mc3 := mrow3.c 3 _ rfl; have zb3 := mrow3.lt; clear mrow3; have HW3 : Hid (RW Ex w u3 mb sa sc ra rc S (.slice va S.under.length vcap)) := RW.on B3.out HR.out; clear hb))
  go_region_law (refine step_append_at rfl (.tmp 84) (.tmp 91) 53 rfl w.heap.size 98 i0 (.agg #[.int .i64 0, .int .i64 0, .bool false, .int .i64 0, .int .i64 0, .int .i64 0]) 6 48 Tryz.underlying53 hi0 hz0 hz1 hz2 rfl (by decide) (.slice va S.under.length vcap) S.under.length _ (by simp [Act.eval, Act.put]) (HW3.out.o.alloc _) ⟨u3.heap.size, 0, none⟩ 1 1 [.int .i64 (k : Int), .int .i64 y, .bool false, .int .i64 0, .int .i64 0, .int .i64 t] (by simp [Act.eval, Act.put]) rfl (fun j q hj => by rw [Addr.add_lit]; exact (Row.made (W := u3) (vs := [.int .i64 (k : Int), .int .i64 y, .bool false, .int .i64 0, .int .i64 0, .int .i64 t]) rfl).c _ _ (by simpa using hj)) (ltc_one ⟨k, y, false, 0, 0, t⟩) (by unfold maxLen; omega) (by omega) (by simp; omega) ?_; intro v' w1 hown1 hgrow1 hat1; obtain ⟨va', vc', rfl⟩ := own_slice hown1; have lz3 : u.heap.size + 1 < u3.heap.size := rz3.out.lt; have mr1 : Row w1 mb (.slice sa S.n sc :: .slice ra S.n rc :: .int .i64 S.time :: .slice va S.under.length vcap :: Ex) := (by first | exact row_grown hgrow1 (by simp; omega) HW3.out.ne (Row.al HW3.out.r) | exact row_grown hgrow1 (by simp; omega) HW3.out.ne (Row.dr (Row.al HW3.out.r))); have rz1 : Row w1 (u.heap.size + 1) [.int .i64 0, .int .i64 0, .bool false, .int .i64 0, .int .i64 0, .int .i64 0] := (by first | exact row_grown hgrow1 (by simp; omega) (fun e => by have := NB.out _ e; omega) (Row.al rz3.out) | exact row_grown hgrow1 (by simp; omega) (fun e => by have := NB.out _ e; omega) (Row.dr (Row.al rz3.out))); have m3 := mr1.c 3 _ rfl; have g3 := mr1.f 3 _ rfl; have HO1 : Hid _ := hown1; have HG1 : Hid _ := hgrow1; have HA1 : Hid _ := hat1; have RZ1 : Hid _ := rz1; have lw1 := mr1.lt; clear mr1 rz1 hown1 hgrow1 hat1)
  all_goals
    obtain ⟨g1, g2⟩ : RW Ex w (w1.setCell ⟨mb, 3, none⟩ (.slice va' (S.under.length + 1) vc')) mb sa sc ra rc { S with under := S.under ++ [⟨k, y, false, 0, 0, t⟩] } (.slice va' (S.under.length + 1) vc') ∧ Kp u (w1.setCell ⟨mb, 3, none⟩ (.slice va' (S.under.length + 1) vc')) mb (.slice va S.under.length vcap) (.slice va' (S.under.length + 1) vc') := RW.more HR.out (by first | exact rbel_al B3.out | exact rbel_dr (rbel_al B3.out) | exact rbel_al (rbel_dr B3.out)) HO1.out HG1.out HA1.out
    have lz3 : u.heap.size + 1 < u3.heap.size := rz3.out.lt
    have NE : (Value.slice va' (S.under.length + 1) vc').ownBlock ≠ some (u.heap.size + 1) := by
      intro q
      rcases HA1.out with e | e
      · have := NB.out _ (e.symm.trans q); omega
      · rw [q] at e; injection e with e; first | (simp at e; omega) | omega
    have RZ2 : Hid (Row (w1.setCell ⟨mb, 3, none⟩ (.slice va' (S.under.length + 1) vc')) (u.heap.size + 1) [.int .i64 0, .int .i64 0, .bool false, .int .i64 0, .int .i64 0, .int .i64 0]) := Row.far (by omega) RZ1.out
    have G1 : Hid _ := RW.six (a0 := .int .i64 0) (a1 := .int .i64 0) (a2 := .bool false) (a3 := .int .i64 0) (a4 := .int .i64 0) (a5 := .int .i64 0) g1 (show u.heap.size + 1 ≠ mb by omega) NE (by omega)
    have G2 : Hid _ := Kp.six (b := u.heap.size + 1) (a0 := .int .i64 0) (a1 := .int .i64 0) (a2 := .bool false) (a3 := .int .i64 0) (a4 := .int .i64 0) (a5 := .int .i64 0) g2 (by omega)
    clear g1 g2 NE HO1 HG1 HA1 RZ1 m3 g3 HW3 rz3 ra3 B3 x3_1 x3_2 mc3
    generalize (w1.setCell ⟨mb, 3, none⟩ (.slice va' (S.under.length + 1) vc')) = w2 at *
    have sz : u.heap.size + 1 < w2.heap.size := RZ2.out.lt
    have z0 := RZ2.out.c 0 _ rfl
    have q0 := RZ2.out.f 0 _ rfl
    have z1 := RZ2.out.c 1 _ rfl
    have q1 := RZ2.out.f 1 _ rfl
    have z2 := RZ2.out.c 2 _ rfl
    have q2 := RZ2.out.f 2 _ rfl
    have z3 := RZ2.out.c 3 _ rfl
    have q3 := RZ2.out.f 3 _ rfl
    have z4 := RZ2.out.c 4 _ rfl
    have q4 := RZ2.out.f 4 _ rfl
    have z5 := RZ2.out.c 5 _ rfl
    have q5 := RZ2.out.f 5 _ rfl
    go_wp2
    exact bodyPost_ret (v := .tuple #[.agg #[.int .i64 0, .int .i64 0, .bool false, .int .i64 0, .int .i64 0, .int .i64 0], .bool false, .int .i64 0]) (by simp [results, Tryz.results31, go_sem, *]) rfl ⟨_, rfl, G1.out, G2.out⟩
end Go.Proofs.YtnagdjipmpjaaaiGreatDoor
