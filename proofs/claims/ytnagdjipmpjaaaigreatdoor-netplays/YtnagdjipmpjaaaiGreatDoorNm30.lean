/- Package net: Offset. What package net must answer: Offset. Package net: New, Do and Offset, as the laws want them. What package net must answer: Show. What the document's own net (package noonref2) answers: Offset. -/
import Derived.Test.YtnagdjipmpjaaaiGreatDoorNm09
import Derived.Test.YtnagdjipmpjaaaiGreatDoorNm23
import Derived.Test.YtnagdjipmpjaaaiGreatDoorNm29
import Derived.Test.YtnagdjipmpjaaaiGreatDoorNm28
namespace Go.Proofs.YtnagdjipmpjaaaiGreatDoor
open Go.ChangeShapes Go.WideShapes Go.ChangeAt Go.RowKit Go.Joins
set_option linter.unusedVariables false
set_option linter.unusedSimpArgs false

section
variable {u : World} {mb : Nat} {L : Nly} {N : Nn}
set_option maxRecDepth 100000 in
set_option maxHeartbeats 4000000 in
theorem noff_no (h : NN u mb L N) (g : N.W.I) (x y : Int) (X Y : Bool) (hX : Hid (X = decide (0 ≤ x ∧ x < (N.W.n : Int)))) (hY : Hid (Y = decide (0 ≤ y ∧ y < (N.W.n : Int)))) (hn : X = false ∨ (X = true ∧ Y = false)) :
    Calls Tryz.prog 12 #[.pointer (some ⟨mb, 0, none⟩), .int .i64 x, .int .i64 y] u fun o w' => o = .returned (.tuple #[sp 0 0, .iface 85 (.int .i64 1)]) ∧ Below u.heap.size u w' := by
  have cX : Hid (∀ W, Below u.heap.size u W → Calls Tryz.prog 35 #[.pointer (some ⟨mb, 0, none⟩), .int .i64 x] W fun o w' => o = .returned (.bool X) ∧ w' = W) := fun W hW => nisn (h.on hW) g x X hX.out
  have cY : Hid (∀ W, Below u.heap.size u W → Calls Tryz.prog 35 #[.pointer (some ⟨mb, 0, none⟩), .int .i64 y] W fun o w' => o = .returned (.bool Y) ∧ w' = W) := fun W hW => nisn (h.on hW) g y Y hY.out
  clear h g hX hY
  have cnt : Mark 0 := .mk _
  rcases hn with rfl | ⟨rfl, rfl⟩
  · go_enter Tryz.func12, Tryz.ntmps12
    go_wp2_with (go_at_call 35; refine (cX.out _ (rbel_al (Below.refl _ _))).mono ?_; rintro o u1 ⟨rfl, hu⟩; rw [hu]; clear hu)
    exact bodyPost_ret (v := .tuple #[sp 0 0, .iface 85 (.int .i64 1)]) (by simp [results, Tryz.results12, go_sem, *]) rfl ⟨rfl, by first | exact rbel_al (Below.refl _ _) | exact rbel_put (Nat.le_refl _) (rbel_put (Nat.le_refl _) (rbel_al (Below.refl _ _)))⟩
  · go_enter Tryz.func12, Tryz.ntmps12
    go_wp2_with (first
      | (go_at_call 35; have cq : Mark 0 := cnt; refine (cX.out _ (rbel_al (Below.refl _ _))).mono ?_; clear cq cnt; have cnt : Mark 1 := .mk _; rintro o u1 ⟨rfl, hu⟩; rw [hu]; clear hu)
      | (go_at_call 35; have cq : Mark 1 := cnt; refine (cY.out _ (rbel_al (Below.refl _ _))).mono ?_; clear cq cnt; rintro o u1 ⟨rfl, hu⟩; rw [hu]; clear hu))
    exact bodyPost_ret (v := .tuple #[sp 0 0, .iface 85 (.int .i64 1)]) (by simp [results, Tryz.results12, go_sem, *]) rfl ⟨rfl, by first | exact rbel_al (Below.refl _ _) | exact rbel_put (Nat.le_refl _) (rbel_put (Nat.le_refl _) (rbel_al (Below.refl _ _)))⟩
set_option maxRecDepth 100000 in
set_option maxHeartbeats 4000000 in
theorem noff_go (h : NN u mb L N) (g : N.T) (x y lo hi e : Int) (hx : 0 ≤ x ∧ x < (N.W.n : Int)) (hy : 0 ≤ y ∧ y < (N.W.n : Int)) (hB : BetA N.W.n (egf (eoN N)) (eoN N).length x y lo hi e) :
    Calls Tryz.prog 12 #[.pointer (some ⟨mb, 0, none⟩), .int .i64 x, .int .i64 y] u fun o w' => o = .returned (.tuple #[sp lo hi, errc e]) ∧ Below u.heap.size u w' := by
  have cX : Hid (∀ W, Below u.heap.size u W → Calls Tryz.prog 35 #[.pointer (some ⟨mb, 0, none⟩), .int .i64 x] W fun o w' => o = .returned (.bool true) ∧ w' = W) := fun W hW => nisn (h.on hW) g.g.i x true (decide_eq_true hx).symm
  have cY : Hid (∀ W, Below u.heap.size u W → Calls Tryz.prog 35 #[.pointer (some ⟨mb, 0, none⟩), .int .i64 y] W fun o w' => o = .returned (.bool true) ∧ w' = W) := fun W hW => nisn (h.on hW) g.g.i y true (decide_eq_true hy).symm
  have cE : Hid (∀ W, Below u.heap.size u W → Calls Tryz.prog 16 #[.pointer (some ⟨mb, 0, none⟩)] W fun o w' => ∃ (ea : Option Addr) (ec : Nat), o = .returned (.tuple #[.slice ea (eoN N).length ec, .nilIface]) ∧ EHanded w' ea (eoN N).length (egf (eoN N)) ∧ Below W.heap.size W w') := fun W hW => (nedges_net (h.on hW) g).mono fun _ _ ⟨ea, ec, e, h1, h2, _⟩ => ⟨ea, ec, e, h1, h2⟩
  have cB : Hid (∀ (a : Option Addr) (cap : Nat) (W : World), EHanded W a (eoN N).length (egf (eoN N)) → Calls Tryz.prog 36 #[.int .i64 N.W.n, .slice a (eoN N).length cap, .int .i64 x, .int .i64 y] W fun r w' => r = .returned (.tuple #[sp lo hi, errc e]) ∧ Below W.heap.size W w') := fun a cap W hH => between_any N.W.n a (eoN N).length cap (egf (eoN N)) x y lo hi e W hH hB
  have HR : Hid (NN u mb L N) := h
  clear h g hx hy hB
  generalize (eoN N).length = m at *
  generalize errc e = ev at *
  have cnt : Mark 0 := .mk _
  go_enter Tryz.func12, Tryz.ntmps12
  go_wp2_with (first
    | (go_at_call 35; have cq : Mark 0 := cnt; refine (cX.out _ (rbel_al (Below.refl _ _))).mono ?_; clear cq cnt; have cnt : Mark 1 := .mk _; rintro o u1 ⟨rfl, hu⟩; rw [hu]; clear hu)
    | (go_at_call 35; have cq : Mark 1 := cnt; refine (cY.out _ (rbel_al (Below.refl _ _))).mono ?_; clear cq cnt; rintro o u1 ⟨rfl, hu⟩; rw [hu]; clear hu)
    | (go_at_call 16; refine (cE.out _ (rbel_al (Below.refl _ _))).mono ?_; rintro o u2 ⟨ea, ec, rfl, hE, hb⟩; have HE : Hid (EHanded u2 ea m (egf (eoN N))) := hE; have B2 : Hid (Below u.heap.size u u2) := rbel_on hb (rbel_al (Below.refl _ _)); have R2 : Hid (Row u2 u.heap.size [.int .i64 0, .int .i64 0]) := Row.on hb (Row.made rfl); have N2 : Hid (NN u2 mb L N) := HR.out.on B2.out; have c1 := N2.out.r.c 1 _ rfl; have l2 := N2.out.r.lt; clear hE hb)
    | (go_at_call 36; refine (cB.out _ _ _ HE.out).mono ?_; rintro o u3 ⟨rfl, hb⟩; have B3 : Hid (Below u.heap.size u u3) := rbel_on hb B2.out; have r := Row.on hb R2.out; have r0 := r.c 0 _ rfl; have r1 := r.c 1 _ rfl; have f0 := r.f 0 _ rfl; have f1 := r.f 1 _ rfl; have lr := r.lt; clear hb r))
  exact bodyPost_ret (v := .tuple #[sp lo hi, ev]) (by simp [results, Tryz.results12, go_sem, *]) rfl ⟨rfl, rbel_put (Nat.le_refl _) (rbel_put (Nat.le_refl _) B3.out)⟩
theorem noff_any (h : NN u mb L N) (g : N.T) (x y lo hi e : Int) (hB : BetA N.W.n (egf (eoN N)) (eoN N).length x y lo hi e) :
    Calls Tryz.prog 12 #[.pointer (some ⟨mb, 0, none⟩), .int .i64 x, .int .i64 y] u fun o w' => o = .returned (.tuple #[.agg #[.int .i64 lo, .int .i64 hi], errc e]) ∧ Below u.heap.size u w' := by
  have hE := egs_e (eoN_egs g)
  by_cases hn : (0 ≤ x ∧ x < (N.W.n : Int)) ∧ (0 ≤ y ∧ y < (N.W.n : Int))
  · exact noff_go h g x y lo hi e hn.1 hn.2 hB
  · have hb : lo = 0 ∧ hi = 0 ∧ e = 1 := by
      rcases hB with ⟨q, _⟩ | ⟨_, _, q1, q2, q3⟩ | ⟨_, q, _⟩
      · exact absurd hE q
      · exact ⟨q1, q2, q3⟩
      · exact absurd ⟨⟨q.1, q.2.1⟩, q.2.2.1, q.2.2.2⟩ hn
    obtain ⟨rfl, rfl, rfl⟩ := hb
    rw [errc_not (by decide)]
    refine noff_no h g.g.i x y _ _ rfl rfl ?_
    cases q : decide (0 ≤ x ∧ x < (N.W.n : Int)) with
    | false => exact Or.inl rfl
    | true => exact Or.inr ⟨rfl, decide_eq_false (fun q' => hn ⟨of_decide_eq_true q, q'⟩)⟩
end
end Go.Proofs.YtnagdjipmpjaaaiGreatDoor
namespace Go.Proofs.YtnagdjipmpjaaaiGreatDoor
open Go.ChangeShapes Go.WideShapes Go.ChangeAt Go.RowKit
set_option linter.unusedVariables false

/-- .. and Offset. -/
structure NtO (w0 : World) extends Nt w0 where
  off : ∀ (b : Nat) (F : Nat → Prop) (N : Nn) (x y lo hi e : Int) (u : World), R u b F N → N.T → In64 x → In64 y → BetA N.W.n (egf (eoN N)) (eoN N).length x y lo hi e → Calls Tryz.prog 12 #[.pointer (some ⟨b, 0, none⟩), .int .i64 x, .int .i64 y] u fun o w' => o = .returned (.tuple #[.agg #[.int .i64 lo, .int .i64 hi], errc e]) ∧ Below u.heap.size u w'
end Go.Proofs.YtnagdjipmpjaaaiGreatDoor
namespace Go.Proofs.YtnagdjipmpjaaaiGreatDoor
open Go.ChangeShapes Go.WideShapes Go.ChangeAt Go.RowKit Go.Joins
set_option linter.unusedVariables false
set_option linter.unusedSimpArgs false

def nto (w : World) : NtO w := { ntt w with
  off := fun b F N x y lo hi e u hR hT _ _ hB => by
    obtain ⟨L, hP, rfl⟩ := hR
    exact noff_any hP hT x y lo hi e hB
  }
end Go.Proofs.YtnagdjipmpjaaaiGreatDoor
namespace Go.Proofs.YtnagdjipmpjaaaiGreatDoor
open Go.ChangeShapes Go.WideShapes Go.ChangeAt Go.RowKit
set_option linter.unusedVariables false

/-- .. and Show. -/
structure NtR (w0 : World) extends NtO w0 where
  read : ∀ (b : Nat) (F : Nat → Prop) (N : Nn) (i : Int) (u : World), R u b F N → N.T → In64 i → Calls Tryz.prog 19 #[.pointer (some ⟨b, 0, none⟩), .int .i64 i] u fun o w' => ((N.W.hs i ∧ o = .returned (.tuple #[.int .i64 (N.W.rd i.toNat), errc 0])) ∨ (¬ N.W.hs i ∧ o = .returned (.tuple #[.int .i64 0, errc 1]))) ∧ Below u.heap.size u w'
end Go.Proofs.YtnagdjipmpjaaaiGreatDoor
namespace Go.Proofs.YtnagdjipmpjaaaiGreatDoor
open Go.ChangeShapes Go.WideShapes Go.ChangeAt Go.RowKit Go.Joins
set_option linter.unusedVariables false
set_option linter.unusedSimpArgs false

section
variable {w u : World} {mb sc rc lb lc : Nat} {sa ra : Option Addr} {N : Nn} {v : Value} {nb : Nat → Nat}
set_option maxRecDepth 100000 in
set_option maxHeartbeats 4000000 in
theorem roff_bad (hR : RNt w u mb sa sc ra rc N v lb lc nb) (hT : N.T) (x y : Int) (h : x < 0 ∨ (N.W.n : Int) ≤ x ∨ y < 0 ∨ (N.W.n : Int) ≤ y) :
    Calls Tryz.prog 11 #[.pointer (some ⟨mb, 0, none⟩), .int .i64 x, .int .i64 y] u fun o w' => o = .returned (.tuple #[.agg #[.int .i64 0, .int .i64 0], .int .i64 1]) ∧ Below u.heap.size u w' := by
  have m4 := hR.m.r.c 4 _ rfl
  have zM := hR.m.r.lt
  have d : x < 0 ∨ (¬ x < 0 ∧ (N.W.n : Int) ≤ x) ∨ (¬ x < 0 ∧ ¬ (N.W.n : Int) ≤ x ∧ y < 0) ∨ (¬ x < 0 ∧ ¬ (N.W.n : Int) ≤ x ∧ ¬ y < 0 ∧ (N.W.n : Int) ≤ y) := by omega
  have h6 := hT.g.i.n6
  clear hR hT h
  rcases d with d1 | ⟨d1, d2⟩ | ⟨d1, d2, d3⟩ | ⟨d1, d2, d3, d4⟩
  all_goals
    go_enter Tryz.func11, Tryz.ntmps11
    go_wp2
    exact bodyPost_ret (v := .tuple #[.agg #[.int .i64 0, .int .i64 0], .int .i64 1]) (by simp [results, Tryz.results11, go_sem, *]) rfl ⟨rfl, by first | exact rbel_put (Nat.le_refl _) (rbel_put (Nat.le_refl _) (rbel_al (Below.refl _ _))) | exact rbel_al (Below.refl _ _)⟩
set_option maxRecDepth 100000 in
set_option maxHeartbeats 8000000 in
theorem roff_in (hR : RNt w u mb sa sc ra rc N v lb lc nb) (hT : N.T) (T : Tb) (hA : AllA (egf (eoN N)) (eoN N).length N.W.n 0 T) (i j : Nat) (hi : i < N.W.n) (hj : j < N.W.n) (lo hi' e : Int) (h : (T i j = none ∧ lo = 0 ∧ hi' = 0 ∧ e = 5) ∨ ((∃ x, T i j = some x) ∧ lo = spLo T i j ∧ hi' = spHi T i j ∧ e = 0)) :
    Calls Tryz.prog 11 #[.pointer (some ⟨mb, 0, none⟩), .int .i64 i, .int .i64 j] u fun o w' => o = .returned (.tuple #[.agg #[.int .i64 lo, .int .i64 hi'], .int .i64 e]) ∧ Below u.heap.size u w' := by
  have HR : Hid (RNt w u mb sa sc ra rc N v lb lc nb) := hR
  have HT : Hid N.T := hT
  have m4 := hR.m.r.c 4 _ rfl
  have zM := hR.m.r.lt
  have h6 := hT.g.i.n6
  have d1 : ¬ ((i : Int) < 0) := by omega
  have d2 : ¬ ((N.W.n : Int) ≤ (i : Int)) := by omega
  have d3 : ¬ ((j : Int) < 0) := by omega
  have d4 : ¬ ((N.W.n : Int) ≤ (j : Int)) := by omega
  have hii : (i : Int) < N.W.n := by omega
  have hjj : (j : Int) < N.W.n := by omega
  have cE := rnedges_net (hR.on (u' := u.alloc (.cells #[.int .i64 0, .int .i64 0] 38)) (rbel_al (Below.refl _ _))) hT
  have cB : Hid (∀ (W : World) (ea : Option Addr) (ec : Nat), EHanded W ea (eoN N).length (egf (eoN N)) → Calls Tryz.prog 34 #[.int .i64 N.W.n, .slice ea (eoN N).length ec] W fun o w' => ∃ s h, o = .returned (.tuple #[s, h, .int .i64 0]) ∧ STab w' s h N.W.n T ∧ Below W.heap.size W w') := fun W ea ec hE => rbounds_at N.W.n ea (eoN N).length ec (egf (eoN N)) W (eoN_egs hT) hE T hA
  have B0 : Hid (Below u.heap.size u (u.alloc (.cells #[.int .i64 0, .int .i64 0] 38))) := rbel_al (Below.refl _ _)
  have R0 : Hid (Row (u.alloc (.cells #[.int .i64 0, .int .i64 0] 38)) u.heap.size [.int .i64 0, .int .i64 0]) := Row.made rfl
  clear hR hT hA
  generalize eoN N = EL at *
  go_enter Tryz.func11, Tryz.ntmps11
  go_upto_region 9 with (first
    | (go_at_call 15; refine cE.mono ?_; rintro o x1 ⟨ea, ec, rfl, hE, hb⟩; have B1 : Hid (Below u.heap.size u x1) := rbel_on hb B0.out; have R1 : Hid (Row x1 u.heap.size [.int .i64 0, .int .i64 0]) := Row.on hb R0.out; have HE : Hid (EHanded x1 ea EL.length (egf EL)) := hE; have n4 := (B1.out.cell (p := ⟨mb, 4, none⟩) zM).trans m4; have zM1 : mb < x1.heap.size := Nat.lt_of_lt_of_le zM B1.out.size; clear hb hE)
    | (go_at_call 34; refine (cB.out _ _ _ HE.out).mono ?_; rintro o x2 ⟨s, hh, rfl, hS, hb⟩; have B2 : Hid (Below u.heap.size u x2) := rbel_on hb B1.out; have R2 : Hid (Row x2 u.heap.size [.int .i64 0, .int .i64 0]) := Row.on hb R1.out; have HS : Hid (STab x2 s hh N.W.n T) := hS; clear hb hS))
  obtain ⟨sb, so, scc, hb, ho, hc, rb, ro, rcc, gb, go, gc, e1, e2, r1, r2⟩ := (show STab x2 s hh N.W.n T from HS.out)
  subst e1
  subst e2
  have a1 := (r1 i hi).1
  have a2 := (r1 i hi).2
  obtain ⟨b1, b2, b3⟩ := r2 i j hi hj
  have c0 := R2.out.c 0 _ rfl
  have c1 := R2.out.c 1 _ rfl
  have f0 := R2.out.f 0 _ rfl
  have f1 := R2.out.f 1 _ rfl
  have zu := R2.out.lt
  have y1 := World.block_lt_of_cell? _ _ a1
  have y2 := World.block_lt_of_cell? _ _ a2
  have y3 := World.block_lt_of_cell? _ _ b1
  have y4 := World.block_lt_of_cell? _ _ b3
  clear r1 r2 HS B1 R1 HE n4 zM1 B0 R0 cE cB m4
  rcases h with ⟨e, rfl, rfl, rfl⟩ | ⟨⟨x, e⟩, rfl, rfl, rfl⟩
  · rw [e] at b3
    simp only [Option.isSome_none] at b3
    clear b1 b2 a1
    go_wp2
    exact bodyPost_ret (v := .tuple #[.agg #[.int .i64 0, .int .i64 0], .int .i64 5]) (by simp [results, Tryz.results11, go_sem, *]) rfl ⟨rfl, by first | exact rbel_put (Nat.le_refl _) (rbel_put (Nat.le_refl _) B2.out) | exact B2.out⟩
  · rw [e] at b3
    simp only [Option.isSome_some] at b3
    go_wp2
    exact bodyPost_ret (v := .tuple #[.agg #[.int .i64 (spLo T i j), .int .i64 (spHi T i j)], .int .i64 0]) (by simp [results, Tryz.results11, go_sem, *]) rfl ⟨rfl, rbel_put (Nat.le_refl _) (rbel_put (Nat.le_refl _) B2.out)⟩
theorem roff_at (hR : RNt w u mb sa sc ra rc N v lb lc nb) (hT : N.T) (x y lo hi e : Int) (h : BetA N.W.n (egf (eoN N)) (eoN N).length x y lo hi e) :
    Calls Tryz.prog 11 #[.pointer (some ⟨mb, 0, none⟩), .int .i64 x, .int .i64 y] u fun o w' => o = .returned (.tuple #[.agg #[.int .i64 lo, .int .i64 hi], .int .i64 e]) ∧ Below u.heap.size u w' := by
  have h0 := egs_e (eoN_egs hT)
  rcases h with ⟨h, _⟩ | ⟨_, h, rfl, rfl, rfl⟩ | ⟨_, h, f, T, hA, q⟩
  · exact absurd h0 h
  · exact roff_bad hR hT x y (by omega)
  · rw [Int.toNat_natCast] at hA
    obtain ⟨T0, hA0⟩ := eoN_all hT
    have f0 := hA.e_one hA0
    subst f0
    obtain ⟨i, rfl⟩ : ∃ i : Nat, x = i := ⟨x.toNat, by omega⟩
    obtain ⟨j, rfl⟩ : ∃ j : Nat, y = j := ⟨y.toNat, by omega⟩
    rw [Int.toNat_natCast, Int.toNat_natCast] at q
    refine roff_in hR hT T hA i j (by omega) (by omega) lo hi e ?_
    rcases q with ⟨c, _⟩ | ⟨_, a, b, c, d⟩ | ⟨_, a, b, c, d⟩
    · exact absurd rfl c
    · exact Or.inl ⟨a, b, c, d⟩
    · exact Or.inr ⟨a, b, c, d⟩
end
end Go.Proofs.YtnagdjipmpjaaaiGreatDoor
