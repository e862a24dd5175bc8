/- What the document's own world (package noonref2) answers of an act: Deliver, Lose. -/
import Derived.Test.YtnagdjipmpjaaaiGreatDoorNm26
namespace Go.Proofs.YtnagdjipmpjaaaiGreatDoor
open Go.ChangeShapes Go.WideShapes Go.ChangeAt Go.RowKit Go.Joins
set_option linter.unusedVariables false
set_option linter.unusedSimpArgs false

set_option maxRecDepth 100000 in
set_option maxHeartbeats 4000000 in
theorem rdo_deliver {Ex : List Value} (w u : World) (mb sc rc : Nat) (sa ra : Option Addr) (S : Ws) (v : Value) (x y : Int) (hR : RW Ex w u mb sa sc ra rc S v) (hI : S.I) (l : Lt) (k : Nat) (hk : S.under[k]? = some l) (ex : x = k) :
    Calls Tryz.prog 31 #[.pointer (some ⟨mb, 0, none⟩), .agg #[.int .i64 3, .int .i64 x, .int .i64 y]] u fun o w' => ∃ v', o = .returned (.tuple #[.agg #[.int .i64 l.frm, .int .i64 l.to, .bool l.ans, .int .i64 l.t1, .int .i64 l.t2, .int .i64 l.t], .bool true, .int .i64 0]) ∧ RW Ex w w' mb sa sc ra rc { S with under := S.under.eraseIdx k } v' ∧ Kp u w' mb v v' := by
  obtain ⟨va, vcap, rfl, hform⟩ := hR.len
  have kl : k < S.under.length := by
    rcases Nat.lt_or_ge k S.under.length with h | h
    · exact h
    · rw [List.getElem?_eq_none h] at hk; cases hk
  obtain ⟨g, rfl, gc, gl, gu, gm, gL⟩ := hform.resolve_left (fun h => by rw [h.2.1] at kl; exact absurd kl (by simp))
  have HR : Hid (RW Ex w u mb sa sc ra rc S (.slice (some ⟨g, 0, none⟩) S.under.length vcap)) := hR
  have HL : Hid (Lts u g 0 S.under) := gL
  have c3 := hR.r.c 3 _ rfl
  have f3 := hR.r.f 3 _ rfl
  have zb : mb < u.heap.size := hR.r.lt
  have lh := hI.un
  have LL := gL k l hk
  obtain ⟨l1, l2, l3, l4, l5, l6⟩ := l
  have a0 : u.cell? ⟨g, k * 6, none⟩ = some (.int .i64 l1) := by have := LL 0 _ rfl; simpa using this
  have a1 : u.cell? ⟨g, k * 6 + 1, none⟩ = some (.int .i64 l2) := by have := LL 1 _ rfl; simpa using this
  have a2 : u.cell? ⟨g, k * 6 + 2, none⟩ = some (.bool l3) := by have := LL 2 _ rfl; simpa using this
  have a3 : u.cell? ⟨g, k * 6 + 3, none⟩ = some (.int .i64 l4) := by have := LL 3 _ rfl; simpa using this
  have a4 : u.cell? ⟨g, k * 6 + 4, none⟩ = some (.int .i64 l5) := by have := LL 4 _ rfl; simpa using this
  have a5 : u.cell? ⟨g, k * 6 + 5, none⟩ = some (.int .i64 l6) := by have := LL 5 _ rfl; simpa using this
  subst ex
  have d1 : decide ((k : Int) < 0) = false := decide_eq_false (by omega)
  have d2 : decide ((S.under.length : Int) ≤ (k : Int)) = false := decide_eq_false (by omega)
  have d3 : (k : Int) < (S.under.length : Int) := by omega
  have hwsz := hR.hw.size
  clear hR hI gL LL
  obtain ⟨i0, hi0, hz0, hz1, hz2⟩ := info_parts infoLetter
  have HK : Hid (S.under[k]? = some ⟨l1, l2, l3, l4, l5, l6⟩) := hk
  have wk : IntKind.i64.wrap ((k : Int) + 1) = (k : Int) + 1 := IntWalk.i64_in _ (by omega)
  clear hk hform
  go_enter Tryz.func31, Tryz.ntmps31
  go_wp2
  go_quiet (fail)
  go_wp2
  have BW : Hid (Below u.heap.size u (((u.alloc (Obj.cells #[.int .i64 3, .int .i64 (k : Int), .int .i64 y] 35)).alloc (Obj.cells #[.int .i64 0, .int .i64 0, .bool false, .int .i64 0, .int .i64 0, .int .i64 0] 98)).drewN nq)) := rbel_drn (rbel_al (rbel_al (Below.refl _ _)))
  have RA : Hid (Row (((u.alloc (Obj.cells #[.int .i64 3, .int .i64 (k : Int), .int .i64 y] 35)).alloc (Obj.cells #[.int .i64 0, .int .i64 0, .bool false, .int .i64 0, .int .i64 0, .int .i64 0] 98)).drewN nq) u.heap.size [.int .i64 3, .int .i64 (k : Int), .int .i64 y]) := Row.drn (Row.al (Row.made rfl))
  have RZ : Hid (Row (((u.alloc (Obj.cells #[.int .i64 3, .int .i64 (k : Int), .int .i64 y] 35)).alloc (Obj.cells #[.int .i64 0, .int .i64 0, .bool false, .int .i64 0, .int .i64 0, .int .i64 0] 98)).drewN nq) (u.heap.size + 1) [.int .i64 0, .int .i64 0, .bool false, .int .i64 0, .int .i64 0, .int .i64 0]) := Row.drn (Row.made (by simp))
  generalize ((u.alloc (Obj.cells #[.int .i64 3, .int .i64 (k : Int), .int .i64 y] 35)).alloc (Obj.cells #[.int .i64 0, .int .i64 0, .bool false, .int .i64 0, .int .i64 0, .int .i64 0] 98)).drewN nq = W at *
  have HW : Hid (RW Ex w W mb sa sc ra rc S (.slice (some ⟨g, 0, none⟩) S.under.length vcap)) := RW.on BW.out HR.out
  have sw : u.heap.size + 1 < W.heap.size := RZ.out.lt
  have sw2 : u.heap.size < W.heap.size := by omega
  have gw : g < W.heap.size := by omega
  have mw : mb < W.heap.size := by omega
  have e3 := HW.out.r.c 3 _ rfl
  have h3 := HW.out.r.f 3 _ rfl
  have r0 := RA.out.c 0 _ rfl
  have r1 := RA.out.c 1 _ rfl
  have b0 := (BW.out.cell (p := ⟨g, k * 6, none⟩) gu).trans a0
  have b1 := (BW.out.cell (p := ⟨g, k * 6 + 1, none⟩) gu).trans a1
  have b2 := (BW.out.cell (p := ⟨g, k * 6 + 2, none⟩) gu).trans a2
  have b3 := (BW.out.cell (p := ⟨g, k * 6 + 3, none⟩) gu).trans a3
  have b4 := (BW.out.cell (p := ⟨g, k * 6 + 4, none⟩) gu).trans a4
  have b5 := (BW.out.cell (p := ⟨g, k * 6 + 5, none⟩) gu).trans a5
  have z0 := RZ.out.c 0 _ rfl
  have y0 := RZ.out.f 0 _ rfl
  have z1 := RZ.out.c 1 _ rfl
  have y1 := RZ.out.f 1 _ rfl
  have z2 := RZ.out.c 2 _ rfl
  have y2 := RZ.out.f 2 _ rfl
  have z3 := RZ.out.c 3 _ rfl
  have y3 := RZ.out.f 3 _ rfl
  have z4 := RZ.out.c 4 _ rfl
  have y4 := RZ.out.f 4 _ rfl
  have z5 := RZ.out.c 5 _ rfl
  have y5 := RZ.out.f 5 _ rfl
  clear a0 a1 a2 a3 a4 a5 c3 f3
  go_region
  have BX : Hid (Below u.heap.size u ((W.alloc (Obj.cells #[.int .i64 l1, .int .i64 l2, .bool l3, .int .i64 l4, .int .i64 l5, .int .i64 l6] 98)).drew)) := rbel_dr (rbel_al BW.out)
  have RAX : Hid (Row ((W.alloc (Obj.cells #[.int .i64 l1, .int .i64 l2, .bool l3, .int .i64 l4, .int .i64 l5, .int .i64 l6] 98)).drew) u.heap.size [.int .i64 3, .int .i64 (k : Int), .int .i64 y]) := Row.dr (Row.al RA.out)
  have RZX : Hid (Row ((W.alloc (Obj.cells #[.int .i64 l1, .int .i64 l2, .bool l3, .int .i64 l4, .int .i64 l5, .int .i64 l6] 98)).drew) (u.heap.size + 1) [.int .i64 0, .int .i64 0, .bool false, .int .i64 0, .int .i64 0, .int .i64 0]) := Row.dr (Row.al RZ.out)
  have RLX : Hid (Row ((W.alloc (Obj.cells #[.int .i64 l1, .int .i64 l2, .bool l3, .int .i64 l4, .int .i64 l5, .int .i64 l6] 98)).drew) W.heap.size [.int .i64 l1, .int .i64 l2, .bool l3, .int .i64 l4, .int .i64 l5, .int .i64 l6]) := Row.dr (Row.made rfl)
  clear r0 r1 b0 b1 b2 b3 b4 b5 z0 z1 z2 z3 z4 z5 y0 y1 y2 y3 y4 y5 e3 h3 HW RA RZ
  generalize ((W.alloc (Obj.cells #[.int .i64 l1, .int .i64 l2, .bool l3, .int .i64 l4, .int .i64 l5, .int .i64 l6] 98)).drew) = X at *
  have HX : Hid (RW Ex w X mb sa sc ra rc S (.slice (some ⟨g, 0, none⟩) S.under.length vcap)) := RW.on BX.out HR.out
  have sx : W.heap.size < X.heap.size := RLX.out.lt
  have sx1 : u.heap.size + 1 < X.heap.size := by omega
  have sx2 : u.heap.size < X.heap.size := by omega
  have mx : mb < X.heap.size := by omega
  have gx : g < X.heap.size := by omega
  have r0 := RAX.out.c 0 _ rfl
  have r1 := RAX.out.c 1 _ rfl
  have e3 := HX.out.r.c 3 _ rfl
  have k5 : (k : Int) ≤ (vcap : Int) := by omega
  have k6 : (k : Int) + 1 ≤ (S.under.length : Int) := by omega
  have k7 : (S.under.length : Int) ≤ (vcap : Int) := by omega
  have k8 : ¬ ((k : Int) < 0) := by omega
  go_wp2
  have NC : Hid (∀ j q, (lcs (S.under.take k))[j]? = some q → X.cell? ((⟨g, 0, none⟩ : Addr).add j) = some q) := fun j q hj => HX.out.o.cells rfl j q (by
    have e : lcs S.under = lcs (S.under.take k) ++ lcs (S.under.drop k) := by rw [← lcs_app, List.take_append_drop]
    rw [e, List.getElem?_append_left (by rcases Nat.lt_or_ge j (lcs (S.under.take k)).length with h | h; exact h; rw [List.getElem?_eq_none h] at hj; cases hj)]
    exact hj)
  have NL : Hid ((lcs (S.under.take k)).length = k * 6) := by show _ = _; rw [lcs_len, List.length_take]; congr 1; omega
  go_region_law (refine step_append_at rfl (.tmp 125) (.tmp 132) 53 rfl w.heap.size 98 i0 (.agg #[.int .i64 0, .int .i64 0, .bool false, .int .i64 0, .int .i64 0, .int .i64 0]) 6 48 Tryz.underlying53 hi0 hz0 hz1 hz2 rfl (by decide) (.slice none 0 0) 0 [] (by simp [Act.eval, Act.put]) (World.ownsRow_nil _ _ _ _) ⟨g, 0, none⟩ k vcap (lcs (S.under.take k)) (by simp [Act.eval, Act.put]) NL.out NC.out (lcs_one _) (by unfold maxLen; omega) (by omega) (by first | (simp; omega) | omega) ?_; intro v1 X1 hown1 hgrow1 hat1; rw [Nat.zero_add, List.nil_append] at hown1; obtain ⟨va1, vc1, rfl⟩ := own_slice hown1; have HO1 : Hid _ := hown1; have HG1 : Hid _ := hgrow1; have HA1 : Hid _ := hat1; clear hown1 hgrow1 hat1)
  all_goals
    have BX1 : Hid (Below u.heap.size u X1) := by first | exact (rbel_dr BX.out).grown HG1.out (by simp; omega) (fun j hj => by cases hj) | exact BX.out.grown HG1.out (by simp; omega) (fun j hj => by cases hj)
    have xs1 : X.heap.size ≤ X1.heap.size := by first | exact HG1.out.size
    have KB : ∀ b, b < X.heap.size → X1.heap[b]? = X.heap[b]? := fun b hb => HG1.out.block b hb (fun e => by cases e)
    have HX1 : Hid (RW Ex w X1 mb sa sc ra rc S (.slice (some ⟨g, 0, none⟩) S.under.length vcap)) := RW.on BX1.out HR.out
    have RA1 : Hid (Row X1 u.heap.size [.int .i64 3, .int .i64 (k : Int), .int .i64 y]) := row_block (KB _ sx2) RAX.out
    have RZ1 : Hid (Row X1 (u.heap.size + 1) [.int .i64 0, .int .i64 0, .bool false, .int .i64 0, .int .i64 0, .int .i64 0]) := row_block (KB _ sx1) RZX.out
    have RL1 : Hid (Row X1 W.heap.size [.int .i64 l1, .int .i64 l2, .bool l3, .int .i64 l4, .int .i64 l5, .int .i64 l6]) := row_block (KB _ sx) RLX.out
    have OB : Hid (∀ j, (Value.slice va1 k vc1).ownBlock = some j → X.heap.size ≤ j) := fun j hj => by
      rcases HA1.out with e | e
      · rw [hj] at e; cases e
      · rw [hj] at e; injection e with e; rw [e]; exact Nat.le_refl _
    have NC2 : Hid (∀ j q, (lcs (S.under.drop (k + 1)))[j]? = some q → X1.cell? ((⟨g, (k + 1) * 6, none⟩ : Addr).add j) = some q) := fun j q hj => by
      have e : lcs S.under = lcs (S.under.take (k + 1)) ++ lcs (S.under.drop (k + 1)) := by rw [← lcs_app, List.take_append_drop]
      have l : (lcs (S.under.take (k + 1))).length = (k + 1) * 6 := by rw [lcs_len, List.length_take]; congr 1; omega
      have := HX1.out.o.cells (g := g) rfl ((k + 1) * 6 + j) q (by rw [e, List.getElem?_append_right (by omega), l, Nat.add_sub_cancel_left]; exact hj)
      rw [Addr.add_lit] at this ⊢
      rw [Nat.zero_add] at this
      exact this
    have NL2 : Hid ((lcs (S.under.drop (k + 1))).length = (S.under.length - (k + 1)) * 6) := by show _ = _; rw [lcs_len, List.length_drop]
    have ND : Hid (vcap = k + 1 → lcs (S.under.drop (k + 1)) = []) := fun e => by rw [List.drop_eq_nil_of_le (by omega)]; rfl
    clear r0 r1 e3
    have w0 := RA1.out.c 0 _ rfl
    have w1 := RA1.out.c 1 _ rfl
    have w3 := HX1.out.r.c 3 _ rfl
    have m1 : mb < X1.heap.size := by omega
    have n1 : u.heap.size < X1.heap.size := by omega
    have n2 : u.heap.size + 1 < X1.heap.size := by omega
    have k9 : ¬ ((k : Int) + 1 < 0) := by omega
    have BXB : Hid (∀ W', Below u.heap.size u W' → X1.heap.size ≤ W'.heap.size → True) := fun _ _ _ => trivial
    clear HG1 HA1 NC NL HX RAX RZX RLX BX KB
    go_wp2
    by_cases hc : vcap = k + 1
    · go_region_law (refine step_append_at rfl (.tmp 135) (.tmp 143) 53 rfl w.heap.size 98 i0 (.agg #[.int .i64 0, .int .i64 0, .bool false, .int .i64 0, .int .i64 0, .int .i64 0]) 6 48 Tryz.underlying53 hi0 hz0 hz1 hz2 rfl (by decide) (.slice va1 k vc1) k (lcs (S.under.take k)) (by simp [Act.eval, Act.put]) HO1.out ⟨g, 0, none⟩ (S.under.length - (k + 1)) (vcap - (k + 1)) (lcs (S.under.drop (k + 1))) (by simp [Act.eval, Act.put, hc]) NL2.out (fun j q hj => by rw [ND.out hc] at hj; cases hj) (lcs_one _) (by unfold maxLen; omega) (by omega) (by first | (simp; omega) | omega) ?_; intro v2 X2 hown2 hgrow2 hat2; obtain ⟨va2, vc2, rfl⟩ := own_slice hown2; have mr2 : Row X2 mb (.slice sa S.n sc :: .slice ra S.n rc :: .int .i64 S.time :: .slice (some ⟨g, 0, none⟩) S.under.length vcap :: Ex) := (by first | exact row_grown hgrow2 (by simp; omega) (fun e => by have := OB.out _ e; omega) HX1.out.r | exact row_grown hgrow2 (by simp; omega) (fun e => by have := OB.out _ e; omega) (Row.dr HX1.out.r)); have m3 := mr2.c 3 _ rfl; have q3 := mr2.f 3 _ rfl; have HO2 : Hid _ := hown2; have HG2 : Hid _ := hgrow2; have HA2 : Hid _ := hat2; have lw2 := mr2.lt; clear mr2 hown2 hgrow2 hat2)
      all_goals
        have OB2 : ∀ j, (Value.slice va2 (k + (S.under.length - (k + 1))) vc2).ownBlock = some j → X.heap.size ≤ j := by
          intro j hj
          rcases HA2.out with e | e
          · exact OB.out j (e.symm.trans hj)
          · rw [hj] at e; injection e with e; rw [e]; exact xs1
        have BX2 : Below u.heap.size u X2 := by first | exact (rbel_dr BX1.out).grown HG2.out (by simp; omega) (fun j hj => by have := OB.out j hj; omega) | exact BX1.out.grown HG2.out (by simp; omega) (fun j hj => by have := OB.out j hj; omega)
        have LE : lcs (S.under.take k) ++ lcs (S.under.drop (k + 1)) = lcs (S.under.eraseIdx k) := by rw [← lcs_app, List.eraseIdx_eq_take_drop_succ]
        have LN : k + (S.under.length - (k + 1)) = (S.under.eraseIdx k).length := by rw [List.length_eraseIdx_of_lt kl]; omega
        have HO3 : X2.ownsRow w.heap.size 98 6 (Value.slice va2 (k + (S.under.length - (k + 1))) vc2) (k + (S.under.length - (k + 1))) (lcs (S.under.eraseIdx k)) := by rw [← LE]; exact HO2.out
        obtain ⟨g1, g2⟩ := RW.turn HR.out BX2 HO3 LN (fun j hj => by have := OB2 j hj; omega)
        have KB2 : ∀ b, b < X.heap.size → X2.heap[b]? = X1.heap[b]? := fun b hb => HG2.out.block b (by first | (simp; omega) | omega) (fun e => by have := OB.out b e.symm; omega)
        have RA2 : Hid (Row (X2.setCell ⟨mb, 3, none⟩ (Value.slice va2 (k + (S.under.length - (k + 1))) vc2)) u.heap.size [.int .i64 3, .int .i64 (k : Int), .int .i64 y]) := Row.far (by omega) (row_block (KB2 _ sx2) RA1.out)
        have RZ2 : Hid (Row (X2.setCell ⟨mb, 3, none⟩ (Value.slice va2 (k + (S.under.length - (k + 1))) vc2)) (u.heap.size + 1) [.int .i64 0, .int .i64 0, .bool false, .int .i64 0, .int .i64 0, .int .i64 0]) := Row.far (by omega) (row_block (KB2 _ sx1) RZ1.out)
        have RL2 : Hid (Row (X2.setCell ⟨mb, 3, none⟩ (Value.slice va2 (k + (S.under.length - (k + 1))) vc2)) W.heap.size [.int .i64 l1, .int .i64 l2, .bool l3, .int .i64 l4, .int .i64 l5, .int .i64 l6]) := Row.far (by omega) (row_block (KB2 _ sx) RL1.out)
        have G1 : Hid _ := RW.six (a0 := .int .i64 l1) (a1 := .int .i64 l2) (a2 := .bool l3) (a3 := .int .i64 l4) (a4 := .int .i64 l5) (a5 := .int .i64 l6) g1 (show u.heap.size + 1 ≠ mb by omega) (fun e => by have := OB2 _ e; omega) (by omega)
        have G2 : Hid _ := Kp.six (b := u.heap.size + 1) (a0 := .int .i64 l1) (a1 := .int .i64 l2) (a2 := .bool l3) (a3 := .int .i64 l4) (a4 := .int .i64 l5) (a5 := .int .i64 l6) g2 (by omega)
        clear g1 g2 OB2 BX2 LE LN HO3 KB2 HO2 HG2 HA2 m3 q3 lw2 w0 w1 w3 RA1 RZ1 RL1 HX1 BX1 HO1 OB NC2 NL2 ND
        generalize (X2.setCell ⟨mb, 3, none⟩ (Value.slice va2 (k + (S.under.length - (k + 1))) vc2)) = Y at *
        have t1 : W.heap.size < Y.heap.size := RL2.out.lt
        have t2 : u.heap.size + 1 < Y.heap.size := by omega
        have t3 : u.heap.size < Y.heap.size := by omega
        have w0 := RA2.out.c 0 _ rfl
        have z0 := RZ2.out.c 0 _ rfl
        have y0 := RZ2.out.f 0 _ rfl
        have l0_ := RL2.out.c 0 _ rfl
        have z1 := RZ2.out.c 1 _ rfl
        have y1 := RZ2.out.f 1 _ rfl
        have l1_ := RL2.out.c 1 _ rfl
        have z2 := RZ2.out.c 2 _ rfl
        have y2 := RZ2.out.f 2 _ rfl
        have l2_ := RL2.out.c 2 _ rfl
        have z3 := RZ2.out.c 3 _ rfl
        have y3 := RZ2.out.f 3 _ rfl
        have l3_ := RL2.out.c 3 _ rfl
        have z4 := RZ2.out.c 4 _ rfl
        have y4 := RZ2.out.f 4 _ rfl
        have l4_ := RL2.out.c 4 _ rfl
        have z5 := RZ2.out.c 5 _ rfl
        have y5 := RZ2.out.f 5 _ rfl
        have l5_ := RL2.out.c 5 _ rfl
        go_wp2
        exact bodyPost_ret (v := .tuple #[.agg #[.int .i64 l1, .int .i64 l2, .bool l3, .int .i64 l4, .int .i64 l5, .int .i64 l6], .bool true, .int .i64 0]) (by simp [results, Tryz.results31, go_sem, *]) rfl ⟨_, rfl, G1.out, G2.out⟩
    · go_region_law (refine step_append_at rfl (.tmp 135) (.tmp 143) 53 rfl w.heap.size 98 i0 (.agg #[.int .i64 0, .int .i64 0, .bool false, .int .i64 0, .int .i64 0, .int .i64 0]) 6 48 Tryz.underlying53 hi0 hz0 hz1 hz2 rfl (by decide) (.slice va1 k vc1) k (lcs (S.under.take k)) (by simp [Act.eval, Act.put]) HO1.out ⟨g, (k + 1) * 6, none⟩ (S.under.length - (k + 1)) (vcap - (k + 1)) (lcs (S.under.drop (k + 1))) (by simp [Act.eval, Act.put, hc]) NL2.out NC2.out (lcs_one _) (by unfold maxLen; omega) (by omega) (by first | (simp; omega) | omega) ?_; intro v2 X2 hown2 hgrow2 hat2; obtain ⟨va2, vc2, rfl⟩ := own_slice hown2; have mr2 : Row X2 mb (.slice sa S.n sc :: .slice ra S.n rc :: .int .i64 S.time :: .slice (some ⟨g, 0, none⟩) S.under.length vcap :: Ex) := (by first | exact row_grown hgrow2 (by simp; omega) (fun e => by have := OB.out _ e; omega) HX1.out.r | exact row_grown hgrow2 (by simp; omega) (fun e => by have := OB.out _ e; omega) (Row.dr HX1.out.r)); have m3 := mr2.c 3 _ rfl; have q3 := mr2.f 3 _ rfl; have HO2 : Hid _ := hown2; have HG2 : Hid _ := hgrow2; have HA2 : Hid _ := hat2; have lw2 := mr2.lt; clear mr2 hown2 hgrow2 hat2)
      all_goals
        have OB2 : ∀ j, (Value.slice va2 (k + (S.under.length - (k + 1))) vc2).ownBlock = some j → X.heap.size ≤ j := by
          intro j hj
          rcases HA2.out with e | e
          · exact OB.out j (e.symm.trans hj)
          · rw [hj] at e; injection e with e; rw [e]; exact xs1
        have BX2 : Below u.heap.size u X2 := by first | exact (rbel_dr BX1.out).grown HG2.out (by simp; omega) (fun j hj => by have := OB.out j hj; omega) | exact BX1.out.grown HG2.out (by simp; omega) (fun j hj => by have := OB.out j hj; omega)
        have LE : lcs (S.under.take k) ++ lcs (S.under.drop (k + 1)) = lcs (S.under.eraseIdx k) := by rw [← lcs_app, List.eraseIdx_eq_take_drop_succ]
        have LN : k + (S.under.length - (k + 1)) = (S.under.eraseIdx k).length := by rw [List.length_eraseIdx_of_lt kl]; omega
        have HO3 : X2.ownsRow w.heap.size 98 6 (Value.slice va2 (k + (S.under.length - (k + 1))) vc2) (k + (S.under.length - (k + 1))) (lcs (S.under.eraseIdx k)) := by rw [← LE]; exact HO2.out
        obtain ⟨g1, g2⟩ := RW.turn HR.out BX2 HO3 LN (fun j hj => by have := OB2 j hj; omega)
        have KB2 : ∀ b, b < X.heap.size → X2.heap[b]? = X1.heap[b]? := fun b hb => HG2.out.block b (by first | (simp; omega) | omega) (fun e => by have := OB.out b e.symm; omega)
        have RA2 : Hid (Row (X2.setCell ⟨mb, 3, none⟩ (Value.slice va2 (k + (S.under.length - (k + 1))) vc2)) u.heap.size [.int .i64 3, .int .i64 (k : Int), .int .i64 y]) := Row.far (by omega) (row_block (KB2 _ sx2) RA1.out)
        have RZ2 : Hid (Row (X2.setCell ⟨mb, 3, none⟩ (Value.slice va2 (k + (S.under.length - (k + 1))) vc2)) (u.heap.size + 1) [.int .i64 0, .int .i64 0, .bool false, .int .i64 0, .int .i64 0, .int .i64 0]) := Row.far (by omega) (row_block (KB2 _ sx1) RZ1.out)
        have RL2 : Hid (Row (X2.setCell ⟨mb, 3, none⟩ (Value.slice va2 (k + (S.under.length - (k + 1))) vc2)) W.heap.size [.int .i64 l1, .int .i64 l2, .bool l3, .int .i64 l4, .int .i64 l5, .int .i64 l6]) := Row.far (by omega) (row_block (KB2 _ sx) RL1.out)
        have G1 : Hid _ := RW.six (a0 := .int .i64 l1) (a1 := .int .i64 l2) (a2 := .bool l3) (a3 := .int .i64 l4) (a4 := .int .i64 l5) (a5 := .int .i64 l6) g1 (show u.heap.size + 1 ≠ mb by omega) (fun e => by have := OB2 _ e; omega) (by omega)
        have G2 : Hid _ := Kp.six (b := u.heap.size + 1) (a0 := .int .i64 l1) (a1 := .int .i64 l2) (a2 := .bool l3) (a3 := .int .i64 l4) (a4 := .int .i64 l5) (a5 := .int .i64 l6) g2 (by omega)
        clear g1 g2 OB2 BX2 LE LN HO3 KB2 HO2 HG2 HA2 m3 q3 lw2 w0 w1 w3 RA1 RZ1 RL1 HX1 BX1 HO1 OB NC2 NL2 ND
        generalize (X2.setCell ⟨mb, 3, none⟩ (Value.slice va2 (k + (S.under.length - (k + 1))) vc2)) = Y at *
        have t1 : W.heap.size < Y.heap.size := RL2.out.lt
        have t2 : u.heap.size + 1 < Y.heap.size := by omega
        have t3 : u.heap.size < Y.heap.size := by omega
        have w0 := RA2.out.c 0 _ rfl
        have z0 := RZ2.out.c 0 _ rfl
        have y0 := RZ2.out.f 0 _ rfl
        have l0_ := RL2.out.c 0 _ rfl
        have z1 := RZ2.out.c 1 _ rfl
        have y1 := RZ2.out.f 1 _ rfl
        have l1_ := RL2.out.c 1 _ rfl
        have z2 := RZ2.out.c 2 _ rfl
        have y2 := RZ2.out.f 2 _ rfl
        have l2_ := RL2.out.c 2 _ rfl
        have z3 := RZ2.out.c 3 _ rfl
        have y3 := RZ2.out.f 3 _ rfl
        have l3_ := RL2.out.c 3 _ rfl
        have z4 := RZ2.out.c 4 _ rfl
        have y4 := RZ2.out.f 4 _ rfl
        have l4_ := RL2.out.c 4 _ rfl
        have z5 := RZ2.out.c 5 _ rfl
        have y5 := RZ2.out.f 5 _ rfl
        have l5_ := RL2.out.c 5 _ rfl
        go_wp2
        exact bodyPost_ret (v := .tuple #[.agg #[.int .i64 l1, .int .i64 l2, .bool l3, .int .i64 l4, .int .i64 l5, .int .i64 l6], .bool true, .int .i64 0]) (by simp [results, Tryz.results31, go_sem, *]) rfl ⟨_, rfl, G1.out, G2.out⟩
end Go.Proofs.YtnagdjipmpjaaaiGreatDoor
