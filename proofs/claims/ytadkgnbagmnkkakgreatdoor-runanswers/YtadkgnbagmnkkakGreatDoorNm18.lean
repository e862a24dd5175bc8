/- What bounds' tables learn: one span. What bounds' tables learn: what is known over one node; over all of them. What bounds' tables learn: over all nodes; of all edges. What bounds' tables are at first. What slices.ContainsFunc answers, at each closure that package bounds hands it. What bounds.Check answers, of any edges. What bounds.All and bounds.Between answer, of any edges. Package bounds: Between. -/
import Derived.Test.YtadkgnbagmnkkakGreatDoorNm06
import Derived.Lib.SmallJoins
import Derived.Deep.CutRange
import Derived.BigRegion
import Derived.BigQuiet
import Derived.Deep.QuietTactic
import Derived.IntWalk
import Derived.Test.YtadkgnbagmnkkakGreatDoorNm01
namespace Go.Proofs.YtadkgnbagmnkkakGreatDoor
open Go.ChangeShapes Go.WideShapes Go.ChangeAt Go.RowKit Go.Joins
set_option linter.unusedVariables false
set_option linter.unusedSimpArgs false

set_option maxHeartbeats 8000000
set_option maxRecDepth 100000
abbrev tbv (gs gk n : Nat) : Value := .agg #[.slice (some ⟨gs, 0, none⟩) n n, .slice (some ⟨gk, 0, none⟩) n n]
theorem learn_none (gs gk n a b : Nat) (Sb Kb : Nat → Nat) (P : Tx) (lo hi : Int) (w : World) (T : Tbx w gs gk n Sb Kb P) (ha : a < n) (hb : b < n) (h6 : n ≤ 6) (e : P a b = none) (B : Bool) (hB : decide (lo ≤ hi) = B) :
  Calls Tryz.prog 182 #[tbv gs gk n, .int .i64 a, .int .i64 b, sp lo hi] w fun e w' => e = .returned (.bool B) ∧ Tbx w' gs gk n Sb Kb (updx P a b (lo, hi)) ∧ Keeps (Rwx n Sb Kb) w w' := by
 have oS := T.outS.c a _ (outs_at Sb n a ha)
 have oK := T.outK.c a _ (outs_at Kb n a ha)
 have kk := (T.inK a ha).c b _ (rowK_at P n a b hb)
 rw [e] at kk
 have kk' : w.cell? ⟨Kb a, b, none⟩ = some (.bool false) := kk
 have s0 := (T.inS a ha).c _ _ (rowS_lo P n a b hb)
 have s1 := (T.inS a ha).c _ _ (rowS_hi P n a b hb)
 have fS := (T.inS a ha).f
 have fK := (T.inK a ha).f
 obtain ⟨l1, l2, l3⟩ := T.lt
 obtain ⟨l4, l5⟩ := l3 a ha
 have ha3 : (a : Int) < n := by omega
 have hb3 : (b : Int) < n := by omega
 have HT : Hid (Tbx w gs gk n Sb Kb P) := T
 have n1 : ¬ (gs = Sb a) := T.gsS ha
 have n2 : ¬ (gs = Kb a) := T.gsK ha
 have n3 : ¬ (gk = Sb a) := T.gkS ha
 have n4 : ¬ (gk = Kb a) := T.gkK ha
 have n5 : ¬ (Sb a = Kb a) := T.sk ha ha
 have n6 : ¬ (Kb a = Sb a) := fun e => n5 e.symm
 clear T e kk l3
 go_enter Tryz.func182, Tryz.ntmps182
 go_wp2
 go_region
 go_wp2
 go_ret
 exact ⟨rfl, (HT.out.put ha hb lo hi).al.al.dr, (((Keeps.put (S := Rwx n Sb Kb) ⟨a, ha, Or.inr rfl⟩ (Keeps.put (S := Rwx n Sb Kb) ⟨a, ha, Or.inl rfl⟩ (Keeps.put (S := Rwx n Sb Kb) ⟨a, ha, Or.inl rfl⟩ (Keeps.refl _ w))))).al.al.dr)⟩
theorem learn_some (gs gk n a b : Nat) (Sb Kb : Nat → Nat) (P : Tx) (lo hi l h : Int) (w : World) (T : Tbx w gs gk n Sb Kb P) (ha : a < n) (hb : b < n) (h6 : n ≤ 6) (e : P a b = some (l, h)) (x y : Int) (hx : (if lo < l then l else lo) = x) (hy : (if h < hi then h else hi) = y) (B : Bool) (hB : decide (x ≤ y) = B) :
  Calls Tryz.prog 182 #[tbv gs gk n, .int .i64 a, .int .i64 b, sp lo hi] w fun e w' => e = .returned (.bool B) ∧ Tbx w' gs gk n Sb Kb (updx P a b (x, y)) ∧ Keeps (Rwx n Sb Kb) w w' := by
 have oS := T.outS.c a _ (outs_at Sb n a ha)
 have oK := T.outK.c a _ (outs_at Kb n a ha)
 have kk := (T.inK a ha).c b _ (rowK_at P n a b hb)
 rw [e] at kk
 have kk' : w.cell? ⟨Kb a, b, none⟩ = some (.bool true) := kk
 have s0 := (T.inS a ha).c _ _ (rowS_lo P n a b hb)
 have s1 := (T.inS a ha).c _ _ (rowS_hi P n a b hb)
 rw [show xLo P a b = l by unfold xLo; rw [e]] at s0
 rw [show xHi P a b = h by unfold xHi; rw [e]] at s1
 have fS := (T.inS a ha).f
 have fK := (T.inK a ha).f
 obtain ⟨l1, l2, l3⟩ := T.lt
 obtain ⟨l4, l5⟩ := l3 a ha
 have ha3 : (a : Int) < n := by omega
 have hb3 : (b : Int) < n := by omega
 have HT : Hid (Tbx w gs gk n Sb Kb P) := T
 have n1 : ¬ (gs = Sb a) := T.gsS ha
 have n2 : ¬ (gs = Kb a) := T.gsK ha
 have n3 : ¬ (gk = Sb a) := T.gkS ha
 have n4 : ¬ (gk = Kb a) := T.gkK ha
 have n5 : ¬ (Sb a = Kb a) := T.sk ha ha
 have n6 : ¬ (Kb a = Sb a) := fun e => n5 e.symm
 clear T e kk l3
 go_enter Tryz.func182, Tryz.ntmps182
 go_wp2
 go_cut [] from 9 to 41 (fun w' => w' = ((w.alloc (.cells #[.slice (some ⟨gs, 0, none⟩) n n, .slice (some ⟨gk, 0, none⟩) n n] 258)).alloc (.cells #[.int .i64 x, .int .i64 y] 34)).drew)
 case first =>
  as_aux_lemma =>
   go_region
   go_wp2
   go_meet
   case rel => exact rfl
 case rest =>
  as_aux_lemma =>
   obtain ⟨W, hW⟩ : ∃ W, W = wc := ⟨_, rfl⟩
   have TW : Hid (Tbx W gs gk n Sb Kb P) := by rw [hW, hcut]; exact HT.out.al.al.dr
   have KW : Hid (Keeps (Rwx n Sb Kb) w W) := by rw [hW, hcut]; exact ((Keeps.refl _ w).al.al.dr : Keeps _ _ _)
   have RT : Row W w.heap.size [.slice (some ⟨gs, 0, none⟩) n n, .slice (some ⟨gk, 0, none⟩) n n] := by rw [hW, hcut]; exact (Row.made (vs := [.slice (some ⟨gs, 0, none⟩) n n, .slice (some ⟨gk, 0, none⟩) n n]) rfl).al.dr
   have RX : Row W (w.heap.size + 1) [.int .i64 x, .int .i64 y] := by rw [hW, hcut]; exact (Row.made (vs := [.int .i64 x, .int .i64 y]) (by simp)).dr
   subst hW
   clear hcut oS oK kk' s0 s1 fS fK hx hy
   have c0 := RT.c 0 _ rfl
   have c1 := RT.c 1 _ rfl
   have c2 := RX.c 0 _ rfl
   have c3 := RX.c 1 _ rfl
   clear RT RX
   have oS := TW.out.outS.c a _ (outs_at Sb n a ha)
   have oK := TW.out.outK.c a _ (outs_at Kb n a ha)
   have s0 := (TW.out.inS a ha).c _ _ (rowS_lo P n a b hb)
   have s1 := (TW.out.inS a ha).c _ _ (rowS_hi P n a b hb)
   have k0 := (TW.out.inK a ha).c b _ (rowK_at P n a b hb)
   have fS := (TW.out.inS a ha).f
   have fK := (TW.out.inK a ha).f
   have m1 : ¬ (w.heap.size + 1 = Sb a) := by omega
   have m2 : ¬ (w.heap.size + 1 = Kb a) := by omega
   have m3 : ¬ (Sb a = w.heap.size + 1) := by omega
   have m4 : ¬ (Kb a = w.heap.size + 1) := by omega
   go_wp2
   go_region
   go_wp2
   go_ret
   exact ⟨rfl, (TW.out.put ha hb x y).dr, (Keeps.put (S := Rwx n Sb Kb) ⟨a, ha, Or.inr rfl⟩ (Keeps.put (S := Rwx n Sb Kb) ⟨a, ha, Or.inl rfl⟩ (Keeps.put (S := Rwx n Sb Kb) ⟨a, ha, Or.inl rfl⟩ KW.out))).dr⟩
theorem learn_any (gs gk n a b : Nat) (Sb Kb : Nat → Nat) (P : Tx) (lo hi : Int) (w : World) (T : Tbx w gs gk n Sb Kb P) (ha : a < n) (hb : b < n) (h6 : n ≤ 6) :
  Calls Tryz.prog 182 #[tbv gs gk n, .int .i64 a, .int .i64 b, sp lo hi] w fun e w' => e = .returned (.bool (decide ((nar (lo, hi) (P a b)).1 ≤ (nar (lo, hi) (P a b)).2))) ∧ Tbx w' gs gk n Sb Kb (updx P a b (nar (lo, hi) (P a b))) ∧ Keeps (Rwx n Sb Kb) w w' := by
 cases e : P a b with
 | none => exact learn_none gs gk n a b Sb Kb P lo hi w T ha hb h6 e _ rfl
 | some z =>
  obtain ⟨l, h⟩ := z
  exact learn_some gs gk n a b Sb Kb P lo hi l h w T ha hb h6 e (max lo l) (min hi h) (by split <;> omega) (by split <;> omega) _ rfl
def OvR (R : Nat → Nat → Int → Prop) (gs gk n o : Nat) (Sb Kb : Nat → Nat) (P0 : Tx) (w : World) (e : Ending) (w' : World) : Prop :=
  ((Neg R n ∧ e = .returned (.bool false)) ∨ ∃ P, e = .returned (.bool true) ∧ Tbx w' gs gk n Sb Kb P ∧ Mid n o P0 P n 0) ∧ Keeps (Rwx n Sb Kb) w w'
set_option maxRecDepth 100000 in
set_option maxHeartbeats 8000000 in
theorem over_any (R : Nat → Nat → Int → Prop) (gs gk n o : Nat) (Sb Kb : Nat → Nat) (P0 : Tx) (c : Int) (w : World) (T : Tbx w gs gk n Sb Kb P0) (G : Gd R n c P0) (ho : o < n) (h6 : n ≤ 6) (hc : c ≤ 1000000000000000) :
    Calls Tryz.prog 183 #[tbv gs gk n, .int .i64 o] w fun e w' => OvR R gs gk n o Sb Kb P0 w e w' := by
  obtain ⟨l1, l2, l3⟩ := T.lt
  have HB : Hid (∀ k, Rwx n Sb Kb k → k < w.heap.size) := fun k ⟨i, hi, e⟩ => by
    rcases e with rfl | rfl
    · exact (l3 i hi).1
    · exact (l3 i hi).2
  have HT : Hid (Tbx w gs gk n Sb Kb P0) := T
  have HGd : Hid (Gd R n c P0) := G
  have ho3 : (o : Int) < n := by omega
  have cL : Hid (∀ a b P lo hi u, Tbx u gs gk n Sb Kb P → a < n → b < n → Calls Tryz.prog 182 #[tbv gs gk n, .int .i64 a, .int .i64 b, sp lo hi] u fun e w' => e = .returned (.bool (decide ((nar (lo, hi) (P a b)).1 ≤ (nar (lo, hi) (P a b)).2))) ∧ Tbx w' gs gk n Sb Kb (updx P a b (nar (lo, hi) (P a b))) ∧ Keeps (Rwx n Sb Kb) u w') :=
    fun a b P lo hi u t ha hb => learn_any gs gk n a b Sb Kb P lo hi u t ha hb h6
  clear T G l3
  go_enter Tryz.func183, Tryz.ntmps183
  go_wp2
  go_loopw [12] (fun i wr => ∃ (a : Nat) (P : Tx), a ≤ n ∧ i = .int .i64 a ∧ Row wr w.heap.size [.slice (some ⟨gs, 0, none⟩) n n, .slice (some ⟨gk, 0, none⟩) n n] ∧ Tbx wr gs gk n Sb Kb P ∧ Mid n o P0 P a 0 ∧ Keeps (Rwx n Sb Kb) w wr) (fun i _ => n - (intOf i).toNat)
  case atStart => exact ⟨0, P0, Nat.zero_le _, rfl, Row.made rfl, HT.out.al, Mid.start, (Keeps.refl _ w).al⟩
  case round =>
    clear l1 l2
    obtain ⟨a, P, ha, rfl, hR, hT, hM, hK⟩ := hrel
    have c0 := hR.c 0 _ rfl
    have c1 := hR.c 1 _ rfl
    have HR : Hid _ := hR
    have HT' : Hid _ := hT
    have HM : Hid _ := hM
    have HK : Hid _ := hK
    clear hR hT hM hK
    by_cases hlt : a < n
    · have ha3 : (a : Int) < n := by omega
      go_wp2
      go_loopw [18] (fun i wr => ∃ (b : Nat) (P : Tx), b ≤ n ∧ i = .int .i64 b ∧ Row wr w.heap.size [.slice (some ⟨gs, 0, none⟩) n n, .slice (some ⟨gk, 0, none⟩) n n] ∧ Tbx wr gs gk n Sb Kb P ∧ Mid n o P0 P a b ∧ Keeps (Rwx n Sb Kb) w wr) (fun i _ => n - (intOf i).toNat)
      case atStart => exact ⟨0, P, Nat.zero_le _, rfl, HR.out, HT'.out, HM.out, HK.out⟩
      case round =>
        clear c0 c1 HR HT' HM HK
        obtain ⟨b, P, hb, rfl, hR, hT, hM, hK⟩ := hrel
        by_cases hlb : b < n
        · have hb3 : (b : Int) < n := by omega
          have c0 := hR.c 0 _ rfl
          have c1 := hR.c 1 _ rfl
          have cA := hM.col (HGd.out.diag o ho) ho hlt
          have cB := hM.rw' (HGd.out.diag o ho) ho hlb
          have kA := (hT.inK a hlt).c o _ (rowK_at P n a o ho)
          have kB := (hT.inK o ho).c b _ (rowK_at P n o b hlb)
          have oKa := hT.outK.c a _ (outs_at Kb n a hlt)
          have oKo := hT.outK.c o _ (outs_at Kb n o ho)
          rw [cA] at kA
          rw [cB] at kB
          cases ex : P0 a o with
          | none =>
            rw [ex] at kA
            have kA' : wr.cell? ⟨Kb a, o, none⟩ = some (.bool false) := kA
            have HE : Hid (Mid n o P0 P a (b + 1)) := hM.skip HGd.out hlt hlb (Or.inl ex)
            have HR : Hid _ := hR
            have HT' : Hid _ := hT
            have HK : Hid _ := hK
            clear hR hT hM hK cA cB kA kB ex
            go_wp2
            go_roundw
            case rel => exact ⟨b + 1, P, by omega, by go_num, HR.out, HT'.out, HE.out, HK.out⟩
            case measure => simp [intOf]; omega
          | some x =>
            rw [ex] at kA
            have kA' : wr.cell? ⟨Kb a, o, none⟩ = some (.bool true) := kA
            cases ey : P0 o b with
            | none =>
              rw [ey] at kB
              have kB' : wr.cell? ⟨Kb o, b, none⟩ = some (.bool false) := kB
              have HE : Hid (Mid n o P0 P a (b + 1)) := hM.skip HGd.out hlt hlb (Or.inr ey)
              have HR : Hid _ := hR
              have HT' : Hid _ := hT
              have HK : Hid _ := hK
              clear hR hT hM hK cA cB kA kB ex ey
              go_wp2
              go_roundw
              case rel => exact ⟨b + 1, P, by omega, by go_num, HR.out, HT'.out, HE.out, HK.out⟩
              case measure => simp [intOf]; omega
            | some y =>
              rw [ey] at kB
              have kB' : wr.cell? ⟨Kb o, b, none⟩ = some (.bool true) := kB
              obtain ⟨x1, x2⟩ := x
              obtain ⟨y1, y2⟩ := y
              have bx := HGd.out.ord a o _ hlt ho ex
              have by' := HGd.out.ord o b _ ho hlb ey
              simp only at bx by'
              have HS : Hid (SP R a b (nar (x1 + y1, x2 + y2) (P a b))) := hM.sound HGd.out ho hlt hlb ex ey
              have HE : Hid ((nar (x1 + y1, x2 + y2) (P a b)).1 ≤ (nar (x1 + y1, x2 + y2) (P a b)).2 → Mid n o P0 (updx P a b (nar (x1 + y1, x2 + y2) (P a b))) a (b + 1)) := fun ok => hM.step hlt hlb ex ey ok
              have oSa := hT.outS.c a _ (outs_at Sb n a hlt)
              have oSo := hT.outS.c o _ (outs_at Sb n o ho)
              have s0 := (hT.inS a hlt).c _ _ (rowS_lo P n a o ho)
              have s1 := (hT.inS a hlt).c _ _ (rowS_hi P n a o ho)
              have t0 := (hT.inS o ho).c _ _ (rowS_lo P n o b hlb)
              have t1 := (hT.inS o ho).c _ _ (rowS_hi P n o b hlb)
              rw [show xLo P a o = x1 by unfold xLo; rw [cA, ex]] at s0
              rw [show xHi P a o = x2 by unfold xHi; rw [cA, ex]] at s1
              rw [show xLo P o b = y1 by unfold xLo; rw [cB, ey]] at t0
              rw [show xHi P o b = y2 by unfold xHi; rw [cB, ey]] at t1
              have w1 : IntKind.i64.wrap (x1 + y1) = x1 + y1 := IntWalk.i64_in _ (by omega)
              have w2 : IntKind.i64.wrap (x2 + y2) = x2 + y2 := IntWalk.i64_in _ (by omega)
              have HR : Hid _ := hR
              have HT' : Hid _ := hT
              have HK : Hid _ := hK
              have hz := hR.lt
              obtain ⟨l1, l2, l3⟩ := hT.lt
              have l4 := (l3 a hlt).1
              have l5 := (l3 o ho).1
              clear hR hT hM hK cA cB kA kB ex ey l3 bx by'
              have cQ := fun u (t : Tbx u gs gk n Sb Kb P) => cL.out a b P (x1 + y1) (x2 + y2) u t hlt hlb
              have HZ : Hid (w.heap.size < wr.heap.size) := hz
              generalize nar (x1 + y1, x2 + y2) (P a b) = N at *
              have NS : Hid (¬ Rwx n Sb Kb w.heap.size) := fun k => Nat.lt_irrefl _ (HB.out _ k)
              by_cases ok : N.1 ≤ N.2
              · as_aux_lemma =>
                  rw [decide_eq_true ok] at cQ
                  have HE2 : Hid _ := HE.out ok
                  clear HE HS ok
                  go_upto_region 8 with (fail)
                  go_region
                  all_goals
                    go_wp2_with (go_at_call 182; refine (cQ _ HT'.out.al.al.dr).mono ?_; rintro e u0 ⟨rfl, hT0, hK0⟩; have HT0 : Hid _ := hT0; have HK0 : Hid _ := hK0; clear hT0 hK0)
                    go_roundw
                    case rel => exact ⟨b + 1, _, by omega, by go_num, HK0.out.row NS.out HR.out.al.al.dr, HT0.out, HE2.out, HK.out.al.al.dr.trans HK0.out⟩
                    case measure => simp [intOf]; omega
              · as_aux_lemma =>
                  rw [decide_eq_false ok] at cQ
                  have HE2 : Hid (Neg R n) := HS.out.neg hlt (by omega)
                  clear HE HS ok
                  go_upto_region 8 with (fail)
                  go_region
                  all_goals
                    go_wp2_with (go_at_call 182; refine (cQ _ HT'.out.al.al.dr).mono ?_; rintro e u0 ⟨rfl, hT0, hK0⟩; have HT0 : Hid _ := hT0; have HK0 : Hid _ := hK0; clear hT0 hK0)
                    go_ret
                    exact ⟨Or.inl ⟨HE2.out, rfl⟩, HK.out.al.al.dr.trans HK0.out⟩
        · have hl3 : ¬ ((b : Int) < n) := by omega
          have HE : Hid (Mid n o P0 P (a + 1) 0) := by show Mid _ _ _ _ _ _; have e : b = n := by omega
                                                       rw [e] at hM; exact hM.row
          have HR : Hid _ := hR
          have HT' : Hid _ := hT
          have HK : Hid _ := hK
          clear hR hT hM hK
          go_wp2
          go_roundw
          case rel => exact ⟨a + 1, P, by omega, by go_num, HR.out, HT'.out, HE.out, HK.out⟩
          case measure => simp [intOf]; omega
    · have hl3 : ¬ ((a : Int) < n) := by omega
      have e : a = n := by omega
      have HE : Hid (Mid n o P0 P n 0) := by show Mid _ _ _ _ _ _; have h := HM.out; rw [e] at h; exact h
      clear e HM
      go_wp2
      go_ret
      exact ⟨Or.inr ⟨P, rfl, HT'.out, HE.out⟩, HK.out⟩
set_option maxHeartbeats 8000000
set_option maxRecDepth 100000
def lim : Nat → Int
 | 0 => 1000000000000
 | a + 1 => 2 * lim a
theorem lim_le {a : Nat} (h : a ≤ 6) : 0 ≤ lim a ∧ lim a ≤ 1000000000000000 := by
 match a, h with
 | 0, _ => decide
 | 1, _ => decide
 | 2, _ => decide
 | 3, _ => decide
 | 4, _ => decide
 | 5, _ => decide
 | 6, _ => decide
def PaR (R : Nat → Nat → Int → Prop) (gs gk n : Nat) (Sb Kb : Nat → Nat) (w : World) (e : Ending) (w' : World) : Prop :=
 ((Neg R n ∧ e = .returned (.bool false)) ∨ ∃ P c, e = .returned (.bool true) ∧ Tbx w' gs gk n Sb Kb P ∧ Gd R n c P ∧ Fwx R n n P) ∧ Keeps (Rwx n Sb Kb) w w'
theorem paths_any (R : Nat → Nat → Int → Prop) (gs gk n : Nat) (Sb Kb : Nat → Nat) (P0 : Tx) (w : World) (T : Tbx w gs gk n Sb Kb P0) (G : Gd R n 1000000000000 P0) (F : Fwx R n 0 P0) (h6 : n ≤ 6) :
  Calls Tryz.prog 157 #[tbv gs gk n] w fun e w' => PaR R gs gk n Sb Kb w e w' := by
 obtain ⟨l1, l2, l3⟩ := T.lt
 have HB : Hid (∀ k, Rwx n Sb Kb k → k < w.heap.size) := fun k ⟨i, hi, e⟩ => by
  rcases e with rfl | rfl
  ·exact (l3 i hi).1
  ·exact (l3 i hi).2
 have NS : Hid (¬ Rwx n Sb Kb w.heap.size) := fun k => Nat.lt_irrefl _ (HB.out _ k)
 have HT : Hid (Tbx w gs gk n Sb Kb P0) := T
 have HGd : Hid (Gd R n 1000000000000 P0) := G
 have HF : Hid (Fwx R n 0 P0) := F
 clear T G F l1 l2 l3
 go_enter Tryz.func157, Tryz.ntmps157
 go_wp2
 go_loopw [7] (fun i wr => ∃ (a : Nat) (P : Tx), a ≤ n ∧ i = .int .i64 a ∧ Row wr w.heap.size [.slice (some ⟨gs, 0, none⟩) n n, .slice (some ⟨gk, 0, none⟩) n n] ∧ Tbx wr gs gk n Sb Kb P ∧ Gd R n (lim a) P ∧ Fwx R n a P ∧ Keeps (Rwx n Sb Kb) w wr) (fun i _ => n - (intOf i).toNat)
 case atStart => exact ⟨0, P0, Nat.zero_le _, rfl, Row.made rfl, HT.out.al, HGd.out, HF.out, (Keeps.refl _ w).al⟩
 case round =>
  clear HT HGd HF
  obtain ⟨a, P, ha, rfl, hR, hT, hG, hF, hK⟩ := hrel
  have c0 := hR.c 0 _ rfl
  have c1 := hR.c 1 _ rfl
  have HR : Hid _ := hR
  have HT : Hid _ := hT
  have HK : Hid _ := hK
  by_cases hlt : a < n
  ·have ha3 : (a : Int) < n := by omega
   have cO := fun u t => over_any R gs gk n a Sb Kb P (lim a) u t hG hlt h6 (lim_le (show a ≤ 6 by omega)).2
   have HN : Hid (∀ P', Mid n a P P' n 0 → Gd R n (lim (a + 1)) P' ∧ Fwx R n (a + 1) P') := fun P' hm => by
    obtain ⟨h1, h2⟩ := hm.fin hG hlt (lim_le (show a ≤ 6 by omega)).1
    exact ⟨h2, hF.next hlt (hG.diag a hlt) h1⟩
   clear hR hT hG hF hK
   go_wp2_with (go_at_call 183; refine (cO _ HT.out).mono ?_; rintro e u0 ⟨hO, hK0⟩; have HK0 : Hid _ := hK0; clear hK0; rcases hO with ⟨hN, rfl⟩ | ⟨P', rfl, hT0, hM0⟩)
   ·have HE : Hid _ := hN
    clear hN
    go_wp2
    go_ret
    exact ⟨Or.inl ⟨HE.out, rfl⟩, HK.out.trans HK0.out⟩
   ·have HT0 : Hid _ := hT0
    have HE : Hid _ := HN.out P' hM0
    clear hT0 hM0
    go_wp2
    go_roundw
    case rel => exact ⟨a + 1, P', by omega, by go_num, HK0.out.row NS.out HR.out, HT0.out, HE.out.1, HE.out.2, HK.out.trans HK0.out⟩
    case measure => simp [intOf]; omega
  ·have hl3 : ¬ ((a : Int) < n) := by omega
   have e : a = n := by omega
   have HE : Hid (Gd R n (lim a) P ∧ Fwx R n n P) := ⟨hG, by have h := hF; rw [e] at h; exact h⟩
   clear e hR hT hG hF hK
   go_wp2
   go_ret
   exact ⟨Or.inr ⟨P, _, rfl, HT.out, HE.out.1, HE.out.2⟩, HK.out⟩
theorem Esp.onK {S : Nat → Prop} {W u : World} {b off m : Nat} {q : Nat → Eg} (hb : Keeps S W u) (hn : ¬ S b) (h : Esp W b off m q) : Esp u b off m q := fun i hi => by
 obtain ⟨h0, h1, h2, h3⟩ := h i hi
 exact ⟨hb.cell hn h0, hb.cell hn h1, hb.cell hn h2, hb.cell hn h3⟩
def EdR (q : Nat → Eg) (m gs gk n : Nat) (Sb Kb : Nat → Nat) (w : World) (e : Ending) (w' : World) : Prop :=
 ((Neg (Arc q m) n ∧ e = .returned (.bool false)) ∨ ∃ P, e = .returned (.bool true) ∧ Tbx w' gs gk n Sb Kb P ∧ Gd (Arc q m) n 1000000000000 P ∧ Fwx (Arc q m) n 0 P) ∧ Keeps (Rwx n Sb Kb) w w'
theorem edges_any (gs gk n : Nat) (Sb Kb : Nat → Nat) (ad : Option Addr) (m cap : Nat) (q : Nat → Eg) (w : World) (T : Tbx w gs gk n Sb Kb tx0) (hE : Egs n q m) (hH : EHanded w ad m q) (hne : ∀ b off, 0 < m → ad = some ⟨b, off, none⟩ → ¬ Rwx n Sb Kb b) :
  Calls Tryz.prog 156 #[tbv gs gk n, .slice ad m cap] w fun e w' => EdR q m gs gk n Sb Kb w e w' := by
 obtain ⟨l1, l2, l3⟩ := T.lt
 have HB : Hid (∀ k, Rwx n Sb Kb k → k < w.heap.size) := fun k ⟨i, hi, e⟩ => by
  rcases e with rfl | rfl
  ·exact (l3 i hi).1
  ·exact (l3 i hi).2
 have NS : Hid (¬ Rwx n Sb Kb w.heap.size) := fun k => Nat.lt_irrefl _ (HB.out _ k)
 have h6 : n ≤ 6 := by have := hE.n6; omega
 have h40 := hE.m40
 have HT : Hid (Tbx w gs gk n Sb Kb tx0) := T
 have HE : Hid (Egs n q m) := hE
 have HP : Hid (m = 0 ∨ ∃ b off : Nat, ad = some ⟨b, off, none⟩ ∧ Esp w b off m q) := hH.2
 have HNE : Hid (∀ b off, 0 < m → ad = some ⟨b, off, none⟩ → ¬ Rwx n Sb Kb b) := hne
 clear T hE hH hne l1 l2 l3
 go_enter Tryz.func156, Tryz.ntmps156
 go_wp2
 go_loopw [10] (fun i wr => ∃ (j : Nat) (P : Tx), j ≤ m ∧ i = .int .i64 j ∧ Row wr w.heap.size [.slice (some ⟨gs, 0, none⟩) n n, .slice (some ⟨gk, 0, none⟩) n n] ∧ Tbx wr gs gk n Sb Kb P ∧ Gd (Arc q m) n 1000000000000 P ∧ Dne q j P ∧ Keeps (Rwx n Sb Kb) w wr) (fun i _ => m - (intOf i).toNat)
 case atStart => exact ⟨0, tx0, Nat.zero_le _, rfl, Row.made rfl, HT.out.al, tx0_gd (by decide), dne_zero, (Keeps.refl _ w).al⟩
 case round =>
  clear HT
  obtain ⟨j, P, hj, rfl, hR, hT, hG, hD, hK⟩ := hrel
  have c0 := hR.c 0 _ rfl
  have c1 := hR.c 1 _ rfl
  have hz := hR.lt
  have HR : Hid _ := hR
  have HT : Hid _ := hT
  have HG : Hid _ := hG
  have HD : Hid _ := hD
  have HK : Hid _ := hK
  clear hR hT hG hD hK
  by_cases hlt : j < m
  ·have hl3 : (j : Int) < m := by omega
   obtain ⟨b, off, rfl, hP⟩ : ∃ b off : Nat, ad = some ⟨b, off, none⟩ ∧ Esp w b off m q := by
    rcases HP.out with e | h
    ·omega
    ·exact h
   obtain ⟨x0, x1, x2, x3⟩ := (hP.onK HK.out (HNE.out _ _ (by omega) rfl)) j hlt
   obtain ⟨⟨a1, a2, a3, a4⟩, nab, okk⟩ := HE.out.each j hlt
   obtain ⟨o1, o2, o3⟩ := okB_t okk
   obtain ⟨A, eqA⟩ : ∃ A : Nat, (q j).a = A := ⟨(q j).a.toNat, by omega⟩
   obtain ⟨B, eqB⟩ : ∃ B : Nat, (q j).b = B := ⟨(q j).b.toNat, by omega⟩
   have hA : A < n := by omega
   have hB : B < n := by omega
   have nAB : A ≠ B := by omega
   rw [eqA] at x0
   rw [eqB] at x1
   have hbz : b < wr.heap.size := World.block_lt_of_cell? _ _ x0
   have wl : IntKind.i64.wrap (-(q j).lo) = -(q j).lo := IntWalk.i64_in _ (by omega)
   have wh : IntKind.i64.wrap (-(q j).hi) = -(q j).hi := IntWalk.i64_in _ (by omega)
   obtain ⟨sp1, sp2⟩ := edge_sp (m := m) hlt eqA eqB
   have NS1 : Hid (∀ k, wr.heap.size ≤ k → ¬ Rwx n Sb Kb k) := fun k hk h => by
    have := HB.out _ h
    have := HK.out.size
    omega
   have cQ := fun u (t : Tbx u gs gk n Sb Kb P) => learn_any gs gk n A B Sb Kb P (q j).lo (q j).hi u t hA hB h6
   obtain ⟨P1, e1⟩ : ∃ P1, P1 = updx P A B (nar ((q j).lo, (q j).hi) (P A B)) := ⟨_, rfl⟩
   rw [← e1] at cQ
   have cR := fun u (t : Tbx u gs gk n Sb Kb P1) => learn_any gs gk n B A Sb Kb P1 (-(q j).hi) (-(q j).lo) u t hB hA h6
   obtain ⟨P2, e2⟩ : ∃ P2, P2 = updx P1 B A (nar (-(q j).hi, -(q j).lo) (P1 B A)) := ⟨_, rfl⟩
   rw [← e2] at cR
   have HD2 : Hid (Dne q (j + 1) P2) := Dne.step HD.out eqA eqB e1 e2
   by_cases ok1 : (nar ((q j).lo, (q j).hi) (P A B)).1 ≤ (nar ((q j).lo, (q j).hi) (P A B)).2
   ·have G1 : Gd (Arc q m) n 1000000000000 P1 := by rw [e1]; exact HG.out.learn hA hB nAB sp1 (by show (-1000000000000 : Int) ≤ (q j).lo; omega) (by show (q j).hi ≤ 1000000000000; omega) ok1
    rw [decide_eq_true ok1] at cQ
    by_cases ok2 : (nar (-(q j).hi, -(q j).lo) (P1 B A)).1 ≤ (nar (-(q j).hi, -(q j).lo) (P1 B A)).2
    ·have G2 : Hid (Gd (Arc q m) n 1000000000000 P2) := by show Gd _ _ _ _; rw [e2]; exact G1.learn hB hA (fun e => nAB e.symm) sp2 (by show (-1000000000000 : Int) ≤ -(q j).hi; omega) (by show -(q j).lo ≤ 1000000000000; omega) ok2
     rw [decide_eq_true ok2] at cR
     have cnt : Mark 0 := .mk _
     clear sp1 sp2 e1 e2 ok1 ok2 G1 a1 a2 a3 a4 nab okk eqA eqB hP
     as_aux_lemma =>
      go_wp2_with (first
       | (go_at_call 182; have cq : Mark 0 := cnt; refine (cQ _ HT.out.al.al).mono ?_; clear cq cnt; have cnt : Mark 1 := .mk _; rintro e u0 ⟨rfl, hT0, hK0⟩; have HT0 : Hid _ := hT0; have HK0 : Hid _ := hK0; have rt := hK0.row NS.out HR.out.al.al; have re := hK0.row (NS1.out wr.heap.size (Nat.le_refl _)) (Row.al (Row.made (W := wr) (vs := [.int .i64 A, .int .i64 B, .int .i64 (q j).lo, .int .i64 (q j).hi]) rfl)); have rb := hK0.row (NS1.out (wr.heap.size + 1) (by omega)) (Row.made (W := wr.alloc _) (vs := [.int .i64 (-(q j).hi), .int .i64 (-(q j).lo)]) (by simp)); clear hT0 hK0; have rt0 := rt.c 0 _ rfl; have rt1 := rt.c 1 _ rfl; have re0 := re.c 0 _ rfl; have re1 := re.c 1 _ rfl; have rb0 := rb.c 0 _ rfl; have rb1 := rb.c 1 _ rfl; have RT : Hid _ := rt; clear rt re rb)
       | (go_at_call 182; have cq : Mark 1 := cnt; refine (cR _ HT0.out).mono ?_; clear cq cnt; have cnt : Mark 2 := .mk _; rintro e u1 ⟨rfl, hT1, hK1⟩; have HT1 : Hid _ := hT1; have HK1 : Hid _ := hK1; clear hT1 hK1))
      go_roundw
      case rel => exact ⟨j + 1, P2, by omega, by go_num, HK1.out.row NS.out RT.out, HT1.out, G2.out, HD2.out, (HK.out.al.al.trans HK0.out).trans HK1.out⟩
      case measure => simp [intOf]; omega
    ·have NG : Hid (Neg (Arc q m) n) := (sp2.nar (fun z ez => G1.sound B A z hB hA ez)).neg hB (by omega)
     rw [decide_eq_false ok2] at cR
     have cnt : Mark 0 := .mk _
     clear sp1 sp2 e1 e2 ok1 ok2 G1 a1 a2 a3 a4 nab okk eqA eqB hP
     as_aux_lemma =>
      go_wp2_with (first
       | (go_at_call 182; have cq : Mark 0 := cnt; refine (cQ _ HT.out.al.al).mono ?_; clear cq cnt; have cnt : Mark 1 := .mk _; rintro e u0 ⟨rfl, hT0, hK0⟩; have HT0 : Hid _ := hT0; have HK0 : Hid _ := hK0; have rt := hK0.row NS.out HR.out.al.al; have re := hK0.row (NS1.out wr.heap.size (Nat.le_refl _)) (Row.al (Row.made (W := wr) (vs := [.int .i64 A, .int .i64 B, .int .i64 (q j).lo, .int .i64 (q j).hi]) rfl)); have rb := hK0.row (NS1.out (wr.heap.size + 1) (by omega)) (Row.made (W := wr.alloc _) (vs := [.int .i64 (-(q j).hi), .int .i64 (-(q j).lo)]) (by simp)); clear hT0 hK0; have rt0 := rt.c 0 _ rfl; have rt1 := rt.c 1 _ rfl; have re0 := re.c 0 _ rfl; have re1 := re.c 1 _ rfl; have rb0 := rb.c 0 _ rfl; have rb1 := rb.c 1 _ rfl; have RT : Hid _ := rt; clear rt re rb)
       | (go_at_call 182; have cq : Mark 1 := cnt; refine (cR _ HT0.out).mono ?_; clear cq cnt; have cnt : Mark 2 := .mk _; rintro e u1 ⟨rfl, hT1, hK1⟩; have HT1 : Hid _ := hT1; have HK1 : Hid _ := hK1; clear hT1 hK1))
      go_ret
      exact ⟨Or.inl ⟨NG.out, rfl⟩, (HK.out.al.al.trans HK0.out).trans HK1.out⟩
   ·have NG : Hid (Neg (Arc q m) n) := (sp1.nar (fun z ez => HG.out.sound A B z hA hB ez)).neg hA (by omega)
    rw [decide_eq_false ok1] at cQ
    clear sp1 sp2 e1 e2 ok1 a1 a2 a3 a4 nab okk eqA eqB hP cR
    as_aux_lemma =>
     go_wp2_with (go_at_call 182; refine (cQ _ HT.out.al.al).mono ?_; rintro e u0 ⟨rfl, hT0, hK0⟩; have HK0 : Hid _ := hK0; clear hT0 hK0)
     go_ret
     exact ⟨Or.inl ⟨NG.out, rfl⟩, HK.out.al.al.trans HK0.out⟩
  ·have hl3 : ¬ ((j : Int) < m) := by omega
   have e : j = m := by omega
   have HF : Hid (Fwx (Arc q m) n 0 P) := by show Fwx _ _ _ _; have h := HD.out; rw [e] at h; exact Dne.fw h HG.out
   clear e
   go_wp2
   go_ret
   exact ⟨Or.inr ⟨P, rfl, HT.out, HG.out, HF.out⟩, HK.out⟩
theorem xinfoRows : (Tryz.prog.info? 128).map (fun i => (i.zero, i.size, i.bytes)) = some (some (.slice none 0 0), 1, 24) := by kernel_rfl
theorem xinfoBools : (Tryz.prog.info? 127).map (fun i => (i.zero, i.size, i.bytes)) = some (some (.slice none 0 0), 1, 24) := by kernel_rfl
theorem xinfoSpan : (Tryz.prog.info? 34).map (fun i => (i.zero, i.size, i.bytes)) = some (some (sp 0 0), 2, 16) := by kernel_rfl
theorem xinfoBool : (Tryz.prog.info? 4).map (fun i => (i.zero, i.size, i.bytes)) = some (some (.bool false), 1, 1) := by kernel_rfl
theorem xmade_cells (z : Value) (hz : z.cells = #[z]) (n : Nat) : madeCells z.cells (n * 1) = (List.replicate n z).toArray := by
 rw [hz, Nat.mul_one]
 apply Array.ext
 ·simp [madeCells]
 ·intro i h1 h2
  simp [madeCells, Nat.mod_one]
theorem xmade_spans (n : Nat) : madeCells (sp 0 0).cells (n * 2) = (List.replicate (n * 2) (.int .i64 0)).toArray := by
 apply Array.ext
 ·simp [madeCells]
 ·intro i h1 h2
  simp only [madeCells, Array.getElem_ofFn, List.getElem_toArray, List.getElem_replicate]
  have : i % 2 = 0 ∨ i % 2 = 1 := by omega
  simp [Value.cells]
  rcases this with e | e <;> simp [e]
theorem mk_rows (n : Nat) (h6 : n ≤ 6) (W : World) : (Instr.makeSlice 123 (.int .i64 n) (.int .i64 n)).run Tryz.prog W = .ok (.slice (some ⟨W.heap.size, 0, none⟩) n n) (W.alloc (.cells (List.replicate n (.slice none 0 0)).toArray 128)) := by
 obtain ⟨i0, hi0, hz0, hz1, hz2⟩ := info_parts xinfoRows
 have h := run_makeSlice W 123 128 i0 _ Tryz.underlying123 hi0 hz0 .i64 .i64 n n (by omega) (by omega) (by rw [hz1]; simp; omega) (by rw [hz2]; simp; omega) (by omega)
 rw [hz1, Int.toNat_natCast, xmade_cells _ rfl n] at h
 exact h
theorem mk_knowns (n : Nat) (h6 : n ≤ 6) (W : World) : (Instr.makeSlice 124 (.int .i64 n) (.int .i64 n)).run Tryz.prog W = .ok (.slice (some ⟨W.heap.size, 0, none⟩) n n) (W.alloc (.cells (List.replicate n (.slice none 0 0)).toArray 127)) := by
 obtain ⟨i0, hi0, hz0, hz1, hz2⟩ := info_parts xinfoBools
 have h := run_makeSlice W 124 127 i0 _ Tryz.underlying124 hi0 hz0 .i64 .i64 n n (by omega) (by omega) (by rw [hz1]; simp; omega) (by rw [hz2]; simp; omega) (by omega)
 rw [hz1, Int.toNat_natCast, xmade_cells _ rfl n] at h
 exact h
theorem mk_spans (n : Nat) (h6 : n ≤ 6) (W : World) : (Instr.makeSlice 128 (.int .i64 n) (.int .i64 n)).run Tryz.prog W = .ok (.slice (some ⟨W.heap.size, 0, none⟩) n n) (W.alloc (.cells (List.replicate (n * 2) (.int .i64 0)).toArray 34)) := by
 obtain ⟨i0, hi0, hz0, hz1, hz2⟩ := info_parts xinfoSpan
 have h := run_makeSlice W 128 34 i0 _ Tryz.underlying128 hi0 hz0 .i64 .i64 n n (by omega) (by omega) (by rw [hz1]; simp; omega) (by rw [hz2]; simp; omega) (by omega)
 rw [hz1, Int.toNat_natCast, xmade_spans n] at h
 exact h
theorem xmk_bools (n : Nat) (h6 : n ≤ 6) (W : World) : (Instr.makeSlice 127 (.int .i64 n) (.int .i64 n)).run Tryz.prog W = .ok (.slice (some ⟨W.heap.size, 0, none⟩) n n) (W.alloc (.cells (List.replicate n (.bool false)).toArray 4)) := by
 obtain ⟨i0, hi0, hz0, hz1, hz2⟩ := info_parts xinfoBool
 have h := run_makeSlice W 127 4 i0 _ Tryz.underlying127 hi0 hz0 .i64 .i64 n n (by omega) (by omega) (by rw [hz1]; simp; omega) (by rw [hz2]; simp; omega) (by omega)
 rw [hz1, Int.toNat_natCast, xmade_cells _ rfl n] at h
 exact h
def outp (Sb : Nat → Nat) (n a : Nat) : List Value := (List.range n).map fun i => if i < a then .slice (some ⟨Sb i, 0, none⟩) n n else .slice none 0 0
theorem outp_zero (Sb : Nat → Nat) (n : Nat) : outp Sb n 0 = List.replicate n (.slice none 0 0) := by
 apply List.ext_getElem?
 intro j
 by_cases h : j < n
 ·simp [outp, h]
 ·rw [List.getElem?_eq_none (by simp [outp]; omega), List.getElem?_eq_none (by simp; omega)]
theorem outp_all (Sb : Nat → Nat) (n : Nat) : outp Sb n n = outs Sb n := by
 unfold outp outs
 apply List.map_congr_left
 intro y hy
 rw [if_pos (List.mem_range.1 hy)]
theorem outp_set (Sb : Nat → Nat) (n a x : Nat) : (outp Sb n a).set a (.slice (some ⟨x, 0, none⟩) n n) = outp (fun i => if i = a then x else Sb i) n (a + 1) := by
 apply List.ext_getElem?
 intro j
 by_cases h : j < n
 ·by_cases e : a = j
  ·subst e
   rw [List.getElem?_set_self (by simp [outp]; exact h)]
   simp [outp, h]
  ·rw [List.getElem?_set_ne e]
   simp only [outp, List.getElem?_map, List.getElem?_range h, Option.map_some]
   have e' : ¬ j = a := fun q => e q.symm
   by_cases c : j < a
   ·rw [if_pos c, if_pos (by omega), if_neg e']
   ·rw [if_neg c, if_neg (by omega)]
 ·rw [List.getElem?_eq_none (by simp [outp]; omega), List.getElem?_eq_none (by simp [outp]; omega)]
theorem outp_at (Sb : Nat → Nat) (n a i : Nat) (h : i < n) : (outp Sb n a)[i]? = some (if i < a then .slice (some ⟨Sb i, 0, none⟩) n n else .slice none 0 0) := by simp [outp, h]
theorem tx0_rowS (n i : Nat) : rowS tx0 n i = List.replicate (n * 2) (.int .i64 0) := by
 refine rowS_ext (fun k hk => ?_) (fun j hj => ?_)
 ·have e1 : xLo tx0 i k = 0 := by unfold xLo tx0; split <;> rename_i h <;> first | rfl | (split at h <;> first | (obtain rfl := Option.some.inj h; rfl) | cases h)
  have e2 : xHi tx0 i k = 0 := by unfold xHi tx0; split <;> rename_i h <;> first | rfl | (split at h <;> first | (obtain rfl := Option.some.inj h; rfl) | cases h)
  rw [e1, e2]
  refine ⟨?_, ?_⟩ <;> rw [List.getElem?_replicate, if_pos (by omega)]
 ·rw [List.getElem?_eq_none (by simp; omega)]
theorem tx0_rowK (n i : Nat) : rowK tx0 n i = (List.replicate n (.bool false)).set i (.bool true) := by
 apply List.ext_getElem?
 intro k
 by_cases hk : k < n
 ·rw [rowK_at _ _ _ _ hk]
  by_cases e : i = k
  ·subst e
   rw [List.getElem?_set_self (by simpa using hk)]
   simp [tx0]
  ·rw [List.getElem?_set_ne e]
   simp [tx0, e, hk]
 ·rw [List.getElem?_eq_none (by simp [rowK]; omega), List.getElem?_eq_none (by simp; omega)]
theorem blk_rep {W : World} {e : TypeId} {b n : Nat} {v : Value} (hb : b = W.heap.size) : Blk (W.alloc (.cells (Array.replicate n v) e)) e b (List.replicate n v) := by
 rw [show Array.replicate n v = (List.replicate n v).toArray by simp]
 exact Blk.made hb
structure Mkx (u : World) (s gs gk n a : Nat) (Sb Kb : Nat → Nat) : Prop where
 outS : Blk u 128 gs (outp Sb n a)
 outK : Blk u 127 gk (outp Kb n a)
 inS : ∀ i, i < a → Blk u 34 (Sb i) (List.replicate (n * 2) (.int .i64 0))
 inK : ∀ i, i < a → Blk u 4 (Kb i) ((List.replicate n (.bool false)).set i (.bool true))
 oneS : ∀ i j, i < a → j < a → i ≠ j → Sb i ≠ Sb j
 oneK : ∀ i j, i < a → j < a → i ≠ j → Kb i ≠ Kb j
 low : s ≤ gs ∧ s ≤ gk ∧ ∀ i, i < a → s ≤ Sb i ∧ s ≤ Kb i
theorem Mkx.done {u : World} {s gs gk n : Nat} {Sb Kb : Nat → Nat} (h : Mkx u s gs gk n n Sb Kb) : Tbx u gs gk n Sb Kb tx0 :=
 ⟨by rw [← outp_all]; exact h.outS, by rw [← outp_all]; exact h.outK, fun i hi => by rw [tx0_rowS]; exact h.inS i hi, fun i hi => by rw [tx0_rowK]; exact h.inK i hi, h.oneS, h.oneK⟩
def NwR (n : Nat) (w : World) (p : Value) (w' : World) : Prop := ∃ B gs gk, p = .pointer (some ⟨B, 0, none⟩) ∧ Row w' B [.slice (some ⟨gs, 0, none⟩) n n, .slice (some ⟨gk, 0, none⟩) n n] ∧ Mkx w' (w.heap.size + 1) gs gk n 0 (fun _ => 0) (fun _ => 0) ∧ Row w' w.heap.size [.slice none 0 0, .slice none 0 0] ∧ Below w.heap.size w w' ∧ w.heap.size < B ∧ w.heap.size < gs ∧ w.heap.size < gk ∧ gs ≠ B ∧ gk ≠ B
theorem nwR_mk {n B gs gk : Nat} {w w' : World} (r1 : Row w' B [.slice (some ⟨gs, 0, none⟩) n n, .slice (some ⟨gk, 0, none⟩) n n]) (b1 : Blk w' 128 gs (List.replicate n (.slice none 0 0))) (b2 : Blk w' 127 gk (List.replicate n (.slice none 0 0))) (r2 : Row w' w.heap.size [.slice none 0 0, .slice none 0 0]) (bel : Below w.heap.size w w') (n1 : w.heap.size < B) (n2 : w.heap.size < gs) (n3 : w.heap.size < gk) (n4 : gs ≠ B) (n5 : gk ≠ B) : NwR n w (.pointer (some ⟨B, 0, none⟩)) w' :=
 ⟨B, gs, gk, rfl, r1, ⟨by rw [outp_zero]; exact b1, by rw [outp_zero]; exact b2, fun i hi => by omega, fun i hi => by omega, fun i j hi => by omega, fun i j hi => by omega, by omega, by omega, fun i hi => by omega⟩, r2, bel, n1, n2, n3, n4, n5⟩
structure Mk2 (wr w' : World) (gs gk n a x y : Nat) (Sb Kb : Nat → Nat) : Prop where
 outS : Blk w' 128 gs ((outp Sb n a).set a (.slice (some ⟨x, 0, none⟩) n n))
 outK : Blk w' 127 gk ((outp Kb n a).set a (.slice (some ⟨y, 0, none⟩) n n))
 inS : Blk w' 34 x (List.replicate (n * 2) (.int .i64 0))
 inK : Blk w' 4 y (List.replicate n (.bool false))
 old : ∀ e b vs, b ≠ gs → b ≠ gk → Blk wr e b vs → Blk w' e b vs
 new : wr.heap.size ≤ x ∧ wr.heap.size ≤ y
theorem Mk2.done {wr w' : World} {s gs gk n a x y : Nat} {Sb Kb : Nat → Nat} (h : Mk2 wr w' gs gk n a x y Sb Kb) (hM : Mkx wr s gs gk n a Sb Kb) (hs : s ≤ wr.heap.size) : Mkx (w'.setCell ⟨y, a, none⟩ (.bool true)) s gs gk n (a + 1) (fun i => if i = a then x else Sb i) (fun i => if i = a then y else Kb i) := by
 have l1 := hM.outS.lt
 have l2 := hM.outK.lt
 have hn := h.new
 have lS : ∀ i, i < a → Sb i < wr.heap.size := fun i hi => (hM.inS i hi).lt
 have lK : ∀ i, i < a → Kb i < wr.heap.size := fun i hi => (hM.inK i hi).lt
 have sS : ∀ i, i < a → Sb i ≠ gs ∧ Sb i ≠ gk := fun i hi => ⟨(hM.inS i hi).ne hM.outS (by decide), (hM.inS i hi).ne hM.outK (by decide)⟩
 have sK : ∀ i, i < a → Kb i ≠ gs ∧ Kb i ≠ gk := fun i hi => ⟨(hM.inK i hi).ne hM.outS (by decide), (hM.inK i hi).ne hM.outK (by decide)⟩
 refine ⟨?_, ?_, fun i hi => ?_, fun i hi => ?_, fun i j hi hj ne => ?_, fun i j hi hj ne => ?_, hM.low.1, hM.low.2.1, fun i hi => ?_⟩
 ·rw [← outp_set]; exact h.outS.far (by omega)
 ·rw [← outp_set]; exact h.outK.far (by omega)
 ·by_cases e : i = a
  ·rw [if_pos e]; exact h.inS.far (h.inS.ne h.inK (by decide))
  ·rw [if_neg e]
   have := lS i (by omega)
   exact (h.old _ _ _ (sS i (by omega)).1 (sS i (by omega)).2 (hM.inS i (by omega))).far (by omega)
 ·by_cases e : i = a
  ·rw [if_pos e, e]; exact h.inK.put a
  ·rw [if_neg e]
   have := lK i (by omega)
   exact (h.old _ _ _ (sK i (by omega)).1 (sK i (by omega)).2 (hM.inK i (by omega))).far (by omega)
 ·by_cases e : i = a
  ·rw [if_pos e, if_neg (by omega)]
   have := lS j (by omega)
   omega
  ·rw [if_neg e]
   have := lS i (by omega)
   by_cases e' : j = a
   ·rw [if_pos e']; omega
   ·rw [if_neg e']; exact hM.oneS i j (by omega) (by omega) ne
 ·by_cases e : i = a
  ·rw [if_pos e, if_neg (by omega)]
   have := lK j (by omega)
   omega
  ·rw [if_neg e]
   have := lK i (by omega)
   by_cases e' : j = a
   ·rw [if_pos e']; omega
   ·rw [if_neg e']; exact hM.oneK i j (by omega) (by omega) ne
 ·by_cases e : i = a
  ·rw [if_pos e, if_pos e]; omega
  ·rw [if_neg e, if_neg e]; exact hM.low.2.2 i (by omega)
set_option maxRecDepth 100000 in
set_option maxHeartbeats 8000000 in
theorem new_any (n : Nat) (w : World) (h6 : n ≤ 6) :
  Calls Tryz.prog 155 #[.int .i64 n] w fun e w' => ∃ (gs gk : Nat) (Sb Kb : Nat → Nat), e = .returned (tbv gs gk n) ∧ Tbx w' gs gk n Sb Kb tx0 ∧ (w.heap.size ≤ gs ∧ w.heap.size ≤ gk ∧ ∀ i, i < n → w.heap.size ≤ Sb i ∧ w.heap.size ≤ Kb i) ∧ Below w.heap.size w w' := by
 have m1 := mk_rows n h6
 have m2 := mk_knowns n h6
 have m3 := mk_spans n h6
 have m4 := xmk_bools n h6
 go_enter Tryz.func155, Tryz.ntmps155
 go_wp2
 go_upto_region 1 with (fail)
 go_cut [3] from 5 to 34 (fun p w' => NwR n w p w')
 case first =>
  as_aux_lemma =>
   go_region
   all_goals
    go_wp2
    go_meet
    case rel =>
     first
      | exact nwR_mk (gs := w.heap.size + 1) (gk := w.heap.size + 1 + 1) (Row.dr (Row.made (by simp))) (Blk.dr (Blk.al (Blk.al (blk_rep (by simp))))) (Blk.dr (Blk.al (blk_rep (by simp)))) (Row.dr (Row.al (Row.al (Row.al (Row.made (by simp)))))) (rbel_dr (rbel_al (rbel_al (rbel_al (rbel_al (Below.refl _ _)))))) (by omega) (by omega) (by omega) (by omega) (by omega)
      | exact nwR_mk (gs := w.heap.size + 1) (gk := w.heap.size + 1 + 1 + 1) (Row.dr (Row.al (Row.made (by simp)))) (Blk.dr (Blk.al (Blk.al (blk_rep (by simp))))) (Blk.dr (blk_rep (by simp))) (Row.dr (Row.al (Row.al (Row.al (Row.made (by simp)))))) (rbel_dr (rbel_al (rbel_al (rbel_al (rbel_al (Below.refl _ _)))))) (by omega) (by omega) (by omega) (by omega) (by omega)
      | exact nwR_mk (gs := w.heap.size + 1 + 1) (gk := w.heap.size + 1) (Row.dr (Row.made (by simp))) (Blk.dr (Blk.al (blk_rep (by simp)))) (Blk.dr (Blk.al (Blk.al (blk_rep (by simp))))) (Row.dr (Row.al (Row.al (Row.al (Row.made (by simp)))))) (rbel_dr (rbel_al (rbel_al (rbel_al (rbel_al (Below.refl _ _)))))) (by omega) (by omega) (by omega) (by omega) (by omega)
      | exact nwR_mk (gs := w.heap.size + 1 + 1) (gk := w.heap.size + 1 + 1 + 1) (Row.dr (Row.al (Row.al (Row.made (by simp))))) (Blk.dr (Blk.al (blk_rep (by simp)))) (Blk.dr (blk_rep (by simp))) (Row.dr (Row.al (Row.al (Row.al (Row.made (by simp)))))) (rbel_dr (rbel_al (rbel_al (rbel_al (rbel_al (Below.refl _ _)))))) (by omega) (by omega) (by omega) (by omega) (by omega)
      | exact nwR_mk (gs := w.heap.size + 1 + 1 + 1) (gk := w.heap.size + 1) (Row.dr (Row.al (Row.made (by simp)))) (Blk.dr (blk_rep (by simp))) (Blk.dr (Blk.al (Blk.al (blk_rep (by simp))))) (Row.dr (Row.al (Row.al (Row.al (Row.made (by simp)))))) (rbel_dr (rbel_al (rbel_al (rbel_al (rbel_al (Below.refl _ _)))))) (by omega) (by omega) (by omega) (by omega) (by omega)
      | exact nwR_mk (gs := w.heap.size + 1 + 1 + 1) (gk := w.heap.size + 1 + 1) (Row.dr (Row.al (Row.al (Row.made (by simp))))) (Blk.dr (blk_rep (by simp))) (Blk.dr (Blk.al (blk_rep (by simp)))) (Row.dr (Row.al (Row.al (Row.al (Row.made (by simp)))))) (rbel_dr (rbel_al (rbel_al (rbel_al (rbel_al (Below.refl _ _)))))) (by omega) (by omega) (by omega) (by omega) (by omega)
 case rest =>
  obtain ⟨B, gs, gk, rfl, hR, hM, hO, hw, b1, b2, b3, b4, b5⟩ := hcut
  clear m1 m2
  have HM : Hid _ := hM
  have HR : Hid _ := hR
  have HO : Hid _ := hO
  have HW : Hid _ := hw
  clear hM hR hO hw
  go_wp2
  go_loopw [11] (fun i wr => ∃ (a : Nat) (Sb Kb : Nat → Nat), a ≤ n ∧ i = .int .i64 a ∧ Row wr B [.slice (some ⟨gs, 0, none⟩) n n, .slice (some ⟨gk, 0, none⟩) n n] ∧ Mkx wr (w.heap.size + 1) gs gk n a Sb Kb ∧ Row wr w.heap.size [.slice none 0 0, .slice none 0 0] ∧ Below w.heap.size w wr) (fun i _ => n - (intOf i).toNat)
  case atStart => exact ⟨0, _, _, Nat.zero_le _, rfl, HR.out, HM.out, HO.out, HW.out⟩
  case round =>
   clear HM HR HO HW
   obtain ⟨a, Sb, Kb, ha, rfl, hR, hM, hO, hw⟩ := hrel
   have c0 := hR.c 0 _ rfl
   have c1 := hR.c 1 _ rfl
   by_cases hlt : a < n
   ·have ha3 : (a : Int) < n := by omega
    have oS := hM.outS.c a _ (outp_at Sb n a a hlt)
    have oK := hM.outK.c a _ (outp_at Kb n a a hlt)
    have fS := hM.outS.f a
    have fK := hM.outK.f a
    have l1 := hM.outS.lt
    have l2 := hM.outK.lt
    have l3 := hR.lt
    have nsk : ¬ (gs = gk) := hM.outS.ne hM.outK (by decide)
    have nks : ¬ (gk = gs) := fun e => nsk e.symm
    have zw := hw.size
    have HM : Hid _ := hM
    have HR : Hid _ := hR
    have HO : Hid _ := hO
    have HW : Hid _ := hw
    clear hM hR hO hw
    go_upto_region 5 with (fail)
    go_cut [] from 14 to 33 (fun w' => ∃ x y, Mk2 wr w' gs gk n a x y Sb Kb ∧ Row w' B [.slice (some ⟨gs, 0, none⟩) n n, .slice (some ⟨gk, 0, none⟩) n n] ∧ Row w' w.heap.size [.slice none 0 0, .slice none 0 0] ∧ Below w.heap.size w w')
    case first =>
     as_aux_lemma =>
      go_region
      all_goals
       go_wp2
       go_meet
       case rel =>
        first
         | exact ⟨wr.heap.size + 1, wr.heap.size, ⟨((HM.out.outS.put a).far nsk).al.al.dr, ((HM.out.outK.far nks).put a).al.al.dr, Blk.dr (blk_rep (by simp)), Blk.dr (Blk.al (blk_rep (by simp))), fun e b vs h1 h2 h => ((h.far h1).far h2).al.al.dr, by omega, by omega⟩, ((HR.out.far b4).far b5).al.al.dr, ((HO.out.far (by omega)).far (by omega)).al.al.dr, rbel_dr (rbel_al (rbel_al (rbel_put (by omega) (rbel_put (by omega) HW.out))))⟩
         | exact ⟨wr.heap.size, wr.heap.size + 1, ⟨((HM.out.outS.put a).far nsk).al.al.dr, ((HM.out.outK.far nks).put a).al.al.dr, Blk.dr (Blk.al (blk_rep (by simp))), Blk.dr (blk_rep (by simp)), fun e b vs h1 h2 h => ((h.far h1).far h2).al.al.dr, by omega, by omega⟩, ((HR.out.far b4).far b5).al.al.dr, ((HO.out.far (by omega)).far (by omega)).al.al.dr, rbel_dr (rbel_al (rbel_al (rbel_put (by omega) (rbel_put (by omega) HW.out))))⟩
    case rest =>
     obtain ⟨x, y, h2, hR, hO, hw⟩ := hcut
     clear c0 c1 oS oK fS fK
     have d0 := hR.c 0 _ rfl
     have d1 := hR.c 1 _ rfl
     have e0 := h2.outK.c a (.slice (some ⟨y, 0, none⟩) n n) (List.getElem?_set_self (by simp [outp]; exact hlt))
     have e1 := h2.inK.c a (.bool false) (by simp [hlt])
     have e2 := h2.inK.f a
     obtain ⟨nx, ny⟩ := h2.new
     have HX : Hid _ := h2.done HM.out (by omega)
     have HR2 : Hid _ := hR
     have HO2 : Hid _ := hO
     have HW2 : Hid _ := hw
     have ny1 : ¬ (y = B) := by omega
     have ny2 : ¬ (y = w.heap.size) := by omega
     clear HM HR HO HW h2 hR hO hw
     go_wp2
     go_roundw
     case rel => exact ⟨a + 1, _, _, by omega, by go_num, HR2.out.far ny1, HX.out, HO2.out.far ny2, rbel_put (by omega) HW2.out⟩
     case measure => simp [intOf]; omega
   ·have hl3 : ¬ ((a : Int) < n) := by omega
    have e : a = n := by omega
    have HM : Hid (Mkx wr (w.heap.size + 1) gs gk n n Sb Kb) := by show Mkx _ _ _ _ _ _ _ _; rw [e] at hM; exact hM
    clear e
    have o0 := hO.c 0 _ rfl
    have o1 := hO.c 1 _ rfl
    have q0 := hO.f 0 _ rfl
    have q1 := hO.f 1 _ rfl
    have HW : Hid _ := hw
    clear hM hR hO hw
    go_wp2
    have TB := HM.out.done
    have lw := HM.out.low.2.2
    have HF : Hid (Tbx ((wr.setCell ⟨w.heap.size, 0, none⟩ (.slice (some ⟨gs, 0, none⟩) n n)).setCell ⟨w.heap.size, 1, none⟩ (.slice (some ⟨gk, 0, none⟩) n n)) gs gk n Sb Kb tx0) := (TB.far (by omega) (by omega) (fun i hi => by have := lw i hi; omega)).far (by omega) (by omega) (fun i hi => by have := lw i hi; omega)
    have HL : Hid (w.heap.size ≤ gs ∧ w.heap.size ≤ gk ∧ ∀ i, i < n → w.heap.size ≤ Sb i ∧ w.heap.size ≤ Kb i) := ⟨by omega, by omega, fun i hi => by have := lw i hi; omega⟩
    clear TB lw
    refine bodyPost_ret (v := tbv gs gk n) (by simp [results, Tryz.results155, go_sem, *]) rfl ?_
    exact ⟨gs, gk, rfl, Sb, Kb, HF.out, HL.out, rbel_put (Nat.le_refl _) (rbel_put (Nat.le_refl _) HW.out)⟩
set_option maxHeartbeats 4000000
set_option maxRecDepth 100000
def Spz (w : World) (b off n : Nat) (q : Nat → Int × Int) : Prop := ∀ i, i < n → w.cell? ⟨b, off + i * 2, none⟩ = some (.int .i64 (q i).1) ∧ w.cell? ⟨b, off + i * 2 + 1, none⟩ = some (.int .i64 (q i).2)
theorem Spz.on {W u : World} {b off n : Nat} {q : Nat → Int × Int} (hb : Below W.heap.size W u) (h : Spz W b off n q) : Spz u b off n q := fun i hi => by
 obtain ⟨h0, h1⟩ := h i hi
 exact ⟨by rw [hb.cell (World.block_lt_of_cell? _ _ h0)]; exact h0, by rw [hb.cell (World.block_lt_of_cell? _ _ h1)]; exact h1⟩
def Vls (w : World) (b off n : Nat) (v : Nat → Value) : Prop := ∀ i, i < n → w.cell? ⟨b, off + i, none⟩ = some (v i)
theorem Vls.on {W u : World} {b off n : Nat} {v : Nat → Value} (hb : Below W.heap.size W u) (h : Vls W b off n v) : Vls u b off n v := fun i hi => by
 rw [hb.cell (World.block_lt_of_cell? _ _ (h i hi))]; exact h i hi

theorem idx_spns (ad : Option Addr) (n cap : Nat) (q : Nat → Int × Int) (p : Nat → Bool) (w : World) (hn : n ≤ 9223372036854775807) (hP : n = 0 ∨ ∃ b off : Nat, ad = some ⟨b, off, none⟩ ∧ Spz w b off n q)
  (hp : ∀ i u, i < n → Below w.heap.size w u → Calls Tryz.prog 187 #[.agg #[.int .i64 (q i).1, .int .i64 (q i).2]] u fun e w' => e = .returned (.bool (p i)) ∧ Below u.heap.size u w') :
  Calls Tryz.prog 199 #[.slice ad n cap, .func (.func 187) #[] #[]] w fun e w' => ∃ r : Int, e = .returned (.int .i64 r) ∧ ((0 ≤ r ∧ anyB p n = true) ∨ (r = -1 ∧ anyB p n = false)) ∧ Below w.heap.size w w' := by
 have HA : Hid (n = 0 ∨ ∃ b off : Nat, ad = some ⟨b, off, none⟩ ∧ Spz w b off n q) := hP
 have HC : Hid (∀ i u, i < n → Below w.heap.size w u → Calls Tryz.prog 187 #[.agg #[.int .i64 (q i).1, .int .i64 (q i).2]] u fun e w' => e = .returned (.bool (p i)) ∧ Below u.heap.size u w') := hp
 clear hP hp
 go_enter Tryz.func199, Tryz.ntmps199
 go_wp2
 go_loopw [8] (fun i wr => ∃ k : Nat, k ≤ n ∧ i = .int .i64 k ∧ Below w.heap.size w wr ∧ ∀ j, j < k → p j = false) (fun i _ => n - (intOf i).toNat)
 case atStart => exact ⟨0, Nat.zero_le _, rfl, Below.refl _ _, fun j hj => by omega⟩
 case round =>
  obtain ⟨k, hk, rfl, hw, hg⟩ := hrel
  have HG : Hid (∀ j, j < k → p j = false) := hg
  have HW : Hid (Below w.heap.size w wr) := hw
  clear hg
  by_cases hlt : k < n
  ·have hl3 : (k : Int) < n := by omega
   obtain ⟨b, off, rfl, hP⟩ : ∃ b off : Nat, ad = some ⟨b, off, none⟩ ∧ Spz w b off n q := by
    rcases HA.out with e | h
    ·omega
    ·exact h
   have HP : Hid (Spz w b off n q) := hP
   clear hP
   have cC := HC.out k wr hlt hw
   obtain ⟨x0, x1⟩ := (HP.out.on hw) k hlt
   cases e : p k with
   | true =>
    rw [e] at cC
    have HY : Hid (anyB p n = true) := anyB_yes hlt e
    clear HC HA HP HG e hw
    as_aux_lemma =>
     generalize (q k).1 = ql at *
     generalize (q k).2 = qh at *
     go_wp2_with (go_at_call 187; refine cC.mono ?_; rintro e u0 ⟨rfl, hb⟩; have HB : Hid _ := hb; clear hb)
     go_ret
     exact ⟨_, rfl, Or.inl ⟨by omega, HY.out⟩, rbel_on HB.out HW.out⟩
   | false =>
    rw [e] at cC
    have HY : Hid (∀ j, j < k + 1 → p j = false) := fun j hj => by
     by_cases q : j = k
     ·rw [q]; exact e
     ·exact HG.out j (by omega)
    clear HC HA HP HG e hw
    as_aux_lemma =>
     generalize (q k).1 = ql at *
     generalize (q k).2 = qh at *
     go_wp2_with (go_at_call 187; refine cC.mono ?_; rintro e u0 ⟨rfl, hb⟩; have HB : Hid _ := hb; clear hb)
     go_roundw
     case rel => exact ⟨k + 1, by omega, by go_num, rbel_on HB.out HW.out, HY.out⟩
     case measure => simp [intOf]; omega
  ·have hl3 : ¬ ((k : Int) < n) := by omega
   have HY : Hid (anyB p n = false) := anyB_no (fun i hi => HG.out i (by omega))
   clear HC HA HG hw
   go_wp2
   go_ret
   exact ⟨_, rfl, Or.inr ⟨rfl, HY.out⟩, HW.out⟩
theorem any_spns (ad : Option Addr) (n cap : Nat) (q : Nat → Int × Int) (p : Nat → Bool) (w : World) (hn : n ≤ 9223372036854775807) (hP : n = 0 ∨ ∃ b off : Nat, ad = some ⟨b, off, none⟩ ∧ Spz w b off n q)
  (hp : ∀ i u, i < n → Below w.heap.size w u → Calls Tryz.prog 187 #[.agg #[.int .i64 (q i).1, .int .i64 (q i).2]] u fun e w' => e = .returned (.bool (p i)) ∧ Below u.heap.size u w') :
  Calls Tryz.prog 186 #[.slice ad n cap, .func (.func 187) #[] #[]] w fun e w' => e = .returned (.bool (anyB p n)) ∧ Below w.heap.size w w' := by
 have cI := idx_spns ad n cap q p w hn hP hp
 clear hP hp
 cases h : anyB p n
 all_goals
  rw [h] at cI
  go_enter Tryz.func186, Tryz.ntmps186
  go_wp2_with (go_at_call 199; refine cI.mono ?_; rintro e u0 ⟨r, rfl, hr, hb⟩; have HB : Hid _ := hb; clear hb; simp at hr; (try subst hr))
  go_ret
  exact ⟨rfl, HB.out⟩

theorem idx_rows (ad : Option Addr) (n cap : Nat) (v : Nat → Value) (p : Nat → Bool) (w : World) (hn : n ≤ 9223372036854775807) (hP : n = 0 ∨ ∃ b off : Nat, ad = some ⟨b, off, none⟩ ∧ Vls w b off n v)
  (hp : ∀ i u, i < n → Below w.heap.size w u → Calls Tryz.prog 185 #[v i] u fun e w' => e = .returned (.bool (p i)) ∧ Below u.heap.size u w') :
  Calls Tryz.prog 198 #[.slice ad n cap, .func (.func 185) #[] #[]] w fun e w' => ∃ r : Int, e = .returned (.int .i64 r) ∧ ((0 ≤ r ∧ anyB p n = true) ∨ (r = -1 ∧ anyB p n = false)) ∧ Below w.heap.size w w' := by
 have HA : Hid (n = 0 ∨ ∃ b off : Nat, ad = some ⟨b, off, none⟩ ∧ Vls w b off n v) := hP
 have HC : Hid (∀ i u, i < n → Below w.heap.size w u → Calls Tryz.prog 185 #[v i] u fun e w' => e = .returned (.bool (p i)) ∧ Below u.heap.size u w') := hp
 clear hP hp
 go_enter Tryz.func198, Tryz.ntmps198
 go_wp2
 go_loopw [8] (fun i wr => ∃ k : Nat, k ≤ n ∧ i = .int .i64 k ∧ Below w.heap.size w wr ∧ ∀ j, j < k → p j = false) (fun i _ => n - (intOf i).toNat)
 case atStart => exact ⟨0, Nat.zero_le _, rfl, Below.refl _ _, fun j hj => by omega⟩
 case round =>
  obtain ⟨k, hk, rfl, hw, hg⟩ := hrel
  have HG : Hid (∀ j, j < k → p j = false) := hg
  have HW : Hid (Below w.heap.size w wr) := hw
  clear hg
  by_cases hlt : k < n
  ·have hl3 : (k : Int) < n := by omega
   obtain ⟨b, off, rfl, hP⟩ : ∃ b off : Nat, ad = some ⟨b, off, none⟩ ∧ Vls w b off n v := by
    rcases HA.out with e | h
    ·omega
    ·exact h
   have HP : Hid (Vls w b off n v) := hP
   clear hP
   have cC := HC.out k wr hlt hw
   have x0 := (HP.out.on hw) k hlt
   cases e : p k with
   | true =>
    rw [e] at cC
    have HY : Hid (anyB p n = true) := anyB_yes hlt e
    clear HC HA HP HG e hw
    as_aux_lemma =>
     generalize v k = vk at *
     go_wp2_with (go_at_call 185; refine cC.mono ?_; rintro e u0 ⟨rfl, hb⟩; have HB : Hid _ := hb; clear hb)
     go_ret
     exact ⟨_, rfl, Or.inl ⟨by omega, HY.out⟩, rbel_on HB.out HW.out⟩
   | false =>
    rw [e] at cC
    have HY : Hid (∀ j, j < k + 1 → p j = false) := fun j hj => by
     by_cases q : j = k
     ·rw [q]; exact e
     ·exact HG.out j (by omega)
    clear HC HA HP HG e hw
    as_aux_lemma =>
     generalize v k = vk at *
     go_wp2_with (go_at_call 185; refine cC.mono ?_; rintro e u0 ⟨rfl, hb⟩; have HB : Hid _ := hb; clear hb)
     go_roundw
     case rel => exact ⟨k + 1, by omega, by go_num, rbel_on HB.out HW.out, HY.out⟩
     case measure => simp [intOf]; omega
  ·have hl3 : ¬ ((k : Int) < n) := by omega
   have HY : Hid (anyB p n = false) := anyB_no (fun i hi => HG.out i (by omega))
   clear HC HA HG hw
   go_wp2
   go_ret
   exact ⟨_, rfl, Or.inr ⟨rfl, HY.out⟩, HW.out⟩
theorem any_rows (ad : Option Addr) (n cap : Nat) (v : Nat → Value) (p : Nat → Bool) (w : World) (hn : n ≤ 9223372036854775807) (hP : n = 0 ∨ ∃ b off : Nat, ad = some ⟨b, off, none⟩ ∧ Vls w b off n v)
  (hp : ∀ i u, i < n → Below w.heap.size w u → Calls Tryz.prog 185 #[v i] u fun e w' => e = .returned (.bool (p i)) ∧ Below u.heap.size u w') :
  Calls Tryz.prog 184 #[.slice ad n cap, .func (.func 185) #[] #[]] w fun e w' => e = .returned (.bool (anyB p n)) ∧ Below w.heap.size w w' := by
 have cI := idx_rows ad n cap v p w hn hP hp
 clear hP hp
 cases h : anyB p n
 all_goals
  rw [h] at cI
  go_enter Tryz.func184, Tryz.ntmps184
  go_wp2_with (go_at_call 198; refine cI.mono ?_; rintro e u0 ⟨r, rfl, hr, hb⟩; have HB : Hid _ := hb; clear hb; simp at hr; (try subst hr))
  go_ret
  exact ⟨rfl, HB.out⟩
set_option maxHeartbeats 4000000
set_option maxRecDepth 100000
theorem spanCheck_any (lo hi : Int) (w : World) :
  Calls Tryz.prog 32 #[.agg #[.int .i64 lo, .int .i64 hi]] w fun e w' => e = .returned (errc (if okB lo hi = true then 0 else 1)) ∧ Below w.heap.size w w' := by
 cases h : okB lo hi with
 | true =>
  rw [if_pos rfl, errc_zero]
  obtain ⟨h1, h2, h3⟩ := okB_t h
  clear h
  go_enter Tryz.func32, Tryz.ntmps32
  go_wp2
  go_ret
  exact ⟨rfl, (Below.refl _ _).alloc (Nat.le_refl _) _⟩
 | false =>
  rw [if_neg (by decide), errc_not (by decide)]
  have h' := okB_f h
  clear h
  by_cases h1 : hi < lo
  ·go_enter Tryz.func32, Tryz.ntmps32
   go_wp2
   go_ret
   exact ⟨rfl, (Below.refl _ _).alloc (Nat.le_refl _) _⟩
  ·by_cases h2 : lo < -1000000000000
   ·go_enter Tryz.func32, Tryz.ntmps32
    go_wp2
    go_ret
    exact ⟨rfl, (Below.refl _ _).alloc (Nat.le_refl _) _⟩
   ·have h3 : 1000000000000 < hi := by omega
    clear h'
    go_enter Tryz.func32, Tryz.ntmps32
    go_wp2
    go_ret
    exact ⟨rfl, (Below.refl _ _).alloc (Nat.le_refl _) _⟩
def nodeB (n a : Int) : Bool := decide (0 ≤ a ∧ a < n)
theorem isNode_any (n a : Int) (w : World) : Calls Tryz.prog 154 #[.int .i64 n, .int .i64 a] w fun e w' => e = .returned (.bool (nodeB n a)) ∧ w' = w := by
 by_cases h1 : 0 ≤ a
 ·by_cases h2 : a < n
  ·rw [show nodeB n a = true from decide_eq_true ⟨h1, h2⟩]
   go_enter Tryz.func154, Tryz.ntmps154
   go_wp2
   go_ret
   exact ⟨rfl, rfl⟩
  ·rw [show nodeB n a = false from decide_eq_false (by omega)]
   have h3 : decide (a < n) = false := decide_eq_false h2
   clear h2
   go_enter Tryz.func154, Tryz.ntmps154
   go_wp2
   go_ret
   exact ⟨rfl, rfl⟩
 ·rw [show nodeB n a = false from decide_eq_false (by omega)]
  have h3 : decide (0 ≤ a) = false := decide_eq_false h1
  clear h1
  go_enter Tryz.func154, Tryz.ntmps154
  go_wp2
  go_ret
  exact ⟨rfl, rfl⟩
theorem checkEdge_c (n a b lo hi : Int) (A B : Bool) (w : World) (hA : Hid (nodeB n a = A)) (hB : Hid (nodeB n b = B)) (r : Value) (hr : (A = false ∧ r = errc 1) ∨ (A = true ∧ B = false ∧ r = errc 1) ∨ (A = true ∧ B = true ∧ a = b ∧ r = errc 3) ∨ (A = true ∧ B = true ∧ a ≠ b ∧ r = errc (if okB lo hi = true then 0 else 1))) :
  Calls Tryz.prog 181 #[.int .i64 n, .agg #[.int .i64 a, .int .i64 b, .int .i64 lo, .int .i64 hi]] w fun e w' => e = .returned r ∧ Below w.heap.size w w' := by
 have cA : ∀ u, Calls Tryz.prog 154 #[.int .i64 n, .int .i64 a] u fun e w' => e = .returned (.bool A) ∧ w' = u := fun u => by rw [← hA.out]; exact isNode_any n a u
 have cB : ∀ u, Calls Tryz.prog 154 #[.int .i64 n, .int .i64 b] u fun e w' => e = .returned (.bool B) ∧ w' = u := fun u => by rw [← hB.out]; exact isNode_any n b u
 have cS := fun u => spanCheck_any lo hi u
 generalize errc (if okB lo hi = true then 0 else 1) = es at *
 clear hA hB
 have cnt : Mark 0 := .mk _
 rcases hr with ⟨rfl, rfl⟩ | ⟨rfl, rfl, rfl⟩ | ⟨rfl, rfl, rfl, rfl⟩ | ⟨rfl, rfl, ne, rfl⟩
 ·rw [errc_not (by decide)]
  go_enter Tryz.func181, Tryz.ntmps181
  go_wp2_with (go_at_call 154; refine (cA _).mono ?_; rintro e u0 ⟨rfl, hu⟩; rw [hu]; clear hu)
  go_ret
  exact ⟨rfl, rbel_al (Below.refl _ _)⟩
 ·rw [errc_not (by decide)]
  go_enter Tryz.func181, Tryz.ntmps181
  go_wp2_with (first | (go_at_call 154; have cq : Mark 0 := cnt; refine (cA _).mono ?_; clear cq cnt; have cnt : Mark 1 := .mk _; rintro e u0 ⟨rfl, hu⟩; rw [hu]; clear hu) | (go_at_call 154; have cq : Mark 1 := cnt; refine (cB _).mono ?_; clear cq cnt; rintro e u1 ⟨rfl, hu⟩; rw [hu]; clear hu))
  go_ret
  exact ⟨rfl, rbel_al (Below.refl _ _)⟩
 ·rw [errc_not (by decide)]
  go_enter Tryz.func181, Tryz.ntmps181
  go_wp2_with (first | (go_at_call 154; have cq : Mark 0 := cnt; refine (cA _).mono ?_; clear cq cnt; have cnt : Mark 1 := .mk _; rintro e u0 ⟨rfl, hu⟩; rw [hu]; clear hu) | (go_at_call 154; have cq : Mark 1 := cnt; refine (cB _).mono ?_; clear cq cnt; rintro e u1 ⟨rfl, hu⟩; rw [hu]; clear hu))
  go_ret
  exact ⟨rfl, rbel_al (Below.refl _ _)⟩
 ·have ne' : (a == b) = false := by simpa using ne
  go_enter Tryz.func181, Tryz.ntmps181
  go_wp2_with (first | (go_at_call 154; have cq : Mark 0 := cnt; refine (cA _).mono ?_; clear cq cnt; have cnt : Mark 1 := .mk _; rintro e u0 ⟨rfl, hu⟩; rw [hu]; clear hu) | (go_at_call 154; have cq : Mark 1 := cnt; refine (cB _).mono ?_; clear cq cnt; rintro e u1 ⟨rfl, hu⟩; rw [hu]; clear hu) | (go_at_call 32; refine (cS _).mono ?_; rintro e u2 ⟨rfl, hb⟩; have HB : Hid _ := hb; clear hb))
  go_ret
  exact ⟨rfl, rbel_on HB.out (rbel_al (Below.refl _ _))⟩
theorem checkEdge_any (n : Int) (q : Nat → Eg) (i : Nat) (w : World) : Calls Tryz.prog 181 #[.int .i64 n, .agg #[.int .i64 (q i).a, .int .i64 (q i).b, .int .i64 (q i).lo, .int .i64 (q i).hi]] w fun e w' => e = .returned (errc (eEr n q i)) ∧ Below w.heap.size w w' := by
 refine checkEdge_c n (q i).a (q i).b (q i).lo (q i).hi _ _ w rfl rfl (errc (eEr n q i)) ?_
 unfold eEr
 cases h1 : nodeB n (q i).a with
 | false =>
  have := of_decide_eq_false h1
  exact Or.inl ⟨rfl, by rw [if_pos (by omega)]⟩
 | true =>
  have g1 := of_decide_eq_true h1
  cases h2 : nodeB n (q i).b with
  | false =>
   have := of_decide_eq_false h2
   exact Or.inr (Or.inl ⟨rfl, rfl, by rw [if_pos (by omega)]⟩)
  | true =>
   have g2 := of_decide_eq_true h2
   by_cases e : (q i).a = (q i).b
   ·exact Or.inr (Or.inr (Or.inl ⟨rfl, rfl, e, by rw [if_neg (by omega), if_pos e]⟩))
   ·exact Or.inr (Or.inr (Or.inr ⟨rfl, rfl, e, by rw [if_neg (by omega), if_neg e]⟩))
theorem check_low (n : Int) (a : Option Addr) (m cap : Nat) (w : World) (h : n < 1) :
  Calls Tryz.prog 153 #[.int .i64 n, .slice a m cap] w fun e w' => e = .returned (.iface 86 (.int .i64 1)) ∧ Below w.heap.size w w' := by
 go_enter Tryz.func153, Tryz.ntmps153
 go_wp2
 go_ret
 exact ⟨rfl, Below.refl _ _⟩
theorem check_high (n : Int) (a : Option Addr) (m cap : Nat) (w : World) (h1 : ¬ n < 1) (h : 6 < n) :
  Calls Tryz.prog 153 #[.int .i64 n, .slice a m cap] w fun e w' => e = .returned (.iface 86 (.int .i64 1)) ∧ Below w.heap.size w w' := by
 go_enter Tryz.func153, Tryz.ntmps153
 go_wp2
 go_ret
 exact ⟨rfl, Below.refl _ _⟩
theorem check_full (n : Int) (a : Option Addr) (m cap : Nat) (w : World) (h1 : ¬ n < 1) (h2 : ¬ 6 < n) (h : 40 < m) (hm : m ≤ 9223372036854775807) :
  Calls Tryz.prog 153 #[.int .i64 n, .slice a m cap] w fun e w' => e = .returned (.iface 86 (.int .i64 4)) ∧ Below w.heap.size w w' := by
 have h3 : (40 : Int) < m := by omega
 go_enter Tryz.func153, Tryz.ntmps153
 go_wp2
 go_ret
 exact ⟨rfl, Below.refl _ _⟩
theorem check_row (n : Int) (ad : Option Addr) (m cap : Nat) (q : Nat → Eg) (w : World) (h1 : ¬ n < 1) (h2 : ¬ 6 < n) (h40 : m ≤ 40) (hP : m = 0 ∨ ∃ b off : Nat, ad = some ⟨b, off, none⟩ ∧ Esp w b off m q) :
  Calls Tryz.prog 153 #[.int .i64 n, .slice ad m cap] w fun e w' => e = .returned (errc (eFr n q m)) ∧ Below w.heap.size w w' := by
 have HA : Hid (m = 0 ∨ ∃ b off : Nat, ad = some ⟨b, off, none⟩ ∧ Esp w b off m q) := hP
 clear hP
 have h41 : ¬ ((40 : Int) < m) := by omega
 go_enter Tryz.func153, Tryz.ntmps153
 go_wp2
 go_loopw [21] (fun i wr => ∃ k : Nat, k ≤ m ∧ i = .int .i64 k ∧ Below w.heap.size w wr ∧ ∀ j, j < k → eEr n q j = 0) (fun i _ => m - (intOf i).toNat)
 case atStart => exact ⟨0, Nat.zero_le _, rfl, Below.refl _ _, fun j hj => by omega⟩
 case round =>
  obtain ⟨k, hk, rfl, hw, hg⟩ := hrel
  have HG : Hid (∀ j, j < k → eEr n q j = 0) := hg
  have HW : Hid (Below w.heap.size w wr) := hw
  clear hg
  by_cases hlt : k < m
  ·have hl3 : (k : Int) < m := by omega
   obtain ⟨b, off, rfl, hP⟩ : ∃ b off : Nat, ad = some ⟨b, off, none⟩ ∧ Esp w b off m q := by
    rcases HA.out with e | h
    ·omega
    ·exact h
   obtain ⟨x0, x1, x2, x3⟩ := (hP.on hw) k hlt
   have hbz : b < wr.heap.size := World.block_lt_of_cell? _ _ x0
   have cC := fun u => checkEdge_any n q k u
   by_cases e : eEr n q k = 0
   ·rw [e, errc_zero] at cC
    have HY : Hid (∀ j, j < k + 1 → eEr n q j = 0) := fun j hj => by
     by_cases q' : j = k
     ·rw [q']; exact e
     ·exact HG.out j (by omega)
    clear HA HG e hw hP
    as_aux_lemma =>
     generalize (q k).a = qa at *
     generalize (q k).b = qb at *
     generalize (q k).lo = ql at *
     generalize (q k).hi = qh at *
     go_wp2_with (go_at_call 181; refine (cC _).mono ?_; rintro e u0 ⟨rfl, hb⟩; have HB : Hid _ := hb; clear hb)
     go_roundw
     case rel => exact ⟨k + 1, by omega, by go_num, rbel_on HB.out (rbel_al HW.out), HY.out⟩
     case measure => simp [intOf]; omega
   ·rw [errc_not e] at cC
    have HY : Hid (errc (eFr n q m) = .iface 86 (.int .i64 (eEr n q k))) := by show errc _ = _; rw [eFr_first HG.out e m hlt, errc_not e]
    clear HA HG e hw hP
    as_aux_lemma =>
     generalize eEr n q k = er at *
     generalize (q k).a = qa at *
     generalize (q k).b = qb at *
     generalize (q k).lo = ql at *
     generalize (q k).hi = qh at *
     go_wp2_with (go_at_call 181; refine (cC _).mono ?_; rintro e u0 ⟨rfl, hb⟩; have HB : Hid _ := hb; clear hb)
     go_ret
     exact ⟨congrArg Ending.returned HY.out.symm, rbel_on HB.out (rbel_al HW.out)⟩
  ·have hl3 : ¬ ((k : Int) < m) := by omega
   have HY : Hid (errc (eFr n q m) = .nilIface) := by show errc _ = _; rw [eFr_ok (fun i hi => HG.out i (by omega)), errc_zero]
   clear HA HG hw
   go_wp2
   go_ret
   exact ⟨congrArg Ending.returned HY.out.symm, HW.out⟩
theorem check_any (n : Int) (a : Option Addr) (m cap : Nat) (q : Nat → Eg) (w : World) (hH : EHanded w a m q) :
  Calls Tryz.prog 153 #[.int .i64 n, .slice a m cap] w fun e w' => e = .returned (errc (eE n q m)) ∧ Below w.heap.size w w' := by
 obtain ⟨hm, hH⟩ := hH
 by_cases h1 : n < 1
 ·rw [show eE n q m = 1 from if_pos (Or.inl h1), errc_not (by decide)]; exact check_low n a m cap w h1
 by_cases h2 : 6 < n
 ·rw [show eE n q m = 1 from if_pos (Or.inr h2), errc_not (by decide)]; exact check_high n a m cap w h1 h2
 by_cases h3 : 40 < m
 ·rw [show eE n q m = 4 from (if_neg (by omega)).trans (if_pos h3), errc_not (by decide)]; exact check_full n a m cap w h1 h2 h3 hm
 ·rw [show eE n q m = eFr n q m from (if_neg (by omega)).trans (if_neg h3)]
  exact check_row n a m cap q w h1 h2 (by omega) hH
set_option maxHeartbeats 8000000
set_option maxRecDepth 100000
theorem beyond11_any (lo hi : Int) (w : World) : Calls Tryz.prog 187 #[.agg #[.int .i64 lo, .int .i64 hi]] w fun e w' => e = .returned (.bool (!okB lo hi)) ∧ Below w.heap.size w w' := by
 have cS := fun u => spanCheck_any lo hi u
 cases h : okB lo hi with
 | true =>
  rw [h, if_pos rfl, errc_zero] at cS
  clear h
  go_enter Tryz.func187, Tryz.ntmps187
  go_wp2_with (go_at_call 32; refine (cS _).mono ?_; rintro e u2 ⟨rfl, hb⟩; have HB : Hid _ := hb; clear hb)
  go_ret
  exact ⟨rfl, rbel_on HB.out (rbel_al (Below.refl _ _))⟩
 | false =>
  rw [h, if_neg (by decide), errc_not (by decide)] at cS
  clear h
  go_enter Tryz.func187, Tryz.ntmps187
  go_wp2_with (go_at_call 32; refine (cS _).mono ?_; rintro e u2 ⟨rfl, hb⟩; have HB : Hid _ := hb; clear hb)
  go_ret
  exact ⟨rfl, rbel_on HB.out (rbel_al (Below.refl _ _))⟩
theorem beyond1_any (r n : Nat) (q : Nat → Int × Int) (w : World) (h6 : n ≤ 6) (hS : Spz w r 0 n q) : Calls Tryz.prog 185 #[.slice (some ⟨r, 0, none⟩) n n] w fun e w' => e = .returned (.bool (anyB (fun k => !okB (q k).1 (q k).2) n)) ∧ Below w.heap.size w w' := by
 have cA := any_spns (some ⟨r, 0, none⟩) n n q (fun k => !okB (q k).1 (q k).2) w (by omega) (Or.inr ⟨r, 0, rfl, hS⟩) (fun i u _ _ => beyond11_any (q i).1 (q i).2 u)
 clear hS
 generalize anyB (fun k => !okB (q k).1 (q k).2) n = bb at *
 go_enter Tryz.func185, Tryz.ntmps185
 go_wp2_with (go_at_call 186; refine cA.mono ?_; rintro e u2 ⟨rfl, hb⟩; have HB : Hid _ := hb; clear hb)
 go_ret
 exact ⟨rfl, HB.out⟩
def farB (n : Nat) (P : Tx) : Bool := anyB (fun i => anyB (fun k => !okB (xLo P i k) (xHi P i k)) n) n
theorem beyond_any (gs gk n : Nat) (Sb Kb : Nat → Nat) (P : Tx) (w : World) (h6 : n ≤ 6) (T : Tbx w gs gk n Sb Kb P) : Calls Tryz.prog 158 #[tbv gs gk n] w fun e w' => e = .returned (.bool (farB n P)) ∧ Below w.heap.size w w' := by
 have cA := fun u (hu : Below w.heap.size w u) => any_rows (some ⟨gs, 0, none⟩) n n (fun i => .slice (some ⟨Sb i, 0, none⟩) n n) (fun i => anyB (fun k => !okB (xLo P i k) (xHi P i k)) n) u (by omega) (Or.inr ⟨gs, 0, rfl, fun i hi => by rw [Nat.zero_add]; exact (T.on hu).outS.c i _ (outs_at Sb n i hi)⟩)
  (fun i u' hi hu' => beyond1_any (Sb i) n (fun k => (xLo P i k, xHi P i k)) u' h6 (fun k hk => by
   have b := (((T.on hu).on hu').inS i hi)
   rw [Nat.zero_add]
   exact ⟨b.c _ _ (rowS_lo P n i k hk), b.c _ _ (rowS_hi P n i k hk)⟩))
 clear T
 rw [show anyB (fun i => anyB (fun k => !okB (xLo P i k) (xHi P i k)) n) n = farB n P from rfl] at cA
 generalize farB n P = bb at *
 go_enter Tryz.func158, Tryz.ntmps158
 go_wp2_with (go_at_call 184; refine (cA _ (rbel_al (Below.refl _ _))).mono ?_; rintro e u2 ⟨rfl, hb⟩; have HB : Hid _ := hb; clear hb)
 go_ret
 exact ⟨rfl, rbel_on HB.out (rbel_al (Below.refl _ _))⟩
section
variable {q : Nat → Eg} {m n : Nat} {P : Tx} {T : Tb} {c : Int}
structure Tld (q : Nat → Eg) (m n : Nat) (P : Tx) (T : Tb) : Prop where
 same : ∀ i k, i < n → k < n → T i k = (P i k).map (fun x => x.2)
 turn : ∀ i k x, i < n → k < n → P i k = some x → ∃ y, P k i = some y ∧ y.2 = -x.1
 ord : ∀ i k x, i < n → k < n → P i k = some x → x.1 ≤ x.2
theorem tld (hE : Egs n q m) (G : Gd (Arc q m) n c P) (F : Fwx (Arc q m) n n P) (hT : IsT q m n T) : Tld q m n P T := by
 obtain ⟨_, h2, h3⟩ := top_isT hE G F
 refine ⟨fun i k hi hk => ?_, h3, fun i k x hi hk e => (G.ord i k x hi hk e).1⟩
 rw [hT.one h2 hi k]
 exact if_pos hk
theorem Tld.far (h : Tld q m n P T) : farB n P = true ↔ Far n T := by
 unfold farB
 rw [anyB_iff]
 constructor
 ·rintro ⟨i, hi, e⟩
  obtain ⟨k, hk, e⟩ := anyB_iff.1 e
  have o : okB (xLo P i k) (xHi P i k) = false := by simpa using e
  have o := okB_f o
  cases ep : P i k with
  | none =>
   rw [show xLo P i k = 0 by unfold xLo; rw [ep], show xHi P i k = 0 by unfold xHi; rw [ep]] at o
   omega
  | some x =>
   rw [show xLo P i k = x.1 by unfold xLo; rw [ep], show xHi P i k = x.2 by unfold xHi; rw [ep]] at o
   have or := h.ord i k x hi hk ep
   by_cases g : 1000000000000 < x.2
   ·exact ⟨i, k, x.2, hi, hk, by rw [h.same i k hi hk, ep]; rfl, Or.inr g⟩
   ·obtain ⟨y, y1, y2⟩ := h.turn i k x hi hk ep
    exact ⟨k, i, y.2, hk, hi, by rw [h.same k i hk hi, y1]; rfl, Or.inr (by omega)⟩
 ·rintro ⟨i, k, x, hi, hk, e, g⟩
  refine ⟨i, hi, anyB_iff.2 ⟨k, hk, ?_⟩⟩
  rw [h.same i k hi hk] at e
  cases ep : P i k with
  | none => rw [ep] at e; cases e
  | some z =>
   rw [ep] at e
   obtain rfl := Option.some.inj e
   have or := h.ord i k z hi hk ep
   have g : z.2 < -1000000000000 ∨ 1000000000000 < z.2 := g
   rw [show xLo P i k = z.1 by unfold xLo; rw [ep], show xHi P i k = z.2 by unfold xHi; rw [ep]]
   rw [okB_no (by omega)]; rfl
theorem Tld.stab (h : Tld q m n P T) {u : World} {gs gk : Nat} {Sb Kb : Nat → Nat} (t : Tbx u gs gk n Sb Kb P) : STab u (.slice (some ⟨gs, 0, none⟩) n n) (.slice (some ⟨gk, 0, none⟩) n n) n T := by
 refine ⟨gs, 0, n, gk, 0, n, Sb, fun _ => 0, fun _ => n, Kb, fun _ => 0, fun _ => n, rfl, rfl, fun i hi => ?_, fun i k hi hk => ?_⟩
 ·rw [Nat.zero_add]
  exact ⟨t.outS.c i _ (outs_at Sb n i hi), t.outK.c i _ (outs_at Kb n i hi)⟩
 ·rw [Nat.zero_add, Nat.zero_add]
  have e1 : spLo T i k = xLo P i k := by
   unfold spLo xLo
   rw [h.same i k hi hk]
   cases ep : P i k with
   | none => rfl
   | some x =>
    obtain ⟨y, y1, y2⟩ := h.turn i k x hi hk ep
    show -((T k i).getD 0) = x.1
    rw [h.same k i hk hi, y1]
    show -y.2 = x.1
    omega
  have e2 : spHi T i k = xHi P i k := by
   unfold spHi xHi
   rw [h.same i k hi hk]
   cases ep : P i k with
   | none => rfl
   | some x => rfl
  have e3 : (T i k).isSome = (P i k).isSome := by
   rw [h.same i k hi hk]
   cases P i k <;> rfl
  rw [e1, e2, e3]
  exact ⟨(t.inS i hi).c _ _ (rowS_lo P n i k hk), (t.inS i hi).c _ _ (rowS_hi P n i k hk), (t.inK i hi).c _ _ (rowK_at P n i k hk)⟩
end
def AllR (n : Nat) (T : Tb) (e : Int) (u : World) (r : Ending) (w' : World) : Prop := ∃ s h, r = .returned (.tuple #[s, h, errc e]) ∧ (e = 0 → STab w' s h n T) ∧ Below u.heap.size u w'
theorem below_keeps {S : Nat → Prop} {w a b : World} (h : Below w.heap.size w a) (k : Keeps S a b) (hS : ∀ x, S x → w.heap.size ≤ x) : Below w.heap.size w b := h.trans (k.below h.size hS)
theorem all_bad (z : Int) (a : Option Addr) (m cap : Nat) (q : Nat → Eg) (T : Tb) (w : World) (hH : EHanded w a m q) (h0 : eE z q m ≠ 0) :
  Calls Tryz.prog 125 #[.int .i64 z, .slice a m cap] w fun r w' => AllR z.toNat T (eE z q m) w r w' := by
 have cC := check_any z a m cap q w hH
 have HE : Hid (errc (eE z q m) = .iface 86 (.int .i64 (eE z q m))) := errc_not h0
 have H0 : Hid (eE z q m ≠ 0) := h0
 rw [errc_not h0] at cC
 clear h0 hH
 generalize eE z q m = er at *
 go_enter Tryz.func125, Tryz.ntmps125
 go_wp2_with (go_at_call 153; refine cC.mono ?_; rintro e u0 ⟨rfl, hb⟩; have HB : Hid _ := hb; clear hb)
 exact bodyPost_ret (v := .tuple #[.slice none 0 0, .slice none 0 0, .iface 86 (.int .i64 er)]) (by simp [results, Tryz.results125, go_sem]) rfl ⟨.slice none 0 0, .slice none 0 0, by rw [HE.out], fun e => absurd e H0.out, HB.out⟩
theorem all_good (n : Nat) (a : Option Addr) (m cap : Nat) (q : Nat → Eg) (e : Int) (T : Tb) (w : World) (hH : EHanded w a m q) (h0 : eE n q m = 0) (hA : AllA q m n e T) :
  Calls Tryz.prog 125 #[.int .i64 n, .slice a m cap] w fun r w' => AllR n T e w r w' := by
 have cC := check_any n a m cap q w hH
 rw [h0, errc_zero] at cC
 have hE := eE_zero h0
 have h6 : n ≤ 6 := by have := hE.n6; omega
 have HH : Hid (EHanded w a m q) := hH
 have HE : Hid (Egs n q m) := hE
 have HA : Hid (AllA q m n e T) := hA
 have N7 : Hid (Neg (Arc q m) n → errc e = .iface 86 (.int .i64 7) ∧ e ≠ 0) := fun hn => by
  rcases hA with ⟨_, rfl⟩ | ⟨g, _⟩
  ·exact ⟨errc_not (by decide), by decide⟩
  ·exact absurd hn g
 have HB0 : Hid (∀ b off, 0 < m → a = some ⟨b, off, none⟩ → b < w.heap.size) := fun b off hm ea => by
  rcases hH.2 with e' | ⟨b', off', e', s⟩
  ·omega
  ·rw [ea] at e'
   obtain ⟨rfl, rfl⟩ : b = b' ∧ off = off' := by simpa using e'
   exact World.block_lt_of_cell? _ _ (s 0 hm).1
 have cN := fun u => new_any n u h6
 clear hH h0 hA hE
 go_enter Tryz.func125, Tryz.ntmps125
 go_wp2_with (first
  | (go_at_call 153; refine cC.mono ?_; rintro e u0 ⟨rfl, hb⟩; have HB : Hid _ := hb; clear hb)
  | (go_at_call 155; refine (cN u0).mono ?_; rintro e u1 ⟨gs, gk, Sb, Kb, rfl, t1, lw, hb⟩; have T1 : Hid _ := t1; have LW : Hid _ := lw; have HB1 : Hid _ := hb; clear hb t1 lw)
  | fail)
 have BW := rbel_al (ob := .cells #[.slice (some ⟨gs, 0, none⟩) n n, .slice (some ⟨gk, 0, none⟩) n n] 258) (rbel_on HB1.out HB.out)
 have T2 := T1.out.al (ob := .cells #[.slice (some ⟨gs, 0, none⟩) n n, .slice (some ⟨gk, 0, none⟩) n n] 258)
 have RB := Row.made (W := u1) (b := u1.heap.size) (t := 258) (vs := [.slice (some ⟨gs, 0, none⟩) n n, .slice (some ⟨gk, 0, none⟩) n n]) rfl
 have LS : Hid (∀ k, Rwx n Sb Kb k → w.heap.size ≤ k) := fun k ⟨i, hi, e⟩ => by
  have h1 := LW.out.2.2 i hi
  have h2 := HB.out.size
  rcases e with rfl | rfl <;> omega
 have NB : Hid (¬ Rwx n Sb Kb u1.heap.size) := fun ⟨i, hi, e⟩ => by
  have h1 := T1.out.lt.2.2 i hi
  rcases e with e | e <;> omega
 have cE := edges_any gs gk n Sb Kb a m cap q _ T2 HE.out (HH.out.on BW) (fun b off hm ea h => by have h1 := HB0.out b off hm ea; have h2 := LS.out b h; omega)
 have HBW : Hid _ := BW
 have HRB : Hid (Row (u1.alloc (.cells #[.slice (some ⟨gs, 0, none⟩) n n, .slice (some ⟨gk, 0, none⟩) n n] 258)) u1.heap.size [.slice (some ⟨gs, 0, none⟩) n n, .slice (some ⟨gk, 0, none⟩) n n]) := RB
 clear BW T2 RB T1 LW HB HB1 cC cN HB0 HH
 refine cE.mono ?_
 rintro e' u2 ⟨hO, hK⟩
 have HK2 : Hid _ := hK
 have RB2 : Hid _ := hK.row NB.out HRB.out
 have BW2 : Hid _ := below_keeps HBW.out hK LS.out
 have rb0 := RB2.out.c 0 _ rfl
 have rb1 := RB2.out.c 1 _ rfl
 clear cE HRB HBW hK
 rcases hO with ⟨hN, rfl⟩ | ⟨P, rfl, t2, G2, F2⟩
 ·have HN : Hid _ := N7.out hN
  clear N7 HA HE hN
  as_aux_lemma =>
   go_wp2
   exact bodyPost_ret (v := .tuple #[.slice none 0 0, .slice none 0 0, .iface 86 (.int .i64 7)]) (by simp [results, Tryz.results125, go_sem]) rfl ⟨.slice none 0 0, .slice none 0 0, by rw [HN.out.1], fun e => absurd e HN.out.2, BW2.out⟩
 ·have cP := paths_any (Arc q m) gs gk n Sb Kb P u2 t2 G2 F2 h6
  clear t2 G2 F2
  go_wp2_with (fail)
  refine cP.mono ?_
  rintro e' u3 ⟨hO, hK⟩
  have RB3 : Hid _ := hK.row NB.out RB2.out
  have BW3 : Hid _ := below_keeps BW2.out hK LS.out
  have rc0 := RB3.out.c 0 _ rfl
  have rc1 := RB3.out.c 1 _ rfl
  clear cP hK RB2 BW2 HK2 rb0 rb1
  rcases hO with ⟨hN, rfl⟩ | ⟨P', c', rfl, t3, G3, F3⟩
  ·have HN : Hid _ := N7.out hN
   clear N7 HA HE hN
   as_aux_lemma =>
    go_wp2
    exact bodyPost_ret (v := .tuple #[.slice none 0 0, .slice none 0 0, .iface 86 (.int .i64 7)]) (by simp [results, Tryz.results125, go_sem]) rfl ⟨.slice none 0 0, .slice none 0 0, by rw [HN.out.1], fun e => absurd e HN.out.2, BW3.out⟩
  ·have nn := (top_isT HE.out G3 F3).1
   obtain ⟨hT, hf⟩ : IsT q m n T ∧ ((Far n T ∧ e = 1) ∨ (¬ Far n T ∧ e = 0)) := by
    rcases HA.out with ⟨g, _⟩ | ⟨_, g1, g2⟩
    ·exact absurd g nn
    ·exact ⟨g1, g2⟩
   have TL := tld HE.out G3 F3 hT
   have cB := beyond_any gs gk n Sb Kb P' u3 h6 t3
   have HT3 : Hid _ := t3
   have HTL : Hid _ := TL
   clear N7 HA HE nn hT G3 F3
   rcases hf with ⟨hf, rfl⟩ | ⟨hf, rfl⟩
   ·rw [TL.far.2 hf] at cB
    clear hf TL t3
    as_aux_lemma =>
     go_wp2_with (go_at_call 158; refine cB.mono ?_; rintro e u4 ⟨rfl, hb⟩; have HB4 : Hid _ := hb; clear hb)
     exact bodyPost_ret (v := .tuple #[.slice none 0 0, .slice none 0 0, .iface 86 (.int .i64 1)]) (by simp [results, Tryz.results125, go_sem]) rfl ⟨.slice none 0 0, .slice none 0 0, by rw [errc_not (by decide)], fun e => absurd e (by decide), rbel_on HB4.out BW3.out⟩
   ·rw [show farB n P' = false by
     cases e : farB n P' with
     | false => rfl
     | true => exact absurd (TL.far.1 e) hf] at cB
    clear hf TL t3
    as_aux_lemma =>
     go_wp2_with (go_at_call 158; refine cB.mono ?_; rintro e u4 ⟨rfl, hb⟩; have HB4 : Hid _ := hb; have rd0 : u4.cell? ⟨u1.heap.size, 0, none⟩ = some (.slice (some ⟨gs, 0, none⟩) n n) := (by rw [hb.cell (World.block_lt_of_cell? _ _ rc0)]; exact rc0); have rd1 : u4.cell? ⟨u1.heap.size, 1, none⟩ = some (.slice (some ⟨gk, 0, none⟩) n n) := (by rw [hb.cell (World.block_lt_of_cell? _ _ rc1)]; exact rc1); clear hb)
     go_quiet (fail)
     go_wp2
     exact bodyPost_ret (v := .tuple #[.slice (some ⟨gs, 0, none⟩) n n, .slice (some ⟨gk, 0, none⟩) n n, .nilIface]) (by simp [results, Tryz.results125, go_sem]) rfl ⟨_, _, by rw [errc_zero], fun _ => HTL.out.stab (HT3.out.on HB4.out).drn, rbel_drn (rbel_on HB4.out BW3.out)⟩
theorem all_any (z : Int) (a : Option Addr) (m cap : Nat) (q : Nat → Eg) (e : Int) (T : Tb) (w : World) (hH : EHanded w a m q) (hA : AllE z q m e T) :
  Calls Tryz.prog 125 #[.int .i64 z, .slice a m cap] w fun r w' => AllR z.toNat T e w r w' := by
 rcases hA with ⟨h0, rfl⟩ | ⟨h0, hA⟩
 ·exact all_bad z a m cap q T w hH h0
 ·obtain ⟨n, rfl⟩ : ∃ n : Nat, z = n := ⟨z.toNat, by have := (eE_zero h0).n1; omega⟩
  rw [Int.toNat_natCast] at hA ⊢
  exact all_good n a m cap q e T w hH h0 hA
set_option maxHeartbeats 8000000
set_option maxRecDepth 100000
theorem between_bad (z : Int) (a : Option Addr) (m cap : Nat) (q : Nat → Eg) (x y : Int) (w : World) (hH : EHanded w a m q) (h0 : eE z q m ≠ 0) :
  Calls Tryz.prog 124 #[.int .i64 z, .slice a m cap, .int .i64 x, .int .i64 y] w fun r w' => r = .returned (.tuple #[sp 0 0, errc (eE z q m)]) ∧ Below w.heap.size w w' := by
 have cC := fun u (hu : Below w.heap.size w u) => check_any z a m cap q u (hH.on hu)
 rw [errc_not h0] at cC ⊢
 clear h0 hH
 generalize eE z q m = er at *
 go_enter Tryz.func124, Tryz.ntmps124
 go_wp2_with (go_at_call 153; refine (cC _ (rbel_al (Below.refl _ _))).mono ?_; rintro e u0 ⟨rfl, hb⟩; have HB : Hid _ := hb; have r := Row.on hb (Row.made (W := w) (vs := [.int .i64 0, .int .i64 0]) rfl); have r0 := r.c 0 _ rfl; have r1 := r.c 1 _ rfl; have f0 := r.f 0 _ rfl; have f1 := r.f 1 _ rfl; clear hb r)
 exact bodyPost_ret (v := .tuple #[sp 0 0, .iface 86 (.int .i64 er)]) (by simp [results, Tryz.results124, go_sem, *]) rfl ⟨rfl, rbel_put (Nat.le_refl _) (rbel_put (Nat.le_refl _) (rbel_on HB.out (rbel_al (Below.refl _ _))))⟩
theorem between_no (z : Int) (a : Option Addr) (m cap : Nat) (q : Nat → Eg) (x y : Int) (w : World) (hH : EHanded w a m q) (h0 : eE z q m = 0) (X Y : Bool) (hX : Hid (nodeB z x = X)) (hY : Hid (nodeB z y = Y)) (hn : X = false ∨ (X = true ∧ Y = false)) :
  Calls Tryz.prog 124 #[.int .i64 z, .slice a m cap, .int .i64 x, .int .i64 y] w fun r w' => r = .returned (.tuple #[sp 0 0, errc 1]) ∧ Below w.heap.size w w' := by
 have cC := fun u (hu : Below w.heap.size w u) => check_any z a m cap q u (hH.on hu)
 rw [h0, errc_zero] at cC
 rw [errc_not (by decide)]
 have cX : ∀ u, Calls Tryz.prog 154 #[.int .i64 z, .int .i64 x] u fun e w' => e = .returned (.bool X) ∧ w' = u := fun u => by rw [← hX.out]; exact isNode_any z x u
 have cY : ∀ u, Calls Tryz.prog 154 #[.int .i64 z, .int .i64 y] u fun e w' => e = .returned (.bool Y) ∧ w' = u := fun u => by rw [← hY.out]; exact isNode_any z y u
 clear h0 hH hX hY
 have cnt : Mark 0 := .mk _
 rcases hn with rfl | ⟨rfl, rfl⟩
 ·go_enter Tryz.func124, Tryz.ntmps124
  go_wp2_with (first
   | (go_at_call 153; refine (cC _ (rbel_al (Below.refl _ _))).mono ?_; rintro e u0 ⟨rfl, hb⟩; have HB : Hid _ := hb; have r := Row.on hb (Row.made (W := w) (vs := [.int .i64 0, .int .i64 0]) rfl); have r0 := r.c 0 _ rfl; have r1 := r.c 1 _ rfl; have f0 := r.f 0 _ rfl; have f1 := r.f 1 _ rfl; clear hb r)
   | (go_at_call 154; refine (cX _).mono ?_; rintro e u1 ⟨rfl, hu⟩; rw [hu]; clear hu))
  exact bodyPost_ret (v := .tuple #[sp 0 0, .iface 86 (.int .i64 1)]) (by simp [results, Tryz.results124, go_sem, *]) rfl ⟨rfl, rbel_put (Nat.le_refl _) (rbel_put (Nat.le_refl _) (rbel_on HB.out (rbel_al (Below.refl _ _))))⟩
 ·go_enter Tryz.func124, Tryz.ntmps124
  go_wp2_with (first
   | (go_at_call 153; refine (cC _ (rbel_al (Below.refl _ _))).mono ?_; rintro e u0 ⟨rfl, hb⟩; have HB : Hid _ := hb; have r := Row.on hb (Row.made (W := w) (vs := [.int .i64 0, .int .i64 0]) rfl); have r0 := r.c 0 _ rfl; have r1 := r.c 1 _ rfl; have f0 := r.f 0 _ rfl; have f1 := r.f 1 _ rfl; clear hb r)
   | (go_at_call 154; have cq : Mark 0 := cnt; refine (cX _).mono ?_; clear cq cnt; have cnt : Mark 1 := .mk _; rintro e u1 ⟨rfl, hu⟩; rw [hu]; clear hu)
   | (go_at_call 154; have cq : Mark 1 := cnt; refine (cY _).mono ?_; clear cq cnt; rintro e u1 ⟨rfl, hu⟩; rw [hu]; clear hu))
  exact bodyPost_ret (v := .tuple #[sp 0 0, .iface 86 (.int .i64 1)]) (by simp [results, Tryz.results124, go_sem, *]) rfl ⟨rfl, rbel_put (Nat.le_refl _) (rbel_put (Nat.le_refl _) (rbel_on HB.out (rbel_al (Below.refl _ _))))⟩
theorem between_all (n : Nat) (a : Option Addr) (m cap : Nat) (q : Nat → Eg) (x y : Nat) (f : Int) (T : Tb) (w : World) (hH : EHanded w a m q) (h0 : eE n q m = 0) (hx : x < n) (hy : y < n) (hA : AllA q m n f T) (lo hi e : Int)
  (hr : (f ≠ 0 ∧ lo = 0 ∧ hi = 0 ∧ e = f) ∨ (f = 0 ∧ T x y = none ∧ lo = 0 ∧ hi = 0 ∧ e = 5) ∨ (f = 0 ∧ (∃ d, T x y = some d) ∧ lo = spLo T x y ∧ hi = spHi T x y ∧ e = 0)) :
  Calls Tryz.prog 124 #[.int .i64 n, .slice a m cap, .int .i64 x, .int .i64 y] w fun r w' => r = .returned (.tuple #[sp lo hi, errc e]) ∧ Below w.heap.size w w' := by
 have cC := fun u (hu : Below w.heap.size w u) => check_any n a m cap q u (hH.on hu)
 have cA := fun u (hu : Below w.heap.size w u) => all_good n a m cap q f T u (hH.on hu) h0 hA
 rw [h0, errc_zero] at cC
 have hx3 : (x : Int) < n := by omega
 have hy3 : (y : Int) < n := by omega
 have cX : ∀ u, Calls Tryz.prog 154 #[.int .i64 n, .int .i64 x] u fun e w' => e = .returned (.bool true) ∧ w' = u := fun u => by have := isNode_any n x u; rwa [show nodeB n x = true from decide_eq_true (by omega)] at this
 have cY : ∀ u, Calls Tryz.prog 154 #[.int .i64 n, .int .i64 y] u fun e w' => e = .returned (.bool true) ∧ w' = u := fun u => by have := isNode_any n y u; rwa [show nodeB n y = true from decide_eq_true (by omega)] at this
 clear h0 hH hA
 have cnt : Mark 0 := .mk _
 rcases hr with ⟨hf, rfl, rfl, rfl⟩ | ⟨rfl, ht, rfl, rfl, rfl⟩ | ⟨rfl, ⟨d, ht⟩, rfl, rfl, rfl⟩
 ·rw [errc_not hf]
  have HE : Hid (errc e = .iface 86 (.int .i64 e)) := errc_not hf
  clear hf
  go_enter Tryz.func124, Tryz.ntmps124
  go_wp2_with (first
   | (go_at_call 153; refine (cC _ (rbel_al (Below.refl _ _))).mono ?_; rintro e' u0 ⟨rfl, hb⟩; have HB : Hid _ := hb; have r := Row.on hb (Row.made (W := w) (vs := [.int .i64 0, .int .i64 0]) rfl); have HR : Hid _ := r; clear hb r)
   | (go_at_call 154; have cq : Mark 0 := cnt; refine (cX _).mono ?_; clear cq cnt; have cnt : Mark 1 := .mk _; rintro e' u1 ⟨rfl, hu⟩; rw [hu]; clear hu)
   | (go_at_call 154; have cq : Mark 1 := cnt; refine (cY _).mono ?_; clear cq cnt; have cnt : Mark 2 := .mk _; rintro e' u1 ⟨rfl, hu⟩; rw [hu]; clear hu)
   | (go_at_call 125; refine (cA _ (rbel_on HB.out (rbel_al (Below.refl _ _)))).mono ?_; rintro e' u2 ⟨s, h, he, _, hb⟩; rw [HE.out] at he; subst he; have HB2 : Hid _ := hb; have r := Row.on hb HR.out; have r0 := r.c 0 _ rfl; have r1 := r.c 1 _ rfl; have f0 := r.f 0 _ rfl; have f1 := r.f 1 _ rfl; clear hb r))
  exact bodyPost_ret (v := .tuple #[sp 0 0, .iface 86 (.int .i64 e)]) (by simp [results, Tryz.results124, go_sem, *]) rfl ⟨rfl, rbel_put (Nat.le_refl _) (rbel_put (Nat.le_refl _) (rbel_on HB2.out (rbel_on HB.out (rbel_al (Below.refl _ _)))))⟩
 ·rw [errc_not (by decide)]
  have HT : Hid (T x y = none) := ht
  clear ht
  go_enter Tryz.func124, Tryz.ntmps124
  go_wp2_with (first
   | (go_at_call 153; refine (cC _ (rbel_al (Below.refl _ _))).mono ?_; rintro e' u0 ⟨rfl, hb⟩; have HB : Hid _ := hb; have r := Row.on hb (Row.made (W := w) (vs := [.int .i64 0, .int .i64 0]) rfl); have HR : Hid _ := r; clear hb r)
   | (go_at_call 154; have cq : Mark 0 := cnt; refine (cX _).mono ?_; clear cq cnt; have cnt : Mark 1 := .mk _; rintro e' u1 ⟨rfl, hu⟩; rw [hu]; clear hu)
   | (go_at_call 154; have cq : Mark 1 := cnt; refine (cY _).mono ?_; clear cq cnt; have cnt : Mark 2 := .mk _; rintro e' u1 ⟨rfl, hu⟩; rw [hu]; clear hu)
   | (go_at_call 125; refine (cA _ (rbel_on HB.out (rbel_al (Below.refl _ _)))).mono ?_; rintro e' u2 ⟨s, h, rfl, hst, hb⟩; obtain ⟨sb, so, sc, hb', ho, hc, rb, ro, rc, gb, go, gc, rfl, rfl, g1, g2⟩ := hst rfl; rw [errc_zero]; obtain ⟨q1, q2⟩ := g1 x hx; obtain ⟨p1, p2, p3⟩ := g2 x y hx hy; rw [HT.out] at p3; have p3' : u2.cell? ⟨gb x, go x + y, none⟩ = some (.bool false) := p3; have HB2 : Hid _ := hb; have r := Row.on hb HR.out; have r0 := r.c 0 _ rfl; have r1 := r.c 1 _ rfl; have f0 := r.f 0 _ rfl; have f1 := r.f 1 _ rfl; clear hb r hst g1 g2 p3))
  exact bodyPost_ret (v := .tuple #[sp 0 0, .iface 86 (.int .i64 5)]) (by simp [results, Tryz.results124, go_sem, *]) rfl ⟨rfl, rbel_put (Nat.le_refl _) (rbel_put (Nat.le_refl _) (rbel_on HB2.out (rbel_on HB.out (rbel_al (Below.refl _ _)))))⟩
 ·rw [errc_zero]
  have HT : Hid (T x y = some d) := ht
  clear ht
  go_enter Tryz.func124, Tryz.ntmps124
  go_wp2_with (first
   | (go_at_call 153; refine (cC _ (rbel_al (Below.refl _ _))).mono ?_; rintro e' u0 ⟨rfl, hb⟩; have HB : Hid _ := hb; have r := Row.on hb (Row.made (W := w) (vs := [.int .i64 0, .int .i64 0]) rfl); have HR : Hid _ := r; clear hb r)
   | (go_at_call 154; have cq : Mark 0 := cnt; refine (cX _).mono ?_; clear cq cnt; have cnt : Mark 1 := .mk _; rintro e' u1 ⟨rfl, hu⟩; rw [hu]; clear hu)
   | (go_at_call 154; have cq : Mark 1 := cnt; refine (cY _).mono ?_; clear cq cnt; have cnt : Mark 2 := .mk _; rintro e' u1 ⟨rfl, hu⟩; rw [hu]; clear hu)
   | (go_at_call 125; refine (cA _ (rbel_on HB.out (rbel_al (Below.refl _ _)))).mono ?_; rintro e' u2 ⟨s, h, rfl, hst, hb⟩; obtain ⟨sb, so, sc, hb', ho, hc, rb, ro, rc, gb, go, gc, rfl, rfl, g1, g2⟩ := hst rfl; rw [errc_zero]; obtain ⟨q1, q2⟩ := g1 x hx; obtain ⟨p1, p2, p3⟩ := g2 x y hx hy; rw [HT.out] at p3; have p3' : u2.cell? ⟨gb x, go x + y, none⟩ = some (.bool true) := p3; have HB2 : Hid _ := hb; have r := Row.on hb HR.out; have r0 := r.c 0 _ rfl; have r1 := r.c 1 _ rfl; have f0 := r.f 0 _ rfl; have f1 := r.f 1 _ rfl; clear hb r hst g1 g2 p3))
  exact bodyPost_ret (v := .tuple #[sp (spLo T x y) (spHi T x y), .nilIface]) (by simp [results, Tryz.results124, go_sem, *]) rfl ⟨rfl, rbel_put (Nat.le_refl _) (rbel_put (Nat.le_refl _) (rbel_on HB2.out (rbel_on HB.out (rbel_al (Below.refl _ _)))))⟩
theorem between_any (z : Int) (a : Option Addr) (m cap : Nat) (q : Nat → Eg) (x y lo hi e : Int) (w : World) (hH : EHanded w a m q) (hB : BetA z q m x y lo hi e) :
  Calls Tryz.prog 124 #[.int .i64 z, .slice a m cap, .int .i64 x, .int .i64 y] w fun r w' => r = .returned (.tuple #[sp lo hi, errc e]) ∧ Below w.heap.size w w' := by
 rcases hB with ⟨h0, rfl, rfl, rfl⟩ | ⟨h0, hn, rfl, rfl, rfl⟩ | ⟨h0, hn, f, T, hA, hr⟩
 ·exact between_bad z a m cap q x y w hH h0
 ·refine between_no z a m cap q x y w hH h0 _ _ rfl rfl ?_
  cases e : nodeB z x with
  | false => exact Or.inl rfl
  | true =>
   have := of_decide_eq_true e
   exact Or.inr ⟨rfl, decide_eq_false (by omega)⟩
 ·obtain ⟨n, rfl⟩ : ∃ n : Nat, z = n := ⟨z.toNat, by omega⟩
  obtain ⟨x, rfl⟩ : ∃ x' : Nat, x = x' := ⟨x.toNat, by omega⟩
  obtain ⟨y, rfl⟩ : ∃ y' : Nat, y = y' := ⟨y.toNat, by omega⟩
  rw [Int.toNat_natCast] at hA
  rw [Int.toNat_natCast, Int.toNat_natCast] at hr
  exact between_all n a m cap q x y f T w hH h0 (by omega) (by omega) hA lo hi e hr
end Go.Proofs.YtadkgnbagmnkkakGreatDoor
