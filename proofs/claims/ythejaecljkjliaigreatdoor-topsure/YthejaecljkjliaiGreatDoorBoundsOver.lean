/- What bounds' tables learn: what is known over one node; over all of them. -/
import Derived.Test.YthejaecljkjliaiGreatDoorBoundsLearn
namespace Go.Proofs.YthejaecljkjliaiGreatDoor
open Go.ChangeShapes Go.WideShapes Go.ChangeAt Go.RowKit Go.Joins
set_option linter.unusedVariables false
set_option linter.unusedSimpArgs false

/-- What is answered of one node more. -/
def OvR (R : Nat → Nat → Int → Prop) (gs gk n o : Nat) (Sb Kb : Nat → Nat) (P0 : Tx) (w : World) (e : Ending) (w' : World) : Prop :=
  ((Neg R n ∧ e = .returned (.bool false)) ∨ ∃ P, e = .returned (.bool true) ∧ Tbx w' gs gk n Sb Kb P ∧ Mid n o P0 P n 0) ∧ Keeps (Rwx n Sb Kb) w w'
set_option maxRecDepth 100000 in
set_option maxHeartbeats 8000000 in
theorem over_any (R : Nat → Nat → Int → Prop) (gs gk n o : Nat) (Sb Kb : Nat → Nat) (P0 : Tx) (c : Int) (w : World) (T : Tbx w gs gk n Sb Kb P0) (G : Gd R n c P0) (ho : o < n) (h6 : n ≤ 6) (hc : c ≤ 1000000000000000) :
    Calls Tryz.prog 97 #[tbv gs gk n, .int .i64 o] w fun e w' => OvR R gs gk n o Sb Kb P0 w e w' := by
  obtain ⟨l1, l2, l3⟩ := T.lt
  have HB : Hid (∀ k, Rwx n Sb Kb k → k < w.heap.size) := fun k ⟨i, hi, e⟩ => by
    rcases e with rfl | rfl
    · exact (l3 i hi).1
    · exact (l3 i hi).2
  have HT : Hid (Tbx w gs gk n Sb Kb P0) := T
  have HGd : Hid (Gd R n c P0) := G
  have ho3 : (o : Int) < n := by omega
  have cL : Hid (∀ a b P lo hi u, Tbx u gs gk n Sb Kb P → a < n → b < n → Calls Tryz.prog 96 #[tbv gs gk n, .int .i64 a, .int .i64 b, sp lo hi] u fun e w' => e = .returned (.bool (decide ((nar (lo, hi) (P a b)).1 ≤ (nar (lo, hi) (P a b)).2))) ∧ Tbx w' gs gk n Sb Kb (updx P a b (nar (lo, hi) (P a b))) ∧ Keeps (Rwx n Sb Kb) u w') :=
    fun a b P lo hi u t ha hb => learn_any gs gk n a b Sb Kb P lo hi u t ha hb h6
  clear T G l3
  go_enter Tryz.func97, Tryz.ntmps97
  go_wp2
  go_loopw [12] (fun i wr => ∃ (a : Nat) (P : Tx), a ≤ n ∧ i = .int .i64 a ∧ Row wr w.heap.size [.slice (some ⟨gs, 0, none⟩) n n, .slice (some ⟨gk, 0, none⟩) n n] ∧ Tbx wr gs gk n Sb Kb P ∧ Mid n o P0 P a 0 ∧ Keeps (Rwx n Sb Kb) w wr) (fun i _ => n - (intOf i).toNat)
  case atStart => exact ⟨0, P0, Nat.zero_le _, rfl, Row.made rfl, HT.out.al, Mid.start, (Keeps.refl _ w).al⟩
  case round =>
    clear l1 l2
    obtain ⟨a, P, ha, rfl, hR, hT, hM, hK⟩ := hrel
    have c0 := hR.c 0 _ rfl
    have c1 := hR.c 1 _ rfl
    have HR : Hid _ := hR
    have HT' : Hid _ := hT
    have HM : Hid _ := hM
    have HK : Hid _ := hK
    clear hR hT hM hK
    by_cases hlt : a < n
    · have ha3 : (a : Int) < n := by omega
      go_wp2
      go_loopw [18] (fun i wr => ∃ (b : Nat) (P : Tx), b ≤ n ∧ i = .int .i64 b ∧ Row wr w.heap.size [.slice (some ⟨gs, 0, none⟩) n n, .slice (some ⟨gk, 0, none⟩) n n] ∧ Tbx wr gs gk n Sb Kb P ∧ Mid n o P0 P a b ∧ Keeps (Rwx n Sb Kb) w wr) (fun i _ => n - (intOf i).toNat)
      case atStart => exact ⟨0, P, Nat.zero_le _, rfl, HR.out, HT'.out, HM.out, HK.out⟩
      case round =>
        clear c0 c1 HR HT' HM HK
        obtain ⟨b, P, hb, rfl, hR, hT, hM, hK⟩ := hrel
        by_cases hlb : b < n
        · have hb3 : (b : Int) < n := by omega
          have c0 := hR.c 0 _ rfl
          have c1 := hR.c 1 _ rfl
          have cA := hM.col (HGd.out.diag o ho) ho hlt
          have cB := hM.rw' (HGd.out.diag o ho) ho hlb
          have kA := (hT.inK a hlt).c o _ (rowK_at P n a o ho)
          have kB := (hT.inK o ho).c b _ (rowK_at P n o b hlb)
          have oKa := hT.outK.c a _ (outs_at Kb n a hlt)
          have oKo := hT.outK.c o _ (outs_at Kb n o ho)
          rw [cA] at kA
          rw [cB] at kB
          cases ex : P0 a o with
          | none =>
            rw [ex] at kA
            have kA' : wr.cell? ⟨Kb a, o, none⟩ = some (.bool false) := kA
            have HE : Hid (Mid n o P0 P a (b + 1)) := hM.skip HGd.out hlt hlb (Or.inl ex)
            have HR : Hid _ := hR
            have HT' : Hid _ := hT
            have HK : Hid _ := hK
            clear hR hT hM hK cA cB kA kB ex
            go_wp2
            go_roundw
            case rel => exact ⟨b + 1, P, by omega, by go_num, HR.out, HT'.out, HE.out, HK.out⟩
            case measure => simp [intOf]; omega
          | some x =>
            rw [ex] at kA
            have kA' : wr.cell? ⟨Kb a, o, none⟩ = some (.bool true) := kA
            cases ey : P0 o b with
            | none =>
              rw [ey] at kB
              have kB' : wr.cell? ⟨Kb o, b, none⟩ = some (.bool false) := kB
              have HE : Hid (Mid n o P0 P a (b + 1)) := hM.skip HGd.out hlt hlb (Or.inr ey)
              have HR : Hid _ := hR
              have HT' : Hid _ := hT
              have HK : Hid _ := hK
              clear hR hT hM hK cA cB kA kB ex ey
              go_wp2
              go_roundw
              case rel => exact ⟨b + 1, P, by omega, by go_num, HR.out, HT'.out, HE.out, HK.out⟩
              case measure => simp [intOf]; omega
            | some y =>
              rw [ey] at kB
              have kB' : wr.cell? ⟨Kb o, b, none⟩ = some (.bool true) := kB
              obtain ⟨x1, x2⟩ := x
              obtain ⟨y1, y2⟩ := y
              have bx := HGd.out.ord a o _ hlt ho ex
              have by' := HGd.out.ord o b _ ho hlb ey
              simp only at bx by'
              have HS : Hid (SP R a b (nar (x1 + y1, x2 + y2) (P a b))) := hM.sound HGd.out ho hlt hlb ex ey
              have HE : Hid ((nar (x1 + y1, x2 + y2) (P a b)).1 ≤ (nar (x1 + y1, x2 + y2) (P a b)).2 → Mid n o P0 (updx P a b (nar (x1 + y1, x2 + y2) (P a b))) a (b + 1)) := fun ok => hM.step hlt hlb ex ey ok
              have oSa := hT.outS.c a _ (outs_at Sb n a hlt)
              have oSo := hT.outS.c o _ (outs_at Sb n o ho)
              have s0 := (hT.inS a hlt).c _ _ (rowS_lo P n a o ho)
              have s1 := (hT.inS a hlt).c _ _ (rowS_hi P n a o ho)
              have t0 := (hT.inS o ho).c _ _ (rowS_lo P n o b hlb)
              have t1 := (hT.inS o ho).c _ _ (rowS_hi P n o b hlb)
              rw [show xLo P a o = x1 by unfold xLo; rw [cA, ex]] at s0
              rw [show xHi P a o = x2 by unfold xHi; rw [cA, ex]] at s1
              rw [show xLo P o b = y1 by unfold xLo; rw [cB, ey]] at t0
              rw [show xHi P o b = y2 by unfold xHi; rw [cB, ey]] at t1
              have w1 : IntKind.i64.wrap (x1 + y1) = x1 + y1 := IntWalk.i64_in _ (by omega)
              have w2 : IntKind.i64.wrap (x2 + y2) = x2 + y2 := IntWalk.i64_in _ (by omega)
              have HR : Hid _ := hR
              have HT' : Hid _ := hT
              have HK : Hid _ := hK
              have hz := hR.lt
              obtain ⟨l1, l2, l3⟩ := hT.lt
              have l4 := (l3 a hlt).1
              have l5 := (l3 o ho).1
              clear hR hT hM hK cA cB kA kB ex ey l3 bx by'
              have cQ := fun u (t : Tbx u gs gk n Sb Kb P) => cL.out a b P (x1 + y1) (x2 + y2) u t hlt hlb
              have HZ : Hid (w.heap.size < wr.heap.size) := hz
              generalize nar (x1 + y1, x2 + y2) (P a b) = N at *
              have NS : Hid (¬ Rwx n Sb Kb w.heap.size) := fun k => Nat.lt_irrefl _ (HB.out _ k)
              by_cases ok : N.1 ≤ N.2
              · as_aux_lemma =>
                  rw [decide_eq_true ok] at cQ
                  have HE2 : Hid _ := HE.out ok
                  clear HE HS ok
                  go_upto_region 8 with (fail)
                  go_region
                  all_goals
                    go_wp2_with (go_at_call 96; refine (cQ _ HT'.out.al.al.dr).mono ?_; rintro e u0 ⟨rfl, hT0, hK0⟩; have HT0 : Hid _ := hT0; have HK0 : Hid _ := hK0; clear hT0 hK0)
                    go_roundw
                    case rel => exact ⟨b + 1, _, by omega, by go_num, HK0.out.row NS.out HR.out.al.al.dr, HT0.out, HE2.out, HK.out.al.al.dr.trans HK0.out⟩
                    case measure => simp [intOf]; omega
              · as_aux_lemma =>
                  rw [decide_eq_false ok] at cQ
                  have HE2 : Hid (Neg R n) := HS.out.neg hlt (by omega)
                  clear HE HS ok
                  go_upto_region 8 with (fail)
                  go_region
                  all_goals
                    go_wp2_with (go_at_call 96; refine (cQ _ HT'.out.al.al.dr).mono ?_; rintro e u0 ⟨rfl, hT0, hK0⟩; have HT0 : Hid _ := hT0; have HK0 : Hid _ := hK0; clear hT0 hK0)
                    go_ret
                    exact ⟨Or.inl ⟨HE2.out, rfl⟩, HK.out.al.al.dr.trans HK0.out⟩
        · have hl3 : ¬ ((b : Int) < n) := by omega
          have HE : Hid (Mid n o P0 P (a + 1) 0) := by show Mid _ _ _ _ _ _; have e : b = n := by omega
                                                       rw [e] at hM; exact hM.row
          have HR : Hid _ := hR
          have HT' : Hid _ := hT
          have HK : Hid _ := hK
          clear hR hT hM hK
          go_wp2
          go_roundw
          case rel => exact ⟨a + 1, P, by omega, by go_num, HR.out, HT'.out, HE.out, HK.out⟩
          case measure => simp [intOf]; omega
    · have hl3 : ¬ ((a : Int) < n) := by omega
      have e : a = n := by omega
      have HE : Hid (Mid n o P0 P n 0) := by show Mid _ _ _ _ _ _; have h := HM.out; rw [e] at h; exact h
      clear e HM
      go_wp2
      go_ret
      exact ⟨Or.inr ⟨P, rfl, HT'.out, HE.out⟩, HK.out⟩
end Go.Proofs.YthejaecljkjliaiGreatDoor
