/- What bounds' tables learn: over all nodes; of all edges. -/
import Derived.Test.YthejaecljkjliaiGreatDoorBoundsOver
namespace Go.Proofs.YthejaecljkjliaiGreatDoor
open Go.ChangeShapes Go.WideShapes Go.ChangeAt Go.RowKit Go.Joins
set_option linter.unusedVariables false
set_option linter.unusedSimpArgs false

def lim : Nat → Int
  | 0 => 1000000000000
  | a + 1 => 2 * lim a
theorem lim_le {a : Nat} (h : a ≤ 6) : 0 ≤ lim a ∧ lim a ≤ 1000000000000000 := by
  match a, h with
  | 0, _ => decide
  | 1, _ => decide
  | 2, _ => decide
  | 3, _ => decide
  | 4, _ => decide
  | 5, _ => decide
  | 6, _ => decide
/-- What is answered of all ways. -/
def PaR (R : Nat → Nat → Int → Prop) (gs gk n : Nat) (Sb Kb : Nat → Nat) (w : World) (e : Ending) (w' : World) : Prop :=
  ((Neg R n ∧ e = .returned (.bool false)) ∨ ∃ P c, e = .returned (.bool true) ∧ Tbx w' gs gk n Sb Kb P ∧ Gd R n c P ∧ Fwx R n n P) ∧ Keeps (Rwx n Sb Kb) w w'
set_option maxRecDepth 100000 in
set_option maxHeartbeats 8000000 in
theorem paths_any (R : Nat → Nat → Int → Prop) (gs gk n : Nat) (Sb Kb : Nat → Nat) (P0 : Tx) (w : World) (T : Tbx w gs gk n Sb Kb P0) (G : Gd R n 1000000000000 P0) (F : Fwx R n 0 P0) (h6 : n ≤ 6) :
    Calls Tryz.prog 65 #[tbv gs gk n] w fun e w' => PaR R gs gk n Sb Kb w e w' := by
  obtain ⟨l1, l2, l3⟩ := T.lt
  have HB : Hid (∀ k, Rwx n Sb Kb k → k < w.heap.size) := fun k ⟨i, hi, e⟩ => by
    rcases e with rfl | rfl
    · exact (l3 i hi).1
    · exact (l3 i hi).2
  have NS : Hid (¬ Rwx n Sb Kb w.heap.size) := fun k => Nat.lt_irrefl _ (HB.out _ k)
  have HT : Hid (Tbx w gs gk n Sb Kb P0) := T
  have HGd : Hid (Gd R n 1000000000000 P0) := G
  have HF : Hid (Fwx R n 0 P0) := F
  clear T G F l1 l2 l3
  go_enter Tryz.func65, Tryz.ntmps65
  go_wp2
  go_loopw [7] (fun i wr => ∃ (a : Nat) (P : Tx), a ≤ n ∧ i = .int .i64 a ∧ Row wr w.heap.size [.slice (some ⟨gs, 0, none⟩) n n, .slice (some ⟨gk, 0, none⟩) n n] ∧ Tbx wr gs gk n Sb Kb P ∧ Gd R n (lim a) P ∧ Fwx R n a P ∧ Keeps (Rwx n Sb Kb) w wr) (fun i _ => n - (intOf i).toNat)
  case atStart => exact ⟨0, P0, Nat.zero_le _, rfl, Row.made rfl, HT.out.al, HGd.out, HF.out, (Keeps.refl _ w).al⟩
  case round =>
    clear HT HGd HF
    obtain ⟨a, P, ha, rfl, hR, hT, hG, hF, hK⟩ := hrel
    have c0 := hR.c 0 _ rfl
    have c1 := hR.c 1 _ rfl
    have HR : Hid _ := hR
    have HT : Hid _ := hT
    have HK : Hid _ := hK
    by_cases hlt : a < n
    · have ha3 : (a : Int) < n := by omega
      have cO := fun u t => over_any R gs gk n a Sb Kb P (lim a) u t hG hlt h6 (lim_le (show a ≤ 6 by omega)).2
      have HN : Hid (∀ P', Mid n a P P' n 0 → Gd R n (lim (a + 1)) P' ∧ Fwx R n (a + 1) P') := fun P' hm => by
        obtain ⟨h1, h2⟩ := hm.fin hG hlt (lim_le (show a ≤ 6 by omega)).1
        exact ⟨h2, hF.next hlt (hG.diag a hlt) h1⟩
      clear hR hT hG hF hK
      go_wp2_with (go_at_call 97; refine (cO _ HT.out).mono ?_; rintro e u0 ⟨hO, hK0⟩; have HK0 : Hid _ := hK0; clear hK0; rcases hO with ⟨hN, rfl⟩ | ⟨P', rfl, hT0, hM0⟩)
      · have HE : Hid _ := hN
        clear hN
        go_wp2
        go_ret
        exact ⟨Or.inl ⟨HE.out, rfl⟩, HK.out.trans HK0.out⟩
      · have HT0 : Hid _ := hT0
        have HE : Hid _ := HN.out P' hM0
        clear hT0 hM0
        go_wp2
        go_roundw
        case rel => exact ⟨a + 1, P', by omega, by go_num, HK0.out.row NS.out HR.out, HT0.out, HE.out.1, HE.out.2, HK.out.trans HK0.out⟩
        case measure => simp [intOf]; omega
    · have hl3 : ¬ ((a : Int) < n) := by omega
      have e : a = n := by omega
      have HE : Hid (Gd R n (lim a) P ∧ Fwx R n n P) := ⟨hG, by have h := hF; rw [e] at h; exact h⟩
      clear e hR hT hG hF hK
      go_wp2
      go_ret
      exact ⟨Or.inr ⟨P, _, rfl, HT.out, HE.out.1, HE.out.2⟩, HK.out⟩
theorem Esp.onK {S : Nat → Prop} {W u : World} {b off m : Nat} {q : Nat → Eg} (hb : Keeps S W u) (hn : ¬ S b) (h : Esp W b off m q) : Esp u b off m q := fun i hi => by
  obtain ⟨h0, h1, h2, h3⟩ := h i hi
  exact ⟨hb.cell hn h0, hb.cell hn h1, hb.cell hn h2, hb.cell hn h3⟩
/-- What is answered of all edges. -/
def EdR (q : Nat → Eg) (m gs gk n : Nat) (Sb Kb : Nat → Nat) (w : World) (e : Ending) (w' : World) : Prop :=
  ((Neg (Arc q m) n ∧ e = .returned (.bool false)) ∨ ∃ P, e = .returned (.bool true) ∧ Tbx w' gs gk n Sb Kb P ∧ Gd (Arc q m) n 1000000000000 P ∧ Fwx (Arc q m) n 0 P) ∧ Keeps (Rwx n Sb Kb) w w'
set_option maxRecDepth 100000 in
set_option maxHeartbeats 8000000 in
theorem edges_any (gs gk n : Nat) (Sb Kb : Nat → Nat) (ad : Option Addr) (m cap : Nat) (q : Nat → Eg) (w : World) (T : Tbx w gs gk n Sb Kb tx0) (hE : Egs n q m) (hH : EHanded w ad m q) (hne : ∀ b off, 0 < m → ad = some ⟨b, off, none⟩ → ¬ Rwx n Sb Kb b) :
    Calls Tryz.prog 64 #[tbv gs gk n, .slice ad m cap] w fun e w' => EdR q m gs gk n Sb Kb w e w' := by
  obtain ⟨l1, l2, l3⟩ := T.lt
  have HB : Hid (∀ k, Rwx n Sb Kb k → k < w.heap.size) := fun k ⟨i, hi, e⟩ => by
    rcases e with rfl | rfl
    · exact (l3 i hi).1
    · exact (l3 i hi).2
  have NS : Hid (¬ Rwx n Sb Kb w.heap.size) := fun k => Nat.lt_irrefl _ (HB.out _ k)
  have h6 : n ≤ 6 := by have := hE.n6; omega
  have h40 := hE.m40
  have HT : Hid (Tbx w gs gk n Sb Kb tx0) := T
  have HE : Hid (Egs n q m) := hE
  have HP : Hid (m = 0 ∨ ∃ b off : Nat, ad = some ⟨b, off, none⟩ ∧ Esp w b off m q) := hH.2
  have HNE : Hid (∀ b off, 0 < m → ad = some ⟨b, off, none⟩ → ¬ Rwx n Sb Kb b) := hne
  clear T hE hH hne l1 l2 l3
  go_enter Tryz.func64, Tryz.ntmps64
  go_wp2
  go_loopw [10] (fun i wr => ∃ (j : Nat) (P : Tx), j ≤ m ∧ i = .int .i64 j ∧ Row wr w.heap.size [.slice (some ⟨gs, 0, none⟩) n n, .slice (some ⟨gk, 0, none⟩) n n] ∧ Tbx wr gs gk n Sb Kb P ∧ Gd (Arc q m) n 1000000000000 P ∧ Dne q j P ∧ Keeps (Rwx n Sb Kb) w wr) (fun i _ => m - (intOf i).toNat)
  case atStart => exact ⟨0, tx0, Nat.zero_le _, rfl, Row.made rfl, HT.out.al, tx0_gd (by decide), dne_zero, (Keeps.refl _ w).al⟩
  case round =>
    clear HT
    obtain ⟨j, P, hj, rfl, hR, hT, hG, hD, hK⟩ := hrel
    have c0 := hR.c 0 _ rfl
    have c1 := hR.c 1 _ rfl
    have hz := hR.lt
    have HR : Hid _ := hR
    have HT : Hid _ := hT
    have HG : Hid _ := hG
    have HD : Hid _ := hD
    have HK : Hid _ := hK
    clear hR hT hG hD hK
    by_cases hlt : j < m
    · have hl3 : (j : Int) < m := by omega
      obtain ⟨b, off, rfl, hP⟩ : ∃ b off : Nat, ad = some ⟨b, off, none⟩ ∧ Esp w b off m q := by
        rcases HP.out with e | h
        · omega
        · exact h
      obtain ⟨x0, x1, x2, x3⟩ := (hP.onK HK.out (HNE.out _ _ (by omega) rfl)) j hlt
      obtain ⟨⟨a1, a2, a3, a4⟩, nab, okk⟩ := HE.out.each j hlt
      obtain ⟨o1, o2, o3⟩ := okB_t okk
      obtain ⟨A, eqA⟩ : ∃ A : Nat, (q j).a = A := ⟨(q j).a.toNat, by omega⟩
      obtain ⟨B, eqB⟩ : ∃ B : Nat, (q j).b = B := ⟨(q j).b.toNat, by omega⟩
      have hA : A < n := by omega
      have hB : B < n := by omega
      have nAB : A ≠ B := by omega
      rw [eqA] at x0
      rw [eqB] at x1
      have hbz : b < wr.heap.size := World.block_lt_of_cell? _ _ x0
      have wl : IntKind.i64.wrap (-(q j).lo) = -(q j).lo := IntWalk.i64_in _ (by omega)
      have wh : IntKind.i64.wrap (-(q j).hi) = -(q j).hi := IntWalk.i64_in _ (by omega)
      obtain ⟨sp1, sp2⟩ := edge_sp (m := m) hlt eqA eqB
      have NS1 : Hid (∀ k, wr.heap.size ≤ k → ¬ Rwx n Sb Kb k) := fun k hk h => by
        have := HB.out _ h
        have := HK.out.size
        omega
      have cQ := fun u (t : Tbx u gs gk n Sb Kb P) => learn_any gs gk n A B Sb Kb P (q j).lo (q j).hi u t hA hB h6
      obtain ⟨P1, e1⟩ : ∃ P1, P1 = updx P A B (nar ((q j).lo, (q j).hi) (P A B)) := ⟨_, rfl⟩
      rw [← e1] at cQ
      have cR := fun u (t : Tbx u gs gk n Sb Kb P1) => learn_any gs gk n B A Sb Kb P1 (-(q j).hi) (-(q j).lo) u t hB hA h6
      obtain ⟨P2, e2⟩ : ∃ P2, P2 = updx P1 B A (nar (-(q j).hi, -(q j).lo) (P1 B A)) := ⟨_, rfl⟩
      rw [← e2] at cR
      have HD2 : Hid (Dne q (j + 1) P2) := Dne.step HD.out eqA eqB e1 e2
      by_cases ok1 : (nar ((q j).lo, (q j).hi) (P A B)).1 ≤ (nar ((q j).lo, (q j).hi) (P A B)).2
      · have G1 : Gd (Arc q m) n 1000000000000 P1 := by rw [e1]; exact HG.out.learn hA hB nAB sp1 (by show (-1000000000000 : Int) ≤ (q j).lo; omega) (by show (q j).hi ≤ 1000000000000; omega) ok1
        rw [decide_eq_true ok1] at cQ
        by_cases ok2 : (nar (-(q j).hi, -(q j).lo) (P1 B A)).1 ≤ (nar (-(q j).hi, -(q j).lo) (P1 B A)).2
        · have G2 : Hid (Gd (Arc q m) n 1000000000000 P2) := by show Gd _ _ _ _; rw [e2]; exact G1.learn hB hA (fun e => nAB e.symm) sp2 (by show (-1000000000000 : Int) ≤ -(q j).hi; omega) (by show -(q j).lo ≤ 1000000000000; omega) ok2
          rw [decide_eq_true ok2] at cR
          have cnt : Mark 0 := .mk _
          clear sp1 sp2 e1 e2 ok1 ok2 G1 a1 a2 a3 a4 nab okk eqA eqB hP
          as_aux_lemma =>
            go_wp2_with (first
              | (go_at_call 96; have cq : Mark 0 := cnt; refine (cQ _ HT.out.al.al).mono ?_; clear cq cnt; have cnt : Mark 1 := .mk _; rintro e u0 ⟨rfl, hT0, hK0⟩; have HT0 : Hid _ := hT0; have HK0 : Hid _ := hK0; have rt := hK0.row NS.out HR.out.al.al; have re := hK0.row (NS1.out wr.heap.size (Nat.le_refl _)) (Row.al (Row.made (W := wr) (vs := [.int .i64 A, .int .i64 B, .int .i64 (q j).lo, .int .i64 (q j).hi]) rfl)); have rb := hK0.row (NS1.out (wr.heap.size + 1) (by omega)) (Row.made (W := wr.alloc _) (vs := [.int .i64 (-(q j).hi), .int .i64 (-(q j).lo)]) (by simp)); clear hT0 hK0; have rt0 := rt.c 0 _ rfl; have rt1 := rt.c 1 _ rfl; have re0 := re.c 0 _ rfl; have re1 := re.c 1 _ rfl; have rb0 := rb.c 0 _ rfl; have rb1 := rb.c 1 _ rfl; have RT : Hid _ := rt; clear rt re rb)
              | (go_at_call 96; have cq : Mark 1 := cnt; refine (cR _ HT0.out).mono ?_; clear cq cnt; have cnt : Mark 2 := .mk _; rintro e u1 ⟨rfl, hT1, hK1⟩; have HT1 : Hid _ := hT1; have HK1 : Hid _ := hK1; clear hT1 hK1))
            go_roundw
            case rel => exact ⟨j + 1, P2, by omega, by go_num, HK1.out.row NS.out RT.out, HT1.out, G2.out, HD2.out, (HK.out.al.al.trans HK0.out).trans HK1.out⟩
            case measure => simp [intOf]; omega
        · have NG : Hid (Neg (Arc q m) n) := (sp2.nar (fun z ez => G1.sound B A z hB hA ez)).neg hB (by omega)
          rw [decide_eq_false ok2] at cR
          have cnt : Mark 0 := .mk _
          clear sp1 sp2 e1 e2 ok1 ok2 G1 a1 a2 a3 a4 nab okk eqA eqB hP
          as_aux_lemma =>
            go_wp2_with (first
              | (go_at_call 96; have cq : Mark 0 := cnt; refine (cQ _ HT.out.al.al).mono ?_; clear cq cnt; have cnt : Mark 1 := .mk _; rintro e u0 ⟨rfl, hT0, hK0⟩; have HT0 : Hid _ := hT0; have HK0 : Hid _ := hK0; have rt := hK0.row NS.out HR.out.al.al; have re := hK0.row (NS1.out wr.heap.size (Nat.le_refl _)) (Row.al (Row.made (W := wr) (vs := [.int .i64 A, .int .i64 B, .int .i64 (q j).lo, .int .i64 (q j).hi]) rfl)); have rb := hK0.row (NS1.out (wr.heap.size + 1) (by omega)) (Row.made (W := wr.alloc _) (vs := [.int .i64 (-(q j).hi), .int .i64 (-(q j).lo)]) (by simp)); clear hT0 hK0; have rt0 := rt.c 0 _ rfl; have rt1 := rt.c 1 _ rfl; have re0 := re.c 0 _ rfl; have re1 := re.c 1 _ rfl; have rb0 := rb.c 0 _ rfl; have rb1 := rb.c 1 _ rfl; have RT : Hid _ := rt; clear rt re rb)
              | (go_at_call 96; have cq : Mark 1 := cnt; refine (cR _ HT0.out).mono ?_; clear cq cnt; have cnt : Mark 2 := .mk _; rintro e u1 ⟨rfl, hT1, hK1⟩; have HT1 : Hid _ := hT1; have HK1 : Hid _ := hK1; clear hT1 hK1))
            go_ret
            exact ⟨Or.inl ⟨NG.out, rfl⟩, (HK.out.al.al.trans HK0.out).trans HK1.out⟩
      · have NG : Hid (Neg (Arc q m) n) := (sp1.nar (fun z ez => HG.out.sound A B z hA hB ez)).neg hA (by omega)
        rw [decide_eq_false ok1] at cQ
        clear sp1 sp2 e1 e2 ok1 a1 a2 a3 a4 nab okk eqA eqB hP cR
        as_aux_lemma =>
          go_wp2_with (go_at_call 96; refine (cQ _ HT.out.al.al).mono ?_; rintro e u0 ⟨rfl, hT0, hK0⟩; have HK0 : Hid _ := hK0; clear hT0 hK0)
          go_ret
          exact ⟨Or.inl ⟨NG.out, rfl⟩, HK.out.al.al.trans HK0.out⟩
    · have hl3 : ¬ ((j : Int) < m) := by omega
      have e : j = m := by omega
      have HF : Hid (Fwx (Arc q m) n 0 P) := by show Fwx _ _ _ _; have h := HD.out; rw [e] at h; exact Dne.fw h HG.out
      clear e
      go_wp2
      go_ret
      exact ⟨Or.inr ⟨P, rfl, HT.out, HG.out, HF.out⟩, HK.out⟩
end Go.Proofs.YthejaecljkjliaiGreatDoor
