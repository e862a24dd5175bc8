/- What bounds' tables learn: one span. -/
import Derived.Test.YthejaecljkjliaiGreatDoorNm09
import Derived.Lib.SmallJoins
import Derived.Deep.CutRange
import Derived.BigRegion
import Derived.BigQuiet
import Derived.Deep.QuietTactic
import Derived.IntWalk
namespace Go.Proofs.YthejaecljkjliaiGreatDoor
open Go.ChangeShapes Go.WideShapes Go.ChangeAt Go.RowKit Go.Joins
set_option linter.unusedVariables false
set_option linter.unusedSimpArgs false

abbrev tbv (gs gk n : Nat) : Value := .agg #[.slice (some ⟨gs, 0, none⟩) n n, .slice (some ⟨gk, 0, none⟩) n n]
set_option maxRecDepth 100000 in
set_option maxHeartbeats 8000000 in
theorem learn_none (gs gk n a b : Nat) (Sb Kb : Nat → Nat) (P : Tx) (lo hi : Int) (w : World) (T : Tbx w gs gk n Sb Kb P) (ha : a < n) (hb : b < n) (h6 : n ≤ 6) (e : P a b = none) (B : Bool) (hB : decide (lo ≤ hi) = B) :
    Calls Tryz.prog 96 #[tbv gs gk n, .int .i64 a, .int .i64 b, sp lo hi] w fun e w' => e = .returned (.bool B) ∧ Tbx w' gs gk n Sb Kb (updx P a b (lo, hi)) ∧ Keeps (Rwx n Sb Kb) w w' := by
  have oS := T.outS.c a _ (outs_at Sb n a ha)
  have oK := T.outK.c a _ (outs_at Kb n a ha)
  have kk := (T.inK a ha).c b _ (rowK_at P n a b hb)
  rw [e] at kk
  have kk' : w.cell? ⟨Kb a, b, none⟩ = some (.bool false) := kk
  have s0 := (T.inS a ha).c _ _ (rowS_lo P n a b hb)
  have s1 := (T.inS a ha).c _ _ (rowS_hi P n a b hb)
  have fS := (T.inS a ha).f
  have fK := (T.inK a ha).f
  obtain ⟨l1, l2, l3⟩ := T.lt
  obtain ⟨l4, l5⟩ := l3 a ha
  have ha3 : (a : Int) < n := by omega
  have hb3 : (b : Int) < n := by omega
  have HT : Hid (Tbx w gs gk n Sb Kb P) := T
  have n1 : ¬ (gs = Sb a) := T.gsS ha
  have n2 : ¬ (gs = Kb a) := T.gsK ha
  have n3 : ¬ (gk = Sb a) := T.gkS ha
  have n4 : ¬ (gk = Kb a) := T.gkK ha
  have n5 : ¬ (Sb a = Kb a) := T.sk ha ha
  have n6 : ¬ (Kb a = Sb a) := fun e => n5 e.symm
  clear T e kk l3
  go_enter Tryz.func96, Tryz.ntmps96
  go_wp2
  go_region
  go_wp2
  go_ret
  exact ⟨rfl, (HT.out.put ha hb lo hi).al.al.dr, (((Keeps.put (S := Rwx n Sb Kb) ⟨a, ha, Or.inr rfl⟩ (Keeps.put (S := Rwx n Sb Kb) ⟨a, ha, Or.inl rfl⟩ (Keeps.put (S := Rwx n Sb Kb) ⟨a, ha, Or.inl rfl⟩ (Keeps.refl _ w))))).al.al.dr)⟩
set_option maxRecDepth 100000 in
set_option maxHeartbeats 8000000 in
theorem learn_some (gs gk n a b : Nat) (Sb Kb : Nat → Nat) (P : Tx) (lo hi l h : Int) (w : World) (T : Tbx w gs gk n Sb Kb P) (ha : a < n) (hb : b < n) (h6 : n ≤ 6) (e : P a b = some (l, h)) (x y : Int) (hx : (if lo < l then l else lo) = x) (hy : (if h < hi then h else hi) = y) (B : Bool) (hB : decide (x ≤ y) = B) :
    Calls Tryz.prog 96 #[tbv gs gk n, .int .i64 a, .int .i64 b, sp lo hi] w fun e w' => e = .returned (.bool B) ∧ Tbx w' gs gk n Sb Kb (updx P a b (x, y)) ∧ Keeps (Rwx n Sb Kb) w w' := by
  have oS := T.outS.c a _ (outs_at Sb n a ha)
  have oK := T.outK.c a _ (outs_at Kb n a ha)
  have kk := (T.inK a ha).c b _ (rowK_at P n a b hb)
  rw [e] at kk
  have kk' : w.cell? ⟨Kb a, b, none⟩ = some (.bool true) := kk
  have s0 := (T.inS a ha).c _ _ (rowS_lo P n a b hb)
  have s1 := (T.inS a ha).c _ _ (rowS_hi P n a b hb)
  rw [show xLo P a b = l by unfold xLo; rw [e]] at s0
  rw [show xHi P a b = h by unfold xHi; rw [e]] at s1
  have fS := (T.inS a ha).f
  have fK := (T.inK a ha).f
  obtain ⟨l1, l2, l3⟩ := T.lt
  obtain ⟨l4, l5⟩ := l3 a ha
  have ha3 : (a : Int) < n := by omega
  have hb3 : (b : Int) < n := by omega
  have HT : Hid (Tbx w gs gk n Sb Kb P) := T
  have n1 : ¬ (gs = Sb a) := T.gsS ha
  have n2 : ¬ (gs = Kb a) := T.gsK ha
  have n3 : ¬ (gk = Sb a) := T.gkS ha
  have n4 : ¬ (gk = Kb a) := T.gkK ha
  have n5 : ¬ (Sb a = Kb a) := T.sk ha ha
  have n6 : ¬ (Kb a = Sb a) := fun e => n5 e.symm
  clear T e kk l3
  go_enter Tryz.func96, Tryz.ntmps96
  go_wp2
  go_cut [] from 9 to 41 (fun w' => w' = ((w.alloc (.cells #[.slice (some ⟨gs, 0, none⟩) n n, .slice (some ⟨gk, 0, none⟩) n n] 150)).alloc (.cells #[.int .i64 x, .int .i64 y] 38)).drew)
  case first =>
    as_aux_lemma =>
      go_region
      go_wp2
      go_meet
      case rel => exact rfl
  case rest =>
    as_aux_lemma =>
      obtain ⟨W, hW⟩ : ∃ W, W = wc := ⟨_, rfl⟩
      have TW : Hid (Tbx W gs gk n Sb Kb P) := by rw [hW, hcut]; exact HT.out.al.al.dr
      have KW : Hid (Keeps (Rwx n Sb Kb) w W) := by rw [hW, hcut]; exact ((Keeps.refl _ w).al.al.dr : Keeps _ _ _)
      have RT : Row W w.heap.size [.slice (some ⟨gs, 0, none⟩) n n, .slice (some ⟨gk, 0, none⟩) n n] := by rw [hW, hcut]; exact (Row.made (vs := [.slice (some ⟨gs, 0, none⟩) n n, .slice (some ⟨gk, 0, none⟩) n n]) rfl).al.dr
      have RX : Row W (w.heap.size + 1) [.int .i64 x, .int .i64 y] := by rw [hW, hcut]; exact (Row.made (vs := [.int .i64 x, .int .i64 y]) (by simp)).dr
      subst hW
      clear hcut oS oK kk' s0 s1 fS fK hx hy
      have c0 := RT.c 0 _ rfl
      have c1 := RT.c 1 _ rfl
      have c2 := RX.c 0 _ rfl
      have c3 := RX.c 1 _ rfl
      clear RT RX
      have oS := TW.out.outS.c a _ (outs_at Sb n a ha)
      have oK := TW.out.outK.c a _ (outs_at Kb n a ha)
      have s0 := (TW.out.inS a ha).c _ _ (rowS_lo P n a b hb)
      have s1 := (TW.out.inS a ha).c _ _ (rowS_hi P n a b hb)
      have k0 := (TW.out.inK a ha).c b _ (rowK_at P n a b hb)
      have fS := (TW.out.inS a ha).f
      have fK := (TW.out.inK a ha).f
      have m1 : ¬ (w.heap.size + 1 = Sb a) := by omega
      have m2 : ¬ (w.heap.size + 1 = Kb a) := by omega
      have m3 : ¬ (Sb a = w.heap.size + 1) := by omega
      have m4 : ¬ (Kb a = w.heap.size + 1) := by omega
      go_wp2
      go_region
      go_wp2
      go_ret
      exact ⟨rfl, (TW.out.put ha hb x y).dr, (Keeps.put (S := Rwx n Sb Kb) ⟨a, ha, Or.inr rfl⟩ (Keeps.put (S := Rwx n Sb Kb) ⟨a, ha, Or.inl rfl⟩ (Keeps.put (S := Rwx n Sb Kb) ⟨a, ha, Or.inl rfl⟩ KW.out))).dr⟩
/-- One span is learned. -/
theorem learn_any (gs gk n a b : Nat) (Sb Kb : Nat → Nat) (P : Tx) (lo hi : Int) (w : World) (T : Tbx w gs gk n Sb Kb P) (ha : a < n) (hb : b < n) (h6 : n ≤ 6) :
    Calls Tryz.prog 96 #[tbv gs gk n, .int .i64 a, .int .i64 b, sp lo hi] w fun e w' => e = .returned (.bool (decide ((nar (lo, hi) (P a b)).1 ≤ (nar (lo, hi) (P a b)).2))) ∧ Tbx w' gs gk n Sb Kb (updx P a b (nar (lo, hi) (P a b))) ∧ Keeps (Rwx n Sb Kb) w w' := by
  cases e : P a b with
  | none => exact learn_none gs gk n a b Sb Kb P lo hi w T ha hb h6 e _ rfl
  | some z =>
    obtain ⟨l, h⟩ := z
    exact learn_some gs gk n a b Sb Kb P lo hi l h w T ha hb h6 e (max lo l) (min hi h) (by split <;> omega) (by split <;> omega) _ rfl
end Go.Proofs.YthejaecljkjliaiGreatDoor
