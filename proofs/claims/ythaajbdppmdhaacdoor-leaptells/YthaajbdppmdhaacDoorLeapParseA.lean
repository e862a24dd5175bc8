/- What leap.Parse answers of texts that are no label. -/
import Derived.Test.YthaajbdppmdhaacDoorLeapRead
import Derived.Test.YthaajbdppmdhaacDoorLeapHands2
import Derived.Test.YthaajbdppmdhaacDoorDigitsMathL
import Derived.Test.YthaajbdppmdhaacDoorCivilPkg
import Derived.Deep.CutRange
namespace Go.Proofs.YthaajbdppmdhaacDoor
open Go.ChangeShapes Go.WideShapes Go.ChangeAt Go.RowKit
set_option linter.unusedVariables false
set_option linter.unusedSimpArgs false

set_option maxHeartbeats 2000000 in
theorem lparse_syn (s : ByteArray) (w : World) (hm : s.size ≤ maxLen) (h : ¬ LShp s) :
    Calls Tryd.prog 43 #[.string s] w fun r w' => r = .returned (.tuple #[lbl 0 0 0 0 0 0, .iface 81 (.int .i64 2)]) ∧ Below w.heap.size w w' := by
  have cF : ∀ u, Calls Tryd.prog 63 #[.string s, .string ⟨#[48, 48, 48, 48, 45, 48, 48, 45, 48, 48, 84, 48, 48, 58, 48, 48, 58, 48, 48]⟩] u fun e w' => e = .returned (.bool false) ∧ Below u.heap.size u w' := fun u => fits_no s fL u hm (by decide) (fun k => h ((fits_label s).1 k))
  clear h
  go_enter Tryd.func43, Tryd.ntmps43
  go_wp2_with (go_at_call 63; refine (cF _).mono ?_; rintro r u ⟨rfl, hb⟩; have hw : Below w.heap.size w u := rbel_on hb (rbel_al (Below.refl _ _)); have PZ : Row u w.heap.size [.int .i64 0, .int .i64 0, .int .i64 0, .int .i64 0, .int .i64 0, .int .i64 0] := Row.on hb (Row.made rfl); have zz := PZ.lt; have a0 := PZ.c 0 _ rfl; have a1 := PZ.c 1 _ rfl; have a2 := PZ.c 2 _ rfl; have a3 := PZ.c 3 _ rfl; have a4 := PZ.c 4 _ rfl; have a5 := PZ.c 5 _ rfl; have f0 := PZ.f 0 _ rfl; have f1 := PZ.f 1 _ rfl; have f2 := PZ.f 2 _ rfl; have f3 := PZ.f 3 _ rfl; have f4 := PZ.f 4 _ rfl; have f5 := PZ.f 5 _ rfl; clear hb)
  exact bodyPost_ret (v := .tuple #[lbl 0 0 0 0 0 0, .iface 81 (.int .i64 2)]) (by simp [results, Tryd.results43, go_sem, *]) rfl ⟨rfl, rbel_put (Nat.le_refl _) (rbel_put (Nat.le_refl _) (rbel_put (Nat.le_refl _) (rbel_put (Nat.le_refl _) (rbel_put (Nat.le_refl _) (rbel_put (Nat.le_refl _) hw)))))⟩
theorem ex_ex (s : ByteArray) (i j k l : Nat) (h : i + l ≤ j) : (s.extract i j).extract k l = s.extract (i + k) (i + l) := by
  apply ByteArray.ext
  rw [ByteArray.data_extract, ByteArray.data_extract, ByteArray.data_extract, Array.extract_extract, Nat.min_eq_left h]
theorem pv_two {t : ByteArray} (ht : t.size ≤ 10) (hd : allD t) : 0 ≤ pv t.data.toList ∧ pv t.data.toList < 10000000000 := by
  have := pv_small t t.size (Nat.le_refl _) ht (fun i h _ => hd i h)
  rwa [List.take_of_length_le (by show t.data.size ≤ t.size; exact Nat.le_refl _)] at this
set_option maxRecDepth 100000 in
set_option maxHeartbeats 2000000 in
theorem lparse_date (s : ByteArray) (w : World) (he : EnvA w) (h : LShp s) (o : okD (yr (s.extract 0 10)) (mo (s.extract 0 10)) (da (s.extract 0 10)) = false) :
    Calls Tryd.prog 43 #[.string s] w fun r w' => r = .returned (.tuple #[lbl 0 0 0 0 0 0, .iface 81 (.int .i64 1)]) ∧ Below w.heap.size w w' := by
  have cF : ∀ u, Calls Tryd.prog 63 #[.string s, .string ⟨#[48, 48, 48, 48, 45, 48, 48, 45, 48, 48, 84, 48, 48, 58, 48, 48, 58, 48, 48]⟩] u fun e w' => e = .returned (.bool true) ∧ Below u.heap.size u w' := fun u => fits_yes s fL u (by decide) ((fits_label s).2 h)
  obtain ⟨hs, _, _, _, sh, _, _, _⟩ := h
  have ts : (s.extract 0 10).size = 10 := by rw [ByteArray.size_extract]; omega
  have cP := fun u (hu : Below w.heap.size w u) => parse_any (s.extract 0 10) 0 0 0 1 u (he.below hu) (by rw [ts]; unfold maxLen; omega) (Or.inr (Or.inl ⟨sh, o, rfl, rfl, rfl, rfl⟩))
  rw [errc_not (by decide)] at cP
  clear he sh o
  go_enter Tryd.func43, Tryd.ntmps43
  go_wp2_with (first | (go_at_call 63; refine (cF _).mono ?_; rintro r u ⟨rfl, hb⟩; have hw : Below w.heap.size w u := rbel_on hb (rbel_al (Below.refl _ _)); have PZ : Row u w.heap.size [.int .i64 0, .int .i64 0, .int .i64 0, .int .i64 0, .int .i64 0, .int .i64 0] := Row.on hb (Row.made rfl); have zz := PZ.lt; have a0 := PZ.c 0 _ rfl; have a1 := PZ.c 1 _ rfl; have a2 := PZ.c 2 _ rfl; have a3 := PZ.c 3 _ rfl; have a4 := PZ.c 4 _ rfl; have a5 := PZ.c 5 _ rfl; have f0 := PZ.f 0 _ rfl; have f1 := PZ.f 1 _ rfl; have f2 := PZ.f 2 _ rfl; have f3 := PZ.f 3 _ rfl; have f4 := PZ.f 4 _ rfl; have f5 := PZ.f 5 _ rfl; clear hb) | (go_at_call 26; refine (cP _ hw).mono ?_; rintro r u1 ⟨rfl, hb⟩; have hw1 : Below w.heap.size w u1 := rbel_on hb hw; have PZ1 : Row u1 w.heap.size [.int .i64 0, .int .i64 0, .int .i64 0, .int .i64 0, .int .i64 0, .int .i64 0] := Row.on hb PZ; have zz1 := PZ1.lt; have b0 := PZ1.c 0 _ rfl; have b1 := PZ1.c 1 _ rfl; have b2 := PZ1.c 2 _ rfl; have b3 := PZ1.c 3 _ rfl; have b4 := PZ1.c 4 _ rfl; have b5 := PZ1.c 5 _ rfl; have g0 := PZ1.f 0 _ rfl; have g1 := PZ1.f 1 _ rfl; have g2 := PZ1.f 2 _ rfl; have g3 := PZ1.f 3 _ rfl; have g4 := PZ1.f 4 _ rfl; have g5 := PZ1.f 5 _ rfl; clear hb))
  exact bodyPost_ret (v := .tuple #[lbl 0 0 0 0 0 0, .iface 81 (.int .i64 1)]) (by simp [results, Tryd.results43, go_sem, *]) rfl ⟨rfl, rbel_al (rbel_put (Nat.le_refl _) (rbel_put (Nat.le_refl _) (rbel_put (Nat.le_refl _) (rbel_put (Nat.le_refl _) (rbel_put (Nat.le_refl _) (rbel_put (Nat.le_refl _) hw1))))))⟩
end Go.Proofs.YthaajbdppmdhaacDoor
