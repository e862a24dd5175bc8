/- What leap.read answers of the end of a text. -/
import Derived.Test.YthaajbdppmdhaacDoorLeapHands
import Derived.Test.YthaajbdppmdhaacDoorDigits
namespace Go.Proofs.YthaajbdppmdhaacDoor
open Go.ChangeShapes Go.WideShapes Go.ChangeAt Go.RowKit
set_option linter.unusedVariables false
set_option linter.unusedSimpArgs false

set_option maxRecDepth 100000 in
set_option maxHeartbeats 4000000 in
theorem read_any (t : ByteArray) (w : World) (ht : t.size = 9) (d0 : allD (t.extract 1 3)) (d1 : allD (t.extract 4 6)) (d2 : allD (t.extract 7 9)) :
    Calls Tryd.prog 76 #[.string t] w fun e w' => e = .returned (hms (pv (t.extract 1 3).data.toList) (pv (t.extract 4 6).data.toList) (pv (t.extract 7 9).data.toList)) ∧ Below w.heap.size w w' := by
  have c0 := fun u => value_any (t.extract 1 3) u (by rw [ByteArray.size_extract]; omega) d0
  have c1 := fun u => value_any (t.extract 4 6) u (by rw [ByteArray.size_extract]; omega) d1
  have c2 := fun u => value_any (t.extract 7 9) u (by rw [ByteArray.size_extract]; omega) d2
  generalize pv (t.extract 1 3).data.toList = H at *
  generalize pv (t.extract 4 6).data.toList = I at *
  generalize pv (t.extract 7 9).data.toList = S at *
  clear d0 d1 d2
  go_enter Tryd.func76, Tryd.ntmps76
  go_wp2
  go_loopw [5] (fun i wr => ∃ k : Nat, k ≤ 3 ∧ i = .int .i64 k ∧ Below w.heap.size w wr ∧ Row wr w.heap.size [.int .i64 0, .int .i64 0, .int .i64 0] ∧ Row wr (w.heap.size + 1) [.int .i64 (if 1 ≤ k then H else 0), .int .i64 (if 2 ≤ k then I else 0), .int .i64 (if 3 ≤ k then S else 0)]) (fun i _ => 3 - (intOf i).toNat)
  case atStart => exact ⟨0, Nat.zero_le _, rfl, rbel_al (rbel_al (Below.refl _ _)), Row.al (Row.made rfl), Row.made (by simp)⟩
  case round =>
    obtain ⟨k, hk, rfl, hw, PZ, PX⟩ := hrel
    have x0 := PX.c 0 _ rfl
    have x1 := PX.c 1 _ rfl
    have x2 := PX.c 2 _ rfl
    have g0 := PX.f 0 _ rfl
    have g1 := PX.f 1 _ rfl
    have g2 := PX.f 2 _ rfl
    have z0 := PZ.c 0 _ rfl
    have z1 := PZ.c 1 _ rfl
    have z2 := PZ.c 2 _ rfl
    have f0 := PZ.f 0 _ rfl
    have f1 := PZ.f 1 _ rfl
    have f2 := PZ.f 2 _ rfl
    have hc : k = 0 ∨ k = 1 ∨ k = 2 ∨ k = 3 := by omega
    rcases hc with rfl | rfl | rfl | rfl
    · go_wp2_with (go_at_call 64; refine (c0 _).mono ?_; rintro r u ⟨rfl, hu⟩; rw [hu]; clear hu)
      go_roundw
      case rel => exact ⟨1, by omega, rfl, rbel_put (by omega) hw, Row.far (by omega) PZ, Row.put 0 PX⟩
      case measure => simp [intOf]
    · go_wp2_with (go_at_call 64; refine (c1 _).mono ?_; rintro r u ⟨rfl, hu⟩; rw [hu]; clear hu)
      go_roundw
      case rel => exact ⟨2, by omega, rfl, rbel_put (by omega) hw, Row.far (by omega) PZ, Row.put 1 PX⟩
      case measure => simp [intOf]
    · go_wp2_with (go_at_call 64; refine (c2 _).mono ?_; rintro r u ⟨rfl, hu⟩; rw [hu]; clear hu)
      go_roundw
      case rel => exact ⟨3, by omega, rfl, rbel_put (by omega) hw, Row.far (by omega) PZ, Row.put 2 PX⟩
      case measure => simp [intOf]
    · simp only [show (1 ≤ 3) = True from by simp, show (2 ≤ 3) = True from by simp, show (3 ≤ 3) = True from by simp, if_true] at x0 x1 x2
      go_wp2
      exact bodyPost_ret (v := hms H I S) (by simp [results, Tryd.results76, go_sem, *]) rfl ⟨rfl, by (repeat (first | (with_reducible assumption) | refine Below.setCell ?_ (by first | (simp; done) | (simp; omega) | omega) _ | apply Below.drew | apply rbel_drn))⟩
end Go.Proofs.YthaajbdppmdhaacDoor
