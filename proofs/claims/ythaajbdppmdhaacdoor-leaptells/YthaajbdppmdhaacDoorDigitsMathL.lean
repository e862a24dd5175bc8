/- Texts that are just a label's form: plain mathematics of bytes. -/
import Derived.Test.YthaajbdppmdhaacDoorDigitsMath
import Derived.Test.YthaajbdppmdhaacDoorLeapText
namespace Go.Proofs.YthaajbdppmdhaacDoor
set_option linter.unusedVariables false

/-- The form of a label. -/
def fL : ByteArray := ⟨#[48, 48, 48, 48, 45, 48, 48, 45, 48, 48, 84, 48, 48, 58, 48, 48, 58, 48, 48]⟩
theorem fits_label (s : ByteArray) : FitsP s fL ↔ LShp s := by
  constructor
  · rintro ⟨hs, h⟩
    have hs' : s.size = 19 := hs
    obtain ⟨b0, b1, b2, b3, b4, b5, b6, b7, b8, b9, c0, c1, c2, c3, c4, c5, c6, c7, c8, rfl⟩ := nineteen_bytes s hs'
    have e0 : (⟨#[b0, b1, b2, b3, b4, b5, b6, b7, b8, b9, c0, c1, c2, c3, c4, c5, c6, c7, c8]⟩ : ByteArray).extract 0 10 = ⟨#[b0, b1, b2, b3, b4, b5, b6, b7, b8, b9]⟩ := ex_l [b0, b1, b2, b3, b4, b5, b6, b7, b8, b9, c0, c1, c2, c3, c4, c5, c6, c7, c8] 0 10
    have e1 : (⟨#[b0, b1, b2, b3, b4, b5, b6, b7, b8, b9, c0, c1, c2, c3, c4, c5, c6, c7, c8]⟩ : ByteArray).extract 11 13 = ⟨#[c1, c2]⟩ := ex_l [b0, b1, b2, b3, b4, b5, b6, b7, b8, b9, c0, c1, c2, c3, c4, c5, c6, c7, c8] 11 13
    have e2 : (⟨#[b0, b1, b2, b3, b4, b5, b6, b7, b8, b9, c0, c1, c2, c3, c4, c5, c6, c7, c8]⟩ : ByteArray).extract 14 16 = ⟨#[c4, c5]⟩ := ex_l [b0, b1, b2, b3, b4, b5, b6, b7, b8, b9, c0, c1, c2, c3, c4, c5, c6, c7, c8] 14 16
    have e3 : (⟨#[b0, b1, b2, b3, b4, b5, b6, b7, b8, b9, c0, c1, c2, c3, c4, c5, c6, c7, c8]⟩ : ByteArray).extract 17 19 = ⟨#[c7, c8]⟩ := ex_l [b0, b1, b2, b3, b4, b5, b6, b7, b8, b9, c0, c1, c2, c3, c4, c5, c6, c7, c8] 17 19
    have L : ∀ i, i < 19 → i < fL.size := fun i hi => hi
    have g0 : cd b0 = true := h 0 (L 0 (by decide))
    have g1 : cd b1 = true := h 1 (L 1 (by decide))
    have g2 : cd b2 = true := h 2 (L 2 (by decide))
    have g3 : cd b3 = true := h 3 (L 3 (by decide))
    have g4 : decide (b4.toNat = 45) = true := h 4 (L 4 (by decide))
    have g5 : cd b5 = true := h 5 (L 5 (by decide))
    have g6 : cd b6 = true := h 6 (L 6 (by decide))
    have g7 : decide (b7.toNat = 45) = true := h 7 (L 7 (by decide))
    have g8 : cd b8 = true := h 8 (L 8 (by decide))
    have g9 : cd b9 = true := h 9 (L 9 (by decide))
    have k0 : decide (c0.toNat = 84) = true := h 10 (L 10 (by decide))
    have k1 : cd c1 = true := h 11 (L 11 (by decide))
    have k2 : cd c2 = true := h 12 (L 12 (by decide))
    have k3 : decide (c3.toNat = 58) = true := h 13 (L 13 (by decide))
    have k4 : cd c4 = true := h 14 (L 14 (by decide))
    have k5 : cd c5 = true := h 15 (L 15 (by decide))
    have k6 : decide (c6.toNat = 58) = true := h 16 (L 16 (by decide))
    have k7 : cd c7 = true := h 17 (L 17 (by decide))
    have k8 : cd c8 = true := h 18 (L 18 (by decide))
    refine ⟨rfl, of_decide_eq_true k0, of_decide_eq_true k3, of_decide_eq_true k6, ?_, ?_, ?_, ?_⟩
    · rw [e0]
      refine ⟨rfl, of_decide_eq_true g4, of_decide_eq_true g7, ?_, ?_, ?_⟩
      · rw [ex04]; exact (allD4 _ _ _ _).2 ⟨g0, g1, g2, g3⟩
      · rw [ex57]; exact (allD2 _ _).2 ⟨g5, g6⟩
      · rw [ex8a]; exact (allD2 _ _).2 ⟨g8, g9⟩
    · rw [e1]; exact (allD2 _ _).2 ⟨k1, k2⟩
    · rw [e2]; exact (allD2 _ _).2 ⟨k4, k5⟩
    · rw [e3]; exact (allD2 _ _).2 ⟨k7, k8⟩
  · rintro ⟨hs, h10, h13, h16, sh, p, q, r⟩
    refine ⟨hs, ?_⟩
    obtain ⟨b0, b1, b2, b3, b4, b5, b6, b7, b8, b9, c0, c1, c2, c3, c4, c5, c6, c7, c8, rfl⟩ := nineteen_bytes s hs
    have e0 : (⟨#[b0, b1, b2, b3, b4, b5, b6, b7, b8, b9, c0, c1, c2, c3, c4, c5, c6, c7, c8]⟩ : ByteArray).extract 0 10 = ⟨#[b0, b1, b2, b3, b4, b5, b6, b7, b8, b9]⟩ := ex_l [b0, b1, b2, b3, b4, b5, b6, b7, b8, b9, c0, c1, c2, c3, c4, c5, c6, c7, c8] 0 10
    have e1 : (⟨#[b0, b1, b2, b3, b4, b5, b6, b7, b8, b9, c0, c1, c2, c3, c4, c5, c6, c7, c8]⟩ : ByteArray).extract 11 13 = ⟨#[c1, c2]⟩ := ex_l [b0, b1, b2, b3, b4, b5, b6, b7, b8, b9, c0, c1, c2, c3, c4, c5, c6, c7, c8] 11 13
    have e2 : (⟨#[b0, b1, b2, b3, b4, b5, b6, b7, b8, b9, c0, c1, c2, c3, c4, c5, c6, c7, c8]⟩ : ByteArray).extract 14 16 = ⟨#[c4, c5]⟩ := ex_l [b0, b1, b2, b3, b4, b5, b6, b7, b8, b9, c0, c1, c2, c3, c4, c5, c6, c7, c8] 14 16
    have e3 : (⟨#[b0, b1, b2, b3, b4, b5, b6, b7, b8, b9, c0, c1, c2, c3, c4, c5, c6, c7, c8]⟩ : ByteArray).extract 17 19 = ⟨#[c7, c8]⟩ := ex_l [b0, b1, b2, b3, b4, b5, b6, b7, b8, b9, c0, c1, c2, c3, c4, c5, c6, c7, c8] 17 19
    rw [e0] at sh
    rw [e1] at p
    rw [e2] at q
    rw [e3] at r
    obtain ⟨_, s4, s7, sp, sq, sr⟩ := sh
    rw [ex04] at sp
    rw [ex57] at sq
    rw [ex8a] at sr
    obtain ⟨g0, g1, g2, g3⟩ := (allD4 _ _ _ _).1 sp
    obtain ⟨g5, g6⟩ := (allD2 _ _).1 sq
    obtain ⟨g8, g9⟩ := (allD2 _ _).1 sr
    obtain ⟨k1, k2⟩ := (allD2 _ _).1 p
    obtain ⟨k4, k5⟩ := (allD2 _ _).1 q
    obtain ⟨k7, k8⟩ := (allD2 _ _).1 r
    intro i hi
    have hi' : i < 19 := hi
    match i, hi' with
    | 0, _ => exact g0
    | 1, _ => exact g1
    | 2, _ => exact g2
    | 3, _ => exact g3
    | 4, _ => exact decide_eq_true s4
    | 5, _ => exact g5
    | 6, _ => exact g6
    | 7, _ => exact decide_eq_true s7
    | 8, _ => exact g8
    | 9, _ => exact g9
    | 10, _ => exact decide_eq_true h10
    | 11, _ => exact k1
    | 12, _ => exact k2
    | 13, _ => exact decide_eq_true h13
    | 14, _ => exact k4
    | 15, _ => exact k5
    | 16, _ => exact decide_eq_true h16
    | 17, _ => exact k7
    | 18, _ => exact k8
    | _ + 19, hk => exact absurd hk (by omega)
end Go.Proofs.YthaajbdppmdhaacDoor
