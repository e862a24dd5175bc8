/- What leap.Tai answers. -/
import Derived.Test.YthaajbdppmdhaadDoorLeapTaiC
import Derived.Test.YthaajbdppmdhaadDoorLeapTaiD
import Derived.Test.YthaajbdppmdhaadDoorLeapHands2
import Derived.Test.YthaajbdppmdhaadDoorCivilPkg
namespace Go.Proofs.YthaajbdppmdhaadDoor
open Go.ChangeShapes Go.WideShapes Go.ChangeAt Go.RowKit
set_option linter.unusedVariables false
set_option linter.unusedSimpArgs false

theorem okL_iff {L h i s : Int} (o : okH h i s = true) (lt : sec h i s < L) (hL : L ≤ 86401) : okL L h i s ↔ lab (sec h i s) = (h, i, s) := by
  constructor
  · intro k; exact okL_lab k hL
  · intro k
    have z := lab_ok L (sec h i s) (by have := okH_t o; unfold sec; omega) lt hL
    rw [k] at z
    exact z
theorem tai_any (a : Option Addr) (n cap : Nat) (q : Nat → Int × Bool) (y m d h i s v e : Int) (w : World) (hH : LHanded w a n q) (he : EnvA w) (hN : EnvN w) (hW : EnvW w) (wy : In64 y) (wm : In64 m) (wd : In64 d) (hT : TaiA q n y m d h i s v e) :
    Calls Tryd.prog 8 #[.slice a n cap, lbl y m d h i s] w fun r w' => r = .returned (.tuple #[.int .i64 v, errc e]) ∧ Below w.heap.size w w' := by
  rcases hT with ⟨hE, rfl, rfl⟩ | ⟨hE, hT⟩
  · exact tai_leaps a n cap q y m d h i s w hH hE
  · obtain ⟨h20, hL⟩ := lE_zero hE
    have R : ∀ D, 86399 ≤ lng q n D ∧ lng q n D ≤ 86401 := fun D => lng_le hL D
    rcases hT with ⟨o, rfl, rfl⟩ | ⟨o, no, rfl, rfl⟩ | ⟨o, ok, rfl, rfl⟩
    · rw [errc_not (by decide)]
      cases o1 : okD y m d with
      | false => exact tai_date a n cap q y m d h i s w hH he wy wm wd hE o1
      | true => exact tai_hands a n cap q y m d h i s w hH he hN hE o1 (by rw [o1] at o; exact o)
    · rw [errc_not (by decide)]
      obtain ⟨o1, o2⟩ : okD y m d = true ∧ okH h i s = true := by simpa using o
      have hd := dnum_range o1
      by_cases lt : sec h i s < lng q n (dnum y m d)
      · exact tai_none a n cap q y m d h i s w hH _ he hN hW hE o1 o2 rfl hd.1 (by omega) lt (fun k => no ((okL_iff o2 lt (R _).2).2 k))
      · exact tai_late a n cap q y m d h i s w hH _ he hN hW hE o1 o2 rfl hd.1 (by omega) (by omega)
    · rw [errc_zero]
      obtain ⟨o1, o2⟩ : okD y m d = true ∧ okH h i s = true := by simpa using o
      have hd := dnum_range o1
      have lt : sec h i s < lng q n (dnum y m d) := ok.2.2.2.2.2.2.2
      exact tai_there a n cap q y m d h i s w hH _ he hN hW hE o1 o2 rfl hd.1 (by omega) lt ((okL_iff o2 lt (R _).2).1 ok)
end Go.Proofs.YthaajbdppmdhaadDoor
