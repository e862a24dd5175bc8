/- Package civil answers as the document says, in each world whose table of days ahead of months, and table of tens, are as the program's text lays them. -/
import Derived.Test.YthaajbdppmdhaacDoorCivilCiv
import Derived.Test.YthaajbdppmdhaacDoorCivilOf
import Derived.Test.YthaajbdppmdhaacDoorCivilParse
namespace Go.Proofs.YthaajbdppmdhaacDoor
open Go.ChangeShapes Go.WideShapes Go.ChangeAt Go.RowKit
set_option linter.unusedVariables false

theorem of_day (n y m d : Int) (w : World) (he : EnvA w) (ok : okD y m d = true) (hd : dnum y m d = n) :
    Calls Tryd.prog 22 #[.int .i64 n] w fun e w' => e = .returned (.tuple #[.agg #[.int .i64 y, .int .i64 m, .int .i64 d], .nilIface]) ∧ Below w.heap.size w w' := by
  obtain ⟨h1, h2, h3, h4, h5, h6⟩ := okD_t ok
  obtain ⟨p1, p2, p3, p4⟩ := dnum_at ok
  rw [hd] at p1 p2 p3 p4
  have ey : (1970 : Int) + ((y - 1970).toNat : Int) = y := by omega
  have em : (1 : Int) + ((m - 1).toNat : Int) = m := by omega
  have k := of_ok n (y - 1970).toNat (m - 1).toNat w he (by omega) p1 p2 (by omega) (by rw [ey]; exact p3) (by rw [ey]; exact p4)
  rw [ey, em] at k
  have ed : n - yoff (y - 1970).toNat - moff y (m - 1).toNat + 1 = d := by rw [← hd]; unfold dnum; omega
  rwa [ed] at k
theorem of_none (n : Int) (w : World) (wn : In64 n) (h : n < 0 ∨ 84005 < n) :
    Calls Tryd.prog 22 #[.int .i64 n] w fun e w' => e = .returned (.tuple #[.agg #[.int .i64 0, .int .i64 0, .int .i64 0], .iface 81 (.int .i64 1)]) ∧ Below w.heap.size w w' := by
  rcases h with h | h
  · exact of_low n w wn h
  · exact of_high n w wn h
theorem below_same {u w' : World} {e x : Ending} (h : e = x ∧ w' = u) : e = x ∧ Below u.heap.size u w' := ⟨h.1, by rw [h.2]; exact Below.refl _ _⟩
theorem civ0 {w0 : World} (he : EnvA w0) : Civ0 w0 where
  check := fun y m d u hu a b c => check_any y m d u a b c (he.below hu)
  num := fun y m d u hu a b c => number_any y m d u a b c (he.below hu)
  ofOk := fun n y m d u hu ok hd => of_day n y m d u (he.below hu) ok hd
  ofNo := fun n u hu wn h => of_none n u wn h
  daysOk := fun y m u hu a b c d => (days_ok y m u a b c d (he.below hu)).mono fun _ _ h => below_same h
  daysNo := fun y m u hu a b h => (days_no y m u a b h).mono fun _ _ h => below_same h
  parse := fun s y m d e u hu hs h => parse_any s y m d e u (he.below hu) hs h
theorem civ {w0 : World} (he : EnvA w0) (ht : EnvT w0) : Civ w0 where
  toCiv0 := civ0 he
  print := fun y m d u hu a b c => print_any y m d u a b c (he.below hu) (ht.below hu)
end Go.Proofs.YthaajbdppmdhaacDoor
