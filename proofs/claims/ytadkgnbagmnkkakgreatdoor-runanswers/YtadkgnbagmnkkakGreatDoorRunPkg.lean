/- Package run, as the laws want it. -/
import Derived.Test.YtadkgnbagmnkkakGreatDoorNm13
import Derived.Test.YtadkgnbagmnkkakGreatDoorNm19
import Derived.Test.YtadkgnbagmnkkakGreatDoorSpanTextK
import Derived.Test.YtadkgnbagmnkkakGreatDoorNm21
import Derived.Test.YtadkgnbagmnkkakGreatDoorNm24
namespace Go.Proofs.YtadkgnbagmnkkakGreatDoor
open Go.ChangeShapes Go.WideShapes Go.ChangeAt Go.RowKit Go.Joins
set_option linter.unusedVariables false

def dkc {w : World} (he : EnvA w) (hT : EnvT w) (hN : EnvN w) (hm : ShE w) : rn.DkC w := { ntw w with
 show_ := fun b F N i u hR hi hT => by
  obtain ⟨L, hP, rfl⟩ := hR
  exact nshow_any hP hi.g.i i
 itoa := fun v u hu hv => titoa_any v u hv.1 hv.2 ⟨hm.below hu, hT.below hu⟩
 sprint := fun lo hi u hu ok => print_ok lo hi (rn.txt (printL lo hi)) u ⟨hm.below hu, hT.below hu⟩ ok rfl
 utc := fun x y m d h i s u hu x0 x1 hU => by
  have hb := bg_mono q00_lps 0 84006
  rw [bg_zero q00_lps] at hb
  have hb : (0 : Int) + 86399 * (84006 : Nat) ≤ bg q00 0 84006 := hb
  have := utc_any none 0 0 q00 x y m d h i s 0 u ⟨by omega, Or.inl rfl⟩ (he.below hu) (WalkArith.wf_i64 (by omega)) (Or.inr ⟨rfl, ⟨x0, by omega⟩, rfl, hU⟩)
  rw [errc_zero] at this
  exact this
 print := fun y m d h i s u hu o1 o2 => by
  obtain ⟨a1, a2, a3⟩ := ok64 o1
  have := lprint_any y m d h i s u (he.below hu) (hT.below hu) (hN.below hu) a1 a2 a3
  rw [o1, o2, Bool.true_and, if_pos rfl, if_pos rfl, errc_zero] at this
  exact this
 }
theorem rnc {w : World} (he : EnvA w) (hT : EnvT w) (hN : EnvN w) (hg : told.EnvE w) (hm : ShE w) (hx : rn.EnvX w) : rn.RnC w where
 run := fun s r u hz hu hR => by
  rcases hR with ⟨h, rfl⟩ | ⟨h, hO⟩
  ·refine (rn.run_long s u (by rw [Lib.size_eq]; exact h) hz).mono ?_
   rintro o w' ⟨rfl, rfl⟩
   exact ⟨rfl, Below.refl _ _⟩
  ·exact rn.run_short (dkc he hT hN hm) hg hm hx s.data.toList r u hu h hO
end Go.Proofs.YtadkgnbagmnkkakGreatDoor
