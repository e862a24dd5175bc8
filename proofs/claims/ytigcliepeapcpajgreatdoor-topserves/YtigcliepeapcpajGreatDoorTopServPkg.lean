/- Packages net, clock, keeper, leap, span and probe, as TopServes wants them. -/
import Derived.Test.YtigcliepeapcpajGreatDoorNm15
import Derived.Test.YtigcliepeapcpajGreatDoorNm09
import Derived.Test.YtigcliepeapcpajGreatDoorNm17
import Derived.Test.YtigcliepeapcpajGreatDoorNm18
import Derived.Test.YtigcliepeapcpajGreatDoorLeapUtc
import Derived.Test.YtigcliepeapcpajGreatDoorLeapPrint
import Derived.Test.YtigcliepeapcpajGreatDoorNm01
import Derived.Test.YtigcliepeapcpajGreatDoorProbeOff
namespace Go.Proofs.YtigcliepeapcpajGreatDoor
open Go.ChangeShapes Go.WideShapes Go.ChangeAt Go.RowKit Go.Joins
set_option linter.unusedVariables false
set_option linter.unusedSimpArgs false

def ntv (w : World) : NtV w := { nto w with
  read := fun b F N i u hR hT _ => by
    obtain ⟨L, hP, rfl⟩ := hR
    exact nshow_any hP hT.g.i i
  }
theorem tpv {w : World} (he : EnvA w) (hT : EnvT w) (hN : EnvN w) : TpV w where
  utc := fun x y m d h i s u hu wx h1 h2 => by
    have := utc_any none 0 0 q0L x y m d h i s 0 u ⟨by omega, Or.inl rfl⟩ (he.below hu) wx (Or.inr ⟨rfl, h1, rfl, h2⟩)
    rw [errc_zero] at this
    exact this
  print := fun y m d h i s u hu o1 o2 => by
    obtain ⟨a1, a2, a3⟩ := ok64 o1
    have := lprint_any y m d h i s u (he.below hu) (hT.below hu) (hN.below hu) a1 a2 a3
    rw [o1, o2, Bool.true_and, if_pos rfl, if_pos rfl, errc_zero] at this
    exact this
  has := fun lo hi x u h h1 h2 => has_yes lo hi x u h h1 h2
  off := fun u => by
    have := off_ok 0 100 100 10 0 u (by decide)
    exact this
end Go.Proofs.YtigcliepeapcpajGreatDoor
