/- Package span, as RunKnows wants it. -/
import Derived.Test.YtadkgnbagmnkkakGreatDoorRunKnowsA
import Derived.Test.YtadkgnbagmnkkakGreatDoorSpanTextK
import Derived.Test.YtadkgnbagmnkkakGreatDoorNm01
import Derived.Test.YtadkgnbagmnkkakGreatDoorCivilPrint
import Derived.Test.YtadkgnbagmnkkakGreatDoorRunShE
namespace Go.Proofs.YtadkgnbagmnkkakGreatDoor
open Go.ChangeShapes Go.WideShapes Go.ChangeAt Go.RowKit Go.Joins
set_option linter.unusedVariables false

theorem knv {w : World} (hT : EnvT w) (hm : ShE w) : rn.KnV w where
 parse := fun lo hi s u hu ok hs => by
  obtain ⟨a, b, c⟩ := okB_t ok
  obtain ⟨l1, l2⟩ := itoa_len lo hi ok
  refine parse_ok s lo hi u ?_ ⟨hm.below hu, hT.below hu⟩ (by rw [hs]; exact parse_print lo hi (by omega) (by omega) (by omega) (by omega)) ok
  rw [Lib.size_eq, hs]
  unfold printL
  simp only [List.length_append, List.length_cons, List.length_nil]
  omega
 has := fun lo hi x u h h1 h2 => has_yes lo hi x u h h1 h2
end Go.Proofs.YtadkgnbagmnkkakGreatDoor
