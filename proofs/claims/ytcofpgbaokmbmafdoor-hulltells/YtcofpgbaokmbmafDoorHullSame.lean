/- Corners of the document's own reckoning, as they are handed over. -/
import Derived.Test.YtcofpgbaokmbmafDoorHullRefU
import Derived.Test.YtcofpgbaokmbmafDoorHullRefO
import Derived.Test.YtcofpgbaokmbmafDoorHullPts
namespace Go.Proofs.YtcofpgbaokmbmafDoor
open Go.ChangeShapes Go.WideShapes Go.ChangeAt Go.RowKit Go.Joins
set_option linter.unusedVariables false
set_option linter.unusedSimpArgs false

theorem OwnL.handed {u : World} {base : Nat} {v : Value} {out : List (Int × Int)} (h : OwnL u base v out) (hl : out.length ≤ 60) : ∃ a cap, v = .slice a out.length cap ∧ PHanded u a out.length (rowL out) := by
  rcases h with ⟨e, e'⟩ | ⟨l0, g, cap, e, h1, h2, h3, h4, h5⟩
  · exact ⟨none, 0, by rw [e', e]; rfl, by omega, Or.inl (by rw [e]; rfl)⟩
  · refine ⟨_, cap, e, by omega, Or.inr ⟨g, 0, rfl, fun i hi => ?_⟩⟩
    have hp : out[i]? = some (rowL out i) := by unfold rowL; rw [List.getElem?_eq_getElem hi]; rfl
    obtain ⟨p0, p1⟩ := pcs_at hp
    rw [Nat.zero_add]
    exact ⟨h5 _ _ p0, h5 _ _ p1⟩
end Go.Proofs.YtcofpgbaokmbmafDoor
