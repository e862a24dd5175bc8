/- Package node, as it landed: what is kept of one, by now. -/
import Derived.Test.YtmomcaodmdlnpahDoorNodePkgA
namespace Go.Proofs.YtmomcaodmdlnpahDoor
open Go.ChangeShapes Go.WideShapes Go.ChangeAt Go.RowKit Go.Joins Go.Maps
set_option linter.unusedVariables false
set_option linter.unusedSimpArgs false

theorem wid_any {c : Nd} {b i : Nat} {t : Int} (g : c.I) (hb : ¬ c.bk t) (hh : c.has i = true) (w : World) (c2 : w.cell? ⟨b, 2, none⟩ = some (.int .i64 c.p)) :
    Calls Tryd.prog 40 #[.pointer (some ⟨b, 0, none⟩), .agg #[.int .i64 (vL c i), .int .i64 (vH c i), .int .i64 (vA c i)], .int .i64 t] w fun o w' => o = .returned (.tuple #[.agg #[.int .i64 (c.alo i t), .int .i64 (c.ahi i t)], .nilIface]) ∧ Below w.heap.size w w' := by
  obtain ⟨k1, k2, k3, k4, k5⟩ := g.kn i hh
  obtain ⟨s1, s2, s3, s4⟩ := Nd.sk_b g hb hh
  obtain ⟨o1, o2, o3⟩ := okB_t k3
  have eL : vL c i = c.lo i := if_pos hh
  have eH : vH c i = c.hi i := if_pos hh
  have eA : vA c i = c.at_ i := if_pos hh
  obtain ⟨m, hm⟩ : ∃ m, m = ((t - c.at_ i) * 3 * c.p + 1000000 - 1) / 1000000 := ⟨_, rfl⟩
  have es : c.sk i t = 2 + m := by rw [hm]; rfl
  have e1 : c.alo i t = c.lo i - (m + 2) := by unfold Nd.alo; omega
  have e2 : c.ahi i t = c.hi i + (m + 2) := by unfold Nd.ahi; omega
  unfold Nd.bk at hb
  rw [eL, eH, eA, e1, e2]
  have := g.h1
  exact widened_at c.p (c.lo i) (c.hi i) (c.at_ i) t m w c2 k4 (by omega) (by omega) g.p0 g.p1 (by omega) (by omega) (by omega) hm (by omega) (by omega)
end Go.Proofs.YtmomcaodmdlnpahDoor
