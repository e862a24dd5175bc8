/- Package node, as it landed, as the laws want it. -/
import Derived.Test.YtmomcaodmdlnpahDoorNodePkgHr
import Derived.Test.YtmomcaodmdlnpahDoorNodePkgE
namespace Go.Proofs.YtmomcaodmdlnpahDoor
open Go.ChangeShapes Go.WideShapes Go.ChangeAt Go.RowKit Go.Joins Go.Maps
set_option linter.unusedVariables false
set_option linter.unusedSimpArgs false

theorem StN.sh {u : World} {s g : Nat} {c : Nd} {t : Int} (h : StN u s g c.n c t) (hn : c.n ≤ 6) : SHanded u (some ⟨s, 0, none⟩) c.n (c.so t) ∧ BHanded u (some ⟨g, 0, none⟩) c.n c.ho := by
  refine ⟨⟨by omega, Or.inr ⟨s, 0, rfl, fun i hi => ?_⟩⟩, ⟨by omega, Or.inr ⟨g, 0, rfl, fun i hi => ?_⟩⟩⟩
  · have a := h.a i hi
    have b := h.b i hi
    rw [if_pos hi] at a b
    rw [Nat.zero_add]
    exact ⟨a, b⟩
  · have a := h.h i hi
    rw [if_pos hi] at a
    rw [Nat.zero_add]
    exact a
def npe (w0 : World) : NpE w0 where
  R := Nkp
  on := Nkp.on
  lt := Nkp.lt
  new := fun id n p u _ h1 h2 h3 h4 => (nnew_ok id n p u h1 h2 h3 h4).mono fun _ _ ⟨b, M, he, hp, hw, l1, l2⟩ => ⟨b, Fn b M, he, ⟨M, hp, rfl⟩, hw, fun k hk => hk.elim (fun e => e ▸ l1) (fun e => e ▸ l2)⟩
  bad := fun id n p u _ _ _ _ h => (nnew_no id n p u h).mono fun _ _ ⟨v, he, hw⟩ => ⟨v, by rw [errc_not (by decide)]; exact he, hw⟩
  hear := fun b F c c' l t e B u hR hI _ _ hh => by
    obtain ⟨M, hP, rfl⟩ := hR
    exact (hear_any hP hI l t e B hh).mono fun _ _ ⟨he, hp, hw⟩ => ⟨Fn b M, he, ⟨M, hp, rfl⟩, hw, fun k hk => Or.inl hk⟩
  spans := fun b F c t e u hR hI _ h => by
    obtain ⟨M, hP, rfl⟩ := hR
    have lb := hP.lt
    have lM := hP.ltM
    refine (nspans_at hP hI t e h).mono fun _ _ ⟨q, hw⟩ => ⟨?_, hw⟩
    rcases q with ⟨rfl, s, g, he, st, hs, hg⟩ | ⟨hz, he⟩
    · obtain ⟨q1, q2⟩ := st.sh hI.n6
      refine ⟨some ⟨s, 0, none⟩, c.n, some ⟨g, 0, none⟩, c.n, by rw [errc_zero]; exact he, q1, q2, fun b' off e => ?_, fun b' off e => ?_⟩
      · injection e with e
        injection e with e
        subst e
        exact fun k => k.elim (fun e => by omega) (fun e => by omega)
      · injection e with e
        injection e with e
        subst e
        exact fun k => k.elim (fun e => by omega) (fun e => by omega)
    · have n0 : nOf e c.n = 0 := if_neg hz
      refine ⟨none, 0, none, 0, by rw [n0, errc_not hz]; exact he, ⟨by omega, Or.inl n0⟩, ⟨by omega, Or.inl n0⟩, fun _ _ e => by (cases e), fun _ _ e => by (cases e)⟩
  edges := fun b F c t e u hR hI _ h => by
    obtain ⟨M, hP, rfl⟩ := hR
    by_cases hz : e = 0
    · subst hz
      exact (nedges_go hP hI t h).mono fun _ _ ⟨⟨ea, ec, he, hE, _⟩, hw⟩ => ⟨⟨ea, ec, by rw [errc_zero]; exact he, hE⟩, hw⟩
    · have n0 : nOf e (c.eo t).length = 0 := if_neg hz
      refine (nedges_no hP hI t e h hz).mono fun _ _ ⟨he, hw⟩ => ⟨⟨none, 0, by rw [n0, errc_not hz]; exact he, ?_⟩, hw⟩
      rw [n0]
      exact ⟨by omega, Or.inl rfl⟩
end Go.Proofs.YtmomcaodmdlnpahDoor
