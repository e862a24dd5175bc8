/- Package world, as the laws want it. -/
import Derived.Test.YtkmbllkkccelaahDoorWorldPkgN
import Derived.Test.YtkmbllkkccelaahDoorWorldPkgE
namespace Go.Proofs.YtkmbllkkccelaahDoor
open Go.ChangeShapes Go.WideShapes Go.ChangeAt Go.RowKit Go.Joins
set_option linter.unusedVariables false

/-- Package world. -/
def wp (w : World) : Wp w where
  R := Wkp
  on := fun h hz hF => h.on hz hF
  lt := fun h k hk => h.lt k hk
  new := fun sa n sc z ra m rc r ppm e u hu h1 h2 hp hE => by
    refine (wnew_any sa n sc z ra m rc r ppm u h1 h2).mono ?_
    rintro o w' ⟨e', pv, hE', rfl, hb, hz⟩
    obtain rfl := beE_one hE hE'
    refine ⟨pv, rfl, hb, fun q => ?_⟩
    obtain ⟨b, cb, cc, rfl, hP, l1, l2⟩ := hz q
    refine ⟨b, Fp b cb (.slice none 0 0), rfl, ⟨cb, cc, _, hP, rfl⟩, fun k hk => ?_⟩
    rcases hk with e | e | e
    · rw [e]; exact l1
    · rw [e]; exact l2
    · cases e
  read := fun b F S i u h hI hi => by
    obtain ⟨cb, cc, v, hP, rfl⟩ := h
    exact wread_any hP hI i
  act := fun b F S S' wh x y e r u h hI h1 h2 h3 hD => by
    obtain ⟨cb, cc, v, hP, rfl⟩ := h
    refine (do_any hP hI hD).mono ?_
    rintro o w' ⟨pv, v', rfl, ⟨g1, g2⟩, hm⟩
    obtain ⟨F', hk, rfl, hK, hF⟩ := Wkp.of (S := S) (cc := cc) g1 g2
    refine ⟨pv, _, rfl, ?_, hk, hK, hF⟩
    rcases hm with q | ⟨l, g, e1, e2, hr, hg, hn⟩
    · exact Or.inl q
    · refine Or.inr ⟨l, g, e1, e2, hr, hg, fun q => ?_⟩
      have l1 := hP.r.lt
      have l2 := hP.kl
      rcases q with e | e | e
      · omega
      · omega
      · exact hn e
  time := fun b F S u h hI => by
    obtain ⟨cb, cc, v, hP, rfl⟩ := h
    exact time_any hP
end Go.Proofs.YtkmbllkkccelaahDoor
