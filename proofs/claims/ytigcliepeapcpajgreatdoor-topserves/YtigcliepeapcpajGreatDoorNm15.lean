/- Package net: an act, whatever it is. Package net: New and Do, as the laws want them. Package net: New, Do and Offset, as the laws want them. -/
import Derived.Test.YtigcliepeapcpajGreatDoorNetPkgD
import Derived.Test.YtigcliepeapcpajGreatDoorNodePkgHr
import Derived.Test.YtigcliepeapcpajGreatDoorNm09
import Derived.Test.YtigcliepeapcpajGreatDoorNm12
import Derived.Test.YtigcliepeapcpajGreatDoorNm14
namespace Go.Proofs.YtigcliepeapcpajGreatDoor
open Go.ChangeShapes Go.WideShapes Go.ChangeAt Go.RowKit Go.Joins
set_option linter.unusedVariables false
set_option linter.unusedSimpArgs false

section
variable {u : World} {mb : Nat} {L : Nly} {N N' : Nn}
/-- A letter that came. -/
theorem ncome_any {S' : Ws} {l : Lt} {c' : Nd} {e : Int} (g : N.T) (hn : S'.n = N.W.n) (hi : S'.I) (kn : Kn S' N.p l.to.toNat (N.nd l.to.toNat)) (rt : RtB S' N.p) (lk : Lk S' l) (hh : HearR (N.nd l.to.toNat) l (S'.rd l.to.toNat) c' l.ans 0)
    (q : (l.ans = true ∧ N' = ⟨S', N.p, updN N.nd l.to.toNat c'⟩ ∧ e = 0) ∨ (l.ans = false ∧ ∃ S'', AnR S' l S'' e ∧ N' = ⟨S'', N.p, updN N.nd l.to.toNat c'⟩)) (W : World) (L2 : Nly) (h : NN W mb L2 ⟨S', N.p, N.nd⟩) :
    Calls Tryz.prog 23 #[.pointer (some ⟨mb, 0, none⟩), ltv l] W fun o w' => o = .returned (errc e) ∧ ∃ L', NN w' mb L' N' ∧ Kpn W w' mb N.W.n L2 L' := by
  obtain ⟨a, k, h1, h2, h3, h4, h5, _⟩ := lk
  obtain ⟨x, y, an, t1, t2, t3⟩ := l
  obtain rfl : x = (a : Int) := h1
  obtain rfl : y = (k : Int) := h2
  rw [show (⟨(a : Int), (k : Int), an, t1, t2, t3⟩ : Lt).to.toNat = k from Int.toNat_natCast k] at kn hh q
  have ci : (N.nd k).I := kn.i rt h4
  have hs : S'.hs (k : Int) := ⟨by omega, by omega⟩
  have cR : ∀ V : World, Below W.heap.size W V → Calls Tryz.prog 24 #[.pointer (some ⟨L2.wb, 0, none⟩), .int .i64 (k : Int)] V fun o w' => o = .returned (.tuple #[.int .i64 (S'.rd k), .nilIface]) ∧ Below V.heap.size V w' := fun V hV => by
    have := read_yes (h.on hV).w hi hs
    rwa [errc_zero, Int.toNat_natCast] at this
  have cH : ∀ V : World, Below W.heap.size W V → Calls Tryz.prog 46 #[.pointer (some ⟨L2.b k, 0, none⟩), ltv ⟨(a : Int), (k : Int), an, t1, t2, t3⟩, .int .i64 (S'.rd k)] V fun o w' => o = .returned (.tuple #[.bool an, .nilIface]) ∧ PN w' (L2.b k) (L2.m k) c' ∧ Keeps (Fn (L2.b k) (L2.m k)) V w' := fun V hV => by
    refine (hear_any ((h.on hV).d k h4) ci ⟨(a : Int), (k : Int), an, t1, t2, t3⟩ (S'.rd k) 0 an hh).mono fun _ _ ⟨q1, q2, q3⟩ => ⟨?_, q2, q3⟩
    rw [errc_zero] at q1
    exact q1
  rcases q with ⟨qa, rfl, rfl⟩ | ⟨qa, S'', hA, rfl⟩
  · obtain rfl : an = true := qa
    refine (pcome_ans h hi k h4 (a : Int) t1 t2 t3 (S'.rd k) true c' cR cH).mono fun _ _ ⟨q1, L', q2, q3⟩ => ⟨by rw [errc_zero]; exact q1, L', q2, ?_⟩
    rw [← hn]
    exact q3
  · obtain rfl : an = false := qa
    have sm := hA.same
    refine (pcome_ask h hi k h4 (a : Int) t1 t2 t3 (S'.rd k) false c' cR cH (errc e) S'' sm.1 ?_).mono fun _ _ ⟨q1, L', q2, q3⟩ => ⟨q1, L', q2, ?_⟩
    · intro V hV
      exact (answer_any hV hi ⟨(a : Int), (k : Int), false, t1, t2, t3⟩ hA).mono fun _ _ ⟨q1, v', q2⟩ => ⟨q1, v', q2⟩
    · rw [← hn]
      exact q3
theorem nact_any (h : NN u mb L N) (g : N.T) {wh x y e : Int} (hD : NDoR N wh x y N' e) :
    Calls Tryz.prog 8 #[.pointer (some ⟨mb, 0, none⟩), .agg #[.int .i64 wh, .int .i64 x, .int .i64 y]] u fun o w' => o = .returned (errc e) ∧ ∃ L', NN w' mb L' N' ∧ Kpn u w' mb N.W.n L L' := by
  obtain ⟨S', r, e1, hDo, q⟩ := hD
  have sm := hDo.same
  have hi : S'.I := hDo.i g.g.i
  rcases q with ⟨rfl, rfl, rfl⟩ | ⟨l, c', rfl, rfl, lk, hh, q⟩
  · by_cases he : e = 0
    · subst he
      rw [errc_zero]
      refine ndo_nil h wh x y S' sm.1 ?_
      intro W hW
      refine (do_any hW g.g.i hDo).mono fun _ _ ⟨pv, v', q1, q2, q3⟩ => ⟨v', ?_, q2⟩
      rw [errc_zero] at q1
      rcases q3 with ⟨_, rfl⟩ | ⟨_, _, q, _⟩
      · exact q1
      · cases q
    · rw [errc_not he]
      refine ndo_err h wh x y S' sm.1 (.pointer none) e ?_
      intro W hW
      refine (do_any hW g.g.i hDo).mono fun _ _ ⟨pv, v', q1, q2, q3⟩ => ⟨v', ?_, q2⟩
      rw [errc_not he] at q1
      rcases q3 with ⟨_, rfl⟩ | ⟨_, _, q, _⟩
      · exact q1
      · cases q
  · have rt : RtB S' N.p := g.g.on hi sm.1 sm.2.2.1
    have lt : l.to.toNat < N.W.n := by
      obtain ⟨a, b, _, h2, _, h4, _⟩ := lk
      rw [h2, Int.toNat_natCast, ← sm.1]
      exact h4
    have kn := (g.kn _ lt).on g.g lt sm.1 sm.2.1 sm.2.2.1 (sm.2.2.2 g.g.i)
    refine ndo_some h wh x y S' sm.1 l.frm l.to l.ans l.t1 l.t2 l.t (errc e) N' ?_ ?_
    · intro W hW
      refine (do_any hW g.g.i hDo).mono fun _ _ ⟨pv, v', q1, q2, q3⟩ => ?_
      rw [errc_zero] at q1
      rcases q3 with ⟨q, _⟩ | ⟨l', gg, e2, e3, hr, _⟩
      · cases q
      · obtain rfl := Option.some.inj e2
        exact ⟨v', gg, by rw [e3] at q1; exact q1, q2, hr⟩
    · intro W L2 hN
      exact ncome_any g sm.1 hi kn rt lk hh q W L2 hN
end
end Go.Proofs.YtigcliepeapcpajGreatDoor
namespace Go.Proofs.YtigcliepeapcpajGreatDoor
open Go.ChangeShapes Go.WideShapes Go.ChangeAt Go.RowKit Go.Joins
set_option linter.unusedVariables false
set_option linter.unusedSimpArgs false

def ntt (w : World) : Nt w where
  R := Nkn
  on := Nkn.on
  lt := Nkn.lt
  new := fun sa n sc z ra m rc r ppm e u _ h1 h2 _ hE => by
    by_cases he : e = 0
    · subst he
      refine (nnet_ok sa n sc z ra m rc r ppm u h1 h2 hE).mono fun _ _ ⟨b, L, q1, q2, q3, q4⟩ => ⟨_, by rw [errc_zero]; exact q1, q3, fun _ => ⟨b, L.F b n, rfl, ⟨L, q2, rfl⟩, q4⟩⟩
    · refine (nnet_bad sa n sc z ra m rc r ppm e u h1 h2 hE he).mono fun _ _ ⟨q1, q2⟩ => ⟨_, by rw [errc_not he]; exact q1, q2, fun q => absurd q he⟩
  act := fun b F N N' wh x y e u hR hT _ _ _ hD => by
    obtain ⟨L, hP, rfl⟩ := hR
    have sm := (hD.t hT).2.1
    refine (nact_any hP hT hD).mono fun _ _ ⟨q1, L', q2, q3⟩ => ⟨L'.F b N'.W.n, q1, ⟨L', q2, rfl⟩, q3.1, ?_⟩
    rw [sm]
    exact q3.2
end Go.Proofs.YtigcliepeapcpajGreatDoor
namespace Go.Proofs.YtigcliepeapcpajGreatDoor
open Go.ChangeShapes Go.WideShapes Go.ChangeAt Go.RowKit Go.Joins
set_option linter.unusedVariables false
set_option linter.unusedSimpArgs false

def nto (w : World) : NtO w := { ntt w with
  off := fun b F N x y lo hi e u hR hT _ _ hB => by
    obtain ⟨L, hP, rfl⟩ := hR
    exact noff_any hP hT x y lo hi e hB
  }
end Go.Proofs.YtigcliepeapcpajGreatDoor
