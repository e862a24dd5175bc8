/- What the document's own node (package noonref2) answers of any letter. -/
import Derived.Test.YtmomcaodmdlnpahDoorNodeRefH
import Derived.Test.YtmomcaodmdlnpahDoorNodeRefO
import Derived.Test.YtmomcaodmdlnpahDoorNodeRefP
import Derived.Test.YtmomcaodmdlnpahDoorNodeRefQ
import Derived.Test.YtmomcaodmdlnpahDoorNodeRefM
namespace Go.Proofs.YtmomcaodmdlnpahDoor
open Go.ChangeShapes Go.WideShapes Go.ChangeAt Go.RowKit Go.Joins
set_option linter.unusedVariables false

theorem rhear_any (b : Nat) (c c' : Nd) (l : Lt) (t e : Int) (B : Bool) (u : World) (hR : RN u b c) (hI : c.I) (h : HearR c l t c' B e) :
    Calls Tryd.prog 22 #[.pointer (some ⟨b, 0, none⟩), ltv l, .int .i64 t] u fun o w' => o = .returned (.tuple #[.bool B, .int .i64 e]) ∧ RN w' b c' ∧ Keeps (fun i => i = b) u w' := by
  obtain ⟨x, y, an, t1, t2, t3⟩ := l
  have good : ¬ c.bad ⟨x, y, an, t1, t2, t3⟩ → ∃ k : Nat, x = k ∧ k < c.n ∧ k ≠ c.id ∧ y = c.id := fun q => by
    have q1 : ¬ (y ≠ (c.id : Int) ∨ x = c.id ∨ x < 0 ∨ (c.n : Int) ≤ x) := q
    refine ⟨x.toNat, ?_, ?_, ?_, ?_⟩ <;> omega
  rcases h with ⟨a, rfl, rfl, rfl⟩ | ⟨a, q, rfl, rfl, rfl⟩ | ⟨a, q, d, rfl, rfl, rfl⟩ | ⟨a, q, d, f, rfl, rfl, rfl⟩ | ⟨a, q, d, f, g, rfl, rfl, rfl⟩ | ⟨a, q, d, f, g, rfl, rfl, rfl⟩
  · exact (rhear_bk b c' x y t1 t2 t3 t u hR hI an a).mono fun _ _ ⟨he, hb⟩ => ⟨he, RN.on hb hR, .of hb⟩
  · have q1 : y ≠ (c'.id : Int) ∨ x = c'.id ∨ x < 0 ∨ (c'.n : Int) ≤ x := q
    by_cases h1 : y = c'.id
    · by_cases h2 : x = c'.id
      · exact (rhear_b2 b c' x y t1 t2 t3 t u hR hI an a h1 h2).mono fun _ _ ⟨he, hb⟩ => ⟨he, RN.on hb hR, .of hb⟩
      · by_cases h3 : x < 0
        · exact (rhear_b3 b c' x y t1 t2 t3 t u hR hI an a h1 h2 h3).mono fun _ _ ⟨he, hb⟩ => ⟨he, RN.on hb hR, .of hb⟩
        · exact (rhear_b4 b c' x y t1 t2 t3 t u hR hI an a h1 h2 h3 (by omega)).mono fun _ _ ⟨he, hb⟩ => ⟨he, RN.on hb hR, .of hb⟩
    · exact (rhear_b1 b c' x y t1 t2 t3 t u hR hI an a h1).mono fun _ _ ⟨he, hb⟩ => ⟨he, RN.on hb hR, .of hb⟩
  · obtain ⟨k, e1, e2, e3, e4⟩ := good q
    obtain rfl : an = false := d
    exact rhear_ask b c x y t1 t2 t3 t u hR hI a k e1 e2 e3 e4
  · obtain ⟨k, e1, e2, e3, e4⟩ := good q
    obtain rfl : an = true := d
    exact (rhear_off b c' x y t1 t2 t3 t u hR hI a k e1 e2 e3 e4 _ rfl f).mono fun _ _ ⟨he, hb⟩ => ⟨he, RN.on hb hR, .of hb⟩
  · obtain ⟨k, e1, e2, e3, e4⟩ := good q
    obtain rfl : an = true := d
    subst e1
    have ek : (k : Int).toNat = k := by omega
    have g' : c'.bHi (k : Int).toNat t (c'.oU ⟨k, y, true, t1, t2, t3⟩ t) < c'.bLo (k : Int).toNat t (Nd.oL ⟨k, y, true, t1, t2, t3⟩ t) := g
    rw [ek] at g'
    cases hh : c'.has k with
    | false =>
      exfalso
      have z := (oE_zero f).2.2.2.2
      unfold Nd.bHi Nd.bLo at g'
      rw [hh] at g'
      simp only [Bool.false_eq_true, if_false] at g'
      have g2 : oH t1 t2 t c'.p < t3 - t := g'
      have z2 : t3 - t ≤ oH t1 t2 t c'.p := z
      omega
    | true =>
      refine (rhear_clash b c' k y t1 t2 t3 t u hR hI a k rfl e2 e3 e4 (t3 - t) (oH t1 t2 t c'.p) f rfl rfl hh (c'.bLo k t (t3 - t)) (c'.bHi k t (oH t1 t2 t c'.p)) ?_ ?_ g').mono fun _ _ ⟨he, hb⟩ => ⟨he, RN.on hb hR, .of hb⟩
      · show _ ∨ _
        unfold Nd.bLo; rw [if_pos hh]; by_cases r : t3 - t < c'.alo k t
        · exact Or.inl ⟨r, by rw [if_pos r]⟩
        · exact Or.inr ⟨by omega, by rw [if_neg r]⟩
      · show _ ∨ _
        unfold Nd.bHi; rw [if_pos hh]; by_cases r : c'.ahi k t < oH t1 t2 t c'.p
        · exact Or.inl ⟨r, by rw [if_pos r]⟩
        · exact Or.inr ⟨by omega, by rw [if_neg r]⟩
  · obtain ⟨k, e1, e2, e3, e4⟩ := good q
    obtain rfl : an = true := d
    subst e1
    have ek : (k : Int).toNat = k := by omega
    have g' : c.bLo (k : Int).toNat t (t3 - t) ≤ c.bHi (k : Int).toNat t (oH t1 t2 t c.p) := g
    show Calls Tryd.prog 22 _ u fun o w' => o = .returned (.tuple #[.bool true, .int .i64 0]) ∧ RN w' b (c.kept (k : Int).toNat t (c.bLo (k : Int).toNat t (t3 - t)) (c.bHi (k : Int).toNat t (oH t1 t2 t c.p))) ∧ Keeps (fun i => i = b) u w'
    rw [ek] at g' ⊢
    cases hh : c.has k with
    | false =>
      have b1 : c.bLo k t (t3 - t) = t3 - t := by unfold Nd.bLo; rw [hh]; rfl
      have b2 : c.bHi k t (oH t1 t2 t c.p) = oH t1 t2 t c.p := by unfold Nd.bHi; rw [hh]; rfl
      rw [b1, b2]
      exact rhear_new b c k y t1 t2 t3 t u hR hI a k rfl e2 e3 e4 (t3 - t) (oH t1 t2 t c.p) f rfl rfl hh
    | true =>
      refine rhear_meet b c k y t1 t2 t3 t u hR hI a k rfl e2 e3 e4 (t3 - t) (oH t1 t2 t c.p) f rfl rfl hh (c.bLo k t (t3 - t)) (c.bHi k t (oH t1 t2 t c.p)) ?_ ?_ g'
      · show _ ∨ _
        unfold Nd.bLo; rw [if_pos hh]; by_cases r : t3 - t < c.alo k t
        · exact Or.inl ⟨r, by rw [if_pos r]⟩
        · exact Or.inr ⟨by omega, by rw [if_neg r]⟩
      · show _ ∨ _
        unfold Nd.bHi; rw [if_pos hh]; by_cases r : c.ahi k t < oH t1 t2 t c.p
        · exact Or.inl ⟨r, by rw [if_pos r]⟩
        · exact Or.inr ⟨by omega, by rw [if_neg r]⟩
end Go.Proofs.YtmomcaodmdlnpahDoor
