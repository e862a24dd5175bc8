/- Package node, as it landed: whatever it hears. -/
import Derived.Test.YtigcliepeapcpajGreatDoorNodePkgH
import Derived.Test.YtigcliepeapcpajGreatDoorNm08
import Derived.Test.YtigcliepeapcpajGreatDoorNodePkgL
import Derived.Test.YtigcliepeapcpajGreatDoorNodePkgK
import Derived.Test.YtigcliepeapcpajGreatDoorNodePkgB
namespace Go.Proofs.YtigcliepeapcpajGreatDoor
open Go.ChangeShapes Go.WideShapes Go.ChangeAt Go.RowKit Go.Joins Go.Maps
set_option linter.unusedVariables false
set_option linter.unusedSimpArgs false

section
variable {u : World} {b M : Nat} {c c' : Nd}
/-- What a node in memory is behind a letter. -/
def HrO (u : World) (b M : Nat) (c' : Nd) (B : Bool) (e : Int) (o : Ending) (w' : World) : Prop := o = .returned (.tuple #[.bool B, errc e]) ∧ PN w' b M c' ∧ Keeps (Fn b M) u w'
theorem hear_any (h : PN u b M c) (g : c.I) (l : Lt) (t e : Int) (B : Bool) (hh : HearR c l t c' B e) :
    Calls Tryz.prog 46 #[.pointer (some ⟨b, 0, none⟩), ltv l, .int .i64 t] u fun o w' => HrO u b M c' B e o w' := by
  have same : ∀ {v : Int} {X : Calls Tryz.prog 46 #[.pointer (some ⟨b, 0, none⟩), ltv l, .int .i64 t] u fun o w' => o = .returned (.tuple #[.bool false, .iface 71 (.int .i64 v)]) ∧ Below u.heap.size u w'}, v ≠ 0 → Calls Tryz.prog 46 #[.pointer (some ⟨b, 0, none⟩), ltv l, .int .i64 t] u fun o w' => HrO u b M c false v o w' := fun {v X} hv => X.mono fun _ _ ⟨he, hw⟩ => ⟨by rw [errc_not hv]; exact he, PN.on hw h, Keeps.of hw⟩
  obtain ⟨x, y, a, t1, t2, t3⟩ := l
  have frm : ¬ c.bad ⟨x, y, a, t1, t2, t3⟩ → ∃ k : Nat, x = k ∧ k < c.n ∧ k ≠ c.id ∧ y = c.id ∧ k < 6 := fun hb => by
    have n6 := g.n6
    unfold Nd.bad at hb
    have h1 : y = c.id := Classical.byContradiction (fun q => hb (Or.inl q))
    have h2 : x ≠ c.id := fun q => hb (Or.inr (Or.inl q))
    have h3 : ¬ x < 0 := fun q => hb (Or.inr (Or.inr (Or.inl q)))
    have h4 : ¬ (c.n : Int) ≤ x := fun q => hb (Or.inr (Or.inr (Or.inr q)))
    exact ⟨x.toNat, by omega, by omega, by omega, h1, by omega⟩
  rcases hh with ⟨hb, ec, rfl, rfl⟩ | ⟨hb, hd, ec, rfl, rfl⟩ | ⟨hb, hd, ha, ec, rfl, rfl⟩ | ⟨hb, hd, ha, hz, ec, rfl, rfl⟩ | ⟨hb, hd, ha, hz, hc, ec, rfl, rfl⟩ | ⟨hb, hd, ha, hz, hc, ec, rfl, rfl⟩
  all_goals
    rw [ec]
    clear ec
  · exact same (X := hear_bk h g x y t1 t2 t3 t a hb) (by decide)
  · refine same (X := ?_) (by decide)
    by_cases q1 : y = c.id
    · by_cases q2 : x = c.id
      · exact hear_b2 h g x y t1 t2 t3 t a hb q1 q2
      · by_cases q3 : x < 0
        · exact hear_b3 h g x y t1 t2 t3 t a hb q1 q2 q3
        · refine hear_b4 h g x y t1 t2 t3 t a hb q1 q2 q3 ?_
          unfold Nd.bad at hd
          rcases hd with d | d | d | d
          · exact absurd q1 d
          · exact absurd d q2
          · exact absurd d q3
          · exact d
    · exact hear_b1 h g x y t1 t2 t3 t a hb q1
  · obtain ⟨k, ex, hk, hne, h0, kk⟩ := frm hd
    obtain rfl : a = false := ha
    refine (hear_ask h g x y t1 t2 t3 t hb k ex hk hne h0).mono fun _ _ ⟨he, hp, hw⟩ => ⟨by rw [errc_zero]; exact he, hp, hw⟩
  · obtain ⟨k, ex, hk, hne, h0, kk⟩ := frm hd
    obtain rfl : a = true := ha
    refine same (X := ?_) hz
    refine hear_no h g x y t1 t2 t3 t hb k ex hk hne h0 _ hz ?_
    intro w hw
    subst ex
    exact learn_off (PN.on hw h) k y t1 t2 t3 t true _ rfl hz
  · obtain ⟨k, ex, hk, hne, h0, kk⟩ := frm hd
    obtain rfl : a = true := ha
    subst ex
    have hh : c.has k = true := by
      cases q : c.has k with
      | true => rfl
      | false =>
        have e1 : c.bHi k t (c.oU ⟨k, y, true, t1, t2, t3⟩ t) = oH t1 t2 t c.p := by unfold Nd.bHi; rw [q]; rfl
        have e2 : c.bLo k t (Nd.oL ⟨k, y, true, t1, t2, t3⟩ t) = t3 - t := by unfold Nd.bLo; rw [q]; rfl
        have hc' : c.bHi k t (c.oU ⟨k, y, true, t1, t2, t3⟩ t) < c.bLo k t (Nd.oL ⟨k, y, true, t1, t2, t3⟩ t) := hc
        rw [e1, e2] at hc'
        have q9 : t3 - t ≤ oH t1 t2 t c.p := (oE_zero hz).2.2.2.2
        clear hc
        omega
    have e1 : c.bHi k t (oH t1 t2 t c.p) = if c.ahi k t < oH t1 t2 t c.p then c.ahi k t else oH t1 t2 t c.p := by unfold Nd.bHi; rw [if_pos hh]
    have e2 : c.bLo k t (t3 - t) = if t3 - t < c.alo k t then c.alo k t else t3 - t := by unfold Nd.bLo; rw [if_pos hh]
    refine same (X := ?_) (by decide)
    refine hear_no h g (k : Int) y t1 t2 t3 t hb k rfl hk hne h0 _ (by decide) ?_
    intro w hw
    refine learn_clash (PN.on hw h) k y t1 t2 t3 t true kk (t3 - t) (oH t1 t2 t c.p) hz rfl rfl hh (vL c k) (vH c k) (vA c k) (c.alo k t) (c.ahi k t) rfl rfl rfl (fun w' c2 => wid_any g hb hh w' c2) (c.bLo k t (t3 - t)) (c.bHi k t (oH t1 t2 t c.p)) ?_ ?_ hc
    · rw [e2]; split
      · exact Or.inl ⟨by assumption, rfl⟩
      · exact Or.inr ⟨by assumption, rfl⟩
    · rw [e1]; split
      · exact Or.inl ⟨by assumption, rfl⟩
      · exact Or.inr ⟨by assumption, rfl⟩
  · obtain ⟨k, ex, hk, hne, h0, kk⟩ := frm hd
    obtain rfl : a = true := ha
    subst ex
    have fin : ∀ {o : Ending} {w' : World} {p q : Int}, o = .returned (.tuple #[.bool true, .nilIface]) ∧ PN w' b M { (c.put k p q t) with h := t } ∧ Keeps (Fn b M) u w' → p = c.bLo k t (t3 - t) → q = c.bHi k t (oH t1 t2 t c.p) → HrO u b M (c.kept k t (c.bLo k t (t3 - t)) (c.bHi k t (oH t1 t2 t c.p))) true 0 o w' := fun {o w' p q} ⟨he, hp, hw⟩ ep eq => by
      subst ep
      subst eq
      exact ⟨by rw [errc_zero]; exact he, hp, hw⟩
    cases hh : c.has k with
    | false =>
      have e1 : c.bHi k t (oH t1 t2 t c.p) = oH t1 t2 t c.p := by unfold Nd.bHi; rw [hh]; rfl
      have e2 : c.bLo k t (t3 - t) = t3 - t := by unfold Nd.bLo; rw [hh]; rfl
      refine (hear_yes h g (k : Int) y t1 t2 t3 t hb k rfl hk hne h0 (c.put k (t3 - t) (oH t1 t2 t c.p) t) rfl ?_).mono fun _ _ q => fin q e2.symm e1.symm
      intro w hw
      exact learn_new (PN.on hw h) k y t1 t2 t3 t true kk (t3 - t) (oH t1 t2 t c.p) hz rfl rfl hh (oE_zero hz).2.2.2.2
    | true =>
      have e1 : c.bHi k t (oH t1 t2 t c.p) = if c.ahi k t < oH t1 t2 t c.p then c.ahi k t else oH t1 t2 t c.p := by unfold Nd.bHi; rw [if_pos hh]
      have e2 : c.bLo k t (t3 - t) = if t3 - t < c.alo k t then c.alo k t else t3 - t := by unfold Nd.bLo; rw [if_pos hh]
      refine (hear_yes h g (k : Int) y t1 t2 t3 t hb k rfl hk hne h0 (c.put k (c.bLo k t (t3 - t)) (c.bHi k t (oH t1 t2 t c.p)) t) rfl ?_).mono fun _ _ q => fin q rfl rfl
      intro w hw
      refine learn_kept (PN.on hw h) k y t1 t2 t3 t true kk (t3 - t) (oH t1 t2 t c.p) hz rfl rfl hh (vL c k) (vH c k) (vA c k) (c.alo k t) (c.ahi k t) rfl rfl rfl (fun w' c2 => wid_any g hb hh w' c2) (c.bLo k t (t3 - t)) (c.bHi k t (oH t1 t2 t c.p)) ?_ ?_ ?_
      · rw [e2]; split
        · exact Or.inl ⟨by assumption, rfl⟩
        · exact Or.inr ⟨by assumption, rfl⟩
      · rw [e1]; split
        · exact Or.inl ⟨by assumption, rfl⟩
        · exact Or.inr ⟨by assumption, rfl⟩
      · have hc' : c.bLo k t (t3 - t) ≤ c.bHi k t (oH t1 t2 t c.p) := hc
        omega
end
end Go.Proofs.YtigcliepeapcpajGreatDoor
