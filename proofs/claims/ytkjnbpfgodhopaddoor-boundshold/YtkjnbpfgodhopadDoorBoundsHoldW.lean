/- From what package bounds must answer to the law BoundsHold. -/
import Derived.Test.YtkjnbpfgodhopadDoorBoundsHoldB
namespace Go.Proofs.YtkjnbpfgodhopadDoor.boundsHold
open Go.ChangeShapes Go.WideShapes Go.ChangeAt Go.RowKit Go.Joins Go.Proofs.YtkjnbpfgodhopadDoor.told
set_option linter.unusedVariables false

theorem errc_two (e : Int) : (e = 0 ∧ errc e = .nilIface) ∨ (e ≠ 0 ∧ ∃ v, errc e = .iface 76 v) := by
  by_cases h : e = 0
  · subst h; exact Or.inl ⟨rfl, errc_zero⟩
  · exact Or.inr ⟨h, _, errc_not h⟩
theorem all_ways (z : Int) (a : Option Addr) (m cap : Nat) (q : Nat → Eg) (ca : Option Addr) (k cc : Nat) (c : Nat → Int) (x y t : Int) (g : Eg) (w : World) (B : Bd w) (hH : EHanded w a m q) (hK : NHanded w ca k c) (wz : In64 z) (wx : In64 x) (wy : In64 y) (wt : In64 t) (he : EnvE w) :
    Calls Tryd.prog 6 #[.int .i64 z, .slice a m cap, .slice ca k cc, .int .i64 x, .int .i64 y, .int .i64 t, .agg #[.int .i64 g.a, .int .i64 g.b, .int .i64 g.lo, .int .i64 g.hi]] w fun e w' => e = .returned (.bool true) ∧ Below w.heap.size w w' := by
  obtain ⟨lo, hi, e, hB⟩ := bet_some z q m x y
  obtain ⟨fb, fe, hF⟩ := fitA_some z q m k c
  have cX := fun u (hu : Below w.heap.size w u) => B.between z a m cap q x y lo hi e u hu (hH.on hu) wz wx wy hB
  have cF := fun u (hu : Below w.heap.size w u) => B.fits z a m cap q ca k cc c fb fe u hu (hH.on hu) (hK.on hu) wz hF
  by_cases e0 : e = 0
  · subst e0
    rw [errc_zero] at cX
    obtain ⟨n, X, Y, bk⟩ := bet_zero hB
    have hE := bk.egs
    obtain ⟨l1, h1, e1, b1⟩ := bet_some z q m x t
    obtain ⟨l2, h2, e2, b2⟩ := bet_some z q m t y
    obtain ⟨l3, h3, e3, b3⟩ := bet_some z (fun i => if i < m then q i else ⟨g.a, g.b, g.lo, g.hi⟩) (m + 1) x y
    have c1 := fun u (hu : Below w.heap.size w u) => B.between z a m cap q x t l1 h1 e1 u hu (hH.on hu) wz wx wt b1
    have c2 := fun u (hu : Below w.heap.size w u) => B.between z a m cap q t y l2 h2 e2 u hu (hH.on hu) wz wt wy b2
    have c3 := fun u a' cap' (hu : Below w.heap.size w u) (h : EHanded u a' (m + 1) (fun i => if i < m then q i else ⟨g.a, g.b, g.lo, g.hi⟩)) => B.between z a' (m + 1) cap' _ x y l3 h3 e3 u hu h wz wx wy b3
    obtain ⟨ls, hs, E3, cS, h3'⟩ : ∃ (ls hs : Int) (E3 : Value), (∀ u, Calls Tryd.prog 24 #[.agg #[.int .i64 l1, .int .i64 h1], .agg #[.int .i64 l2, .int .i64 h2]] u fun r w' => r = .returned (.tuple #[.agg #[.int .i64 ls, .int .i64 hs], E3]) ∧ Below u.heap.size u w') ∧ ((∃ v, E3 = .iface 76 v) ∨ (E3 = .nilIface ∧ ls = l1 + l2 ∧ hs = h1 + h2)) := by
      cases o : okB (l1 + l2) (h1 + h2) with
      | true => exact ⟨_, _, _, fun u => add_ok l1 h1 l2 h2 u (bet_ok b1) (bet_ok b2) o, Or.inr ⟨rfl, rfl, rfl⟩⟩
      | false => exact ⟨_, _, _, fun u => add_out l1 h1 l2 h2 u (bet_ok b1) (bet_ok b2) o, Or.inl ⟨_, rfl⟩⟩
    have hT : (∃ v, errc e1 = .iface 76 v) ∨ (errc e1 = .nilIface ∧ ∃ v, errc e2 = .iface 76 v) ∨ (errc e1 = .nilIface ∧ errc e2 = .nilIface ∧ ∃ v, E3 = .iface 76 v) ∨ (errc e1 = .nilIface ∧ errc e2 = .nilIface ∧ E3 = .nilIface ∧ ls ≤ lo ∧ hi ≤ hs) := by
      rcases errc_two e1 with ⟨z1, n1⟩ | ⟨_, n1⟩
      · rcases errc_two e2 with ⟨z2, n2⟩ | ⟨_, n2⟩
        · rcases h3' with n3 | ⟨n3, s1, s2⟩
          · exact Or.inr (Or.inr (Or.inl ⟨n1, n2, n3⟩))
          · subst z1 z2
            have := bet_tri hB b1 b2
            exact Or.inr (Or.inr (Or.inr ⟨n1, n2, n3, by omega, by omega⟩))
        · exact Or.inr (Or.inl ⟨n1, n2⟩)
      · exact Or.inl n1
    have hL : (∃ v, errc e3 = .iface 76 v) ∨ (errc e3 = .nilIface ∧ lo ≤ l3 ∧ h3 ≤ hi) := by
      rcases errc_two e3 with ⟨z3, n3⟩ | ⟨_, n3⟩
      · subst z3
        have := bet_more (fun i hi' => if_pos hi') hB b3
        exact Or.inr ⟨n3, this.1, this.2⟩
      · exact Or.inl n3
    obtain ⟨bb, hFE, hW⟩ : ∃ bb : Bool, ((errc fe = .nilIface ∧ bb = fb) ∨ ((∃ v, errc fe = .iface 76 v) ∧ bb = false)) ∧ (bb = true → (k : Int) = z ∧ lo ≤ c Y - c X ∧ c Y - c X ≤ hi ∧ -1000000000000 ≤ c X ∧ c X ≤ 1000000000000 ∧ -1000000000000 ≤ c Y ∧ c Y ≤ 1000000000000) := by
      rcases errc_two fe with ⟨z4, n4⟩ | ⟨_, n4⟩
      · refine ⟨fb, Or.inl ⟨n4, rfl⟩, fun ht => ?_⟩
        subst z4 ht
        have := fit_within bk hF
        have hz := bk.zn
        exact ⟨by omega, this.2.1, this.2.2.1, this.2.2.2.1, this.2.2.2.2.1, this.2.2.2.2.2.1, this.2.2.2.2.2.2⟩
      · exact ⟨false, Or.inr ⟨n4, rfl⟩, fun h => by cases h⟩
    have hz := bk.zn
    have hA := bk.hA
    have hB' := bk.hB
    rw [bk.aA] at cX c1 c3 ⊢
    rw [bk.bB] at cX c2 c3 ⊢
    exact good z a m cap q ca k cc c X Y t g.a g.b g.lo g.hi w B lo hi l1 h1 l2 h2 l3 h3 ls hs fb bb (errc fe) (errc e1) (errc e2) E3 (errc e3) hH hE.m40 hK (by omega) (by omega) cX cF hFE hW bk.ok c1 c2 cS hT c3 hL
  · rw [errc_not e0] at cX
    by_cases e7 : e = 7
    · subst e7
      rcases errc_two fe with ⟨z4, n4⟩ | ⟨_, v, n4⟩
      · subst z4
        cases fb with
        | true => exact absurd hF (fun h => fit_noclash hB h)
        | false => rw [n4] at cF; exact bad3 z a m cap ca k cc x y t g.a g.b g.lo g.hi w he B lo hi () cX cF
      · rw [n4] at cF; exact bad2 z a m cap ca k cc x y t g.a g.b g.lo g.hi w he B lo hi v fb cX cF
    · exact bad1 z a m cap ca k cc x y t g.a g.b g.lo g.hi w he B lo hi e e7 (errc fe) fb cX cF
end Go.Proofs.YtkjnbpfgodhopadDoor.boundsHold
