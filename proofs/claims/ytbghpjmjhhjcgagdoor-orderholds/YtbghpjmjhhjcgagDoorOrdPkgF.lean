/- What package order answers: Ranks; Ranks and Many as the laws want them. -/
import Derived.Test.YtbghpjmjhhjcgagDoorOrdPkgR
import Derived.Test.YtbghpjmjhhjcgagDoorOrdPkgM
import Derived.Test.YtbghpjmjhhjcgagDoorOwnInts
import Derived.Test.YtbghpjmjhhjcgagDoorOrdDefF
namespace Go.Proofs.YtbghpjmjhhjcgagDoor
open Go.ChangeShapes Go.WideShapes Go.ChangeAt Go.RowKit Go.Joins Go.Maps
set_option linter.unusedVariables false
set_option linter.unusedSimpArgs false

theorem own_empty_at (w : World) (e : TypeId) (size base : Nat) (h : base ≤ w.heap.size) : (w.alloc (.cells #[] e)).ownsRow base e size (.slice (some ⟨w.heap.size, 0, none⟩) 0 0) 0 [] := by
  refine ⟨by simp, Or.inr ⟨w.heap.size, 0, #[], rfl, h, ?_, Nat.le_refl _, Nat.zero_le _, by simp, by simp⟩⟩
  show (w.heap.push _)[w.heap.size]? = _
  simp
theorem ranks_bad (a : Option Addr) (n cap : Nat) (f : Nat → Ev) (e : Int) (w : World) (hH : VHanded w a n f) (hcp : n ≤ cap) (hE : EvE n f e) (he : e ≠ 0) :
    Calls Tryd.prog 27 #[.slice a n cap] w fun r w' => r = .returned (.tuple #[.slice none 0 0, errc e]) ∧ Below w.heap.size w w' := by
  have cK := ocheck_any a n cap f e w hH hcp hE
  rw [errc_not he] at cK ⊢
  clear hH hE he hcp
  go_enter Tryd.func27, Tryd.ntmps27
  go_wp2_with (go_at_call 18; refine cK.mono ?_; rintro e u0 ⟨rfl, hb⟩; have HB : Hid _ := hb; clear hb)
  go_ret2
  exact ⟨rfl, HB.out⟩
set_option maxRecDepth 100000 in
set_option maxHeartbeats 4000000 in
theorem ranks_ok (ad : Option Addr) (n cap : Nat) (f : Nat → Ev) (w : World) (hH : VHanded w ad n f) (hcp : n ≤ cap) (hIw : IdW n f) (hE : EvE n f 0) :
    Calls Tryd.prog 27 #[.slice ad n cap] w fun r w' => ∃ a c, r = .returned (.tuple #[.slice a n c, .nilIface]) ∧ NHanded w' a n (rkO f n) ∧ Below w.heap.size w w' := by
  have cK := ocheck_any ad n cap f 0 w hH hcp hE
  rw [errc_zero] at cK
  obtain ⟨hn, hok⟩ := hE.zero
  have cL : Hid (∀ u, Below w.heap.size w u → Calls Tryd.prog 44 #[.slice ad n cap] u fun o w' => LrR f n u o w') := fun u hu => longest_any ad n cap f u hn hok hIw (hH.on hu)
  have HA : Hid (n = 0 ∨ ∃ b off : Nat, ad = some ⟨b, off, none⟩ ∧ Evs w b off n f) := hH.2
  have HIw : Hid (IdW n f) := hIw
  obtain ⟨i0, hi0, hz0, hz1, hz2⟩ := info_parts infoIntN
  clear hH hok hE hcp hIw
  go_enter Tryd.func27, Tryd.ntmps27
  go_wp2_with (first | (go_at_call 18; refine cK.mono ?_; rintro e u0 ⟨rfl, hb⟩; have HB : Hid (Below w.heap.size w u0) := hb; clear hb) | (go_at_call 44; refine (cL.out _ HB.out).mono ?_; rintro e u1 ⟨B, kk, D, rfl, hM, hD, hb⟩; have HM : Hid (owM u1 B kk D) := hM; have HD : Hid (MpD D f (rkO f n) n) := hD; have HB1 : Hid (Below w.heap.size w u1) := rbel_on hb HB.out; clear hM hD hb HB))
  have HBl : Hid (B < u1.heap.size) := HM.out.lt
  have HM1 : Hid (∀ ob, owM (u1.alloc ob) B kk D) := fun ob => HM.out.on (rbel_al (Below.refl _ _))
  have HB2 : Hid (∀ ob, Below w.heap.size w (u1.alloc ob)) := fun ob => rbel_al HB1.out
  have HN1 : Hid ((u1.alloc (.cells #[] 3)).ownsRow u1.heap.size 3 1 (.slice (some ⟨u1.heap.size, 0, none⟩) 0 0) 0 []) := own_empty_at u1 3 1 u1.heap.size (Nat.le_refl _)
  have HGw : Hid (w.heap.size ≤ u1.heap.size) := HB1.out.size
  clear HM HB1 cL cK
  have HSz : Hid (u1.heap.size ≤ (u1.alloc (.cells #[] 3)).heap.size) := by show u1.heap.size ≤ (u1.alloc _).heap.size; simp
  generalize u1.heap.size = G at *
  go_loopw [6, 19] (fun v vi wr => ∃ i : Nat, i ≤ n ∧ vi = .int .i64 i ∧ wr.ownsRow G 3 1 v i (icn (rkO f n) i) ∧ owM wr B kk D ∧ G ≤ wr.heap.size ∧ Below w.heap.size w wr) (fun _ i _ => n - (intOf i).toNat)
  case atStart => exact ⟨0, Nat.zero_le _, rfl, HN1.out, HM1.out _, HSz.out, HB2.out _⟩
  case round =>
    clear HN1 HM1 HB2 HSz
    obtain ⟨i, hi, rfl, hown, hM, hG, hw⟩ := hrel
    have HM : Hid (owM wr B kk D) := hM
    have HW : Hid (Below w.heap.size w wr) := hw
    have HN : Hid (wr.ownsRow G 3 1 u6 i (icn (rkO f n) i)) := hown
    by_cases hlt : i < n
    · have hl3 : (i : Int) < n := by omega
      obtain ⟨b, off, rfl, hP⟩ : ∃ b off : Nat, ad = some ⟨b, off, none⟩ ∧ Evs w b off n f := by
        rcases HA.out with e | h
        · omega
        · exact h
      obtain ⟨x0, x1, x2⟩ := (hP.on hw) i hlt
      have HKd : Hid ((Lit.int .i64 (f i).id).wf = true) := HIw.out i hlt
      have HGt : Hid (∀ c, D.atKey (.int .i64 (f i).id) (.lit (.int .i64 0)) = .lit (.int .i64 c) → c = rkO f n i) := fun c e => HD.out.get hlt e
      have HIc : Hid (icn (rkO f n) (i + 1) = icn (rkO f n) i ++ [.int .i64 (rkO f n i)]) := rfl
      have HBk : Hid (∀ j, u6.ownBlock = some j → G ≤ j) := fun j hj => (HN.out.lt j hj).1
      clear hP hw hM hown
      generalize (f i).id = xi at *
      generalize (f i).lo = xl at *
      generalize (f i).hi = xh at *
      obtain ⟨rv, hrv⟩ : ∃ rv, rv = rkO f n i := ⟨_, rfl⟩
      rw [← hrv] at HGt HIc
      clear hrv
      generalize icn (rkO f n) i = xs at *
      go_wp2_with (first | (at_lookup; refine wpList_lookup_own_int _ rfl _ _ 72 rfl 3 3 .i64 lawI Tryd.underlying72 Tryd.underlying3 (zeroI _) B kk _ rfl (HM.out.on (rbel_al (Below.refl _ _))) _ _ rfl (keyOf_int_mk Tryd.underlying3 HKd.out) ?_; intro cv hat hwc; have hcv := HGt.out cv hat; subst hcv; clear hat hwc) | (at_builtin; refine wpList_append_own _ rfl _ _ 41 rfl G 3 i0 (.int .i64 0) 1 8 Tryd.underlying41 hi0 hz0 hz1 hz2 rfl (by decide) _ _ _ rfl ((HN.out.alloc _).alloc _) ⟨wr.heap.size + 1, 0, none⟩ 1 1 [.int .i64 cv] rfl rfl (fun j u hj => by rw [Addr.add_lit]; exact (Row.made (W := wr.alloc (.cells #[.int .i64 xi, .int .i64 xl, .int .i64 xh] 46)) (vs := [.int .i64 cv]) (by simp)).c _ _ (by simpa using hj)) (fun u hu => by simp at hu; rw [hu]; rfl) (by unfold maxLen; omega) (by omega) (by simp; omega) ?_))
      intro v' w1 hown' hgrow _
      have HO1 : Hid (w1.ownsRow G 3 1 v' (i + 1) (icn (rkO f n) (i + 1))) := by
        show w1.ownsRow G 3 1 v' (i + 1) (icn (rkO f n) (i + 1))
        rw [HIc.out]
        exact hown'
      have HW1 : Hid (Below w.heap.size w w1) := (rbel_al (rbel_al HW.out)).grown hgrow (by have := HW.out.size; simp; omega) (fun j hj => Nat.le_trans HGw.out (HBk.out j hj))
      have HMw : Hid (owM w1 B kk D) := World.ownsMap.kept ((HM.out.alloc _).alloc _) hgrow (fun q => by
        have := HBk.out B q.symm
        have := HBl.out
        omega)
      have HG1 : Hid (G ≤ w1.heap.size) := by have := hgrow.size; simp at this; show G ≤ w1.heap.size; omega
      clear hown' hgrow HN HBk HIc HW HM hG
      go_wp2
      go_roundw
      case rel => exact ⟨i + 1, by omega, by go_num, HO1.out, HMw.out, HG1.out, HW1.out⟩
      case measure => simp [intOf]; omega
    · have hl3 : ¬ ((i : Int) < n) := by omega
      have e : i = n := by omega
      subst e
      obtain ⟨a, c, rfl, hH, _⟩ := own_intsN hown (by omega)
      have HH : Hid (NHanded wr a i (rkO f i)) := hH
      clear hown hw hH HN hM HM
      go_wp2
      go_ret2
      first | exact ⟨a, ⟨c, rfl⟩, HH.out, HW.out⟩ | exact ⟨a, c, rfl, HH.out, HW.out⟩
theorem odf {w : World} : OdF w where
  ranks := fun a n cap f e u hu hH hcp hIw hE => by
    by_cases z : e = 0
    · subst z
      refine (ranks_ok a n cap f u hH hcp hIw hE).mono ?_
      rintro r w' ⟨ta, tc, rfl, hN, hb⟩
      rw [errc_zero]
      exact ⟨ta, n, tc, rkO f n, rfl, hN, fun q => absurd rfl q, fun _ => ⟨rfl, fun i _ => rfl⟩, hb⟩
    · refine (ranks_bad a n cap f e u hH hcp hE z).mono ?_
      rintro r w' ⟨rfl, hb⟩
      exact ⟨none, 0, 0, fun _ => 0, rfl, ⟨by omega, Or.inl rfl⟩, fun _ => rfl, fun q => absurd q z, hb⟩
  many := fun a n cap f e u hu hH hcp hE => many_any a n cap f e u hH hcp hE
end Go.Proofs.YtbghpjmjhhjcgagDoor
