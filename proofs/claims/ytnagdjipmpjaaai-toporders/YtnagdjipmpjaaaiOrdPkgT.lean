/- What package order answers: earliest, Could, Times. -/
import Derived.Test.YtnagdjipmpjaaaiNm20
namespace Go.Proofs.Ytnagdjipmpjaaai
open Go.ChangeShapes Go.WideShapes Go.ChangeAt Go.RowKit Go.Joins
set_option linter.unusedVariables false
set_option linter.unusedSimpArgs false

theorem own_empty_atO (w : World) (e : TypeId) (size base : Nat) (h : base ≤ w.heap.size) : (w.alloc (.cells #[] e)).ownsRow base e size (.slice (some ⟨w.heap.size, 0, none⟩) 0 0) 0 [] := by
  refine ⟨by simp, Or.inr ⟨w.heap.size, 0, #[], rfl, h, ?_, Nat.le_refl _, Nat.zero_le _, by simp, by simp⟩⟩
  show (w.heap.push _)[w.heap.size]? = _
  simp
/-- The time that is gone on from. -/
def atO (f : Nat → Ev) (o : Nat → Int) : Nat → Int
  | 0 => -1000000000000
  | i + 1 => tmO f o i
theorem atO_next {f : Nat → Ev} {o : Nat → Int} {i P : Nat} (hP : P = (o i).toNat) (h : -1000000000000 ≤ (f P).lo) : max (atO f o i) (f P).lo = tmO f o i := by
  subst hP
  cases i with
  | zero => show max (-1000000000000) (f (o 0).toNat).lo = (f (o 0).toNat).lo; omega
  | succ i => rfl
/-- Times along an order, or that there are none. -/
def ErlR (f : Nat → Ev) (o : Nat → Int) (m : Nat) (w : World) (e : Ending) (w' : World) : Prop := (∃ a c, e = .returned (.tuple #[.slice a m c, .bool true]) ∧ CouldP f o m ∧ NHanded w' a m (tmO f o) ∧ Below w.heap.size w w') ∨ (e = .returned (.tuple #[.slice none 0 0, .bool false]) ∧ ¬ CouldP f o m ∧ Below w.heap.size w w')
set_option maxRecDepth 100000 in
set_option maxHeartbeats 4000000 in
theorem earliest_any (ad : Option Addr) (n cap : Nat) (f : Nat → Ev) (oa : Option Addr) (oc : Nat) (o : Nat → Int) (w : World) (hn : n ≤ 12) (hok : ∀ j, j < n → okAt f j) (hH : VHanded w ad n f) (hO : NHanded w oa n o) (hE : EachP n o n) :
    Calls Try.prog 27 #[.slice ad n cap, .slice oa n oc] w fun e w' => ErlR f o n w e w' := by
  have HP : Hid (n = 0 ∨ ∃ b off : Nat, ad = some ⟨b, off, none⟩ ∧ Evs w b off n f) := hH.2
  have HQ : Hid (n = 0 ∨ ∃ b off : Nat, oa = some ⟨b, off, none⟩ ∧ Nrd w b off n o) := hO.2
  have HE : Hid (∀ i, i < n → 0 ≤ o i ∧ o i < n ∧ ∀ k, k < i → o k ≠ o i) := hE.2
  have HOk : Hid (∀ j, j < n → okAt f j) := hok
  obtain ⟨i0, hi0, hz0, hz1, hz2⟩ := info_parts infoIntN
  have HN1 : Hid ((w.alloc (.cells #[] 3)).ownsRow w.heap.size 3 1 (.slice (some ⟨w.heap.size, 0, none⟩) 0 0) 0 []) := own_empty_atO w 3 1 w.heap.size (Nat.le_refl _)
  have HB1 : Hid (Below w.heap.size w (w.alloc (.cells #[] 3))) := rbel_al (Below.refl _ _)
  clear hH hO hE hok
  go_enter Try.func27, Try.ntmps27
  go_wp2
  go_loopw [6, 7, 14] (fun v va vi wr => ∃ (i : Nat) (x : Int), i ≤ n ∧ vi = .int .i64 i ∧ va = .int .i64 x ∧ x = atO f o i ∧ wr.ownsRow w.heap.size 3 1 v i (icn (tmO f o) i) ∧ (∀ j, j < i → tmO f o j ≤ (f (o j).toNat).hi) ∧ Below w.heap.size w wr) (fun _ _ i _ => n - (intOf i).toNat)
  case atStart => exact ⟨0, -1000000000000, Nat.zero_le _, rfl, rfl, rfl, HN1.out, fun j hj => by omega, HB1.out⟩
  case round =>
    clear HN1 HB1
    obtain ⟨i, x, hi, rfl, rfl, hx, hown, hle, hw⟩ := hrel
    have zz := hw.size
    have HW : Hid (Below w.heap.size w wr) := hw
    have HL : Hid (∀ j, j < i → tmO f o j ≤ (f (o j).toNat).hi) := hle
    have HN : Hid (wr.ownsRow w.heap.size 3 1 u6 i (icn (tmO f o) i)) := hown
    have HX : Hid (x = atO f o i) := hx
    clear hle hx
    by_cases hlt : i < n
    · have hl3 : (i : Int) < n := by omega
      obtain ⟨b, off, rfl, hP⟩ : ∃ b off : Nat, ad = some ⟨b, off, none⟩ ∧ Evs w b off n f := by
        rcases HP.out with e | h
        · omega
        · exact h
      obtain ⟨ob, oo, rfl, hQ⟩ : ∃ b off : Nat, oa = some ⟨b, off, none⟩ ∧ Nrd w b off n o := by
        rcases HQ.out with e | h
        · omega
        · exact h
      obtain ⟨q1, q2, _⟩ := HE.out i hlt
      obtain ⟨P, hPe⟩ : ∃ P : Nat, P = (o i).toNat := ⟨_, rfl⟩
      have eP : o i = (P : Int) := by omega
      have y0 := (hQ.on hw) i hlt
      rw [eP] at y0
      have pl : (P : Int) < n := by omega
      have pl' : P < n := by omega
      obtain ⟨_, x1, x2⟩ := (hP.on hw) P pl'
      have zb : b < wr.heap.size := World.block_lt_of_cell? _ _ x1
      have HT : Hid (max x (f P).lo = tmO f o i) := by show max x (f P).lo = tmO f o i; rw [HX.out]; exact atO_next hPe (okB_t (HOk.out P pl').1).2.1
      have HPe : Hid (P = (o i).toNat) := hPe
      have HSp : Hid ((x < (f P).lo ∧ (f P).lo = tmO f o i) ∨ ((f P).lo ≤ x ∧ x = tmO f o i)) := by
        have := HT.out
        by_cases c : x < (f P).lo
        · exact Or.inl ⟨c, by omega⟩
        · exact Or.inr ⟨by omega, by omega⟩
      clear hw hP hQ HP HQ hown eP hPe q1 q2 HE HT HX
      obtain ⟨ph, hph⟩ : ∃ ph, ph = (f P).hi := ⟨_, rfl⟩
      obtain ⟨plo, hplo⟩ : ∃ plo, plo = (f P).lo := ⟨_, rfl⟩
      have HPh : Hid (ph = (f P).hi) := hph
      rw [← hph] at x2
      rw [← hplo] at x1 HSp
      clear hph hplo
      rcases HSp.out with ⟨sA, tE⟩ | ⟨sA, tE⟩
      · have HTv : Hid (plo = tmO f o i) := tE
        clear tE HSp
        by_cases le : plo ≤ ph
        · have lt' : ¬ (ph < plo) := by omega
          have lt2 : decide (ph < plo) = false := decide_eq_false lt'
          have HL1 : Hid (∀ j, j < i + 1 → tmO f o j ≤ (f (o j).toNat).hi) := fun j hj => by
            by_cases q : j = i
            · rw [q, ← HTv.out, ← HPe.out, ← HPh.out]; exact le
            · exact HL.out j (by omega)
          have HIc : Hid (icn (tmO f o) (i + 1) = icn (tmO f o) i ++ [.int .i64 plo]) := by show icn (tmO f o) (i + 1) = _; rw [HTv.out]; rfl
          have HB : Hid (∀ j, u6.ownBlock = some j → w.heap.size ≤ j) := fun j hj => (HN.out.lt j hj).1
          have HN' : Hid (wr.ownsRow w.heap.size 3 1 u6 i (icn (tmO f o) i)) := HN.out
          clear HL HPe HPh le HN
          generalize icn (tmO f o) i = xs at *
          go_wp2_with (at_builtin; go_loud (refine wpList_append_own _ rfl _ _ 22 rfl w.heap.size 3 i0 (.int .i64 0) 1 8 Try.underlying22 hi0 hz0 hz1 hz2 rfl (by decide) _ _ _ rfl ((HN'.out.alloc _).alloc _) ⟨wr.heap.size + 1, 0, none⟩ 1 1 [.int .i64 plo] rfl rfl (fun j u hj => by rw [Addr.add_lit]; exact (Row.made (W := wr.alloc (.cells #[.int .i64 plo, .int .i64 ph] 32)) (vs := [.int .i64 plo]) (by simp)).c _ _ (by simpa using hj)) (fun u hu => by simp at hu; rw [hu]; rfl) (by unfold maxLen; omega) (by omega) (by simp; omega) ?_))
          intro v' w1 hown' hgrow _
          have HO1 : Hid (w1.ownsRow w.heap.size 3 1 v' (i + 1) (icn (tmO f o) (i + 1))) := by
            show w1.ownsRow w.heap.size 3 1 v' (i + 1) (icn (tmO f o) (i + 1))
            rw [HIc.out]
            exact hown'
          have HW1 : Hid (Below w.heap.size w w1) := (rbel_al (rbel_al HW.out)).grown hgrow (by simp; omega) HB.out
          clear hown' hgrow HN' HB HIc HW
          go_wp2
          go_roundw
          case rel => exact ⟨i + 1, plo, by omega, by go_num, rfl, HTv.out, HO1.out, HL1.out, HW1.out⟩
          case measure => simp [intOf]; omega
        · have lt' : ph < plo := by omega
          have HR : Hid (ErlR f o n w (.returned (.tuple #[.slice none 0 0, .bool false])) (wr.alloc (.cells #[.int .i64 plo, .int .i64 ph] 32))) := Or.inr ⟨rfl, fun c => le (by have := c i hlt; rw [← HTv.out, ← HPe.out, ← HPh.out] at this; exact this), rbel_al HW.out⟩
          clear HL HPe HPh le HN HW HTv
          go_wp2
          exact bodyPost_ret (v := _) (by simp [results, Try.results27, go_sem, *]) rfl HR.out
      · have HTv : Hid (x = tmO f o i) := tE
        clear tE HSp
        by_cases le : x ≤ ph
        · have lt' : ¬ (ph < x) := by omega
          have lt2 : decide (ph < x) = false := decide_eq_false lt'
          have HL1 : Hid (∀ j, j < i + 1 → tmO f o j ≤ (f (o j).toNat).hi) := fun j hj => by
            by_cases q : j = i
            · rw [q, ← HTv.out, ← HPe.out, ← HPh.out]; exact le
            · exact HL.out j (by omega)
          have HIc : Hid (icn (tmO f o) (i + 1) = icn (tmO f o) i ++ [.int .i64 x]) := by show icn (tmO f o) (i + 1) = _; rw [HTv.out]; rfl
          have HB : Hid (∀ j, u6.ownBlock = some j → w.heap.size ≤ j) := fun j hj => (HN.out.lt j hj).1
          have HN' : Hid (wr.ownsRow w.heap.size 3 1 u6 i (icn (tmO f o) i)) := HN.out
          clear HL HPe HPh le HN
          generalize icn (tmO f o) i = xs at *
          go_wp2_with (at_builtin; go_loud (refine wpList_append_own _ rfl _ _ 22 rfl w.heap.size 3 i0 (.int .i64 0) 1 8 Try.underlying22 hi0 hz0 hz1 hz2 rfl (by decide) _ _ _ rfl ((HN'.out.alloc _).alloc _) ⟨wr.heap.size + 1, 0, none⟩ 1 1 [.int .i64 x] rfl rfl (fun j u hj => by rw [Addr.add_lit]; exact (Row.made (W := wr.alloc (.cells #[.int .i64 plo, .int .i64 ph] 32)) (vs := [.int .i64 x]) (by simp)).c _ _ (by simpa using hj)) (fun u hu => by simp at hu; rw [hu]; rfl) (by unfold maxLen; omega) (by omega) (by simp; omega) ?_))
          intro v' w1 hown' hgrow _
          have HO1 : Hid (w1.ownsRow w.heap.size 3 1 v' (i + 1) (icn (tmO f o) (i + 1))) := by
            show w1.ownsRow w.heap.size 3 1 v' (i + 1) (icn (tmO f o) (i + 1))
            rw [HIc.out]
            exact hown'
          have HW1 : Hid (Below w.heap.size w w1) := (rbel_al (rbel_al HW.out)).grown hgrow (by simp; omega) HB.out
          clear hown' hgrow HN' HB HIc HW
          go_wp2
          go_roundw
          case rel => exact ⟨i + 1, x, by omega, by go_num, rfl, HTv.out, HO1.out, HL1.out, HW1.out⟩
          case measure => simp [intOf]; omega
        · have lt' : ph < x := by omega
          have HR : Hid (ErlR f o n w (.returned (.tuple #[.slice none 0 0, .bool false])) (wr.alloc (.cells #[.int .i64 plo, .int .i64 ph] 32))) := Or.inr ⟨rfl, fun c => le (by have := c i hlt; rw [← HTv.out, ← HPe.out, ← HPh.out] at this; exact this), rbel_al HW.out⟩
          clear HL HPe HPh le HN HW HTv
          go_wp2
          exact bodyPost_ret (v := _) (by simp [results, Try.results27, go_sem, *]) rfl HR.out
    · have hl3 : ¬ ((i : Int) < n) := by omega
      have e : i = n := by omega
      subst e
      obtain ⟨a, cap', rfl, hH, _⟩ := own_intsN hown (by omega)
      have HR : Hid (ErlR f o i w (.returned (.tuple #[.slice a i cap', .bool true])) wr) := Or.inl ⟨a, cap', rfl, HL.out, hH, HW.out⟩
      clear hown hw hH HP HQ HE HL HN HW HX
      go_wp2
      exact bodyPost_ret (v := _) (by simp [results, Try.results27, go_sem, *]) rfl HR.out
section
variable (a : Option Addr) (n cap : Nat) (f : Nat → Ev) (oa : Option Addr) (m oc : Nat) (o : Nat → Int) (e : Int) (w : World)
theorem could_bad (hH : VHanded w a n f) (hcp : n ≤ cap) (hO : NHanded w oa m o) (hoc : m ≤ oc) (h : OrE n f o m e) (he : e ≠ 0) :
    Calls Try.prog 12 #[.slice a n cap, .slice oa m oc] w fun r w' => r = .returned (.tuple #[.bool false, errc e]) ∧ Below w.heap.size w w' := by
  have cC := checkOrder_any a n cap f oa m oc o e w hH hcp hO hoc h
  rw [errc_not he] at cC ⊢
  clear hH hcp hO hoc h he
  go_enter Try.func12, Try.ntmps12
  go_wp2_with (go_at_call 26; refine cC.mono ?_; rintro e u0 ⟨rfl, hb⟩; have HB : Hid _ := hb; clear hb)
  go_ret2
  exact ⟨rfl, HB.out⟩
theorem times_bad (hH : VHanded w a n f) (hcp : n ≤ cap) (hO : NHanded w oa m o) (hoc : m ≤ oc) (h : OrE n f o m e) (he : e ≠ 0) :
    Calls Try.prog 13 #[.slice a n cap, .slice oa m oc] w fun r w' => r = .returned (.tuple #[.slice none 0 0, errc e]) ∧ Below w.heap.size w w' := by
  have cC := checkOrder_any a n cap f oa m oc o e w hH hcp hO hoc h
  rw [errc_not he] at cC ⊢
  clear hH hcp hO hoc h he
  go_enter Try.func13, Try.ntmps13
  go_wp2_with (go_at_call 26; refine cC.mono ?_; rintro e u0 ⟨rfl, hb⟩; have HB : Hid _ := hb; clear hb)
  go_ret2
  exact ⟨rfl, HB.out⟩
theorem OrE.zero {n m : Nat} {f : Nat → Ev} {o : Nat → Int} (h : OrE n f o m 0) : EvE n f 0 ∧ EachP n o m := by
  rcases h with ⟨_, b⟩ | ⟨_, _, b⟩ | ⟨a, b, _⟩
  · exact absurd rfl b
  · cases b
  · exact ⟨a, b⟩
theorem earliest_at (hH : VHanded w a n f) (hO : NHanded w oa m o) (h : OrE n f o m 0) :
    Calls Try.prog 27 #[.slice a n cap, .slice oa m oc] w fun e w' => ErlR f o m w e w' := by
  obtain ⟨hE, hP⟩ := OrE.zero h
  obtain ⟨hn, hok⟩ := hE.zero
  obtain ⟨rfl, hP'⟩ := hP
  exact earliest_any a m cap f oa oc o w hn hok hH hO ⟨rfl, hP'⟩
set_option maxHeartbeats 1000000 in
theorem could_ok (b : Bool) (hH : VHanded w a n f) (hcp : n ≤ cap) (hO : NHanded w oa m o) (hoc : m ≤ oc) (h : OrE n f o m 0) (hb : b = true ↔ CouldP f o m) :
    Calls Try.prog 12 #[.slice a n cap, .slice oa m oc] w fun r w' => r = .returned (.tuple #[.bool b, .nilIface]) ∧ Below w.heap.size w w' := by
  have cC := checkOrder_any a n cap f oa m oc o 0 w hH hcp hO hoc h
  rw [errc_zero] at cC
  have cE : Hid (∀ u, Below w.heap.size w u → Calls Try.prog 27 #[.slice a n cap, .slice oa m oc] u fun e w' => ∃ x y z, e = .returned (.tuple #[.slice x y z, .bool b]) ∧ Below u.heap.size u w') := fun u hu => (earliest_at a n cap f oa m oc o u (hH.on hu) (hO.on hu) h).mono (by
    rintro e w' (⟨x, c, rfl, hc, _, hb'⟩ | ⟨rfl, hc, hb'⟩)
    · rw [hb.2 hc]
      exact ⟨x, m, c, rfl, hb'⟩
    · rw [show b = false from Bool.eq_false_iff.2 (fun q => hc (hb.1 q))]
      exact ⟨none, 0, 0, rfl, hb'⟩)
  clear hH hcp hO hoc h hb
  go_enter Try.func12, Try.ntmps12
  go_wp2_with (first | (go_at_call 26; refine cC.mono ?_; rintro e u0 ⟨rfl, hb⟩; have HB : Hid (Below w.heap.size w u0) := hb; clear hb) | (go_at_call 27; refine (cE.out _ HB.out).mono ?_; rintro e u1 ⟨x, y, z, rfl, hb⟩; have HB1 : Hid (Below w.heap.size w u1) := rbel_on hb HB.out; clear hb))
  go_ret2
  exact ⟨rfl, HB1.out⟩
set_option maxHeartbeats 1000000 in
theorem times_no (hH : VHanded w a n f) (hcp : n ≤ cap) (hO : NHanded w oa m o) (hoc : m ≤ oc) (h : OrE n f o m 0) (hc : ¬ CouldP f o m) :
    Calls Try.prog 13 #[.slice a n cap, .slice oa m oc] w fun r w' => r = .returned (.tuple #[.slice none 0 0, errc 5]) ∧ Below w.heap.size w w' := by
  have cC := checkOrder_any a n cap f oa m oc o 0 w hH hcp hO hoc h
  rw [errc_zero] at cC
  rw [errc_not (by decide)]
  have cE : Hid (∀ u, Below w.heap.size w u → Calls Try.prog 27 #[.slice a n cap, .slice oa m oc] u fun e w' => e = .returned (.tuple #[.slice none 0 0, .bool false]) ∧ Below u.heap.size u w') := fun u hu => (earliest_at a n cap f oa m oc o u (hH.on hu) (hO.on hu) h).mono (by
    rintro e w' (⟨x, c, rfl, hc', _, hb'⟩ | ⟨rfl, _, hb'⟩)
    · exact absurd hc' hc
    · exact ⟨rfl, hb'⟩)
  clear hH hcp hO hoc h hc
  go_enter Try.func13, Try.ntmps13
  go_wp2_with (first | (go_at_call 26; refine cC.mono ?_; rintro e u0 ⟨rfl, hb⟩; have HB : Hid (Below w.heap.size w u0) := hb; clear hb) | (go_at_call 27; refine (cE.out _ HB.out).mono ?_; rintro e u1 ⟨rfl, hb⟩; have HB1 : Hid (Below w.heap.size w u1) := rbel_on hb HB.out; clear hb))
  go_ret2
  exact ⟨rfl, HB1.out⟩
set_option maxHeartbeats 1000000 in
theorem times_ok (hH : VHanded w a n f) (hcp : n ≤ cap) (hO : NHanded w oa m o) (hoc : m ≤ oc) (h : OrE n f o m 0) (hc : CouldP f o m) :
    Calls Try.prog 13 #[.slice a n cap, .slice oa m oc] w fun r w' => ∃ x z, r = .returned (.tuple #[.slice x m z, .nilIface]) ∧ NHanded w' x m (tmO f o) ∧ Below w.heap.size w w' := by
  have cC := checkOrder_any a n cap f oa m oc o 0 w hH hcp hO hoc h
  rw [errc_zero] at cC
  have cE : Hid (∀ u, Below w.heap.size w u → Calls Try.prog 27 #[.slice a n cap, .slice oa m oc] u fun e w' => ∃ x z, e = .returned (.tuple #[.slice x m z, .bool true]) ∧ NHanded w' x m (tmO f o) ∧ Below u.heap.size u w') := fun u hu => (earliest_at a n cap f oa m oc o u (hH.on hu) (hO.on hu) h).mono (by
    rintro e w' (⟨x, c, rfl, _, hN, hb'⟩ | ⟨rfl, hc', hb'⟩)
    · exact ⟨x, c, rfl, hN, hb'⟩
    · exact absurd hc hc')
  clear hH hcp hO hoc h hc
  go_enter Try.func13, Try.ntmps13
  go_wp2_with (first | (go_at_call 26; refine cC.mono ?_; rintro e u0 ⟨rfl, hb⟩; have HB : Hid (Below w.heap.size w u0) := hb; clear hb) | (go_at_call 27; refine (cE.out _ HB.out).mono ?_; rintro e u1 ⟨x, z, rfl, hN, hb⟩; have HN : Hid (NHanded u1 x m (tmO f o)) := hN; have HB1 : Hid (Below w.heap.size w u1) := rbel_on hb HB.out; clear hb hN))
  go_ret2
  first | exact ⟨x, ⟨z, rfl⟩, HN.out, HB1.out⟩ | exact ⟨x, z, rfl, HN.out, HB1.out⟩
end
end Go.Proofs.Ytnagdjipmpjaaai
