/- Package net: New and Do, as the laws want them. Package net: Edges. Package net: Offset. Package net: New, Do and Offset, as the laws want them. Package net: Wide. Package net, as NetAll wants it. -/
import Derived.Test.YtadkgnbagmnkkakGreatDoorNm17
import Derived.Test.YtadkgnbagmnkkakGreatDoorNm06
import Derived.Test.YtadkgnbagmnkkakGreatDoorNm05
import Derived.Lib.SmallJoins
import Derived.BigRegion
import Derived.Test.YtadkgnbagmnkkakGreatDoorNm18
import Derived.Deep.QuietTactic
import Derived.BigQuiet
namespace Go.Proofs.YtadkgnbagmnkkakGreatDoor
open Go.ChangeShapes Go.WideShapes Go.ChangeAt Go.RowKit Go.Joins
set_option linter.unusedVariables false
set_option linter.unusedSimpArgs false

def ntt (w : World) : Nt w where
 R := Nkn
 on := Nkn.on
 lt := Nkn.lt
 new := fun sa n sc z ra m rc r ppm e u _ h1 h2 _ hE => by
  by_cases he : e = 0
  ·subst he
   refine (nnet_ok sa n sc z ra m rc r ppm u h1 h2 hE).mono fun _ _ ⟨b, L, q1, q2, q3, q4⟩ => ⟨_, by rw [errc_zero]; exact q1, q3, fun _ => ⟨b, L.F b n, rfl, ⟨L, q2, rfl⟩, q4⟩⟩
  ·refine (nnet_bad sa n sc z ra m rc r ppm e u h1 h2 hE he).mono fun _ _ ⟨q1, q2⟩ => ⟨_, by rw [errc_not he]; exact q1, q2, fun q => absurd q he⟩
 act := fun b F N N' wh x y e u hR hT _ _ _ hD => by
  obtain ⟨L, hP, rfl⟩ := hR
  have sm := (hD.t hT).2.1
  refine (nact_any hP hT hD).mono fun _ _ ⟨q1, L', q2, q3⟩ => ⟨L'.F b N'.W.n, q1, ⟨L', q2, rfl⟩, q3.1, ?_⟩
  rw [sm]
  exact q3.2
set_option maxRecDepth 100000 in
set_option maxHeartbeats 8000000 in
theorem nedges_net {u : World} {mb : Nat} {L : Nly} {N : Nn} (hR : NN u mb L N) (hT : N.T) :
  Calls Tryz.prog 123 #[.pointer (some ⟨mb, 0, none⟩)] u fun o w' => ∃ (ea : Option Addr) (ec : Nat), o = .returned (.tuple #[.slice ea (eoN N).length ec, .nilIface]) ∧ EHanded w' ea (eoN N).length (egf (eoN N)) ∧ Below u.heap.size u w' ∧ (eoN N).length ≤ ec ∧ ec ≤ 9223372036854775807 := by
 obtain ⟨i0, hi0, hz0, hz1, hz2⟩ := info_parts infoEdgeN
 have HR : Hid (NN u mb L N) := hR
 have HT : Hid N.T := hT
 have h6 := hT.g.i.n6
 have c1 := hR.r.c 1 _ rfl
 have l0 := hR.r.lt
 have hc3 : N.W.n ≤ L.nc := hR.c
 clear hR hT
 go_enter Tryz.func123, Tryz.ntmps123
 go_wp2
 clear c1
 go_loopw [4, 16, 5, 6, 7, 8, 9] (fun vo vi _ _ _ _ _ wr => ∃ k : Nat, k ≤ N.W.n ∧ vi = .int .i64 k ∧ wr.ownsRow u.heap.size 212 4 vo (eoK N k).length (ecl (eoK N k)) ∧ Below u.heap.size u wr) (fun _ vi _ _ _ _ _ _ => N.W.n - (intOf vi).toNat)
 case atStart => exact ⟨0, Nat.zero_le _, rfl, own_empty_e u _ _ _ (Nat.le_refl _), rbel_al (Below.refl _ _)⟩
 case round =>
  obtain ⟨k, hk, rfl, hown, hw⟩ := hrel
  have HW : Hid (Below u.heap.size u wr) := hw
  have G : Hid (NN wr mb L N) := HR.out.on hw
  have m0 := G.out.r.c 0 _ rfl
  have zM := G.out.r.lt
  have zw := hw.size
  by_cases hlt : k < N.W.n
  ·have hl : (k : Int) < N.W.n := by omega
   have lk := G.out.p k hlt
   have zL := G.out.nl
   have le1 := eoK_len HT.out (Nat.le_of_lt hlt)
   have le2 := eoK_len HT.out (k := k + 1) hlt
   have kn := HT.out.kn k hlt
   have cR : Calls Tryz.prog 121 #[.pointer (some ⟨L.wb, 0, none⟩), .int .i64 (k : Int)] wr fun o w' => o = .returned (.tuple #[.int .i64 (N.W.rd k), .nilIface]) ∧ Below wr.heap.size wr w' := by
    have := read_yes G.out.w HT.out.g.i (i := (k : Int)) ⟨by omega, by omega⟩
    rwa [errc_zero, Int.toNat_natCast] at this
   have HE : Hid (eoK N (k + 1) = eoK N k ++ (N.nd k).eo (N.W.rd k)) := eoK_more N k
   have cE : Hid (∀ W, Below wr.heap.size wr W → Calls Tryz.prog 152 #[.pointer (some ⟨L.b k, 0, none⟩), .int .i64 (N.W.rd k)] W fun o w' => (∃ ea ec, o = .returned (.tuple #[.slice ea ((N.nd k).eo (N.W.rd k)).length ec, .nilIface]) ∧ EHanded w' ea ((N.nd k).eo (N.W.rd k)).length (egf ((N.nd k).eo (N.W.rd k))) ∧ (ea = none → ec = 0)) ∧ Below W.heap.size W w') := fun W hW => (nedges_go ((G.out.on hW).d k hlt) (kn.i HT.out.g hlt) (N.W.rd k) (kn.sp HT.out.g hlt)).mono fun _ _ ⟨⟨ea, ec, e, h1, h2, _⟩, h3⟩ => ⟨⟨ea, ec, e, h1, h2⟩, h3⟩
   have HO : Hid (wr.ownsRow u.heap.size 212 4 u4 (eoK N k).length (ecl (eoK N k))) := hown
   have HL : Hid (∀ g, u4.ownBlock = some g → u.heap.size ≤ g) := fun g hg => (hown.lt g hg).1
   rw [HE.out, List.length_append] at le2
   clear hown hw kn
   generalize (N.nd k).eo (N.W.rd k) = EL at *
   generalize eoK N k = EK at *
   generalize N.W.rd k = rv at *
   go_upto_region 11 with (first
    | (go_at_call 121; refine cR.mono ?_; rintro o x1 ⟨rfl, hb⟩; have B1 : Hid (Below wr.heap.size wr x1) := hb; clear hb)
    | (go_at_call 152; refine (cE.out _ B1.out).mono ?_; rintro o x2 ⟨⟨ea, ec, rfl, hE, hz⟩, hb⟩; have B2 : Hid (Below wr.heap.size wr x2) := rbel_on hb B1.out; have HH : Hid (EHanded x2 ea EL.length (egf EL)) := hE; have HZ : Hid (ea = none → ec = 0) := hz; clear hb hE hz))
   have O2 : Hid (x2.ownsRow u.heap.size 212 4 u4 EK.length (ecl EK)) := own_onN B2.out HO.out
   have W2 : Hid (Below u.heap.size u x2) := rbel_on B2.out HW.out
   have z2 := W2.out.size
   clear cR cE m0 lk B1 HO HW G zM zL
   cases ea with
   | none =>
    have ec0 : ec = 0 := HZ.out rfl
    subst ec0
    have el0 : EL = [] := by
     rcases HH.out.2 with e | ⟨b, off, e, _⟩
     ·exact List.eq_nil_of_length_eq_zero e
     ·cases e
    subst el0
    have R2 : Hid (x2.ownsRow u.heap.size 212 4 u4 (eoK N (k + 1)).length (ecl (eoK N (k + 1)))) := by
     show x2.ownsRow u.heap.size 212 4 u4 (eoK N (k + 1)).length (ecl (eoK N (k + 1)))
     rw [HE.out, List.append_nil]
     exact O2.out
    clear HE HZ HH
    go_wp2_with (at_builtin; refine wpList_append_own_none rfl _ _ 120 rfl u.heap.size 212 i0 4 Tryz.underlying120 hi0 u4 _ _ rfl O2.out rfl ?_)
    go_wp2
    go_roundw
    case rel => exact ⟨k + 1, by omega, by go_num, R2.out, W2.out⟩
    case measure => simp [intOf]; omega
   | some ad =>
    have HC : Hid (∀ j x, (ecl EL)[j]? = some x → x2.cell? (ad.add j) = some x) := by
     rcases HH.out.2 with e | ⟨b, off, e, hs⟩
     ·have e' := List.eq_nil_of_length_eq_zero e
      subst e'
      intro j x hx
      cases hx
     ·obtain rfl := Option.some.inj e
      exact esp_cells hs
    have HLn : Hid ((ecl EL).length = EL.length * 4) := ecl_len EL
    have HOn : Hid (∀ u ∈ ecl EL, u.oneCell' = true) := ecl_one EL
    clear HZ HH
    go_wp2_with (at_builtin; refine wpList_append_own_at _ rfl _ _ 120 rfl u.heap.size 212 i0 _ 4 32 Tryz.underlying120 hi0 hz0 hz1 hz2 rfl (by decide) u4 _ _ rfl O2.out ad _ _ (ecl EL) rfl HLn.out HC.out HOn.out (by unfold maxLen; omega) (by omega) (by omega) ?_)
    intro v' x3 own' hgrow hnn hat
    have R3 : Hid (x3.ownsRow u.heap.size 212 4 v' (eoK N (k + 1)).length (ecl (eoK N (k + 1)))) := by
     show x3.ownsRow u.heap.size 212 4 v' (eoK N (k + 1)).length (ecl (eoK N (k + 1)))
     rw [HE.out, List.length_append, ecl_app]
     exact own'
    have W3 : Hid (Below u.heap.size u x3) := W2.out.grown hgrow (by omega) HL.out
    clear own' hgrow hnn hat HE HC HLn HOn
    go_wp2
    go_roundw
    case rel => exact ⟨k + 1, by omega, by go_num, R3.out, W3.out⟩
    case measure => simp [intOf]; omega
  ·have hl : ¬ ((k : Int) < N.W.n) := by omega
   obtain rfl : k = N.W.n := by omega
   rw [eoK_all] at hown
   have le := eoN_len HT.out
   obtain ⟨a, cap, rfl, hH, hZ⟩ := own_eh hown rfl (by omega)
   have HC : Hid ((eoN N).length ≤ cap ∧ cap ≤ 9223372036854775807) := own_cap hown rfl
   have HH : Hid (EHanded wr a (eoN N).length (egf (eoN N))) := hH
   clear hown hw hH hZ m0 zM
   go_wp2
   go_ret2
   first
    | exact ⟨a, cap, rfl, HH.out, HW.out, HC.out.1, HC.out.2⟩
    | exact ⟨a, ⟨cap, rfl⟩, HH.out, HW.out, HC.out.1, HC.out.2⟩
section
variable {u : World} {mb : Nat} {L : Nly} {N : Nn}
set_option maxRecDepth 100000 in
set_option maxHeartbeats 4000000 in
theorem noff_no (h : NN u mb L N) (g : N.W.I) (x y : Int) (X Y : Bool) (hX : Hid (X = decide (0 ≤ x ∧ x < (N.W.n : Int)))) (hY : Hid (Y = decide (0 ≤ y ∧ y < (N.W.n : Int)))) (hn : X = false ∨ (X = true ∧ Y = false)) :
  Calls Tryz.prog 92 #[.pointer (some ⟨mb, 0, none⟩), .int .i64 x, .int .i64 y] u fun o w' => o = .returned (.tuple #[sp 0 0, .iface 86 (.int .i64 1)]) ∧ Below u.heap.size u w' := by
 have cX : Hid (∀ W, Below u.heap.size u W → Calls Tryz.prog 122 #[.pointer (some ⟨mb, 0, none⟩), .int .i64 x] W fun o w' => o = .returned (.bool X) ∧ w' = W) := fun W hW => nisn (h.on hW) g x X hX.out
 have cY : Hid (∀ W, Below u.heap.size u W → Calls Tryz.prog 122 #[.pointer (some ⟨mb, 0, none⟩), .int .i64 y] W fun o w' => o = .returned (.bool Y) ∧ w' = W) := fun W hW => nisn (h.on hW) g y Y hY.out
 clear h g hX hY
 have cnt : Mark 0 := .mk _
 rcases hn with rfl | ⟨rfl, rfl⟩
 ·go_enter Tryz.func92, Tryz.ntmps92
  go_wp2_with (go_at_call 122; refine (cX.out _ (rbel_al (Below.refl _ _))).mono ?_; rintro o u1 ⟨rfl, hu⟩; rw [hu]; clear hu)
  exact bodyPost_ret (v := .tuple #[sp 0 0, .iface 86 (.int .i64 1)]) (by simp [results, Tryz.results92, go_sem, *]) rfl ⟨rfl, by first | exact rbel_al (Below.refl _ _) | exact rbel_put (Nat.le_refl _) (rbel_put (Nat.le_refl _) (rbel_al (Below.refl _ _)))⟩
 ·go_enter Tryz.func92, Tryz.ntmps92
  go_wp2_with (first
   | (go_at_call 122; have cq : Mark 0 := cnt; refine (cX.out _ (rbel_al (Below.refl _ _))).mono ?_; clear cq cnt; have cnt : Mark 1 := .mk _; rintro o u1 ⟨rfl, hu⟩; rw [hu]; clear hu)
   | (go_at_call 122; have cq : Mark 1 := cnt; refine (cY.out _ (rbel_al (Below.refl _ _))).mono ?_; clear cq cnt; rintro o u1 ⟨rfl, hu⟩; rw [hu]; clear hu))
  exact bodyPost_ret (v := .tuple #[sp 0 0, .iface 86 (.int .i64 1)]) (by simp [results, Tryz.results92, go_sem, *]) rfl ⟨rfl, by first | exact rbel_al (Below.refl _ _) | exact rbel_put (Nat.le_refl _) (rbel_put (Nat.le_refl _) (rbel_al (Below.refl _ _)))⟩
set_option maxRecDepth 100000 in
set_option maxHeartbeats 4000000 in
theorem noff_go (h : NN u mb L N) (g : N.T) (x y lo hi e : Int) (hx : 0 ≤ x ∧ x < (N.W.n : Int)) (hy : 0 ≤ y ∧ y < (N.W.n : Int)) (hB : BetA N.W.n (egf (eoN N)) (eoN N).length x y lo hi e) :
  Calls Tryz.prog 92 #[.pointer (some ⟨mb, 0, none⟩), .int .i64 x, .int .i64 y] u fun o w' => o = .returned (.tuple #[sp lo hi, errc e]) ∧ Below u.heap.size u w' := by
 have cX : Hid (∀ W, Below u.heap.size u W → Calls Tryz.prog 122 #[.pointer (some ⟨mb, 0, none⟩), .int .i64 x] W fun o w' => o = .returned (.bool true) ∧ w' = W) := fun W hW => nisn (h.on hW) g.g.i x true (decide_eq_true hx).symm
 have cY : Hid (∀ W, Below u.heap.size u W → Calls Tryz.prog 122 #[.pointer (some ⟨mb, 0, none⟩), .int .i64 y] W fun o w' => o = .returned (.bool true) ∧ w' = W) := fun W hW => nisn (h.on hW) g.g.i y true (decide_eq_true hy).symm
 have cE : Hid (∀ W, Below u.heap.size u W → Calls Tryz.prog 123 #[.pointer (some ⟨mb, 0, none⟩)] W fun o w' => ∃ (ea : Option Addr) (ec : Nat), o = .returned (.tuple #[.slice ea (eoN N).length ec, .nilIface]) ∧ EHanded w' ea (eoN N).length (egf (eoN N)) ∧ Below W.heap.size W w') := fun W hW => (nedges_net (h.on hW) g).mono fun _ _ ⟨ea, ec, e, h1, h2, _⟩ => ⟨ea, ec, e, h1, h2⟩
 have cB : Hid (∀ (a : Option Addr) (cap : Nat) (W : World), EHanded W a (eoN N).length (egf (eoN N)) → Calls Tryz.prog 124 #[.int .i64 N.W.n, .slice a (eoN N).length cap, .int .i64 x, .int .i64 y] W fun r w' => r = .returned (.tuple #[sp lo hi, errc e]) ∧ Below W.heap.size W w') := fun a cap W hH => between_any N.W.n a (eoN N).length cap (egf (eoN N)) x y lo hi e W hH hB
 have HR : Hid (NN u mb L N) := h
 clear h g hx hy hB
 generalize (eoN N).length = m at *
 generalize errc e = ev at *
 have cnt : Mark 0 := .mk _
 go_enter Tryz.func92, Tryz.ntmps92
 go_wp2_with (first
  | (go_at_call 122; have cq : Mark 0 := cnt; refine (cX.out _ (rbel_al (Below.refl _ _))).mono ?_; clear cq cnt; have cnt : Mark 1 := .mk _; rintro o u1 ⟨rfl, hu⟩; rw [hu]; clear hu)
  | (go_at_call 122; have cq : Mark 1 := cnt; refine (cY.out _ (rbel_al (Below.refl _ _))).mono ?_; clear cq cnt; rintro o u1 ⟨rfl, hu⟩; rw [hu]; clear hu)
  | (go_at_call 123; refine (cE.out _ (rbel_al (Below.refl _ _))).mono ?_; rintro o u2 ⟨ea, ec, rfl, hE, hb⟩; have HE : Hid (EHanded u2 ea m (egf (eoN N))) := hE; have B2 : Hid (Below u.heap.size u u2) := rbel_on hb (rbel_al (Below.refl _ _)); have R2 : Hid (Row u2 u.heap.size [.int .i64 0, .int .i64 0]) := Row.on hb (Row.made rfl); have N2 : Hid (NN u2 mb L N) := HR.out.on B2.out; have c1 := N2.out.r.c 1 _ rfl; have l2 := N2.out.r.lt; clear hE hb)
  | (go_at_call 124; refine (cB.out _ _ _ HE.out).mono ?_; rintro o u3 ⟨rfl, hb⟩; have B3 : Hid (Below u.heap.size u u3) := rbel_on hb B2.out; have r := Row.on hb R2.out; have r0 := r.c 0 _ rfl; have r1 := r.c 1 _ rfl; have f0 := r.f 0 _ rfl; have f1 := r.f 1 _ rfl; have lr := r.lt; clear hb r))
 exact bodyPost_ret (v := .tuple #[sp lo hi, ev]) (by simp [results, Tryz.results92, go_sem, *]) rfl ⟨rfl, rbel_put (Nat.le_refl _) (rbel_put (Nat.le_refl _) B3.out)⟩
theorem noff_any (h : NN u mb L N) (g : N.T) (x y lo hi e : Int) (hB : BetA N.W.n (egf (eoN N)) (eoN N).length x y lo hi e) :
  Calls Tryz.prog 92 #[.pointer (some ⟨mb, 0, none⟩), .int .i64 x, .int .i64 y] u fun o w' => o = .returned (.tuple #[.agg #[.int .i64 lo, .int .i64 hi], errc e]) ∧ Below u.heap.size u w' := by
 have hE := egs_e (eoN_egs g)
 by_cases hn : (0 ≤ x ∧ x < (N.W.n : Int)) ∧ (0 ≤ y ∧ y < (N.W.n : Int))
 ·exact noff_go h g x y lo hi e hn.1 hn.2 hB
 ·have hb : lo = 0 ∧ hi = 0 ∧ e = 1 := by
   rcases hB with ⟨q, _⟩ | ⟨_, _, q1, q2, q3⟩ | ⟨_, q, _⟩
   ·exact absurd hE q
   ·exact ⟨q1, q2, q3⟩
   ·exact absurd ⟨⟨q.1, q.2.1⟩, q.2.2.1, q.2.2.2⟩ hn
  obtain ⟨rfl, rfl, rfl⟩ := hb
  rw [errc_not (by decide)]
  refine noff_no h g.g.i x y _ _ rfl rfl ?_
  cases q : decide (0 ≤ x ∧ x < (N.W.n : Int)) with
  | false => exact Or.inl rfl
  | true => exact Or.inr ⟨rfl, decide_eq_false (fun q' => hn ⟨of_decide_eq_true q, q'⟩)⟩
end
def nto (w : World) : NtO w := { ntt w with
 off := fun b F N x y lo hi e u hR hT _ _ hB => by
  obtain ⟨L, hP, rfl⟩ := hR
  exact noff_any hP hT x y lo hi e hB
 }
set_option maxRecDepth 100000 in
set_option maxHeartbeats 8000000 in
theorem nwide_at {u : World} {mb : Nat} {L : Nly} {N : Nn} (hR : NN u mb L N) (hT : N.T) (T : Tb) (hA : AllA (egf (eoN N)) (eoN N).length N.W.n 0 T) :
  Calls Tryz.prog 94 #[.pointer (some ⟨mb, 0, none⟩)] u fun o w' => o = .returned (.tuple #[.int .i64 (wid N.W.n T), .nilIface]) ∧ Below u.heap.size u w' := by
 have HR : Hid (NN u mb L N) := hR
 have h6 := hT.g.i.n6
 have cE : Calls Tryz.prog 123 #[.pointer (some ⟨mb, 0, none⟩)] u fun o w' => ∃ (ea : Option Addr) (ec : Nat), o = .returned (.tuple #[.slice ea (eoN N).length ec, .nilIface]) ∧ EHanded w' ea (eoN N).length (egf (eoN N)) ∧ Below u.heap.size u w' := (nedges_net hR hT).mono fun _ _ ⟨ea, ec, e, h1, h2, _⟩ => ⟨ea, ec, e, h1, h2⟩
 have cB : Hid (∀ (W : World) (ea : Option Addr) (ec : Nat), EHanded W ea (eoN N).length (egf (eoN N)) → Calls Tryz.prog 125 #[.int .i64 N.W.n, .slice ea (eoN N).length ec] W fun o w' => ∃ s h, o = .returned (.tuple #[s, h, .nilIface]) ∧ STab w' s h N.W.n T ∧ Below W.heap.size W w') := fun W ea ec hE => (all_any N.W.n ea (eoN N).length ec (egf (eoN N)) 0 T W hE (Or.inr ⟨egs_e (eoN_egs hT), by rw [Int.toNat_natCast]; exact hA⟩)).mono fun _ _ ⟨s, h, e, h1, h2⟩ => ⟨s, h, by rw [errc_zero] at e; exact e, by have := h1 rfl; rwa [Int.toNat_natCast] at this, h2⟩
 have HA : Hid (AllA (egf (eoN N)) (eoN N).length N.W.n 0 T) := hA
 have HWI : Hid (wid N.W.n T = csum T N.W.n) := (wid_is N.W.n T).trans (csum_is T N.W.n).symm
 clear hR hT hA
 go_enter Tryz.func94, Tryz.ntmps94
 go_upto_region 7 with (first
  | (go_at_call 123; refine cE.mono ?_; rintro o x1 ⟨ea, ec, rfl, hE, hb⟩; have B1 : Hid (Below u.heap.size u x1) := hb; have HE : Hid (EHanded x1 ea (eoN N).length (egf (eoN N))) := hE; have N1 : Hid (NN x1 mb L N) := HR.out.on hb; have n1 := N1.out.r.c 1 _ rfl; have zM1 : mb < x1.heap.size := N1.out.r.lt; clear hb hE)
  | (go_at_call 125; refine (cB.out _ _ _ HE.out).mono ?_; rintro o x2 ⟨s, hh, rfl, hS, hb⟩; have B2 : Hid (Below u.heap.size u x2) := rbel_on hb B1.out; have HS : Hid (STab x2 s hh N.W.n T) := hS; clear hb hS))
 obtain ⟨sb, so, scc, hb, ho, hc, rb, ro, rcc, gb, go, gc, e1, e2, r1, r2⟩ := (show STab x2 s hh N.W.n T from HS.out)
 subst e1
 subst e2
 have Q1 : Hid (∀ i, i < N.W.n → x2.cell? ⟨sb, so + i, none⟩ = some (.slice (some ⟨rb i, ro i, none⟩) N.W.n (rcc i)) ∧ x2.cell? ⟨hb, ho + i, none⟩ = some (.slice (some ⟨gb i, go i, none⟩) N.W.n (gc i))) := r1
 have Q2 : Hid (∀ i k, i < N.W.n → k < N.W.n → x2.cell? ⟨rb i, ro i + k * 2, none⟩ = some (.int .i64 (spLo T i k)) ∧ x2.cell? ⟨rb i, ro i + k * 2 + 1, none⟩ = some (.int .i64 (spHi T i k)) ∧ x2.cell? ⟨gb i, go i + k, none⟩ = some (.bool (T i k).isSome)) := r2
 clear r1 r2 HS B1 HE n1 zM1 cE cB N1
 go_wp2
 go_loopw [8, 35, 9, 10] (fun vs vb _ _ wr => ∃ b : Nat, b ≤ N.W.n ∧ vb = .int .i64 b ∧ vs = .int .i64 (csum T b) ∧ Below x2.heap.size x2 wr) (fun _ vb _ _ _ => N.W.n - (intOf vb).toNat)
 case atStart => exact ⟨0, Nat.zero_le _, rfl, rfl, Below.refl _ _⟩
 case round =>
  obtain ⟨b, hbn, rfl, rfl, hw⟩ := hrel
  have HW : Hid (Below x2.heap.size x2 wr) := hw
  by_cases hlt : b < N.W.n
  ·have hl : (b : Int) < N.W.n := by omega
   have sb1 := csum_b HA.out h6 b hbn
   have I0 : Hid (csum T b = csum T b + wcol T b 0) := by
    show csum T b = csum T b + wcol T b 0
    rw [show wcol T b 0 = 0 from rfl]; omega
   have I1 : Hid (csum T (b + 1) = csum T b + wcol T b b) := csum_succ T b
   clear hw
   go_wp2
   go_loopw [8, 39, 10] (fun vs va _ wr => ∃ a : Nat, a ≤ b ∧ va = .int .i64 a ∧ vs = .int .i64 (csum T b + wcol T b a) ∧ Below x2.heap.size x2 wr) (fun _ va _ _ => b - (intOf va).toNat)
   case atStart => exact ⟨0, Nat.zero_le _, rfl, by rw [← I0.out], HW.out⟩
   case round =>
    clear HW
    obtain ⟨a, hab, rfl, rfl, hw⟩ := hrel
    have HW : Hid (Below x2.heap.size x2 wr) := hw
    have on : ∀ (p : Addr) (x : Value), x2.cell? p = some x → wr.cell? p = some x := fun p x e => by rw [hw.cell (World.block_lt_of_cell? _ _ e)]; exact e
    by_cases hlc : a < b
    ·have hl2 : (a : Int) < (b : Int) := by omega
     have han : a < N.W.n := by omega
     have hl3 : (a : Int) < N.W.n := by omega
     have a1 := on _ _ (Q1.out a han).1
     have a2 := on _ _ (Q1.out a han).2
     have y1 := World.block_lt_of_cell? _ _ a1
     have y2 := World.block_lt_of_cell? _ _ a2
     obtain ⟨q1, q2, q3⟩ := Q2.out a b han hlt
     have b1 := on _ _ q1
     have b2 := on _ _ q2
     have b3 := on _ _ q3
     have y3 := World.block_lt_of_cell? _ _ b1
     have y4 := World.block_lt_of_cell? _ _ b3
     have rw1 := wcol_b HA.out hlt a (by omega)
     have tb := wt_b HA.out han hlt
     have I2 : Hid (wcol T b (a + 1) = wcol T b a + wt T a b) := wcol_succ T b a
     cases e : (T a b).isSome with
     | false =>
      rw [e] at b3
      have I3 : Hid (wcol T b (a + 1) = wcol T b a) := by
       show wcol T b (a + 1) = wcol T b a
       rw [I2.out]
       unfold wt
       rw [if_neg (by rw [e]; exact fun q => by cases q.2)]
       omega
      clear hw on q1 q2 q3 b1 b2 tb I2
      go_wp2
      go_roundw
      case rel => exact ⟨a + 1, by omega, by go_num, by rw [I3.out], HW.out⟩
      case measure => simp [intOf]; omega
     | true =>
      rw [e] at b3
      obtain ⟨t1, t2, t3⟩ := tb.2.2 e
      have I3 : Hid (wcol T b (a + 1) = wcol T b a + (spHi T a b - spLo T a b)) := by
       show wcol T b (a + 1) = wcol T b a + (spHi T a b - spLo T a b)
       rw [I2.out]
       unfold wt
       rw [if_pos ⟨hlc, e⟩]
      clear hw on q1 q2 q3 tb I2
      generalize spHi T a b = hi at *
      generalize spLo T a b = lo at *
      have w1 : IntKind.i64.wrap (hi - lo) = hi - lo := IntWalk.i64_in _ (by omega)
      have w2 : IntKind.i64.wrap (csum T b + wcol T b a + (hi - lo)) = csum T b + wcol T b a + (hi - lo) := IntWalk.i64_in _ (by omega)
      go_wp2
      go_quiet (fail)
      go_wp2
      go_roundw
      case rel => exact ⟨a + 1, by omega, by go_num, by rw [I3.out, show csum T b + wcol T b a + (hi - lo) = csum T b + (wcol T b a + (hi - lo)) by omega], rbel_drn HW.out⟩
      case measure => simp [intOf]; omega
    ·have hl2 : ¬ ((a : Int) < (b : Int)) := by omega
     obtain rfl : a = b := by omega
     clear hw on
     go_wp2
     go_roundw
     case rel => exact ⟨a + 1, by omega, by go_num, by rw [I1.out], HW.out⟩
     case measure => simp [intOf]; omega
  ·have hl : ¬ ((b : Int) < N.W.n) := by omega
   obtain rfl : b = N.W.n := by omega
   clear hw
   go_wp2
   go_ret2
   exact ⟨by rw [HWI.out]; rfl, rbel_on HW.out B2.out⟩
def ntw (w : World) : NtW w := { nto w with
 wide := fun b F N T u hR hT hA => by
  obtain ⟨L, hP, rfl⟩ := hR
  exact nwide_at hP hT T hA
 }
end Go.Proofs.YtadkgnbagmnkkakGreatDoor
