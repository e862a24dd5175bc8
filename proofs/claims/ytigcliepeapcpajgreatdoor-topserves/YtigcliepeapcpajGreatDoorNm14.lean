/- Package net: Edges. Package net: Offset. -/
import Derived.Test.YtigcliepeapcpajGreatDoorNm09
import Derived.Test.YtigcliepeapcpajGreatDoorNodePkgE
import Derived.Test.YtigcliepeapcpajGreatDoorNm12
import Derived.Test.YtigcliepeapcpajGreatDoorNm06
import Derived.Lib.SmallJoins
import Derived.BigRegion
import Derived.Test.YtigcliepeapcpajGreatDoorNm13
namespace Go.Proofs.YtigcliepeapcpajGreatDoor
open Go.ChangeShapes Go.WideShapes Go.ChangeAt Go.RowKit Go.Joins
set_option linter.unusedVariables false
set_option linter.unusedSimpArgs false

set_option maxRecDepth 100000 in
set_option maxHeartbeats 8000000 in
theorem nedges_net {u : World} {mb : Nat} {L : Nly} {N : Nn} (hR : NN u mb L N) (hT : N.T) :
    Calls Tryz.prog 26 #[.pointer (some ⟨mb, 0, none⟩)] u fun o w' => ∃ (ea : Option Addr) (ec : Nat), o = .returned (.tuple #[.slice ea (eoN N).length ec, .nilIface]) ∧ EHanded w' ea (eoN N).length (egf (eoN N)) ∧ Below u.heap.size u w' ∧ (eoN N).length ≤ ec ∧ ec ≤ 9223372036854775807 := by
  obtain ⟨i0, hi0, hz0, hz1, hz2⟩ := info_parts infoEdgeN
  have HR : Hid (NN u mb L N) := hR
  have HT : Hid N.T := hT
  have h6 := hT.g.i.n6
  have c1 := hR.r.c 1 _ rfl
  have l0 := hR.r.lt
  have hc3 : N.W.n ≤ L.nc := hR.c
  clear hR hT
  go_enter Tryz.func26, Tryz.ntmps26
  go_wp2
  clear c1
  go_loopw [4, 16, 5, 6, 7, 8, 9] (fun vo vi _ _ _ _ _ wr => ∃ k : Nat, k ≤ N.W.n ∧ vi = .int .i64 k ∧ wr.ownsRow u.heap.size 136 4 vo (eoK N k).length (ecl (eoK N k)) ∧ Below u.heap.size u wr) (fun _ vi _ _ _ _ _ _ => N.W.n - (intOf vi).toNat)
  case atStart => exact ⟨0, Nat.zero_le _, rfl, own_empty_e u _ _ _ (Nat.le_refl _), rbel_al (Below.refl _ _)⟩
  case round =>
    obtain ⟨k, hk, rfl, hown, hw⟩ := hrel
    have HW : Hid (Below u.heap.size u wr) := hw
    have G : Hid (NN wr mb L N) := HR.out.on hw
    have m0 := G.out.r.c 0 _ rfl
    have zM := G.out.r.lt
    have zw := hw.size
    by_cases hlt : k < N.W.n
    · have hl : (k : Int) < N.W.n := by omega
      have lk := G.out.p k hlt
      have zL := G.out.nl
      have le1 := eoK_len HT.out (Nat.le_of_lt hlt)
      have le2 := eoK_len HT.out (k := k + 1) hlt
      have kn := HT.out.kn k hlt
      have cR : Calls Tryz.prog 24 #[.pointer (some ⟨L.wb, 0, none⟩), .int .i64 (k : Int)] wr fun o w' => o = .returned (.tuple #[.int .i64 (N.W.rd k), .nilIface]) ∧ Below wr.heap.size wr w' := by
        have := read_yes G.out.w HT.out.g.i (i := (k : Int)) ⟨by omega, by omega⟩
        rwa [errc_zero, Int.toNat_natCast] at this
      have HE : Hid (eoK N (k + 1) = eoK N k ++ (N.nd k).eo (N.W.rd k)) := eoK_more N k
      have cE : Hid (∀ W, Below wr.heap.size wr W → Calls Tryz.prog 50 #[.pointer (some ⟨L.b k, 0, none⟩), .int .i64 (N.W.rd k)] W fun o w' => (∃ ea ec, o = .returned (.tuple #[.slice ea ((N.nd k).eo (N.W.rd k)).length ec, .nilIface]) ∧ EHanded w' ea ((N.nd k).eo (N.W.rd k)).length (egf ((N.nd k).eo (N.W.rd k))) ∧ (ea = none → ec = 0)) ∧ Below W.heap.size W w') := fun W hW => (nedges_go ((G.out.on hW).d k hlt) (kn.i HT.out.g hlt) (N.W.rd k) (kn.sp HT.out.g hlt)).mono fun _ _ ⟨⟨ea, ec, e, h1, h2, _⟩, h3⟩ => ⟨⟨ea, ec, e, h1, h2⟩, h3⟩
      have HO : Hid (wr.ownsRow u.heap.size 136 4 u4 (eoK N k).length (ecl (eoK N k))) := hown
      have HL : Hid (∀ g, u4.ownBlock = some g → u.heap.size ≤ g) := fun g hg => (hown.lt g hg).1
      rw [HE.out, List.length_append] at le2
      clear hown hw kn
      generalize (N.nd k).eo (N.W.rd k) = EL at *
      generalize eoK N k = EK at *
      generalize N.W.rd k = rv at *
      go_upto_region 11 with (first
        | (go_at_call 24; refine cR.mono ?_; rintro o x1 ⟨rfl, hb⟩; have B1 : Hid (Below wr.heap.size wr x1) := hb; clear hb)
        | (go_at_call 50; refine (cE.out _ B1.out).mono ?_; rintro o x2 ⟨⟨ea, ec, rfl, hE, hz⟩, hb⟩; have B2 : Hid (Below wr.heap.size wr x2) := rbel_on hb B1.out; have HH : Hid (EHanded x2 ea EL.length (egf EL)) := hE; have HZ : Hid (ea = none → ec = 0) := hz; clear hb hE hz))
      have O2 : Hid (x2.ownsRow u.heap.size 136 4 u4 EK.length (ecl EK)) := own_onN B2.out HO.out
      have W2 : Hid (Below u.heap.size u x2) := rbel_on B2.out HW.out
      have z2 := W2.out.size
      clear cR cE m0 lk B1 HO HW G zM zL
      cases ea with
      | none =>
        have ec0 : ec = 0 := HZ.out rfl
        subst ec0
        have el0 : EL = [] := by
          rcases HH.out.2 with e | ⟨b, off, e, _⟩
          · exact List.eq_nil_of_length_eq_zero e
          · cases e
        subst el0
        have R2 : Hid (x2.ownsRow u.heap.size 136 4 u4 (eoK N (k + 1)).length (ecl (eoK N (k + 1)))) := by
          show x2.ownsRow u.heap.size 136 4 u4 (eoK N (k + 1)).length (ecl (eoK N (k + 1)))
          rw [HE.out, List.append_nil]
          exact O2.out
        clear HE HZ HH
        go_wp2_with (at_builtin; refine wpList_append_own_none rfl _ _ 83 rfl u.heap.size 136 i0 4 Tryz.underlying83 hi0 u4 _ _ rfl O2.out rfl ?_)
        go_wp2
        go_roundw
        case rel => exact ⟨k + 1, by omega, by go_num, R2.out, W2.out⟩
        case measure => simp [intOf]; omega
      | some ad =>
        have HC : Hid (∀ j x, (ecl EL)[j]? = some x → x2.cell? (ad.add j) = some x) := by
          rcases HH.out.2 with e | ⟨b, off, e, hs⟩
          · have e' := List.eq_nil_of_length_eq_zero e
            subst e'
            intro j x hx
            cases hx
          · obtain rfl := Option.some.inj e
            exact esp_cells hs
        have HLn : Hid ((ecl EL).length = EL.length * 4) := ecl_len EL
        have HOn : Hid (∀ u ∈ ecl EL, u.oneCell' = true) := ecl_one EL
        clear HZ HH
        go_wp2_with (at_builtin; refine wpList_append_own_at _ rfl _ _ 83 rfl u.heap.size 136 i0 _ 4 32 Tryz.underlying83 hi0 hz0 hz1 hz2 rfl (by decide) u4 _ _ rfl O2.out ad _ _ (ecl EL) rfl HLn.out HC.out HOn.out (by unfold maxLen; omega) (by omega) (by omega) ?_)
        intro v' x3 own' hgrow hnn hat
        have R3 : Hid (x3.ownsRow u.heap.size 136 4 v' (eoK N (k + 1)).length (ecl (eoK N (k + 1)))) := by
          show x3.ownsRow u.heap.size 136 4 v' (eoK N (k + 1)).length (ecl (eoK N (k + 1)))
          rw [HE.out, List.length_append, ecl_app]
          exact own'
        have W3 : Hid (Below u.heap.size u x3) := W2.out.grown hgrow (by omega) HL.out
        clear own' hgrow hnn hat HE HC HLn HOn
        go_wp2
        go_roundw
        case rel => exact ⟨k + 1, by omega, by go_num, R3.out, W3.out⟩
        case measure => simp [intOf]; omega
    · have hl : ¬ ((k : Int) < N.W.n) := by omega
      obtain rfl : k = N.W.n := by omega
      rw [eoK_all] at hown
      have le := eoN_len HT.out
      obtain ⟨a, cap, rfl, hH, hZ⟩ := own_eh hown rfl (by omega)
      have HC : Hid ((eoN N).length ≤ cap ∧ cap ≤ 9223372036854775807) := own_cap hown rfl
      have HH : Hid (EHanded wr a (eoN N).length (egf (eoN N))) := hH
      clear hown hw hH hZ m0 zM
      go_wp2
      go_ret2
      first
        | exact ⟨a, cap, rfl, HH.out, HW.out, HC.out.1, HC.out.2⟩
        | exact ⟨a, ⟨cap, rfl⟩, HH.out, HW.out, HC.out.1, HC.out.2⟩
end Go.Proofs.YtigcliepeapcpajGreatDoor
namespace Go.Proofs.YtigcliepeapcpajGreatDoor
open Go.ChangeShapes Go.WideShapes Go.ChangeAt Go.RowKit Go.Joins
set_option linter.unusedVariables false
set_option linter.unusedSimpArgs false

section
variable {u : World} {mb : Nat} {L : Nly} {N : Nn}
set_option maxRecDepth 100000 in
set_option maxHeartbeats 4000000 in
theorem noff_no (h : NN u mb L N) (g : N.W.I) (x y : Int) (X Y : Bool) (hX : Hid (X = decide (0 ≤ x ∧ x < (N.W.n : Int)))) (hY : Hid (Y = decide (0 ≤ y ∧ y < (N.W.n : Int)))) (hn : X = false ∨ (X = true ∧ Y = false)) :
    Calls Tryz.prog 10 #[.pointer (some ⟨mb, 0, none⟩), .int .i64 x, .int .i64 y] u fun o w' => o = .returned (.tuple #[sp 0 0, .iface 71 (.int .i64 1)]) ∧ Below u.heap.size u w' := by
  have cX : Hid (∀ W, Below u.heap.size u W → Calls Tryz.prog 25 #[.pointer (some ⟨mb, 0, none⟩), .int .i64 x] W fun o w' => o = .returned (.bool X) ∧ w' = W) := fun W hW => nisn (h.on hW) g x X hX.out
  have cY : Hid (∀ W, Below u.heap.size u W → Calls Tryz.prog 25 #[.pointer (some ⟨mb, 0, none⟩), .int .i64 y] W fun o w' => o = .returned (.bool Y) ∧ w' = W) := fun W hW => nisn (h.on hW) g y Y hY.out
  clear h g hX hY
  have cnt : Mark 0 := .mk _
  rcases hn with rfl | ⟨rfl, rfl⟩
  · go_enter Tryz.func10, Tryz.ntmps10
    go_wp2_with (go_at_call 25; refine (cX.out _ (rbel_al (Below.refl _ _))).mono ?_; rintro o u1 ⟨rfl, hu⟩; rw [hu]; clear hu)
    exact bodyPost_ret (v := .tuple #[sp 0 0, .iface 71 (.int .i64 1)]) (by simp [results, Tryz.results10, go_sem, *]) rfl ⟨rfl, by first | exact rbel_al (Below.refl _ _) | exact rbel_put (Nat.le_refl _) (rbel_put (Nat.le_refl _) (rbel_al (Below.refl _ _)))⟩
  · go_enter Tryz.func10, Tryz.ntmps10
    go_wp2_with (first
      | (go_at_call 25; have cq : Mark 0 := cnt; refine (cX.out _ (rbel_al (Below.refl _ _))).mono ?_; clear cq cnt; have cnt : Mark 1 := .mk _; rintro o u1 ⟨rfl, hu⟩; rw [hu]; clear hu)
      | (go_at_call 25; have cq : Mark 1 := cnt; refine (cY.out _ (rbel_al (Below.refl _ _))).mono ?_; clear cq cnt; rintro o u1 ⟨rfl, hu⟩; rw [hu]; clear hu))
    exact bodyPost_ret (v := .tuple #[sp 0 0, .iface 71 (.int .i64 1)]) (by simp [results, Tryz.results10, go_sem, *]) rfl ⟨rfl, by first | exact rbel_al (Below.refl _ _) | exact rbel_put (Nat.le_refl _) (rbel_put (Nat.le_refl _) (rbel_al (Below.refl _ _)))⟩
set_option maxRecDepth 100000 in
set_option maxHeartbeats 4000000 in
theorem noff_go (h : NN u mb L N) (g : N.T) (x y lo hi e : Int) (hx : 0 ≤ x ∧ x < (N.W.n : Int)) (hy : 0 ≤ y ∧ y < (N.W.n : Int)) (hB : BetA N.W.n (egf (eoN N)) (eoN N).length x y lo hi e) :
    Calls Tryz.prog 10 #[.pointer (some ⟨mb, 0, none⟩), .int .i64 x, .int .i64 y] u fun o w' => o = .returned (.tuple #[sp lo hi, errc e]) ∧ Below u.heap.size u w' := by
  have cX : Hid (∀ W, Below u.heap.size u W → Calls Tryz.prog 25 #[.pointer (some ⟨mb, 0, none⟩), .int .i64 x] W fun o w' => o = .returned (.bool true) ∧ w' = W) := fun W hW => nisn (h.on hW) g.g.i x true (decide_eq_true hx).symm
  have cY : Hid (∀ W, Below u.heap.size u W → Calls Tryz.prog 25 #[.pointer (some ⟨mb, 0, none⟩), .int .i64 y] W fun o w' => o = .returned (.bool true) ∧ w' = W) := fun W hW => nisn (h.on hW) g.g.i y true (decide_eq_true hy).symm
  have cE : Hid (∀ W, Below u.heap.size u W → Calls Tryz.prog 26 #[.pointer (some ⟨mb, 0, none⟩)] W fun o w' => ∃ (ea : Option Addr) (ec : Nat), o = .returned (.tuple #[.slice ea (eoN N).length ec, .nilIface]) ∧ EHanded w' ea (eoN N).length (egf (eoN N)) ∧ Below W.heap.size W w') := fun W hW => (nedges_net (h.on hW) g).mono fun _ _ ⟨ea, ec, e, h1, h2, _⟩ => ⟨ea, ec, e, h1, h2⟩
  have cB : Hid (∀ (a : Option Addr) (cap : Nat) (W : World), EHanded W a (eoN N).length (egf (eoN N)) → Calls Tryz.prog 27 #[.int .i64 N.W.n, .slice a (eoN N).length cap, .int .i64 x, .int .i64 y] W fun r w' => r = .returned (.tuple #[sp lo hi, errc e]) ∧ Below W.heap.size W w') := fun a cap W hH => between_any N.W.n a (eoN N).length cap (egf (eoN N)) x y lo hi e W hH hB
  have HR : Hid (NN u mb L N) := h
  clear h g hx hy hB
  generalize (eoN N).length = m at *
  generalize errc e = ev at *
  have cnt : Mark 0 := .mk _
  go_enter Tryz.func10, Tryz.ntmps10
  go_wp2_with (first
    | (go_at_call 25; have cq : Mark 0 := cnt; refine (cX.out _ (rbel_al (Below.refl _ _))).mono ?_; clear cq cnt; have cnt : Mark 1 := .mk _; rintro o u1 ⟨rfl, hu⟩; rw [hu]; clear hu)
    | (go_at_call 25; have cq : Mark 1 := cnt; refine (cY.out _ (rbel_al (Below.refl _ _))).mono ?_; clear cq cnt; rintro o u1 ⟨rfl, hu⟩; rw [hu]; clear hu)
    | (go_at_call 26; refine (cE.out _ (rbel_al (Below.refl _ _))).mono ?_; rintro o u2 ⟨ea, ec, rfl, hE, hb⟩; have HE : Hid (EHanded u2 ea m (egf (eoN N))) := hE; have B2 : Hid (Below u.heap.size u u2) := rbel_on hb (rbel_al (Below.refl _ _)); have R2 : Hid (Row u2 u.heap.size [.int .i64 0, .int .i64 0]) := Row.on hb (Row.made rfl); have N2 : Hid (NN u2 mb L N) := HR.out.on B2.out; have c1 := N2.out.r.c 1 _ rfl; have l2 := N2.out.r.lt; clear hE hb)
    | (go_at_call 27; refine (cB.out _ _ _ HE.out).mono ?_; rintro o u3 ⟨rfl, hb⟩; have B3 : Hid (Below u.heap.size u u3) := rbel_on hb B2.out; have r := Row.on hb R2.out; have r0 := r.c 0 _ rfl; have r1 := r.c 1 _ rfl; have f0 := r.f 0 _ rfl; have f1 := r.f 1 _ rfl; have lr := r.lt; clear hb r))
  exact bodyPost_ret (v := .tuple #[sp lo hi, ev]) (by simp [results, Tryz.results10, go_sem, *]) rfl ⟨rfl, rbel_put (Nat.le_refl _) (rbel_put (Nat.le_refl _) B3.out)⟩
theorem noff_any (h : NN u mb L N) (g : N.T) (x y lo hi e : Int) (hB : BetA N.W.n (egf (eoN N)) (eoN N).length x y lo hi e) :
    Calls Tryz.prog 10 #[.pointer (some ⟨mb, 0, none⟩), .int .i64 x, .int .i64 y] u fun o w' => o = .returned (.tuple #[.agg #[.int .i64 lo, .int .i64 hi], errc e]) ∧ Below u.heap.size u w' := by
  have hE := egs_e (eoN_egs g)
  by_cases hn : (0 ≤ x ∧ x < (N.W.n : Int)) ∧ (0 ≤ y ∧ y < (N.W.n : Int))
  · exact noff_go h g x y lo hi e hn.1 hn.2 hB
  · have hb : lo = 0 ∧ hi = 0 ∧ e = 1 := by
      rcases hB with ⟨q, _⟩ | ⟨_, _, q1, q2, q3⟩ | ⟨_, q, _⟩
      · exact absurd hE q
      · exact ⟨q1, q2, q3⟩
      · exact absurd ⟨⟨q.1, q.2.1⟩, q.2.2.1, q.2.2.2⟩ hn
    obtain ⟨rfl, rfl, rfl⟩ := hb
    rw [errc_not (by decide)]
    refine noff_no h g.g.i x y _ _ rfl rfl ?_
    cases q : decide (0 ≤ x ∧ x < (N.W.n : Int)) with
    | false => exact Or.inl rfl
    | true => exact Or.inr ⟨rfl, decide_eq_false (fun q' => hn ⟨of_decide_eq_true q, q'⟩)⟩
end
end Go.Proofs.YtigcliepeapcpajGreatDoor
