/- Numbers in a row of a law's own. Package net: Edges. -/
import Derived.Test.YtfmaoblhoafnhajNm08
import Derived.Test.YtfmaoblhoafnhajNm03
import Derived.OwnWalk
import Derived.Laws.AppendOwnNone
import Derived.Test.YtfmaoblhoafnhajNm10
import Derived.Test.YtfmaoblhoafnhajNodePkgE
import Derived.Test.YtfmaoblhoafnhajNm13
import Derived.Lib.SmallJoins
import Derived.BigRegion
namespace Go.Proofs.Ytfmaoblhoafnhaj
open Go.ChangeShapes Go.WideShapes Go.ChangeAt Go.RowKit
set_option linter.unusedVariables false

/-- Numbers as cells. -/
def icn (t : Nat → Int) : Nat → List Value
  | 0 => []
  | m + 1 => icn t m ++ [.int .i64 (t m)]
theorem icn_len (t : Nat → Int) : ∀ m, (icn t m).length = m
  | 0 => rfl
  | m + 1 => by simp [icn, icn_len t m]
theorem icn_at (t : Nat → Int) : ∀ {m i : Nat}, i < m → (icn t m)[i]? = some (.int .i64 (t i))
  | 0, i, h => by omega
  | m + 1, i, h => by
    simp only [icn]
    by_cases c : i = m
    · subst c
      rw [List.getElem?_append_right (by rw [icn_len]; omega), icn_len]
      simp
    · rw [List.getElem?_append_left (by rw [icn_len]; omega)]
      exact icn_at t (by omega)
theorem infoIntN : (Try.prog.info? 3).map (fun i => (i.zero, i.size, i.bytes)) = some (some (.int .i64 0), 1, 8) := by kernel_rfl
theorem own_onN {W u : World} {base n size : Nat} {e : TypeId} {v : Value} {xs : List Value} (hb : Below W.heap.size W u) (h : W.ownsRow base e size v n xs) : u.ownsRow base e size v n xs := by
  refine ⟨h.1, ?_⟩
  rcases h.2 with h' | ⟨g, cap, cur, h1, h2, h3, h4⟩
  · exact Or.inl h'
  · refine Or.inr ⟨g, cap, cur, h1, h2, (hb.block g ?_).trans h3, h4⟩
    rcases Nat.lt_or_ge g W.heap.size with hlt | hge
    · exact hlt
    · rw [Array.getElem?_eq_none hge] at h3; cases h3
/-- .. and where some blocks turn that it does not lie in. -/
theorem own_keepN {W u : World} {base n size : Nat} {e : TypeId} {v : Value} {xs : List Value} {F : Nat → Prop} (k : Keeps F W u) (hn : ∀ g, v.ownBlock = some g → ¬ F g) (h : W.ownsRow base e size v n xs) : u.ownsRow base e size v n xs := by
  refine ⟨h.1, ?_⟩
  rcases h.2 with h' | ⟨g, cap, cur, h1, h2, h3, h4⟩
  · exact Or.inl h'
  · refine Or.inr ⟨g, cap, cur, h1, h2, (k.block g ?_ (hn g (by rw [h1]; rfl))).trans h3, h4⟩
    rcases Nat.lt_or_ge g W.heap.size with hlt | hge
    · exact hlt
    · rw [Array.getElem?_eq_none hge] at h3; cases h3
/-- .. and where another row grows. -/
theorem own_grownN {W u : World} {base n size : Nat} {e : TypeId} {v : Value} {xs : List Value} {row : Option Nat} (hg : W.grownBy u row) (hn : ∀ g, v.ownBlock = some g → some g ≠ row) (h : W.ownsRow base e size v n xs) : u.ownsRow base e size v n xs := by
  refine ⟨h.1, ?_⟩
  rcases h.2 with h' | ⟨g, cap, cur, h1, h2, h3, h4⟩
  · exact Or.inl h'
  · refine Or.inr ⟨g, cap, cur, h1, h2, (hg.block g ?_ (hn g (by rw [h1]; rfl))).trans h3, h4⟩
    rcases Nat.lt_or_ge g W.heap.size with hlt | hge
    · exact hlt
    · rw [Array.getElem?_eq_none hge] at h3; cases h3
theorem own_intsN {w : World} {base k : Nat} {v : Value} {t : Nat → Int} (h : w.ownsRow base 3 1 v k (icn t k)) (hk : k ≤ 9223372036854775807) : ∃ a cap, v = .slice a k cap ∧ NHanded w a k t ∧ (k = 0 ∨ ∃ g, a = some ⟨g, 0, none⟩ ∧ v.ownBlock = some g) := by
  rcases h.2 with ⟨rfl, e⟩ | ⟨g, cap, cur, rfl, hb, hg, hc, _, hcs, htk⟩
  · subst e
    exact ⟨none, 0, rfl, ⟨hk, Or.inl rfl⟩, Or.inl rfl⟩
  · refine ⟨_, cap, rfl, ⟨hk, Or.inr ⟨g, 0, rfl, fun i hi => ?_⟩⟩, Or.inr ⟨g, rfl, rfl⟩⟩
    rw [Nat.zero_add, h.cellAt i (by omega)]
    exact icn_at t hi
theorem own_capN {w : World} {base k : Nat} {v : Value} {t : Nat → Int} (h : w.ownsRow base 3 1 v k (icn t k)) (hk : k ≤ 9223372036854775807) : ∃ a cap, v = .slice a k cap ∧ NHanded w a k t ∧ k ≤ cap := by
  rcases h.2 with ⟨rfl, e⟩ | ⟨g, cap, cur, rfl, hb, hg, hc, _, hcs, htk⟩
  · subst e
    exact ⟨none, 0, rfl, ⟨hk, Or.inl rfl⟩, Nat.le_refl _⟩
  · refine ⟨_, cap, rfl, ⟨hk, Or.inr ⟨g, 0, rfl, fun i hi => ?_⟩⟩, hc⟩
    rw [Nat.zero_add, h.cellAt i (by omega)]
    exact icn_at t hi
theorem row2N {W : World} {B : Nat} {z : Nat → Int} (r : Row W B [.int .i64 (z 0), .int .i64 (z 1)]) : NHanded W (some ⟨B, 0, none⟩) 2 z := ⟨by omega, Or.inr ⟨B, 0, rfl, fun i hi => by
  have : i = 0 ∨ i = 1 := by omega
  rcases this with rfl | rfl
  · exact r.c 0 _ rfl
  · exact r.c 1 _ rfl⟩⟩
theorem in64N {n : Int} (h : -9223372036854775808 ≤ n ∧ n ≤ 9223372036854775807) : (Lit.int .i64 n).wf = true := by
  simp [Lit.wf, IntKind.min, IntKind.max, IntKind.signed, IntKind.bits]
  omega
end Go.Proofs.Ytfmaoblhoafnhaj
namespace Go.Proofs.Ytfmaoblhoafnhaj
open Go.ChangeShapes Go.WideShapes Go.ChangeAt Go.RowKit Go.Joins
set_option linter.unusedVariables false
set_option linter.unusedSimpArgs false

set_option maxRecDepth 100000 in
set_option maxHeartbeats 8000000 in
theorem nedges_net {u : World} {mb : Nat} {L : Nly} {N : Nn} (hR : NN u mb L N) (hT : N.T) :
    Calls Try.prog 12 #[.pointer (some ⟨mb, 0, none⟩)] u fun o w' => ∃ (ea : Option Addr) (ec : Nat), o = .returned (.tuple #[.slice ea (eoN N).length ec, .nilIface]) ∧ EHanded w' ea (eoN N).length (egf (eoN N)) ∧ Below u.heap.size u w' ∧ (eoN N).length ≤ ec ∧ ec ≤ 9223372036854775807 := by
  obtain ⟨i0, hi0, hz0, hz1, hz2⟩ := info_parts infoEdgeN
  have HR : Hid (NN u mb L N) := hR
  have HT : Hid N.T := hT
  have h6 := hT.g.i.n6
  have c1 := hR.r.c 1 _ rfl
  have l0 := hR.r.lt
  have hc3 : N.W.n ≤ L.nc := hR.c
  clear hR hT
  go_enter Try.func12, Try.ntmps12
  go_wp2
  clear c1
  go_loopw [4, 16, 5, 6, 7, 8, 9] (fun vo vi _ _ _ _ _ wr => ∃ k : Nat, k ≤ N.W.n ∧ vi = .int .i64 k ∧ wr.ownsRow u.heap.size 49 4 vo (eoK N k).length (ecl (eoK N k)) ∧ Below u.heap.size u wr) (fun _ vi _ _ _ _ _ _ => N.W.n - (intOf vi).toNat)
  case atStart => exact ⟨0, Nat.zero_le _, rfl, own_empty_e u _ _ _ (Nat.le_refl _), rbel_al (Below.refl _ _)⟩
  case round =>
    obtain ⟨k, hk, rfl, hown, hw⟩ := hrel
    have HW : Hid (Below u.heap.size u wr) := hw
    have G : Hid (NN wr mb L N) := HR.out.on hw
    have m0 := G.out.r.c 0 _ rfl
    have zM := G.out.r.lt
    have zw := hw.size
    by_cases hlt : k < N.W.n
    · have hl : (k : Int) < N.W.n := by omega
      have lk := G.out.p k hlt
      have zL := G.out.nl
      have le1 := eoK_len HT.out (Nat.le_of_lt hlt)
      have le2 := eoK_len HT.out (k := k + 1) hlt
      have kn := HT.out.kn k hlt
      have cR : Calls Try.prog 27 #[.pointer (some ⟨L.wb, 0, none⟩), .int .i64 (k : Int)] wr fun o w' => o = .returned (.tuple #[.int .i64 (N.W.rd k), .nilIface]) ∧ Below wr.heap.size wr w' := by
        have := read_yes G.out.w HT.out.g.i (i := (k : Int)) ⟨by omega, by omega⟩
        rwa [errc_zero, Int.toNat_natCast] at this
      have HE : Hid (eoK N (k + 1) = eoK N k ++ (N.nd k).eo (N.W.rd k)) := eoK_more N k
      have cE : Hid (∀ W, Below wr.heap.size wr W → Calls Try.prog 28 #[.pointer (some ⟨L.b k, 0, none⟩), .int .i64 (N.W.rd k)] W fun o w' => (∃ ea ec, o = .returned (.tuple #[.slice ea ((N.nd k).eo (N.W.rd k)).length ec, .nilIface]) ∧ EHanded w' ea ((N.nd k).eo (N.W.rd k)).length (egf ((N.nd k).eo (N.W.rd k))) ∧ (ea = none → ec = 0)) ∧ Below W.heap.size W w') := fun W hW => (nedges_go ((G.out.on hW).d k hlt) (kn.i HT.out.g hlt) (N.W.rd k) (kn.sp HT.out.g hlt)).mono fun _ _ ⟨⟨ea, ec, e, h1, h2, _⟩, h3⟩ => ⟨⟨ea, ec, e, h1, h2⟩, h3⟩
      have HO : Hid (wr.ownsRow u.heap.size 49 4 u4 (eoK N k).length (ecl (eoK N k))) := hown
      have HL : Hid (∀ g, u4.ownBlock = some g → u.heap.size ≤ g) := fun g hg => (hown.lt g hg).1
      rw [HE.out, List.length_append] at le2
      clear hown hw kn
      generalize (N.nd k).eo (N.W.rd k) = EL at *
      generalize eoK N k = EK at *
      generalize N.W.rd k = rv at *
      go_upto_region 11 with (first
        | (go_at_call 27; refine cR.mono ?_; rintro o x1 ⟨rfl, hb⟩; have B1 : Hid (Below wr.heap.size wr x1) := hb; clear hb)
        | (go_at_call 28; refine (cE.out _ B1.out).mono ?_; rintro o x2 ⟨⟨ea, ec, rfl, hE, hz⟩, hb⟩; have B2 : Hid (Below wr.heap.size wr x2) := rbel_on hb B1.out; have HH : Hid (EHanded x2 ea EL.length (egf EL)) := hE; have HZ : Hid (ea = none → ec = 0) := hz; clear hb hE hz))
      have O2 : Hid (x2.ownsRow u.heap.size 49 4 u4 EK.length (ecl EK)) := own_onN B2.out HO.out
      have W2 : Hid (Below u.heap.size u x2) := rbel_on B2.out HW.out
      have z2 := W2.out.size
      clear cR cE m0 lk B1 HO HW G zM zL
      cases ea with
      | none =>
        have ec0 : ec = 0 := HZ.out rfl
        subst ec0
        have el0 : EL = [] := by
          rcases HH.out.2 with e | ⟨b, off, e, _⟩
          · exact List.eq_nil_of_length_eq_zero e
          · cases e
        subst el0
        have R2 : Hid (x2.ownsRow u.heap.size 49 4 u4 (eoK N (k + 1)).length (ecl (eoK N (k + 1)))) := by
          show x2.ownsRow u.heap.size 49 4 u4 (eoK N (k + 1)).length (ecl (eoK N (k + 1)))
          rw [HE.out, List.append_nil]
          exact O2.out
        clear HE HZ HH
        go_wp2_with (at_builtin; refine wpList_append_own_none rfl _ _ 44 rfl u.heap.size 49 i0 4 Try.underlying44 hi0 u4 _ _ rfl O2.out rfl ?_)
        go_wp2
        go_roundw
        case rel => exact ⟨k + 1, by omega, by go_num, R2.out, W2.out⟩
        case measure => simp [intOf]; omega
      | some ad =>
        have HC : Hid (∀ j x, (ecl EL)[j]? = some x → x2.cell? (ad.add j) = some x) := by
          rcases HH.out.2 with e | ⟨b, off, e, hs⟩
          · have e' := List.eq_nil_of_length_eq_zero e
            subst e'
            intro j x hx
            cases hx
          · obtain rfl := Option.some.inj e
            exact esp_cells hs
        have HLn : Hid ((ecl EL).length = EL.length * 4) := ecl_len EL
        have HOn : Hid (∀ u ∈ ecl EL, u.oneCell' = true) := ecl_one EL
        clear HZ HH
        go_wp2_with (at_builtin; refine wpList_append_own_at _ rfl _ _ 44 rfl u.heap.size 49 i0 _ 4 32 Try.underlying44 hi0 hz0 hz1 hz2 rfl (by decide) u4 _ _ rfl O2.out ad _ _ (ecl EL) rfl HLn.out HC.out HOn.out (by unfold maxLen; omega) (by omega) (by omega) ?_)
        intro v' x3 own' hgrow hnn hat
        have R3 : Hid (x3.ownsRow u.heap.size 49 4 v' (eoK N (k + 1)).length (ecl (eoK N (k + 1)))) := by
          show x3.ownsRow u.heap.size 49 4 v' (eoK N (k + 1)).length (ecl (eoK N (k + 1)))
          rw [HE.out, List.length_append, ecl_app]
          exact own'
        have W3 : Hid (Below u.heap.size u x3) := W2.out.grown hgrow (by omega) HL.out
        clear own' hgrow hnn hat HE HC HLn HOn
        go_wp2
        go_roundw
        case rel => exact ⟨k + 1, by omega, by go_num, R3.out, W3.out⟩
        case measure => simp [intOf]; omega
    · have hl : ¬ ((k : Int) < N.W.n) := by omega
      obtain rfl : k = N.W.n := by omega
      rw [eoK_all] at hown
      have le := eoN_len HT.out
      obtain ⟨a, cap, rfl, hH, hZ⟩ := own_eh hown rfl (by omega)
      have HC : Hid ((eoN N).length ≤ cap ∧ cap ≤ 9223372036854775807) := own_cap hown rfl
      have HH : Hid (EHanded wr a (eoN N).length (egf (eoN N))) := hH
      clear hown hw hH hZ m0 zM
      go_wp2
      go_ret2
      first
        | exact ⟨a, cap, rfl, HH.out, HW.out, HC.out.1, HC.out.2⟩
        | exact ⟨a, ⟨cap, rfl⟩, HH.out, HW.out, HC.out.1, HC.out.2⟩
end Go.Proofs.Ytfmaoblhoafnhaj
