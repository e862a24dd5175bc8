/- The ways through the law TopOrders. -/
import Derived.Test.YtnagdjipmpjaaaiNm21
import Derived.Test.YtnagdjipmpjaaaiNm18
import Derived.Test.YtnagdjipmpjaaaiNm06
import Derived.Maps.AppendAt
import Derived.Lib.SmallJoins
import Derived.BigQuiet
import Derived.Deep.QuietTactic
import Derived.Deep.CutRange
import Derived.Deep.CutBlock
import Derived.IntWalk
namespace Go.Proofs.Ytnagdjipmpjaaai.topOrders
open Go.ChangeShapes Go.WideShapes Go.ChangeAt Go.RowKit Go.Joins
set_option linter.unusedVariables false
set_option linter.unusedSimpArgs false

/-- The law on its way. -/
structure TOS (w : World) (C : NtR w) (wr : World) (b : Nat) (F : Nat → Prop) (N : Nn) (vl vo : Value) (m : Nat) (f : Nat → Ev) (c : Nat → Int) (i sn : Nat) : Prop where
  l : wr.ownsRow w.heap.size 44 3 vl m (vcn f m)
  o : wr.ownsRow w.heap.size 3 1 vo m (icn (fun j => (j : Int)) m)
  e : EvI m f c i (N.W.rd 0)
  ne : ∀ g, vl.ownBlock = some g → vo.ownBlock ≠ some g
  nl : ∀ g, vl.ownBlock = some g → ¬ F g
  no : ∀ g, vo.ownBlock = some g → ¬ F g
  p : Nv w C.toNt wr b F N
  n : N.W.n = sn
section
variable {w wr u : World} {C : NtR w} {b : Nat} {F F' : Nat → Prop} {N N' : Nn} {vl vo : Value} {m i sn : Nat} {f : Nat → Ev} {c : Nat → Int}
theorem TOS.on (h : TOS w C wr b F N vl vo m f c i sn) (hb : Below wr.heap.size wr u) : TOS w C u b F N vl vo m f c i sn := ⟨own_onN hb h.l, own_onN hb h.o, h.e, h.ne, h.nl, h.no, h.p.on hb, h.n⟩
theorem TOS.go (h : TOS w C wr b F N vl vo m f c i sn) (g : Nv w C.toNt u b F' N') (k : Keeps F wr u) (hF : ∀ j, F' j → F j ∨ wr.heap.size ≤ j) (hr : N.W.rd 0 ≤ N'.W.rd 0) (hn : N'.W.n = N.W.n) : TOS w C u b F' N' vl vo m f c i sn :=
  ⟨own_keepN k h.nl h.l, own_keepN k h.no h.o, h.e.later (Nat.le_refl _) hr, h.ne, fun x hx q => (hF x q).elim (h.nl x hx) (fun e => by have := (h.l.lt x hx).2; omega), fun x hx q => (hF x q).elim (h.no x hx) (fun e => by have := (h.o.lt x hx).2; omega), g, hn.trans h.n⟩
theorem TOS.next (h : TOS w C wr b F N vl vo m f c i sn) : TOS w C wr b F N vl vo m f c (i + 1) sn := ⟨h.l, h.o, h.e.later (by omega) (Int.le_refl _), h.ne, h.nl, h.no, h.p, h.n⟩
end
set_option maxRecDepth 100000 in
set_option maxHeartbeats 40000000 in
theorem all_ways (sa : Option Addr) (sn sc : Nat) (sz : Nat → Int) (ra : Option Addr) (rn rc : Nat) (rz : Nat → Int) (p : Int) (aa : Option Addr) (an ac : Nat) (aq : Nat → Ac) (ha : Option Addr) (hn hc : Nat) (hz : Nat → Int) (w : World) (C : NtR w) (O : OdT w) (hs : NHanded w sa sn sz) (hr : NHanded w ra rn rz) (hp : In64 p) (hA : AHanded w aa an aq) (hH : NHanded w ha hn hz) (hHi : ∀ j, j < hn → In64 (hz j)) :
    Calls Try.prog 4 #[.slice sa sn sc, .slice ra rn rc, .int .i64 p, .slice aa an ac, .slice ha hn hc] w fun o w' => o = .returned (.bool true) ∧ Below w.heap.size w w' := by
  obtain ⟨i0, hi0, hz0, hz1, hz2⟩ := info_parts infoIntN
  obtain ⟨e0, he0, hy0, hy1, hy2⟩ := info_parts infoEventN
  obtain ⟨e, hE⟩ := beE_some sn sz rn rz p
  have c1 := one_is O w
  have cN := fun u hu => C.new sa sn sc sz ra rn rc rz p e u hu (hs.on hu) (hr.on hu) hp hE
  have HA : Hid (an = 0 ∨ ∃ b off : Nat, aa = some ⟨b, off, none⟩ ∧ Acs w b off an aq) := hA.2
  have HH : Hid (hn = 0 ∨ ∃ b off : Nat, ha = some ⟨b, off, none⟩ ∧ Nrd w b off hn hz) := hH.2
  have HHI : Hid (∀ j, j < hn → In64 (hz j)) := hHi
  have na := hA.1
  have nh := hH.1
  clear hs hr hp hA hH hHi
  go_enter Try.func4, Try.ntmps4
  by_cases z0 : e = 0
  case neg =>
    rw [errc_not z0] at cN
    clear HA HH HHI hE O
    go_wp2_with (first
      | (go_at_call 9; refine c1.mono ?_; rintro o u1 ⟨rfl, hb⟩; have B1 : Hid (Below w.heap.size w u1) := hb; clear hb)
      | (go_at_call 5; refine (cN _ B1.out).mono ?_; rintro o u2 ⟨pv, rfl, hb, hx⟩; have B2 : Hid (Below w.heap.size w u2) := rbel_on hb B1.out; clear hb hx))
    go_ret
    exact ⟨rfl, B2.out⟩
  subst z0
  have n16 : 1 ≤ sn ∧ sn ≤ 6 := by
    rcases hE with ⟨_, e⟩ | ⟨_, _, e⟩ | ⟨_, _, _, e⟩ | ⟨⟨_, _, c, d⟩, e, _⟩
    · cases e
    · cases e
    · cases e
    · exact ⟨c, d⟩
  obtain ⟨n1, n6⟩ := n16
  have cN2 : Hid (∀ u, Below w.heap.size w u → Calls Try.prog 5 #[.slice sa sn sc, .slice ra rn rc, .int .i64 p] u fun o w' => ∃ b F N, o = .returned (.tuple #[.pointer (some ⟨b, 0, none⟩), .nilIface]) ∧ Nv w C.toNt w' b F N ∧ N.W.n = sn) := fun u hu => (cN u hu).mono (by
    rintro o w' ⟨pv, rfl, hb, h⟩
    obtain ⟨b, F, rfl, h1, h2⟩ := h rfl
    rw [errc_zero]
    exact ⟨b, F, _, rfl, ⟨h1, Nn.made_t hE, fun k hk => Nat.le_trans hu.size (h2 k hk), rbel_on hb hu⟩, rfl⟩)
  have cR : Hid (∀ u b F N (i : Nat), Nv w C.toNt u b F N → i < N.W.n → Calls Try.prog 10 #[.pointer (some ⟨b, 0, none⟩), .int .i64 i] u fun o w' => o = .returned (.tuple #[.int .i64 (N.W.rd i), .nilIface]) ∧ Below u.heap.size u w') := fun u b F N i g hi => (C.read b F N i u g.h g.t (in64N (by have := g.t.g.i.n6; omega))).mono (by
    rintro o w' ⟨h, hb⟩
    rcases h with ⟨_, rfl⟩ | ⟨h, _⟩
    · rw [Int.toNat_natCast, errc_zero]
      exact ⟨rfl, hb⟩
    · exact absurd ⟨by omega, by omega⟩ h)
  clear cN hE
  go_wp2_with (first
    | (go_at_call 9; refine c1.mono ?_; rintro o u1 ⟨rfl, hb⟩; have B1 : Hid (Below w.heap.size w u1) := hb; clear hb)
    | (go_at_call 5; refine (cN2.out _ B1.out).mono ?_; rintro o u2 ⟨b, F, N, rfl, hg, hN⟩; have T0 : Hid (TOS w C u2 b F N (.slice none 0 0) (.slice none 0 0) 0 (fun _ => ⟨0, 0, 0⟩) (fun _ => 0) 0 sn) := ⟨World.ownsRow_nil _ _ _ _, World.ownsRow_nil _ _ _ _, EvI.none, (fun g e => by cases e), (fun g e => by cases e), (fun g e => by cases e), hg, hN⟩; clear hg hN))
  clear c1 cN2 B1
  go_loopw [14, 15, 16, 17, 18, 19, 20, 21] (fun vl vo vi _ _ _ _ _ wr => ∃ (i m : Nat) (F : Nat → Prop) (N : Nn) (f : Nat → Ev) (c : Nat → Int), i ≤ an ∧ i ≤ 60 ∧ i ≤ hn ∧ vi = .int .i64 i ∧ TOS w C wr b F N vl vo m f c i sn) (fun _ _ vi _ _ _ _ _ _ => 60 - (intOf vi).toNat)
  case atStart => exact ⟨0, 0, F, N, _, _, Nat.zero_le _, by omega, Nat.zero_le _, rfl, T0.out⟩
  case round =>
    clear T0
    clear F N
    obtain ⟨i, m, F, N, f, c, h1, h2, h3, rfl, hT⟩ := hrel
    have T : Hid (TOS w C wr b F N u14 u15 m f c i sn) := hT
    have m12 := hT.e.m12
    obtain ⟨la, lcap, rfl, hV⟩ := own_eventsN hT.l (by omega)
    obtain ⟨oa, ocap, rfl, hO, _⟩ := own_intsN hT.o (by omega)
    have hlc := own_capE hT.l rfl
    have hoc := own_capE hT.o rfl
    by_cases hlt : i < an ∧ i < 60 ∧ i < hn
    case neg =>
      have hc : ¬ ((i : Int) < an) ∨ ((i : Int) < an ∧ ¬ ((i : Int) < 60)) ∨ ((i : Int) < an ∧ (i : Int) < 60 ∧ ¬ ((i : Int) < hn)) := by omega
      obtain ⟨k1, k2, k3⟩ := hT.e.could
      have cC := O.could la m lcap f oa ocap wr hT.p.hw hV hlc hO hoc k1 k2 k3
      have cT : Hid (∀ u, Below wr.heap.size wr u → Calls Try.prog 13 #[.slice la m lcap, .slice oa m ocap] u fun r w' => ∃ (ta : Option Addr) (tc : Nat), r = .returned (.tuple #[.slice ta m tc, .nilIface]) ∧ Below u.heap.size u w') := fun u hu => O.times la m lcap f oa ocap u (rbel_on hu T.out.p.hw) (hV.on hu) hlc (hO.on hu) hoc k1 k2 k3
      clear hT hV hO O cR HA HH HHI k1 k2 k3
      rcases hc with h | ⟨h, h'⟩ | ⟨h, h', h''⟩
      all_goals
        go_wp2_with (first
          | (go_at_call 12; refine cC.mono ?_; rintro o x1 ⟨rfl, hb⟩; have X1 : Hid (Below wr.heap.size wr x1) := hb; clear hb)
          | (go_at_call 13; refine (cT.out _ X1.out).mono ?_; rintro o x2 ⟨ta, tc, rfl, hb⟩; have X2 : Hid (Below wr.heap.size wr x2) := rbel_on hb X1.out; clear hb))
        go_ret
        exact ⟨by first | rfl | simp, rbel_on X2.out T.out.p.hw⟩
    obtain ⟨q1, q2, q3⟩ := hlt
    have g1 : (i : Int) < an := by omega
    have g2 : (i : Int) < 60 := by omega
    have g3 : (i : Int) < hn := by omega
    obtain ⟨ab, off, rfl, hZ⟩ : ∃ b off : Nat, aa = some ⟨b, off, none⟩ ∧ Acs w b off an aq := HA.out.resolve_left (by omega)
    obtain ⟨hb0, ho, rfl, hX⟩ : ∃ b off : Nat, ha = some ⟨b, off, none⟩ ∧ Nrd w b off hn hz := HH.out.resolve_left (by omega)
    obtain ⟨z0, z1, z2, i1, i2, i3⟩ := hZ i q1
    have zx := hX i q3
    have hzi := HHI.out i q3
    have lab := World.block_lt_of_cell? _ _ z0
    have lhb := World.block_lt_of_cell? _ _ zx
    have hw := hT.p.hw
    have s0 := (hw.cell (p := ⟨ab, off + i * 3, none⟩) lab).trans z0
    have s1 := (hw.cell (p := ⟨ab, off + i * 3 + 1, none⟩) lab).trans z1
    have s2 := (hw.cell (p := ⟨ab, off + i * 3 + 2, none⟩) lab).trans z2
    have HC : Hid (∀ u : World, Below w.heap.size w u → u.cell? ⟨hb0, ho + i, none⟩ = some (.int .i64 (hz i))) := fun u hu => (hu.cell (p := ⟨hb0, ho + i, none⟩) lhb).trans zx
    have lw : ab < wr.heap.size := Nat.lt_of_lt_of_le lab hw.size
    obtain ⟨N2, e, hD⟩ := nDoR_some hT.p.t (aq i).wh (aq i).a (aq i).b
    obtain ⟨tT, tn, _⟩ := hD.t hT.p.t
    have rs := hD.rise hT.p.t (i := 0) (by have := hT.n; omega)
    have cD : Hid (∀ u, TOS w C u b F N (.slice la m lcap) (.slice oa m ocap) m f c i sn → Calls Try.prog 6 #[.pointer (some ⟨b, 0, none⟩), .agg #[.int .i64 (aq i).wh, .int .i64 (aq i).a, .int .i64 (aq i).b]] u fun o w' => ∃ F', o = .returned (errc e) ∧ TOS w C w' b F' N2 (.slice la m lcap) (.slice oa m ocap) m f c i sn) := fun u g => (g.p.act i1 i2 i3 hD).mono (by
      rintro o w' ⟨F', rfl, h1, h2, h3⟩
      exact ⟨F', rfl, g.go h1 h2 h3 rs tn⟩)
    clear hT hV hO hZ hX z0 z1 z2 zx hw i1 i2 i3 hD rs HA HH HHI
    generalize (aq i).wh = wh at *
    generalize (aq i).a = xa at *
    generalize (aq i).b = xb at *
    generalize hz i = zi at *
    generalize errc e = ev at *
    go_upto_region 13 with (go_at_call 6; refine (cD.out _ T.out).mono ?_; rintro o x1 ⟨F1, rfl, hg⟩; have T1 : Hid (TOS w C x1 b F1 N2 (.slice la m lcap) (.slice oa m ocap) m f c i sn) := hg; have hc1 := HC.out x1 hg.p.hw; have zc1 := World.block_lt_of_cell? _ _ hc1; clear hg)
    clear T cD s0 s1 s2
    by_cases d12 : m = 12
    · subst d12
      clear cR O
      go_wp2
      go_roundw
      case rel => exact ⟨i + 1, _, F1, N2, f, c, by omega, by omega, by omega, by go_num, T1.out.next⟩
      case measure => simp [intOf]; omega
    have e12 : ((m : Int) == 12) = false := by simpa using (fun q => d12 (by omega))
    by_cases dz : 0 ≤ zi ∧ zi < sn
    case neg =>
      have dd : zi < 0 ∨ (¬ zi < 0 ∧ (sn : Int) ≤ zi) := by omega
      clear cR O dz
      rcases dd with d | ⟨d, d'⟩
      all_goals
        go_wp2
        go_roundw
        case rel => exact ⟨i + 1, _, F1, N2, f, c, by omega, by omega, by omega, by go_num, T1.out.next⟩
        case measure => simp [intOf]; omega
    obtain ⟨j, rfl⟩ : ∃ j : Nat, zi = j := ⟨zi.toNat, by omega⟩
    have d1 : ¬ ((j : Int) < 0) := by omega
    have d2 : ¬ ((sn : Int) ≤ (j : Int)) := by omega
    have TN := T1.out.n
    obtain ⟨T0, hA0⟩ := eoN_all tT
    obtain ⟨lo, hi, e5, hB⟩ := betA_some (egs_e (eoN_egs tT)) hA0 (j : Int) ((0 : Nat) : Int)
    have cO := C.off b F1 N2 j ((0 : Nat) : Int) lo hi e5 x1 T1.out.p.h tT (in64N (by omega)) (by decide) hB
    have hbt := eoN_bet tT (a := j) (b := ((0 : Nat) : Int)) ⟨by omega, by omega, by omega, by omega⟩ hB
    rw [Int.toNat_natCast, Int.toNat_natCast] at hbt
    rcases hbt with ⟨rfl, rfl, rfl, _⟩ | ⟨rfl, b1, b2, _, _, x1', x2'⟩
    · rw [errc_not (by decide)] at cO
      clear cR O hA0 hB
      go_wp2_with (go_at_call 7; refine cO.mono ?_; rintro o x2 ⟨rfl, hb⟩; have T2 : Hid (TOS w C (x2.alloc (.cells #[.int .i64 0, .int .i64 0] 32)) b F1 N2 (.slice la m lcap) (.slice oa m ocap) m f c i sn) := (T1.out.on hb).on (rbel_al (Below.refl _ _)); clear hb)
      go_roundw
      case rel => exact ⟨i + 1, m, F1, N2, f, c, by omega, by omega, by omega, by go_num, T2.out.next⟩
      case measure => simp [intOf]; omega
    rw [errc_zero] at cO
    have n1' := eoN_near tT (i := j) (k := 0) (by omega) (by omega) x1'
    have n2' := eoN_near tT (i := 0) (k := j) (by omega) (by omega) x2'
    have rj := rd_t tT (i := j) (by omega)
    have r0 := rd_t tT (i := 0) (by omega)
    have ok1 : okB lo hi = true := okB_mk ⟨by omega, by omega, by omega⟩
    have ok3 : okB (lo + N2.W.rd j) (hi + N2.W.rd j) = true := okB_mk ⟨by omega, by omega, by omega⟩
    have cA := fun u => O.add lo hi (N2.W.rd j) (N2.W.rd j) u ok1 (okB_mk ⟨by omega, by omega, by omega⟩) ok3
    have cS : Hid (∀ u, Below x1.heap.size x1 u → Calls Try.prog 10 #[.pointer (some ⟨b, 0, none⟩), .int .i64 j] u fun o w' => o = .returned (.tuple #[.int .i64 (N2.W.rd j), .nilIface]) ∧ Below u.heap.size u w') := fun u hu => cR.out u b F1 N2 j (T1.out.p.on hu) (by omega)
    have EV : Hid (EvI (m + 1) (fun t => if t = m then ⟨i, lo + N2.W.rd j, hi + N2.W.rd j⟩ else f t) (fun t => if t = m then N2.W.rd 0 else c t) (i + 1) (N2.W.rd 0)) := T1.out.e.more (by omega) ok3 (by omega) (by omega)
    have XV : Hid (vcn (fun t => if t = m then ⟨i, lo + N2.W.rd j, hi + N2.W.rd j⟩ else f t) (m + 1) = vcn f m ++ [.int .i64 (i : Int), .int .i64 (lo + N2.W.rd j), .int .i64 (hi + N2.W.rd j)]) := by
      show vcn _ m ++ [.int .i64 (if m = m then (⟨i, lo + N2.W.rd j, hi + N2.W.rd j⟩ : Ev) else f m).id, .int .i64 (if m = m then (⟨i, lo + N2.W.rd j, hi + N2.W.rd j⟩ : Ev) else f m).lo, .int .i64 (if m = m then (⟨i, lo + N2.W.rd j, hi + N2.W.rd j⟩ : Ev) else f m).hi] = _
      rw [vcn_congr (g := f) m (fun t ht => if_neg (by omega)), if_pos rfl]
    have XI : Hid (icn (fun t => (t : Int)) (m + 1) = icn (fun t => (t : Int)) m ++ [.int .i64 (m : Int)]) := rfl
    clear hA0 hB b1 b2 x1' x2' n1' n2' ok1 ok3 cR O
    generalize N2.W.rd j = rv at *
    generalize lo + rv = lv at *
    generalize hi + rv = hv at *
    go_upto_region 20 with (first
      | (go_at_call 7; refine cO.mono ?_; rintro o x2 ⟨rfl, hb⟩; have B2 : Hid (Below x1.heap.size x1 (x2.alloc (.cells #[.int .i64 lo, .int .i64 hi] 32))) := rbel_al hb; have R2 : Hid (Row (x2.alloc (.cells #[.int .i64 lo, .int .i64 hi] 32)) x2.heap.size [.int .i64 lo, .int .i64 hi]) := Row.made rfl; have hc2 := (B2.out.cell (p := ⟨hb0, ho + i, none⟩) zc1).trans hc1; have zc2 : hb0 < (x2.alloc (.cells #[.int .i64 lo, .int .i64 hi] 32)).heap.size := World.block_lt_of_cell? _ _ hc2; clear hb)
      | (go_at_call 10; refine (cS.out _ B2.out).mono ?_; rintro o x3 ⟨rfl, hb⟩; have B3 : Hid (Below x1.heap.size x1 x3) := rbel_on hb B2.out; have r30 := (Row.on hb R2.out).c 0 _ rfl; have r31 := (Row.on hb R2.out).c 1 _ rfl; have zr3 := (Row.on hb R2.out).lt; clear hb)
      | (go_at_call 11; refine (cA _).mono ?_; rintro o x4 ⟨rfl, hb⟩; have B4 : Hid (Below x1.heap.size x1 (x4.alloc (.cells #[.int .i64 lv, .int .i64 hv] 32))) := rbel_al (rbel_on hb B3.out); have S4 : Hid (x1.heap.size ≤ x4.heap.size) := (rbel_on hb B3.out).size; have R4 : Hid (Row (x4.alloc (.cells #[.int .i64 lv, .int .i64 hv] 32)) x4.heap.size [.int .i64 lv, .int .i64 hv]) := Row.made rfl; clear hb))
    have T4 : Hid (TOS w C (x4.alloc (.cells #[.int .i64 lv, .int .i64 hv] 32)) b F1 N2 (.slice la m lcap) (.slice oa m ocap) m f c i sn) := T1.out.on B4.out
    have NV : Hid ((Value.slice oa m ocap).ownBlock ≠ some x4.heap.size) := fun e => by have := (T1.out.o.lt _ e).2; have := S4.out; omega
    clear T1 B2 B3 B4 R2 S4 hc1 hc2 zc1 zc2 r30 r31 zr3 cO cS cA
    generalize x4.alloc (.cells #[.int .i64 lv, .int .i64 hv] 32) = X at *
    generalize x4.heap.size = V at *
    have zX := T4.out.p.hw.size
    have OO : Hid (X.ownsRow w.heap.size 3 1 (.slice oa m ocap) m (icn (fun t => (t : Int)) m)) := T4.out.o
    generalize icn (fun t => (t : Int)) m = xo at *
    go_wp2_with (at_builtin; refine wpList_append_own_at _ rfl _ _ 22 rfl w.heap.size 3 i0 (.int .i64 0) 1 8 Try.underlying22 hi0 hz0 hz1 hz2 rfl (by decide) (.slice oa m ocap) _ _ rfl (OO.out.alloc _) ⟨X.heap.size, 0, none⟩ 1 1 [.int .i64 (m : Int)] rfl rfl (fun q u hq => by rw [Addr.add_lit]; exact (Row.made (W := X) (vs := [.int .i64 (m : Int)]) rfl).c _ _ (by simpa using hq)) (fun u hu => by simp at hu; rw [hu]; rfl) (by unfold maxLen; omega) (by omega) (by simp; omega) ?_)
    intro v5 x5 own5 grow5 nn5 at5
    have NE5 : Hid (∀ g, g < X.heap.size → (Value.slice oa m ocap).ownBlock ≠ some g → v5.ownBlock ≠ some g) := fun g hg hv e => by
      rcases at5 with h | h
      · rw [h] at e; exact hv e
      · rw [h] at e
        have e2 := Option.some.inj e
        try simp at e2
        omega
    have O5 : Hid (x5.ownsRow w.heap.size 3 1 v5 (m + 1) (icn (fun t => (t : Int)) (m + 1))) := by
      show x5.ownsRow w.heap.size 3 1 v5 (m + 1) (icn (fun t => (t : Int)) (m + 1))
      rw [XI.out]
      exact own5
    have hw5 : Hid (Below w.heap.size w x5) := (rbel_al T4.out.p.hw).grown grow5 (by simp; omega) (fun g hg => (T4.out.o.lt g hg).1)
    have P5 : Hid (Nv w C.toNt x5 b F1 N2) := (T4.out.p.on (rbel_al (Below.refl _ _))).grown grow5 (fun k hk e => T4.out.no k e.symm hk) hw5.out
    have L5 : Hid (x5.ownsRow w.heap.size 44 3 (.slice la m lcap) m (vcn f m)) := own_grownN grow5 (fun g hg e => T4.out.ne g hg e.symm) (T4.out.l.alloc _)
    have N5 : Hid (∀ g, v5.ownBlock = some g → ¬ F1 g) := fun g hg q => by
      have lt := C.lt T4.out.p.h g q
      exact NE5.out g lt (fun e => T4.out.no g e q) hg
    have M5 : Hid (∀ g, (Value.slice la m lcap).ownBlock = some g → v5.ownBlock ≠ some g) := fun g hg => NE5.out g (T4.out.l.lt g hg).2 (T4.out.ne g hg)
    have R5 : Hid (Row x5 V [.int .i64 lv, .int .i64 hv]) := row_grown grow5 (by have := R4.out.lt; simp; omega) NV.out (Row.al R4.out)
    have z5 := hw5.out.size
    have v50 := R5.out.c 0 _ rfl
    have v51 := R5.out.c 1 _ rfl
    have zv5 := R5.out.lt
    have E5 : Hid (∀ g, (Value.slice la m lcap).ownBlock = some g → w.heap.size ≤ g) := fun g hg => (L5.out.lt g hg).1
    have G5 : Hid (∀ g, (Value.slice la m lcap).ownBlock = some g → ¬ F1 g) := T4.out.nl
    have NN : Hid (N2.W.n = sn) := T4.out.n
    clear own5 grow5 nn5 at5 OO T4 R4 NV NE5
    generalize vcn f m = xl at *
    go_wp2_with (at_builtin; refine wpList_append_own_at _ rfl _ _ 40 rfl w.heap.size 44 e0 _ 3 24 Try.underlying40 he0 hy0 hy1 hy2 rfl (by decide) (.slice la m lcap) _ _ rfl (L5.out.alloc _) ⟨x5.heap.size, 0, none⟩ 1 1 [.int .i64 (i : Int), .int .i64 lv, .int .i64 hv] rfl rfl (fun q u hq => by rw [Addr.add_lit]; exact (Row.made (W := x5) (vs := [.int .i64 (i : Int), .int .i64 lv, .int .i64 hv]) rfl).c _ _ (by simpa using hq)) (fun u hu => by simp at hu; rcases hu with rfl | rfl | rfl <;> rfl) (by unfold maxLen; omega) (by omega) (by simp; omega) ?_)
    intro v6 x6 own6 grow6 nn6 at6
    have T6 : Hid (TOS w C x6 b F1 N2 v6 v5 (m + 1) (fun t => if t = m then ⟨i, lv, hv⟩ else f t) (fun t => if t = m then N2.W.rd 0 else c t) (i + 1) sn) := by
      have NE6 : ∀ g, g < x5.heap.size → (Value.slice la m lcap).ownBlock ≠ some g → v6.ownBlock ≠ some g := fun g hg hv e => by
        rcases at6 with h | h
        · rw [h] at e; exact hv e
        · rw [h] at e
          have e2 := Option.some.inj e
          try simp at e2
          omega
      have hw6 : Below w.heap.size w x6 := (rbel_al hw5.out).grown grow6 (by simp; omega) E5.out
      refine ⟨by rw [XV.out]; exact own6, own_grownN grow6 (fun g hg e => M5.out g e.symm hg) (O5.out.alloc _), EV.out, fun g hg q => ?_, fun g hg q => ?_, N5.out, (P5.out.on (rbel_al (Below.refl _ _))).grown grow6 (fun k hk e => G5.out k e.symm hk) hw6, NN.out⟩
      · have lt := (O5.out.lt g q).2
        exact NE6 g lt (fun e => M5.out g e q) hg
      · have lt := C.lt P5.out.h g q
        exact NE6 g lt (fun e => G5.out g e q) hg
    clear own6 grow6 nn6 at6 O5 L5 P5 M5 N5 E5 G5 EV XV XI
    go_wp2
    go_roundw
    case rel => exact ⟨i + 1, m + 1, F1, N2, _, _, by omega, by omega, by omega, by go_num, T6.out⟩
    case measure => simp [intOf]; omega
end Go.Proofs.Ytnagdjipmpjaaai.topOrders
