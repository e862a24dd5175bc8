/- The ways through the law WorldGoes. -/
import Derived.Test.YtkmbllkkccelaahWorldDef
import Derived.Test.YtkmbllkkccelaahWorldGoesM
import Derived.Test.YtkmbllkkccelaahDriftLocal
import Derived.Maps.AppendAt
import Derived.Laws.AppendOwnNone
import Derived.Lib.SmallJoins
import Derived.OwnWalk
import Derived.BigQuiet
import Derived.Deep.QuietTactic
import Derived.Deep.RegionWith
import Derived.Deep.CutRange
import Derived.Deep.CutBlock
import Derived.IntWalk
namespace Go.Proofs.Ytkmbllkkccelaah.worldGoes
open Go.ChangeShapes Go.WideShapes Go.ChangeAt Go.RowKit Go.Joins
set_option linter.unusedVariables false
set_option linter.unusedSimpArgs false

section
variable {w0 u v : World} {b : Nat} {F : Nat → Prop} {S : Ws}
theorem stay (C : Wp w0) (h : C.R u b F S) (hb : Below u.heap.size u v) : C.R v b F S := C.on h hb.size (fun k hk => hb.block k (C.lt h k hk))
theorem grows (C : Wp w0) {row : Option Nat} (h : C.R u b F S) (hg : u.grownBy v row) (hn : ∀ k, F k → some k ≠ row) : C.R v b F S := C.on h hg.size (fun k hk => hg.block k (C.lt h k hk) (hn k hk))
end
/-- A world of clocks as the law has it on the way. -/
structure Gst (w : World) (C : Wp w) (u : World) (b : Nat) (F : Nat → Prop) (S : Ws) (n : Nat) (r : Nat → Int) : Prop where
  h : C.R u b F S
  i : S.I
  sn : S.n = n
  sr : S.rates = r
  lo : ∀ k, F k → w.heap.size ≤ k
  hw : Below w.heap.size w u
theorem Gst.on {w u v : World} {C : Wp w} {b : Nat} {F : Nat → Prop} {S : Ws} {n : Nat} {r : Nat → Int} (g : Gst w C u b F S n r) (hb : Below u.heap.size u v) : Gst w C v b F S n r := ⟨stay C g.h hb, g.i, g.sn, g.sr, g.lo, rbel_on hb g.hw⟩
/-- Numbers as cells. -/
def icw (t : Nat → Int) : Nat → List Value
  | 0 => []
  | m + 1 => icw t m ++ [.int .i64 (t m)]
theorem icw_len (t : Nat → Int) : ∀ m, (icw t m).length = m
  | 0 => rfl
  | m + 1 => by simp [icw, icw_len t m]
theorem icw_at (t : Nat → Int) : ∀ {m i : Nat}, i < m → (icw t m)[i]? = some (.int .i64 (t i))
  | 0, i, h => by omega
  | m + 1, i, h => by
    simp only [icw]
    by_cases c : i = m
    · subst c
      rw [List.getElem?_append_right (by rw [icw_len]; omega), icw_len]
      simp
    · rw [List.getElem?_append_left (by rw [icw_len]; omega)]
      exact icw_at t (by omega)
theorem infoIntW : (Try.prog.info? 3).map (fun i => (i.zero, i.size, i.bytes)) = some (some (.int .i64 0), 1, 8) := by kernel_rfl
theorem own_onW {W u : World} {base n size : Nat} {e : TypeId} {v : Value} {xs : List Value} (hb : Below W.heap.size W u) (h : W.ownsRow base e size v n xs) : u.ownsRow base e size v n xs := by
  refine ⟨h.1, ?_⟩
  rcases h.2 with h' | ⟨g, cap, cur, h1, h2, h3, h4⟩
  · exact Or.inl h'
  · refine Or.inr ⟨g, cap, cur, h1, h2, (hb.block g ?_).trans h3, h4⟩
    rcases Nat.lt_or_ge g W.heap.size with hlt | hge
    · exact hlt
    · rw [Array.getElem?_eq_none hge] at h3; cases h3
theorem lit64 (x : Int) (h : -9223372036854775808 ≤ x ∧ x ≤ 9223372036854775807) : (Lit.int .i64 x).wf = true := by
  simp [Lit.wf, IntKind.min, IntKind.max, IntKind.signed, IntKind.bits]
  omega
/-- The law's own world. -/
def zO (i : Nat) : Int := if i = 0 then 5 else 7
def rO (i : Nat) : Int := if i = 0 then 100 else -100
theorem beO : BeE 2 zO 2 rO 100 0 := Or.inr (Or.inr (Or.inr ⟨by omega, rfl, fun i hi => by
  have : i = 0 ∨ i = 1 := by omega
  rcases this with rfl | rfl
  · exact ⟨by decide, by decide, by decide, by decide⟩
  · exact ⟨by decide, by decide, by decide, by decide⟩, rfl⟩))
theorem row2 {W : World} {B : Nat} {z : Nat → Int} (r : Row W B [.int .i64 (z 0), .int .i64 (z 1)]) : NHanded W (some ⟨B, 0, none⟩) 2 z := ⟨by omega, Or.inr ⟨B, 0, rfl, fun i hi => by
  have : i = 0 ∨ i = 1 := by omega
  rcases this with rfl | rfl
  · exact r.c 0 _ rfl
  · exact r.c 1 _ rfl⟩⟩
theorem doO : DoR (ws0 2 zO rO) 1 100000 0 { ws0 2 zO rO with time := 0 + 100000 } none 0 := Or.inr (Or.inl ⟨rfl, ⟨by decide, by decide, by decide⟩, rfl, rfl, rfl⟩)
theorem rdO : ({ ws0 2 zO rO with time := 0 + 100000 } : Ws).rd 1 = 99997 := by decide
theorem local_in {x p : Int} (a : 0 ≤ x) (b : x ≤ 1000000) (c : 0 ≤ p) (d : p ≤ 1000) : rdy x p = true ∧ okB (x * (1000000 - p) / 1000000) ((x * (1000000 + p) + 1000000 - 1) / 1000000) = true ∧ 0 ≤ x * (1000000 - p) / 1000000 ∧ x * (1000000 - p) / 1000000 ≤ 1001002 ∧ 0 ≤ (x * (1000000 + p) + 1000000 - 1) / 1000000 ∧ (x * (1000000 + p) + 1000000 - 1) / 1000000 ≤ 1001002 := by
  have x1 : 0 ≤ x * p := Int.mul_nonneg a c
  have x2 : 0 ≤ x * (1000 - p) := Int.mul_nonneg a (by omega)
  have e2 : x * (1000 - p) = x * 1000 - x * p := by grind
  have e3 : x * (1000000 - p) = x * 1000000 - x * p := by grind
  have e4 : x * (1000000 + p) = x * 1000000 + x * p := by grind
  rw [e3, e4]
  rw [e2] at x2
  generalize x * p = t at *
  exact ⟨decide_eq_true (by omega), okB_mk (by omega), by omega, by omega, by omega, by omega⟩
set_option maxRecDepth 100000 in
set_option maxHeartbeats 40000000 in
theorem all_ways (sa : Option Addr) (n sc : Nat) (z : Nat → Int) (ra : Option Addr) (m rc : Nat) (r : Nat → Int) (ppm : Int) (ga : Option Addr) (L gc : Nat) (q : Nat → Int) (w : World) (C : Wp w) (hS : NHanded w sa n z) (hR : NHanded w ra m r) (hp : In64 ppm) (hG : NHanded w ga L q) (hq : ∀ j, j < L → In64 (q j)) :
    Calls Try.prog 3 #[.slice sa n sc, .slice ra m rc, .int .i64 ppm, .slice ga L gc] w fun o w' => o = .returned (.bool true) ∧ Below w.heap.size w w' := by
  obtain ⟨e, hE⟩ := beE_some n z m r ppm
  have LL : L ≤ 9223372036854775807 := hG.1
  have HG : Hid (∀ u, Below w.heap.size w u → NHanded u ga L q) := fun u hu => hG.on hu
  have HQ : Hid (∀ j, j < L → In64 (q j)) := hq
  have cN0 : Hid (∀ u B1 B2, Below w.heap.size w u → Row u B1 [.int .i64 5, .int .i64 7] → Row u B2 [.int .i64 100, .int .i64 (-100)] → Calls Try.prog 4 #[.slice (some ⟨B1, 0, none⟩) 2 2, .slice (some ⟨B2, 0, none⟩) 2 2, .int .i64 100] u fun o w' => ∃ b F, o = .returned (.tuple #[.pointer (some ⟨b, 0, none⟩), .nilIface]) ∧ Gst w C w' b F (ws0 2 zO rO) 2 rO) := fun u B1 B2 hu r1 r2 => (C.new (some ⟨B1, 0, none⟩) 2 2 zO (some ⟨B2, 0, none⟩) 2 2 rO 100 0 u hu (row2 r1) (row2 r2) (by decide) beO).mono (by
    rintro o w' ⟨pv, rfl, hb, h⟩
    obtain ⟨b, F, rfl, h1, h2⟩ := h rfl
    rw [errc_zero]
    exact ⟨b, F, rfl, h1, ws0_i beO, rfl, rfl, fun k hk => Nat.le_trans hu.size (h2 k hk), rbel_on hb hu⟩)
  have cD : Hid (∀ u b F S n' r' (x e : Int) S', Gst w C u b F S n' r' → In64 x → DoR S 1 x 0 S' none e → Calls Try.prog 5 #[.pointer (some ⟨b, 0, none⟩), .agg #[.int .i64 1, .int .i64 x, .int .i64 0]] u fun o w' => ∃ F', o = .returned (.tuple #[.pointer none, errc e]) ∧ Gst w C w' b F' S' n' r' ∧ Keeps F u w' ∧ ∀ k, F' k → F k ∨ u.heap.size ≤ k) := fun u b F S n' r' x e S' g hx hD => (C.act b F S S' 1 x 0 e none u g.h g.i (by decide) hx (by decide) hD).mono (by
    rintro o w' ⟨pv, F', rfl, hc, h1, hK, hF⟩
    rcases hc with ⟨_, rfl⟩ | ⟨l, g', e', _⟩
    · have sz := g.hw.size
      have hSn : S'.n = S.n ∧ S'.rates = S.rates := by
        rcases hD with ⟨_, _, rfl, _⟩ | ⟨_, _, rfl, _⟩ | ⟨h, _⟩ | ⟨h, _⟩ | ⟨h, _⟩ | ⟨h, _⟩ | ⟨h, _⟩ | ⟨h, _⟩ | ⟨h, _⟩ | ⟨h, _⟩ | ⟨h, _⟩
        · exact ⟨rfl, rfl⟩
        · exact ⟨rfl, rfl⟩
        all_goals omega
      exact ⟨F', rfl, ⟨h1, hD.i g.i, hSn.1.trans g.sn, hSn.2.trans g.sr, fun k hk => (hF k hk).elim (g.lo k) (fun h => Nat.le_trans sz h), g.hw.trans (hK.below sz g.lo)⟩, hK, hF⟩
    · cases e')
  have cR : Hid (∀ u b F S n' r' (i : Nat), Gst w C u b F S n' r' → i < n' → n' ≤ 6 → Calls Try.prog 6 #[.pointer (some ⟨b, 0, none⟩), .int .i64 i] u fun o w' => o = .returned (.tuple #[.int .i64 (S.rd i), .nilIface]) ∧ Below u.heap.size u w') := fun u b F S n' r' i g hi h6 => (C.read b F S i u g.h g.i (lit64 i (by omega))).mono (by
    rintro o w' ⟨h, hb⟩
    rcases h with ⟨_, rfl⟩ | ⟨h, _⟩
    · rw [Int.toNat_natCast, errc_zero]
      exact ⟨rfl, hb⟩
    · exact absurd ⟨by omega, by rw [g.sn]; omega⟩ h)
  have cT : Hid (∀ u b F S n' r', Gst w C u b F S n' r' → Calls Try.prog 7 #[.pointer (some ⟨b, 0, none⟩)] u fun o w' => o = .returned (.int .i64 S.time) ∧ Below u.heap.size u w') := fun u b F S n' r' g => C.time b F S u g.h g.i
  have cN := fun u hu => C.new sa n sc z ra m rc r ppm e u hu (hS.on hu) (hR.on hu) hp hE
  have HB1 : Hid (Below w.heap.size w ((w.alloc (.cells #[.int .i64 5, .int .i64 7] 3)).alloc (.cells #[.int .i64 100, .int .i64 (-100)] 3))) := rbel_al (rbel_al (Below.refl _ _))
  have R1 : Hid (Row ((w.alloc (.cells #[.int .i64 5, .int .i64 7] 3)).alloc (.cells #[.int .i64 100, .int .i64 (-100)] 3)) w.heap.size [.int .i64 5, .int .i64 7]) := Row.al (Row.made (vs := [.int .i64 5, .int .i64 7]) rfl)
  have R2 : Hid (Row ((w.alloc (.cells #[.int .i64 5, .int .i64 7] 3)).alloc (.cells #[.int .i64 100, .int .i64 (-100)] 3)) (w.heap.size + 1) [.int .i64 100, .int .i64 (-100)]) := Row.made (vs := [.int .i64 100, .int .i64 (-100)]) (by simp)
  have cnt : Mark 0 := .mk _
  clear hS hR hG hq
  go_enter Try.func3, Try.ntmps3
  go_upto_region 8 with (first
    | (go_at_call 4; refine (cN0.out _ _ _ HB1.out R1.out R2.out).mono ?_; rintro o u0 ⟨b0, F0, rfl, hg⟩; have G0 : Hid (Gst w C u0 b0 F0 (ws0 2 zO rO) 2 rO) := hg; clear hg)
    | (go_at_call 5; have c1 := cD.out _ _ _ _ _ _ 100000 0 _ G0.out (by decide) doO; rw [errc_zero] at c1; refine c1.mono ?_; clear c1; rintro o u1 ⟨F1, rfl, hg, _, _⟩; have G1 : Hid (Gst w C u1 b0 F1 _ 2 rO) := hg; clear hg)
    | (go_at_call 6; have c1 := cR.out _ _ _ _ _ _ 1 G1.out (by decide) (by decide); rw [rdO] at c1; refine c1.mono ?_; clear c1; rintro o u2 ⟨rfl, hb⟩; have HW2 : Hid (Below w.heap.size w u2) := rbel_on hb G1.out.hw; clear hb))
  clear HB1 R1 R2 cN0 G0 G1 cnt
  by_cases z0 : e = 0
  case neg =>
    have qe := errc_not z0
    rw [qe] at cN
    clear cD cR cT HG HQ hE qe
    go_wp2_with (go_at_call 4; refine (cN _ HW2.out).mono ?_; rintro o u3 ⟨pv, rfl, hb, _⟩; have HW3 : Hid (Below w.heap.size w u3) := rbel_on hb HW2.out; clear hb)
    go_ret
    exact ⟨rfl, HW3.out⟩
  subst z0
  have HI0 : Hid ((ws0 n z r).I) := ws0_i hE
  obtain ⟨p0, p1, n1, n6, hrt⟩ : 0 ≤ ppm ∧ ppm ≤ 1000 ∧ 1 ≤ n ∧ n ≤ 6 ∧ ∀ i, i < n → -ppm ≤ r i ∧ r i ≤ ppm := by
    rcases hE with ⟨_, e⟩ | ⟨_, _, e⟩ | ⟨_, _, _, e⟩ | ⟨⟨a, b, c, d⟩, _, q, _⟩
    · cases e
    · cases e
    · cases e
    · exact ⟨a, b, c, d, fun i hi => ⟨(q i hi).2.2.1, (q i hi).2.2.2⟩⟩
  have HRt : Hid (∀ i, i < n → -ppm ≤ r i ∧ r i ≤ ppm) := hrt
  have cN2 : Hid (∀ u, Below w.heap.size w u → Calls Try.prog 4 #[.slice sa n sc, .slice ra m rc, .int .i64 ppm] u fun o w' => ∃ b F, o = .returned (.tuple #[.pointer (some ⟨b, 0, none⟩), .nilIface]) ∧ Gst w C w' b F (ws0 n z r) n r) := fun u hu => (cN u hu).mono (by
    rintro o w' ⟨pv, rfl, hb, h⟩
    obtain ⟨b, F, rfl, h1, h2⟩ := h rfl
    rw [errc_zero]
    exact ⟨b, F, rfl, h1, HI0.out, rfl, rfl, fun k hk => Nat.le_trans hu.size (h2 k hk), rbel_on hb hu⟩)
  obtain ⟨i0, hi0, hz0, hz1, hz2⟩ := info_parts infoIntW
  clear hE hrt cN HI0
  go_wp2_with (go_at_call 4; refine (cN2.out _ HW2.out).mono ?_; rintro o u3 ⟨b, F, rfl, hg⟩; have G3 : Hid (Gst w C u3 b F (ws0 n z r) n r) := hg; clear hg)
  clear HW2 cN2
  go_loopw [15, 16, 17, 18, 19, 20, 21, 22, 23, 24, 25, 26] (fun vg _ _ _ _ _ _ _ _ _ _ _ wr => ∃ (g : Nat) (F : Nat → Prop) (S : Ws), vg = .int .i64 g ∧ g ≤ L ∧ Gst w C wr b F S n r) (fun g _ _ _ _ _ _ _ _ _ _ _ _ => L - (intOf g).toNat)
  case atStart => exact ⟨0, F, _, rfl, Nat.zero_le _, G3.out⟩
  case round =>
    clear G3
    obtain ⟨g, F, S, rfl, hgL, hG⟩ := hrel
    have G : Hid (Gst w C wr b F S n r) := hG
    clear hG
    by_cases hlt : g < L
    case neg =>
      have dl : decide ((g : Int) < L) = false := decide_eq_false (by omega)
      have hl : ¬ ((g : Int) < L) := by omega
      clear cD cR cT HG HQ HRt
      go_wp2
      go_ret
      exact ⟨rfl, G.out.hw⟩
    have hl : (g : Int) < L := by omega
    have dl : decide ((g : Int) < L) = true := decide_eq_true hl
    by_cases h20 : g < 20
    case neg =>
      have h20' : ¬ ((g : Int) < 20) := by omega
      clear cD cR cT HG HQ HRt
      go_wp2
      go_ret
      exact ⟨rfl, G.out.hw⟩
    have h20' : (g : Int) < 20 := by omega
    go_wp2
    go_loopw [16, 17, 18, 19] (fun v vi vn ve wr => ∃ i : Nat, i ≤ n ∧ vi = .int .i64 i ∧ wr.ownsRow w.heap.size 3 1 v i (icw S.rd i) ∧ (∀ k, F k → v.ownBlock ≠ some k) ∧ Gst w C wr b F S n r) (fun _ i _ _ _ => n - (intOf i).toNat)
    case atStart => exact ⟨0, Nat.zero_le _, rfl, World.ownsRow_nil _ _ _ _, (fun k _ e => by cases e), G.out⟩
    case round =>
      clear G
      obtain ⟨i, hi, rfl, hown, hne, hG⟩ := hrel
      have G : Hid (Gst w C wr b F S n r) := hG
      have zz := hG.hw.size
      by_cases hin : i < n
      · have hl3 : (i : Int) < n := by omega
        have dl3 : decide ((i : Int) < n) = true := decide_eq_true hl3
        have hl6 : (i : Int) < 6 := by omega
        have cK := cR.out wr b F S n r i hG hin n6
        have HIc : Hid (icw S.rd (i + 1) = icw S.rd i ++ [.int .i64 (S.rd i)]) := rfl
        have HB : Hid (∀ k, u16.ownBlock = some k → w.heap.size ≤ k) := fun k hk => (hown.lt k hk).1
        have HNe : Hid (∀ k, F k → u16.ownBlock ≠ some k) := hne
        have HN' : Hid (wr.ownsRow w.heap.size 3 1 u16 i (icw S.rd i)) := hown
        clear hown hne hG
        generalize S.rd i = rv at *
        generalize icw S.rd i = xs at *
        go_wp2_with (first
          | (go_at_call 6; refine cK.mono ?_; rintro o x1 ⟨rfl, hb⟩; have GX : Hid (Gst w C x1 b F S n r) := G.out.on hb; have HN1 : Hid (x1.ownsRow w.heap.size 3 1 u16 i xs) := own_onW hb HN'.out; have zx := GX.out.hw.size; clear hb)
          | (at_builtin; refine wpList_append_own_at _ rfl _ _ 22 rfl w.heap.size 3 i0 (.int .i64 0) 1 8 Try.underlying22 hi0 hz0 hz1 hz2 rfl (by decide) u16 _ _ rfl (HN1.out.alloc _) ⟨x1.heap.size, 0, none⟩ 1 1 [.int .i64 rv] rfl rfl (fun q u hq => by rw [Addr.add_lit]; exact (Row.made (W := x1) (vs := [.int .i64 rv]) rfl).c _ _ (by simpa using hq)) (fun u hu => by simp at hu; rw [hu]; rfl) (by unfold maxLen; omega) (by omega) (by simp; omega) ?_))
        intro v' x2 hown' hgrow _ hat
        have HO1 : Hid (x2.ownsRow w.heap.size 3 1 v' (i + 1) (icw S.rd (i + 1))) := by
          show x2.ownsRow w.heap.size 3 1 v' (i + 1) (icw S.rd (i + 1))
          rw [HIc.out]
          exact hown'
        have GA : Gst w C (x1.alloc (.cells #[.int .i64 rv] 3)) b F S n r := GX.out.on (rbel_al (Below.refl _ _))
        have HX2 : Hid (Gst w C x2 b F S n r) := ⟨grows C GA.h hgrow (fun k hk e => HNe.out k hk e.symm), GA.i, GA.sn, GA.sr, GA.lo, GA.hw.grown hgrow (by simp; omega) HB.out⟩
        have HN2 : Hid (∀ k, F k → v'.ownBlock ≠ some k) := fun k hk e => by
          rcases hat with h | h
          · rw [h] at e
            exact HNe.out k hk e
          · rw [h] at e
            have := Option.some.inj e
            have l := C.lt GX.out.h k hk
            have l2 : x1.heap.size ≤ (x1.alloc (.cells #[.int .i64 rv] 3)).heap.size := by simp
            omega
        clear hown' hgrow hat HN' HN1 HB HIc HNe GX GA
        go_wp2
        go_roundw
        case rel => exact ⟨i + 1, by omega, by go_num, HO1.out, HN2.out, HX2.out⟩
        case measure => simp [intOf]; omega
      · have hl3 : ¬ ((i : Int) < n) := by omega
        have dl3 : decide ((i : Int) < n) = false := decide_eq_false hl3
        have e' : n = i := by omega
        subst e'
        obtain ⟨wg, wc', rfl⟩ : ∃ wg wc', u16 = .slice (some ⟨wg, 0, none⟩) n wc' := by
          rcases hown.2 with ⟨_, e⟩ | ⟨g', c, cur, e, _⟩
          · omega
          · exact ⟨g', c, e⟩
        have HWas : Hid (∀ j, j < n → wr.cell? ⟨wg, j, none⟩ = some (.int .i64 (S.rd j))) := fun j hj => by
          rw [hown.cellAt j (by omega)]
          exact icw_at S.rd hj
        have HWn : Hid (¬ F wg) := fun h => hne wg h rfl
        have cTm := cT.out wr b F S n r hG
        clear hown hne hG hi hin
        obtain ⟨gb, go, rfl, hNr⟩ : ∃ gb go : Nat, ga = some ⟨gb, go, none⟩ ∧ Nrd w gb go L q := by
          rcases (HG.out w (Below.refl _ _)).2 with e | h
          · omega
          · exact h
        have HC : Hid (∀ u, Below w.heap.size w u → u.cell? ⟨gb, go + g, none⟩ = some (.int .i64 (q g))) := fun u hu => (hNr.on hu) g hlt
        have HX : Hid (In64 (q g)) := HQ.out g hlt
        clear hNr
        generalize q g = x at *
        by_cases hx : 0 ≤ x ∧ x ≤ 1000000 ∧ S.time + x ≤ 1000000000
        case neg =>
          have hD : DoR S 1 x 0 S none 1 := Or.inl ⟨rfl, by omega, rfl, rfl, rfl⟩
          have cDo : Hid (∀ u, Gst w C u b F S n r → Calls Try.prog 5 #[.pointer (some ⟨b, 0, none⟩), .agg #[.int .i64 1, .int .i64 x, .int .i64 0]] u fun o w' => ∃ F', o = .returned (.tuple #[.pointer none, .iface 41 (.int .i64 1)]) ∧ Gst w C w' b F' S n r) := fun u hu => (cD.out u b F S n r x 1 S hu HX.out hD).mono (by
            rintro o w' ⟨F', rfl, h1, _, _⟩
            exact ⟨F', by rw [errc_not (by decide)], h1⟩)
          clear cD cR cT HG HQ HX hD hx HWas HWn HRt
          go_wp2_with (first
            | (go_at_call 7; refine cTm.mono ?_; rintro o x1 ⟨rfl, hb⟩; have GX : Hid (Gst w C x1 b F S n r) := G.out.on hb; have hc1 := HC.out x1 GX.out.hw; clear hb)
            | (go_at_call 5; refine (cDo.out _ GX.out).mono ?_; rintro o x2 ⟨F2, rfl, hg⟩; have GX2 : Hid (Gst w C x2 b F2 S n r) := hg; clear hg))
          go_roundw
          case rel => exact ⟨g + 1, F2, S, by go_num, by omega, GX2.out⟩
          case measure => simp [intOf]; omega
        obtain ⟨y0, y1, y2⟩ := hx
        have yt := G.out.i.t0
        have lb := local_in y0 y1 p0 p1
        obtain ⟨S', hD, hT', hM⟩ : ∃ S', DoR S 1 x 0 S' none 0 ∧ S'.time = S.time + x ∧ ∀ j, j < n → (S.rd j ≤ S'.rd j ∧ x * (1000000 - ppm) / 1000000 - 1 ≤ S'.rd j - S.rd j ∧ S'.rd j - S.rd j ≤ (x * (1000000 + ppm) + 1000000 - 1) / 1000000 + 1) ∧ -1 ≤ S.rd j ∧ S.rd j ≤ 1002000000 ∧ -1 ≤ S'.rd j ∧ S'.rd j ≤ 1002000000 := by
          have hD : DoR S 1 x 0 { S with time := S.time + x } none 0 := Or.inr (Or.inl ⟨rfl, ⟨y0, y1, y2⟩, rfl, rfl, rfl⟩)
          refine ⟨_, hD, rfl, fun j hj => ?_⟩
          have hj' : j < S.n := by rw [G.out.sn]; exact hj
          have hr := HRt.out j hj
          have a1 := Ws.rd_in G.out.i hj'
          have a2 := Ws.rd_in (hD.i G.out.i) (i := j) hj'
          exact ⟨goes_in G.out.i hj' y0 (by rw [G.out.sr]; exact hr.1) (by rw [G.out.sr]; exact hr.2), a1.2.2.2.2.1, a1.2.2.2.2.2, a2.2.2.2.2.1, a2.2.2.2.2.2⟩
        have HM : Hid (∀ j, j < n → (S.rd j ≤ S'.rd j ∧ x * (1000000 - ppm) / 1000000 - 1 ≤ S'.rd j - S.rd j ∧ S'.rd j - S.rd j ≤ (x * (1000000 + ppm) + 1000000 - 1) / 1000000 + 1) ∧ -1 ≤ S.rd j ∧ S.rd j ≤ 1002000000 ∧ -1 ≤ S'.rd j ∧ S'.rd j ≤ 1002000000) := hM
        have cDo : Hid (∀ u, Gst w C u b F S n r → Calls Try.prog 5 #[.pointer (some ⟨b, 0, none⟩), .agg #[.int .i64 1, .int .i64 x, .int .i64 0]] u fun o w' => ∃ F', o = .returned (.tuple #[.pointer none, .nilIface]) ∧ Gst w C w' b F' S' n r ∧ Keeps F u w') := fun u hu => (cD.out u b F S n r x 0 S' hu HX.out hD).mono (by
          rintro o w' ⟨F', rfl, h1, h2, _⟩
          exact ⟨F', by rw [errc_zero], h1, h2⟩)
        have cT2 : Hid (∀ u F', Gst w C u b F' S' n r → Calls Try.prog 7 #[.pointer (some ⟨b, 0, none⟩)] u fun o w' => o = .returned (.int .i64 (S.time + x)) ∧ Below u.heap.size u w') := fun u F' h => by rw [← hT']; exact cT.out u b F' S' n r h
        have cR2 : Hid (∀ u F' (j : Nat), Gst w C u b F' S' n r → j < n → Calls Try.prog 6 #[.pointer (some ⟨b, 0, none⟩), .int .i64 j] u fun o w' => o = .returned (.tuple #[.int .i64 (S'.rd j), .nilIface]) ∧ Below u.heap.size u w') := fun u F' j h hj => cR.out u b F' S' n r j h hj n6
        have cL : Hid (∀ u, Calls Try.prog 8 #[.int .i64 x, .int .i64 ppm] u fun o w' => o = .returned (.tuple #[.agg #[.int .i64 (x * (1000000 - ppm) / 1000000), .int .i64 ((x * (1000000 + ppm) + 1000000 - 1) / 1000000)], .nilIface]) ∧ Below u.heap.size u w') := fun u => local_ok x ppm u lb.1 lb.2.1
        have lb2 := lb.2.2
        have wt : IntKind.i64.wrap (S.time + x) = S.time + x := IntWalk.i64_in _ (by omega)
        clear cD cR cT HG HQ HX hD hM HRt lb hT'
        generalize x * (1000000 - ppm) / 1000000 = lo at *
        generalize (x * (1000000 + ppm) + 1000000 - 1) / 1000000 = hi at *
        go_upto_region 25 with (first
          | (go_at_call 7; refine cTm.mono ?_; rintro o x1 ⟨rfl, hb⟩; have GX : Hid (Gst w C x1 b F S n r) := G.out.on hb; have hc1 := HC.out x1 GX.out.hw; have HW1 : Hid (∀ j, j < n → x1.cell? ⟨wg, j, none⟩ = some (.int .i64 (S.rd j))) := fun j hj => kept hb (HWas.out j hj); clear hb)
          | (go_at_call 5; refine (cDo.out _ GX.out).mono ?_; rintro o x2 ⟨F2, rfl, hg, hk⟩; have G2 : Hid (Gst w C x2 b F2 S' n r) := hg; have HW2 : Hid (∀ j, j < n → x2.cell? ⟨wg, j, none⟩ = some (.int .i64 (S.rd j))) := fun j hj => hk.cell HWn.out (HW1.out j hj); clear hg hk hc1))
        clear G cTm cDo GX HWas HWn HW1
        have hc2 := HC.out x2 G2.out.hw
        have hcl := World.block_lt_of_cell? _ _ hc2
        have gl : (g : Int) < L := hl
        go_region_held (fun w' => w'.cell? ⟨gb, go + g, none⟩ = some (.int .i64 x)) (go_keep) (first | (go_at_call 7; refine (cT2.out _ F2 (G2.out.on (rbel_dr (Below.refl _ _)))).mono ?_; rintro o x3 ⟨rfl, hb⟩; have G3 : Hid (Gst w C x3 b F2 S' n r) := (G2.out.on (rbel_dr (Below.refl _ _))).on hb; have s0 : x3.cell? ⟨gb, go + g, none⟩ = some (.int .i64 x) := (hb.cell (p := ⟨gb, go + g, none⟩) hcl).trans hc2; have HW3 : Hid (∀ j, j < n → x3.cell? ⟨wg, j, none⟩ = some (.int .i64 (S.rd j))) := fun j hj => kept hb (HW2.out j hj); clear hb))
        clear G2 HW2 hc2 hcl
        go_wp2_with (go_at_call 8; refine (cL.out _).mono ?_; rintro o x4 ⟨rfl, hb⟩; have G4 : Hid (Gst w C x4 b F2 S' n r) := G3.out.on hb; have HW4 : Hid (∀ j, j < n → x4.cell? ⟨wg, j, none⟩ = some (.int .i64 (S.rd j))) := fun j hj => kept hb (HW3.out j hj); clear hb)
        clear G3 HW3 cT2 cL HC s0
        go_loopw [24, 25, 26] (fun vj _ _ w5 => ∃ j : Nat, j ≤ n ∧ vj = .int .i64 j ∧ Below (x4.alloc (.cells #[.int .i64 lo, .int .i64 hi] 37)).heap.size (x4.alloc (.cells #[.int .i64 lo, .int .i64 hi] 37)) w5) (fun j _ _ _ => n - (intOf j).toNat)
        case atStart => exact ⟨0, Nat.zero_le _, rfl, Below.refl _ _⟩
        case round =>
          obtain ⟨j, hj, rfl, hB⟩ := hrel
          have GL : Hid (Gst w C wr b F2 S' n r) := (G4.out.on (rbel_al (Below.refl _ _))).on hB
          by_cases hjn : j < n
          · have hl4 : (j : Int) < n := by omega
            have dl4 : decide ((j : Int) < n) = true := decide_eq_true hl4
            have cK := cR2.out wr F2 j GL.out hjn
            obtain ⟨⟨m1, m2, m3⟩, m4, m5, m6, m7⟩ := HM.out j hjn
            have HWc : Hid (wr.cell? ⟨wg, j, none⟩ = some (.int .i64 (S.rd j))) := kept hB (kept (rbel_al (Below.refl _ _)) (HW4.out j hjn))
            have HSp : Hid (Row wr x4.heap.size [.int .i64 lo, .int .i64 hi]) := Row.on hB (Row.made rfl)
            have HB : Hid (Below (x4.alloc (.cells #[.int .i64 lo, .int .i64 hi] 37)).heap.size (x4.alloc (.cells #[.int .i64 lo, .int .i64 hi] 37)) wr) := hB
            clear hB G4 HW4 cR2 GL HM
            generalize S'.rd j = nv at *
            generalize S.rd j = ov at *
            obtain ⟨l1, l2, l3, l4⟩ := lb2
            have wd : IntKind.i64.wrap (nv - ov) = nv - ov := IntWalk.i64_in _ (by omega)
            have wl : IntKind.i64.wrap (lo - 1) = lo - 1 := IntWalk.i64_in _ (by omega)
            have wh : IntKind.i64.wrap (hi + 1) = hi + 1 := IntWalk.i64_in _ (by omega)
            have d1 : decide (nv < ov) = false := decide_eq_false (by omega)
            have d2 : decide (nv - ov < lo - 1) = false := decide_eq_false (by omega)
            have d3 : decide (hi + 1 < nv - ov) = false := decide_eq_false (by omega)
            go_upto_region 34 with (go_at_call 6; refine cK.mono ?_; rintro o x5 ⟨rfl, hb⟩; have HB5 : Hid (Below (x4.alloc (.cells #[.int .i64 lo, .int .i64 hi] 37)).heap.size (x4.alloc (.cells #[.int .i64 lo, .int .i64 hi] 37)) x5) := rbel_on hb HB.out; have r5 := Row.on hb HSp.out; have s0 := r5.c 0 _ rfl; have s1 := r5.c 1 _ rfl; have sl := r5.lt; have c5 := kept hb HWc.out; have cl := World.block_lt_of_cell? _ _ c5; clear hb r5)
            clear HB HWc HSp cK
            go_quiet (fail)
            go_wp2
            go_roundw
            case rel => exact ⟨j + 1, by omega, by go_num, rbel_drn HB5.out⟩
            case measure => simp [intOf]; omega
          · have hl4 : ¬ ((j : Int) < n) := by omega
            have dl4 : decide ((j : Int) < n) = false := decide_eq_false hl4
            clear hB G4 HW4 cR2 HM
            go_wp2
            go_roundw
            case rel => exact ⟨g + 1, F2, S', by go_num, by omega, GL.out⟩
            case measure => simp [intOf]; omega
end Go.Proofs.Ytkmbllkkccelaah.worldGoes
