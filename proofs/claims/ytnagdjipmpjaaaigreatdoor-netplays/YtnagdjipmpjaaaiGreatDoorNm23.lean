/- What bounds.All and bounds.Between answer, of any edges. Package bounds: Between. How wide all are together, row by row: plain mathematics. How wide all are together, column by column: plain mathematics. The document's own world (package noonref2) in memory: its clocks, how late it is, its letters in a row of the call's own. What the document's own reckoning (package noonref1) answers of a quotient, rounded up. An act has one outcome alone: plain mathematics. What is known of a table while it is made tighter, row by row and edge by edge: plain mathematics. -/
import Derived.Test.YtnagdjipmpjaaaiGreatDoorNm17
import Derived.Test.YtnagdjipmpjaaaiGreatDoorNm09
import Derived.Test.YtnagdjipmpjaaaiGreatDoorNm01
import Derived.Test.YtnagdjipmpjaaaiGreatDoorNm02
import Derived.Test.YtnagdjipmpjaaaiGreatDoorNm22
import Derived.Test.YtnagdjipmpjaaaiGreatDoorNm03
import Derived.Maps.AppendAt
import Derived.Deep.RegionLaw
import Derived.Laws.AppendOwnNone
import Derived.OneCell
import Derived.BigRegion
import Derived.IntWalk
import Derived.WalkArith
namespace Go.Proofs.YtnagdjipmpjaaaiGreatDoor
open Go.ChangeShapes Go.WideShapes Go.ChangeAt Go.RowKit Go.Joins
set_option linter.unusedVariables false
set_option linter.unusedSimpArgs false

set_option maxRecDepth 100000 in
theorem beyond11_any (lo hi : Int) (w : World) : Calls Tryz.prog 101 #[.agg #[.int .i64 lo, .int .i64 hi]] w fun e w' => e = .returned (.bool (!okB lo hi)) ∧ Below w.heap.size w w' := by
  have cS := fun u => spanCheck_any lo hi u
  cases h : okB lo hi with
  | true =>
    rw [h, if_pos rfl, errc_zero] at cS
    clear h
    go_enter Tryz.func101, Tryz.ntmps101
    go_wp2_with (go_at_call 46; refine (cS _).mono ?_; rintro e u2 ⟨rfl, hb⟩; have HB : Hid _ := hb; clear hb)
    go_ret
    exact ⟨rfl, rbel_on HB.out (rbel_al (Below.refl _ _))⟩
  | false =>
    rw [h, if_neg (by decide), errc_not (by decide)] at cS
    clear h
    go_enter Tryz.func101, Tryz.ntmps101
    go_wp2_with (go_at_call 46; refine (cS _).mono ?_; rintro e u2 ⟨rfl, hb⟩; have HB : Hid _ := hb; clear hb)
    go_ret
    exact ⟨rfl, rbel_on HB.out (rbel_al (Below.refl _ _))⟩
set_option maxRecDepth 100000 in
theorem beyond1_any (r n : Nat) (q : Nat → Int × Int) (w : World) (h6 : n ≤ 6) (hS : Spz w r 0 n q) : Calls Tryz.prog 99 #[.slice (some ⟨r, 0, none⟩) n n] w fun e w' => e = .returned (.bool (anyB (fun k => !okB (q k).1 (q k).2) n)) ∧ Below w.heap.size w w' := by
  have cA := any_spns (some ⟨r, 0, none⟩) n n q (fun k => !okB (q k).1 (q k).2) w (by omega) (Or.inr ⟨r, 0, rfl, hS⟩) (fun i u _ _ => beyond11_any (q i).1 (q i).2 u)
  clear hS
  generalize anyB (fun k => !okB (q k).1 (q k).2) n = bb at *
  go_enter Tryz.func99, Tryz.ntmps99
  go_wp2_with (go_at_call 100; refine cA.mono ?_; rintro e u2 ⟨rfl, hb⟩; have HB : Hid _ := hb; clear hb)
  go_ret
  exact ⟨rfl, HB.out⟩
def farB (n : Nat) (P : Tx) : Bool := anyB (fun i => anyB (fun k => !okB (xLo P i k) (xHi P i k)) n) n
set_option maxRecDepth 100000 in
theorem beyond_any (gs gk n : Nat) (Sb Kb : Nat → Nat) (P : Tx) (w : World) (h6 : n ≤ 6) (T : Tbx w gs gk n Sb Kb P) : Calls Tryz.prog 66 #[tbv gs gk n] w fun e w' => e = .returned (.bool (farB n P)) ∧ Below w.heap.size w w' := by
  have cA := fun u (hu : Below w.heap.size w u) => any_rows (some ⟨gs, 0, none⟩) n n (fun i => .slice (some ⟨Sb i, 0, none⟩) n n) (fun i => anyB (fun k => !okB (xLo P i k) (xHi P i k)) n) u (by omega) (Or.inr ⟨gs, 0, rfl, fun i hi => by rw [Nat.zero_add]; exact (T.on hu).outS.c i _ (outs_at Sb n i hi)⟩)
    (fun i u' hi hu' => beyond1_any (Sb i) n (fun k => (xLo P i k, xHi P i k)) u' h6 (fun k hk => by
      have b := (((T.on hu).on hu').inS i hi)
      rw [Nat.zero_add]
      exact ⟨b.c _ _ (rowS_lo P n i k hk), b.c _ _ (rowS_hi P n i k hk)⟩))
  clear T
  rw [show anyB (fun i => anyB (fun k => !okB (xLo P i k) (xHi P i k)) n) n = farB n P from rfl] at cA
  generalize farB n P = bb at *
  go_enter Tryz.func66, Tryz.ntmps66
  go_wp2_with (go_at_call 98; refine (cA _ (rbel_al (Below.refl _ _))).mono ?_; rintro e u2 ⟨rfl, hb⟩; have HB : Hid _ := hb; clear hb)
  go_ret
  exact ⟨rfl, rbel_on HB.out (rbel_al (Below.refl _ _))⟩
section
variable {q : Nat → Eg} {m n : Nat} {P : Tx} {T : Tb} {c : Int}
/-- The table that the program has, and the one that is to be told. -/
structure Tld (q : Nat → Eg) (m n : Nat) (P : Tx) (T : Tb) : Prop where
  same : ∀ i k, i < n → k < n → T i k = (P i k).map (fun x => x.2)
  turn : ∀ i k x, i < n → k < n → P i k = some x → ∃ y, P k i = some y ∧ y.2 = -x.1
  ord : ∀ i k x, i < n → k < n → P i k = some x → x.1 ≤ x.2
theorem tld (hE : Egs n q m) (G : Gd (Arc q m) n c P) (F : Fwx (Arc q m) n n P) (hT : IsT q m n T) : Tld q m n P T := by
  obtain ⟨_, h2, h3⟩ := top_isT hE G F
  refine ⟨fun i k hi hk => ?_, h3, fun i k x hi hk e => (G.ord i k x hi hk e).1⟩
  rw [hT.one h2 hi k]
  exact if_pos hk
theorem Tld.far (h : Tld q m n P T) : farB n P = true ↔ Far n T := by
  unfold farB
  rw [anyB_iff]
  constructor
  · rintro ⟨i, hi, e⟩
    obtain ⟨k, hk, e⟩ := anyB_iff.1 e
    have o : okB (xLo P i k) (xHi P i k) = false := by simpa using e
    have o := okB_f o
    cases ep : P i k with
    | none =>
      rw [show xLo P i k = 0 by unfold xLo; rw [ep], show xHi P i k = 0 by unfold xHi; rw [ep]] at o
      omega
    | some x =>
      rw [show xLo P i k = x.1 by unfold xLo; rw [ep], show xHi P i k = x.2 by unfold xHi; rw [ep]] at o
      have or := h.ord i k x hi hk ep
      by_cases g : 1000000000000 < x.2
      · exact ⟨i, k, x.2, hi, hk, by rw [h.same i k hi hk, ep]; rfl, Or.inr g⟩
      · obtain ⟨y, y1, y2⟩ := h.turn i k x hi hk ep
        exact ⟨k, i, y.2, hk, hi, by rw [h.same k i hk hi, y1]; rfl, Or.inr (by omega)⟩
  · rintro ⟨i, k, x, hi, hk, e, g⟩
    refine ⟨i, hi, anyB_iff.2 ⟨k, hk, ?_⟩⟩
    rw [h.same i k hi hk] at e
    cases ep : P i k with
    | none => rw [ep] at e; cases e
    | some z =>
      rw [ep] at e
      obtain rfl := Option.some.inj e
      have or := h.ord i k z hi hk ep
      have g : z.2 < -1000000000000 ∨ 1000000000000 < z.2 := g
      rw [show xLo P i k = z.1 by unfold xLo; rw [ep], show xHi P i k = z.2 by unfold xHi; rw [ep]]
      rw [okB_no (by omega)]; rfl
theorem Tld.stab (h : Tld q m n P T) {u : World} {gs gk : Nat} {Sb Kb : Nat → Nat} (t : Tbx u gs gk n Sb Kb P) : STab u (.slice (some ⟨gs, 0, none⟩) n n) (.slice (some ⟨gk, 0, none⟩) n n) n T := by
  refine ⟨gs, 0, n, gk, 0, n, Sb, fun _ => 0, fun _ => n, Kb, fun _ => 0, fun _ => n, rfl, rfl, fun i hi => ?_, fun i k hi hk => ?_⟩
  · rw [Nat.zero_add]
    exact ⟨t.outS.c i _ (outs_at Sb n i hi), t.outK.c i _ (outs_at Kb n i hi)⟩
  · rw [Nat.zero_add, Nat.zero_add]
    have e1 : spLo T i k = xLo P i k := by
      unfold spLo xLo
      rw [h.same i k hi hk]
      cases ep : P i k with
      | none => rfl
      | some x =>
        obtain ⟨y, y1, y2⟩ := h.turn i k x hi hk ep
        show -((T k i).getD 0) = x.1
        rw [h.same k i hk hi, y1]
        show -y.2 = x.1
        omega
    have e2 : spHi T i k = xHi P i k := by
      unfold spHi xHi
      rw [h.same i k hi hk]
      cases ep : P i k with
      | none => rfl
      | some x => rfl
    have e3 : (T i k).isSome = (P i k).isSome := by
      rw [h.same i k hi hk]
      cases P i k <;> rfl
    rw [e1, e2, e3]
    exact ⟨(t.inS i hi).c _ _ (rowS_lo P n i k hk), (t.inS i hi).c _ _ (rowS_hi P n i k hk), (t.inK i hi).c _ _ (rowK_at P n i k hk)⟩
end
/-- What All answers. -/
def AllR (n : Nat) (T : Tb) (e : Int) (u : World) (r : Ending) (w' : World) : Prop := ∃ s h, r = .returned (.tuple #[s, h, errc e]) ∧ (e = 0 → STab w' s h n T) ∧ Below u.heap.size u w'
theorem below_keeps {S : Nat → Prop} {w a b : World} (h : Below w.heap.size w a) (k : Keeps S a b) (hS : ∀ x, S x → w.heap.size ≤ x) : Below w.heap.size w b := h.trans (k.below h.size hS)
set_option maxRecDepth 100000 in
set_option maxHeartbeats 8000000 in
theorem all_bad (z : Int) (a : Option Addr) (m cap : Nat) (q : Nat → Eg) (T : Tb) (w : World) (hH : EHanded w a m q) (h0 : eE z q m ≠ 0) :
    Calls Tryz.prog 37 #[.int .i64 z, .slice a m cap] w fun r w' => AllR z.toNat T (eE z q m) w r w' := by
  have cC := check_any z a m cap q w hH
  have HE : Hid (errc (eE z q m) = .iface 85 (.int .i64 (eE z q m))) := errc_not h0
  have H0 : Hid (eE z q m ≠ 0) := h0
  rw [errc_not h0] at cC
  clear h0 hH
  generalize eE z q m = er at *
  go_enter Tryz.func37, Tryz.ntmps37
  go_wp2_with (go_at_call 42; refine cC.mono ?_; rintro e u0 ⟨rfl, hb⟩; have HB : Hid _ := hb; clear hb)
  exact bodyPost_ret (v := .tuple #[.slice none 0 0, .slice none 0 0, .iface 85 (.int .i64 er)]) (by simp [results, Tryz.results37, go_sem]) rfl ⟨.slice none 0 0, .slice none 0 0, by rw [HE.out], fun e => absurd e H0.out, HB.out⟩
set_option maxRecDepth 100000 in
set_option maxHeartbeats 8000000 in
theorem all_good (n : Nat) (a : Option Addr) (m cap : Nat) (q : Nat → Eg) (e : Int) (T : Tb) (w : World) (hH : EHanded w a m q) (h0 : eE n q m = 0) (hA : AllA q m n e T) :
    Calls Tryz.prog 37 #[.int .i64 n, .slice a m cap] w fun r w' => AllR n T e w r w' := by
  have cC := check_any n a m cap q w hH
  rw [h0, errc_zero] at cC
  have hE := eE_zero h0
  have h6 : n ≤ 6 := by have := hE.n6; omega
  have HH : Hid (EHanded w a m q) := hH
  have HE : Hid (Egs n q m) := hE
  have HA : Hid (AllA q m n e T) := hA
  have N7 : Hid (Neg (Arc q m) n → errc e = .iface 85 (.int .i64 7) ∧ e ≠ 0) := fun hn => by
    rcases hA with ⟨_, rfl⟩ | ⟨g, _⟩
    · exact ⟨errc_not (by decide), by decide⟩
    · exact absurd hn g
  have HB0 : Hid (∀ b off, 0 < m → a = some ⟨b, off, none⟩ → b < w.heap.size) := fun b off hm ea => by
    rcases hH.2 with e' | ⟨b', off', e', s⟩
    · omega
    · rw [ea] at e'
      obtain ⟨rfl, rfl⟩ : b = b' ∧ off = off' := by simpa using e'
      exact World.block_lt_of_cell? _ _ (s 0 hm).1
  have cN := fun u => new_any n u h6
  clear hH h0 hA hE
  go_enter Tryz.func37, Tryz.ntmps37
  go_wp2_with (first
    | (go_at_call 42; refine cC.mono ?_; rintro e u0 ⟨rfl, hb⟩; have HB : Hid _ := hb; clear hb)
    | (go_at_call 63; refine (cN u0).mono ?_; rintro e u1 ⟨gs, gk, Sb, Kb, rfl, t1, lw, hb⟩; have T1 : Hid _ := t1; have LW : Hid _ := lw; have HB1 : Hid _ := hb; clear hb t1 lw)
    | fail)
  have BW := rbel_al (ob := .cells #[.slice (some ⟨gs, 0, none⟩) n n, .slice (some ⟨gk, 0, none⟩) n n] 150) (rbel_on HB1.out HB.out)
  have T2 := T1.out.al (ob := .cells #[.slice (some ⟨gs, 0, none⟩) n n, .slice (some ⟨gk, 0, none⟩) n n] 150)
  have RB := Row.made (W := u1) (b := u1.heap.size) (t := 150) (vs := [.slice (some ⟨gs, 0, none⟩) n n, .slice (some ⟨gk, 0, none⟩) n n]) rfl
  have LS : Hid (∀ k, Rwx n Sb Kb k → w.heap.size ≤ k) := fun k ⟨i, hi, e⟩ => by
    have h1 := LW.out.2.2 i hi
    have h2 := HB.out.size
    rcases e with rfl | rfl <;> omega
  have NB : Hid (¬ Rwx n Sb Kb u1.heap.size) := fun ⟨i, hi, e⟩ => by
    have h1 := T1.out.lt.2.2 i hi
    rcases e with e | e <;> omega
  have cE := edges_any gs gk n Sb Kb a m cap q _ T2 HE.out (HH.out.on BW) (fun b off hm ea h => by have h1 := HB0.out b off hm ea; have h2 := LS.out b h; omega)
  have HBW : Hid _ := BW
  have HRB : Hid (Row (u1.alloc (.cells #[.slice (some ⟨gs, 0, none⟩) n n, .slice (some ⟨gk, 0, none⟩) n n] 150)) u1.heap.size [.slice (some ⟨gs, 0, none⟩) n n, .slice (some ⟨gk, 0, none⟩) n n]) := RB
  clear BW T2 RB T1 LW HB HB1 cC cN HB0 HH
  refine cE.mono ?_
  rintro e' u2 ⟨hO, hK⟩
  have HK2 : Hid _ := hK
  have RB2 : Hid _ := hK.row NB.out HRB.out
  have BW2 : Hid _ := below_keeps HBW.out hK LS.out
  have rb0 := RB2.out.c 0 _ rfl
  have rb1 := RB2.out.c 1 _ rfl
  clear cE HRB HBW hK
  rcases hO with ⟨hN, rfl⟩ | ⟨P, rfl, t2, G2, F2⟩
  · have HN : Hid _ := N7.out hN
    clear N7 HA HE hN
    as_aux_lemma =>
      go_wp2
      exact bodyPost_ret (v := .tuple #[.slice none 0 0, .slice none 0 0, .iface 85 (.int .i64 7)]) (by simp [results, Tryz.results37, go_sem]) rfl ⟨.slice none 0 0, .slice none 0 0, by rw [HN.out.1], fun e => absurd e HN.out.2, BW2.out⟩
  · have cP := paths_any (Arc q m) gs gk n Sb Kb P u2 t2 G2 F2 h6
    clear t2 G2 F2
    go_wp2_with (fail)
    refine cP.mono ?_
    rintro e' u3 ⟨hO, hK⟩
    have RB3 : Hid _ := hK.row NB.out RB2.out
    have BW3 : Hid _ := below_keeps BW2.out hK LS.out
    have rc0 := RB3.out.c 0 _ rfl
    have rc1 := RB3.out.c 1 _ rfl
    clear cP hK RB2 BW2 HK2 rb0 rb1
    rcases hO with ⟨hN, rfl⟩ | ⟨P', c', rfl, t3, G3, F3⟩
    · have HN : Hid _ := N7.out hN
      clear N7 HA HE hN
      as_aux_lemma =>
        go_wp2
        exact bodyPost_ret (v := .tuple #[.slice none 0 0, .slice none 0 0, .iface 85 (.int .i64 7)]) (by simp [results, Tryz.results37, go_sem]) rfl ⟨.slice none 0 0, .slice none 0 0, by rw [HN.out.1], fun e => absurd e HN.out.2, BW3.out⟩
    · have nn := (top_isT HE.out G3 F3).1
      obtain ⟨hT, hf⟩ : IsT q m n T ∧ ((Far n T ∧ e = 1) ∨ (¬ Far n T ∧ e = 0)) := by
        rcases HA.out with ⟨g, _⟩ | ⟨_, g1, g2⟩
        · exact absurd g nn
        · exact ⟨g1, g2⟩
      have TL := tld HE.out G3 F3 hT
      have cB := beyond_any gs gk n Sb Kb P' u3 h6 t3
      have HT3 : Hid _ := t3
      have HTL : Hid _ := TL
      clear N7 HA HE nn hT G3 F3
      rcases hf with ⟨hf, rfl⟩ | ⟨hf, rfl⟩
      · rw [TL.far.2 hf] at cB
        clear hf TL t3
        as_aux_lemma =>
          go_wp2_with (go_at_call 66; refine cB.mono ?_; rintro e u4 ⟨rfl, hb⟩; have HB4 : Hid _ := hb; clear hb)
          exact bodyPost_ret (v := .tuple #[.slice none 0 0, .slice none 0 0, .iface 85 (.int .i64 1)]) (by simp [results, Tryz.results37, go_sem]) rfl ⟨.slice none 0 0, .slice none 0 0, by rw [errc_not (by decide)], fun e => absurd e (by decide), rbel_on HB4.out BW3.out⟩
      · rw [show farB n P' = false by
          cases e : farB n P' with
          | false => rfl
          | true => exact absurd (TL.far.1 e) hf] at cB
        clear hf TL t3
        as_aux_lemma =>
          go_wp2_with (go_at_call 66; refine cB.mono ?_; rintro e u4 ⟨rfl, hb⟩; have HB4 : Hid _ := hb; have rd0 : u4.cell? ⟨u1.heap.size, 0, none⟩ = some (.slice (some ⟨gs, 0, none⟩) n n) := (by rw [hb.cell (World.block_lt_of_cell? _ _ rc0)]; exact rc0); have rd1 : u4.cell? ⟨u1.heap.size, 1, none⟩ = some (.slice (some ⟨gk, 0, none⟩) n n) := (by rw [hb.cell (World.block_lt_of_cell? _ _ rc1)]; exact rc1); clear hb)
          go_quiet (fail)
          go_wp2
          exact bodyPost_ret (v := .tuple #[.slice (some ⟨gs, 0, none⟩) n n, .slice (some ⟨gk, 0, none⟩) n n, .nilIface]) (by simp [results, Tryz.results37, go_sem]) rfl ⟨_, _, by rw [errc_zero], fun _ => HTL.out.stab (HT3.out.on HB4.out).drn, rbel_drn (rbel_on HB4.out BW3.out)⟩
theorem all_any (z : Int) (a : Option Addr) (m cap : Nat) (q : Nat → Eg) (e : Int) (T : Tb) (w : World) (hH : EHanded w a m q) (hA : AllE z q m e T) :
    Calls Tryz.prog 37 #[.int .i64 z, .slice a m cap] w fun r w' => AllR z.toNat T e w r w' := by
  rcases hA with ⟨h0, rfl⟩ | ⟨h0, hA⟩
  · exact all_bad z a m cap q T w hH h0
  · obtain ⟨n, rfl⟩ : ∃ n : Nat, z = n := ⟨z.toNat, by have := (eE_zero h0).n1; omega⟩
    rw [Int.toNat_natCast] at hA ⊢
    exact all_good n a m cap q e T w hH h0 hA
end Go.Proofs.YtnagdjipmpjaaaiGreatDoor
namespace Go.Proofs.YtnagdjipmpjaaaiGreatDoor
open Go.ChangeShapes Go.WideShapes Go.ChangeAt Go.RowKit Go.Joins
set_option linter.unusedVariables false
set_option linter.unusedSimpArgs false

set_option maxRecDepth 100000 in
set_option maxHeartbeats 8000000 in
theorem between_bad (z : Int) (a : Option Addr) (m cap : Nat) (q : Nat → Eg) (x y : Int) (w : World) (hH : EHanded w a m q) (h0 : eE z q m ≠ 0) :
    Calls Tryz.prog 36 #[.int .i64 z, .slice a m cap, .int .i64 x, .int .i64 y] w fun r w' => r = .returned (.tuple #[sp 0 0, errc (eE z q m)]) ∧ Below w.heap.size w w' := by
  have cC := fun u (hu : Below w.heap.size w u) => check_any z a m cap q u (hH.on hu)
  rw [errc_not h0] at cC ⊢
  clear h0 hH
  generalize eE z q m = er at *
  go_enter Tryz.func36, Tryz.ntmps36
  go_wp2_with (go_at_call 42; refine (cC _ (rbel_al (Below.refl _ _))).mono ?_; rintro e u0 ⟨rfl, hb⟩; have HB : Hid _ := hb; have r := Row.on hb (Row.made (W := w) (vs := [.int .i64 0, .int .i64 0]) rfl); have r0 := r.c 0 _ rfl; have r1 := r.c 1 _ rfl; have f0 := r.f 0 _ rfl; have f1 := r.f 1 _ rfl; clear hb r)
  exact bodyPost_ret (v := .tuple #[sp 0 0, .iface 85 (.int .i64 er)]) (by simp [results, Tryz.results36, go_sem, *]) rfl ⟨rfl, rbel_put (Nat.le_refl _) (rbel_put (Nat.le_refl _) (rbel_on HB.out (rbel_al (Below.refl _ _))))⟩
set_option maxRecDepth 100000 in
set_option maxHeartbeats 8000000 in
theorem between_no (z : Int) (a : Option Addr) (m cap : Nat) (q : Nat → Eg) (x y : Int) (w : World) (hH : EHanded w a m q) (h0 : eE z q m = 0) (X Y : Bool) (hX : Hid (nodeB z x = X)) (hY : Hid (nodeB z y = Y)) (hn : X = false ∨ (X = true ∧ Y = false)) :
    Calls Tryz.prog 36 #[.int .i64 z, .slice a m cap, .int .i64 x, .int .i64 y] w fun r w' => r = .returned (.tuple #[sp 0 0, errc 1]) ∧ Below w.heap.size w w' := by
  have cC := fun u (hu : Below w.heap.size w u) => check_any z a m cap q u (hH.on hu)
  rw [h0, errc_zero] at cC
  rw [errc_not (by decide)]
  have cX : ∀ u, Calls Tryz.prog 62 #[.int .i64 z, .int .i64 x] u fun e w' => e = .returned (.bool X) ∧ w' = u := fun u => by rw [← hX.out]; exact isNode_any z x u
  have cY : ∀ u, Calls Tryz.prog 62 #[.int .i64 z, .int .i64 y] u fun e w' => e = .returned (.bool Y) ∧ w' = u := fun u => by rw [← hY.out]; exact isNode_any z y u
  clear h0 hH hX hY
  have cnt : Mark 0 := .mk _
  rcases hn with rfl | ⟨rfl, rfl⟩
  · go_enter Tryz.func36, Tryz.ntmps36
    go_wp2_with (first
      | (go_at_call 42; refine (cC _ (rbel_al (Below.refl _ _))).mono ?_; rintro e u0 ⟨rfl, hb⟩; have HB : Hid _ := hb; have r := Row.on hb (Row.made (W := w) (vs := [.int .i64 0, .int .i64 0]) rfl); have r0 := r.c 0 _ rfl; have r1 := r.c 1 _ rfl; have f0 := r.f 0 _ rfl; have f1 := r.f 1 _ rfl; clear hb r)
      | (go_at_call 62; refine (cX _).mono ?_; rintro e u1 ⟨rfl, hu⟩; rw [hu]; clear hu))
    exact bodyPost_ret (v := .tuple #[sp 0 0, .iface 85 (.int .i64 1)]) (by simp [results, Tryz.results36, go_sem, *]) rfl ⟨rfl, rbel_put (Nat.le_refl _) (rbel_put (Nat.le_refl _) (rbel_on HB.out (rbel_al (Below.refl _ _))))⟩
  · go_enter Tryz.func36, Tryz.ntmps36
    go_wp2_with (first
      | (go_at_call 42; refine (cC _ (rbel_al (Below.refl _ _))).mono ?_; rintro e u0 ⟨rfl, hb⟩; have HB : Hid _ := hb; have r := Row.on hb (Row.made (W := w) (vs := [.int .i64 0, .int .i64 0]) rfl); have r0 := r.c 0 _ rfl; have r1 := r.c 1 _ rfl; have f0 := r.f 0 _ rfl; have f1 := r.f 1 _ rfl; clear hb r)
      | (go_at_call 62; have cq : Mark 0 := cnt; refine (cX _).mono ?_; clear cq cnt; have cnt : Mark 1 := .mk _; rintro e u1 ⟨rfl, hu⟩; rw [hu]; clear hu)
      | (go_at_call 62; have cq : Mark 1 := cnt; refine (cY _).mono ?_; clear cq cnt; rintro e u1 ⟨rfl, hu⟩; rw [hu]; clear hu))
    exact bodyPost_ret (v := .tuple #[sp 0 0, .iface 85 (.int .i64 1)]) (by simp [results, Tryz.results36, go_sem, *]) rfl ⟨rfl, rbel_put (Nat.le_refl _) (rbel_put (Nat.le_refl _) (rbel_on HB.out (rbel_al (Below.refl _ _))))⟩
set_option maxRecDepth 100000 in
set_option maxHeartbeats 8000000 in
theorem between_all (n : Nat) (a : Option Addr) (m cap : Nat) (q : Nat → Eg) (x y : Nat) (f : Int) (T : Tb) (w : World) (hH : EHanded w a m q) (h0 : eE n q m = 0) (hx : x < n) (hy : y < n) (hA : AllA q m n f T) (lo hi e : Int)
    (hr : (f ≠ 0 ∧ lo = 0 ∧ hi = 0 ∧ e = f) ∨ (f = 0 ∧ T x y = none ∧ lo = 0 ∧ hi = 0 ∧ e = 5) ∨ (f = 0 ∧ (∃ d, T x y = some d) ∧ lo = spLo T x y ∧ hi = spHi T x y ∧ e = 0)) :
    Calls Tryz.prog 36 #[.int .i64 n, .slice a m cap, .int .i64 x, .int .i64 y] w fun r w' => r = .returned (.tuple #[sp lo hi, errc e]) ∧ Below w.heap.size w w' := by
  have cC := fun u (hu : Below w.heap.size w u) => check_any n a m cap q u (hH.on hu)
  have cA := fun u (hu : Below w.heap.size w u) => all_good n a m cap q f T u (hH.on hu) h0 hA
  rw [h0, errc_zero] at cC
  have hx3 : (x : Int) < n := by omega
  have hy3 : (y : Int) < n := by omega
  have cX : ∀ u, Calls Tryz.prog 62 #[.int .i64 n, .int .i64 x] u fun e w' => e = .returned (.bool true) ∧ w' = u := fun u => by have := isNode_any n x u; rwa [show nodeB n x = true from decide_eq_true (by omega)] at this
  have cY : ∀ u, Calls Tryz.prog 62 #[.int .i64 n, .int .i64 y] u fun e w' => e = .returned (.bool true) ∧ w' = u := fun u => by have := isNode_any n y u; rwa [show nodeB n y = true from decide_eq_true (by omega)] at this
  clear h0 hH hA
  have cnt : Mark 0 := .mk _
  rcases hr with ⟨hf, rfl, rfl, rfl⟩ | ⟨rfl, ht, rfl, rfl, rfl⟩ | ⟨rfl, ⟨d, ht⟩, rfl, rfl, rfl⟩
  · rw [errc_not hf]
    have HE : Hid (errc e = .iface 85 (.int .i64 e)) := errc_not hf
    clear hf
    go_enter Tryz.func36, Tryz.ntmps36
    go_wp2_with (first
      | (go_at_call 42; refine (cC _ (rbel_al (Below.refl _ _))).mono ?_; rintro e' u0 ⟨rfl, hb⟩; have HB : Hid _ := hb; have r := Row.on hb (Row.made (W := w) (vs := [.int .i64 0, .int .i64 0]) rfl); have HR : Hid _ := r; clear hb r)
      | (go_at_call 62; have cq : Mark 0 := cnt; refine (cX _).mono ?_; clear cq cnt; have cnt : Mark 1 := .mk _; rintro e' u1 ⟨rfl, hu⟩; rw [hu]; clear hu)
      | (go_at_call 62; have cq : Mark 1 := cnt; refine (cY _).mono ?_; clear cq cnt; have cnt : Mark 2 := .mk _; rintro e' u1 ⟨rfl, hu⟩; rw [hu]; clear hu)
      | (go_at_call 37; refine (cA _ (rbel_on HB.out (rbel_al (Below.refl _ _)))).mono ?_; rintro e' u2 ⟨s, h, he, _, hb⟩; rw [HE.out] at he; subst he; have HB2 : Hid _ := hb; have r := Row.on hb HR.out; have r0 := r.c 0 _ rfl; have r1 := r.c 1 _ rfl; have f0 := r.f 0 _ rfl; have f1 := r.f 1 _ rfl; clear hb r))
    exact bodyPost_ret (v := .tuple #[sp 0 0, .iface 85 (.int .i64 e)]) (by simp [results, Tryz.results36, go_sem, *]) rfl ⟨rfl, rbel_put (Nat.le_refl _) (rbel_put (Nat.le_refl _) (rbel_on HB2.out (rbel_on HB.out (rbel_al (Below.refl _ _)))))⟩
  · rw [errc_not (by decide)]
    have HT : Hid (T x y = none) := ht
    clear ht
    go_enter Tryz.func36, Tryz.ntmps36
    go_wp2_with (first
      | (go_at_call 42; refine (cC _ (rbel_al (Below.refl _ _))).mono ?_; rintro e' u0 ⟨rfl, hb⟩; have HB : Hid _ := hb; have r := Row.on hb (Row.made (W := w) (vs := [.int .i64 0, .int .i64 0]) rfl); have HR : Hid _ := r; clear hb r)
      | (go_at_call 62; have cq : Mark 0 := cnt; refine (cX _).mono ?_; clear cq cnt; have cnt : Mark 1 := .mk _; rintro e' u1 ⟨rfl, hu⟩; rw [hu]; clear hu)
      | (go_at_call 62; have cq : Mark 1 := cnt; refine (cY _).mono ?_; clear cq cnt; have cnt : Mark 2 := .mk _; rintro e' u1 ⟨rfl, hu⟩; rw [hu]; clear hu)
      | (go_at_call 37; refine (cA _ (rbel_on HB.out (rbel_al (Below.refl _ _)))).mono ?_; rintro e' u2 ⟨s, h, rfl, hst, hb⟩; obtain ⟨sb, so, sc, hb', ho, hc, rb, ro, rc, gb, go, gc, rfl, rfl, g1, g2⟩ := hst rfl; rw [errc_zero]; obtain ⟨q1, q2⟩ := g1 x hx; obtain ⟨p1, p2, p3⟩ := g2 x y hx hy; rw [HT.out] at p3; have p3' : u2.cell? ⟨gb x, go x + y, none⟩ = some (.bool false) := p3; have HB2 : Hid _ := hb; have r := Row.on hb HR.out; have r0 := r.c 0 _ rfl; have r1 := r.c 1 _ rfl; have f0 := r.f 0 _ rfl; have f1 := r.f 1 _ rfl; clear hb r hst g1 g2 p3))
    exact bodyPost_ret (v := .tuple #[sp 0 0, .iface 85 (.int .i64 5)]) (by simp [results, Tryz.results36, go_sem, *]) rfl ⟨rfl, rbel_put (Nat.le_refl _) (rbel_put (Nat.le_refl _) (rbel_on HB2.out (rbel_on HB.out (rbel_al (Below.refl _ _)))))⟩
  · rw [errc_zero]
    have HT : Hid (T x y = some d) := ht
    clear ht
    go_enter Tryz.func36, Tryz.ntmps36
    go_wp2_with (first
      | (go_at_call 42; refine (cC _ (rbel_al (Below.refl _ _))).mono ?_; rintro e' u0 ⟨rfl, hb⟩; have HB : Hid _ := hb; have r := Row.on hb (Row.made (W := w) (vs := [.int .i64 0, .int .i64 0]) rfl); have HR : Hid _ := r; clear hb r)
      | (go_at_call 62; have cq : Mark 0 := cnt; refine (cX _).mono ?_; clear cq cnt; have cnt : Mark 1 := .mk _; rintro e' u1 ⟨rfl, hu⟩; rw [hu]; clear hu)
      | (go_at_call 62; have cq : Mark 1 := cnt; refine (cY _).mono ?_; clear cq cnt; have cnt : Mark 2 := .mk _; rintro e' u1 ⟨rfl, hu⟩; rw [hu]; clear hu)
      | (go_at_call 37; refine (cA _ (rbel_on HB.out (rbel_al (Below.refl _ _)))).mono ?_; rintro e' u2 ⟨s, h, rfl, hst, hb⟩; obtain ⟨sb, so, sc, hb', ho, hc, rb, ro, rc, gb, go, gc, rfl, rfl, g1, g2⟩ := hst rfl; rw [errc_zero]; obtain ⟨q1, q2⟩ := g1 x hx; obtain ⟨p1, p2, p3⟩ := g2 x y hx hy; rw [HT.out] at p3; have p3' : u2.cell? ⟨gb x, go x + y, none⟩ = some (.bool true) := p3; have HB2 : Hid _ := hb; have r := Row.on hb HR.out; have r0 := r.c 0 _ rfl; have r1 := r.c 1 _ rfl; have f0 := r.f 0 _ rfl; have f1 := r.f 1 _ rfl; clear hb r hst g1 g2 p3))
    exact bodyPost_ret (v := .tuple #[sp (spLo T x y) (spHi T x y), .nilIface]) (by simp [results, Tryz.results36, go_sem, *]) rfl ⟨rfl, rbel_put (Nat.le_refl _) (rbel_put (Nat.le_refl _) (rbel_on HB2.out (rbel_on HB.out (rbel_al (Below.refl _ _)))))⟩
theorem between_any (z : Int) (a : Option Addr) (m cap : Nat) (q : Nat → Eg) (x y lo hi e : Int) (w : World) (hH : EHanded w a m q) (hB : BetA z q m x y lo hi e) :
    Calls Tryz.prog 36 #[.int .i64 z, .slice a m cap, .int .i64 x, .int .i64 y] w fun r w' => r = .returned (.tuple #[sp lo hi, errc e]) ∧ Below w.heap.size w w' := by
  rcases hB with ⟨h0, rfl, rfl, rfl⟩ | ⟨h0, hn, rfl, rfl, rfl⟩ | ⟨h0, hn, f, T, hA, hr⟩
  · exact between_bad z a m cap q x y w hH h0
  · refine between_no z a m cap q x y w hH h0 _ _ rfl rfl ?_
    cases e : nodeB z x with
    | false => exact Or.inl rfl
    | true =>
      have := of_decide_eq_true e
      exact Or.inr ⟨rfl, decide_eq_false (by omega)⟩
  · obtain ⟨n, rfl⟩ : ∃ n : Nat, z = n := ⟨z.toNat, by omega⟩
    obtain ⟨x, rfl⟩ : ∃ x' : Nat, x = x' := ⟨x.toNat, by omega⟩
    obtain ⟨y, rfl⟩ : ∃ y' : Nat, y = y' := ⟨y.toNat, by omega⟩
    rw [Int.toNat_natCast] at hA
    rw [Int.toNat_natCast, Int.toNat_natCast] at hr
    exact between_all n a m cap q x y f T w hH h0 (by omega) (by omega) hA lo hi e hr
end Go.Proofs.YtnagdjipmpjaaaiGreatDoor
namespace Go.Proofs.YtnagdjipmpjaaaiGreatDoor
set_option linter.unusedVariables false

def wt (T : Tb) (a b : Nat) : Int := if a < b ∧ (T a b).isSome = true then spHi T a b - spLo T a b else 0
def wrow (T : Tb) (a m : Nat) : Int := ((List.range m).map (wt T a)).sum
def wsum (T : Tb) (n k : Nat) : Int := ((List.range k).map (fun a => wrow T a n)).sum
theorem wid_is (n : Nat) (T : Tb) : wid n T = wsum T n n := rfl
theorem wrow_succ (T : Tb) (a m : Nat) : wrow T a (m + 1) = wrow T a m + wt T a m := by
  unfold wrow
  rw [List.range_succ, List.map_append, List.sum_append]
  simp
theorem wsum_succ (T : Tb) (n k : Nat) : wsum T n (k + 1) = wsum T n k + wrow T k n := by
  unfold wsum
  rw [List.range_succ, List.map_append, List.sum_append]
  simp
theorem wrow_low (T : Tb) (a : Nat) : ∀ m, m ≤ a + 1 → wrow T a m = 0
  | 0, _ => rfl
  | m + 1, h => by
    rw [wrow_succ, wrow_low T a m (by omega)]
    unfold wt
    rw [if_neg (by omega)]
    rfl
/-- What is told of two, and how wide it is. -/
theorem wt_b {q : Nat → Eg} {m n : Nat} {T : Tb} (hA : AllA q m n 0 T) {a b : Nat} (ha : a < n) (hb : b < n) : 0 ≤ wt T a b ∧ wt T a b ≤ 2000000000000 ∧ ((T a b).isSome = true → -1000000000000 ≤ spLo T a b ∧ spLo T a b ≤ spHi T a b ∧ spHi T a b ≤ 1000000000000) := by
  rcases hA with ⟨_, c⟩ | ⟨nn, hT, ⟨_, c⟩ | ⟨nf, _⟩⟩
  · cases c
  · cases c
  have key : (T a b).isSome = true → -1000000000000 ≤ spLo T a b ∧ spLo T a b ≤ spHi T a b ∧ spHi T a b ≤ 1000000000000 := by
    intro hs
    cases s : T a b with
    | none => rw [s] at hs; cases hs
    | some x =>
      obtain ⟨y, s'⟩ := hT.back ha hb s
      obtain ⟨⟨r1, w1⟩, _⟩ := (hT a b ha).1 x s
      obtain ⟨⟨r2, w2⟩, _⟩ := (hT b a hb).1 y s'
      have f1 := not_far nf ha hb s
      have f2 := not_far nf hb ha s'
      have p := not_neg nn _ _ _ ha (w1.app w2)
      have eh : spHi T a b = x := by unfold spHi; rw [s]; rfl
      have el : spLo T a b = -y := by unfold spLo; rw [s, s']; rfl
      rw [eh, el]
      omega
  refine ⟨?_, ?_, key⟩
  · unfold wt
    split
    · rename_i q; have := key q.2; omega
    · omega
  · unfold wt
    split
    · rename_i q; have := key q.2; omega
    · omega
theorem wrow_b {q : Nat → Eg} {m n : Nat} {T : Tb} (hA : AllA q m n 0 T) {a : Nat} (ha : a < n) : ∀ k, k ≤ n → 0 ≤ wrow T a k ∧ wrow T a k ≤ (k : Int) * 2000000000000
  | 0, _ => ⟨by rw [show wrow T a 0 = 0 from rfl]; decide, by rw [show wrow T a 0 = 0 from rfl]; simp⟩
  | k + 1, h => by
    have i := wrow_b hA ha k (by omega)
    have t := wt_b hA ha (show k < n by omega)
    rw [wrow_succ]
    omega
theorem wsum_b {q : Nat → Eg} {m n : Nat} {T : Tb} (hA : AllA q m n 0 T) (h6 : n ≤ 6) : ∀ k, k ≤ n → 0 ≤ wsum T n k ∧ wsum T n k ≤ (k : Int) * 12000000000000
  | 0, _ => ⟨by rw [show wsum T n 0 = 0 from rfl]; decide, by rw [show wsum T n 0 = 0 from rfl]; simp⟩
  | k + 1, h => by
    have i := wsum_b hA h6 k (by omega)
    have t := wrow_b hA (show k < n by omega) n (Nat.le_refl _)
    rw [wsum_succ]
    omega
end Go.Proofs.YtnagdjipmpjaaaiGreatDoor
namespace Go.Proofs.YtnagdjipmpjaaaiGreatDoor
set_option linter.unusedVariables false

def wcol (T : Tb) (b m : Nat) : Int := ((List.range m).map (fun a => wt T a b)).sum
def csum (T : Tb) (k : Nat) : Int := ((List.range k).map (fun b => wcol T b b)).sum
theorem wcol_succ (T : Tb) (b m : Nat) : wcol T b (m + 1) = wcol T b m + wt T m b := by
  unfold wcol
  rw [List.range_succ, List.map_append, List.sum_append]
  simp
theorem csum_succ (T : Tb) (k : Nat) : csum T (k + 1) = csum T k + wcol T k k := by
  unfold csum
  rw [List.range_succ, List.map_append, List.sum_append]
  simp
theorem wsum_col (T : Tb) (n : Nat) : ∀ k, wsum T (n + 1) k = wsum T n k + wcol T n k
  | 0 => rfl
  | k + 1 => by
    rw [wsum_succ, wsum_succ, wcol_succ, wsum_col T n k, wrow_succ]
    omega
/-- Row by row and column by column it is the same. -/
theorem csum_is (T : Tb) : ∀ n, csum T n = wsum T n n
  | 0 => rfl
  | n + 1 => by
    rw [csum_succ, wsum_succ, wsum_col, csum_is T n, wrow_low T n (n + 1) (Nat.le_refl _)]
    omega
theorem wcol_b {q : Nat → Eg} {m n : Nat} {T : Tb} (hA : AllA q m n 0 T) {b : Nat} (hb : b < n) : ∀ k, k ≤ n → 0 ≤ wcol T b k ∧ wcol T b k ≤ (k : Int) * 2000000000000
  | 0, _ => ⟨by rw [show wcol T b 0 = 0 from rfl]; decide, by rw [show wcol T b 0 = 0 from rfl]; simp⟩
  | k + 1, h => by
    have i := wcol_b hA hb k (by omega)
    have t := wt_b hA (show k < n by omega) hb
    rw [wcol_succ]
    omega
theorem csum_b {q : Nat → Eg} {m n : Nat} {T : Tb} (hA : AllA q m n 0 T) (h6 : n ≤ 6) : ∀ k, k ≤ n → 0 ≤ csum T k ∧ csum T k ≤ (k : Int) * 12000000000000
  | 0, _ => ⟨by rw [show csum T 0 = 0 from rfl]; decide, by rw [show csum T 0 = 0 from rfl]; simp⟩
  | k + 1, h => by
    have i := csum_b hA h6 k (by omega)
    have t := wcol_b hA (show k < n by omega) k (by omega)
    rw [csum_succ]
    omega
end Go.Proofs.YtnagdjipmpjaaaiGreatDoor
namespace Go.Proofs.YtnagdjipmpjaaaiGreatDoor
open Go.ChangeShapes Go.WideShapes Go.ChangeAt Go.RowKit Go.Joins
set_option linter.unusedVariables false
set_option linter.unusedSimpArgs false

/-- The document's world in memory, behind a world w. -/
structure RW (Ex : List Value) (w u : World) (mb : Nat) (sa : Option Addr) (sc : Nat) (ra : Option Addr) (rc : Nat) (S : Ws) (v : Value) : Prop where
  r : Row u mb (.slice sa S.n sc :: .slice ra S.n rc :: .int .i64 S.time :: v :: Ex)
  o : u.ownsRow w.heap.size 98 6 v S.under.length (lcs S.under)
  hs : NHanded w sa S.n S.starts
  hr : NHanded w ra S.n S.rates
  hw : Below w.heap.size w u
  ne : v.ownBlock ≠ some mb
  lo : w.heap.size ≤ mb
/-- What a call of it keeps, and where its letters lie then. -/
def Kp (u u' : World) (mb : Nat) (v v' : Value) : Prop := Keeps (fun k => k = mb ∨ v.ownBlock = some k) u u' ∧ ∀ g, v'.ownBlock = some g → v.ownBlock = some g ∨ u.heap.size ≤ g
section
variable {Ex : List Value} {w u u' : World} {mb sc rc : Nat} {sa ra : Option Addr} {S : Ws} {v : Value}
theorem RW.form (h : RW Ex w u mb sa sc ra rc S v) : (v = .slice none 0 0 ∧ S.under = []) ∨ ∃ g cap, v = .slice (some ⟨g, 0, none⟩) S.under.length cap ∧ S.under.length ≤ cap ∧ w.heap.size ≤ g ∧ g < u.heap.size ∧ g ≠ mb ∧ Lts u g 0 S.under := by
  rcases h.o.2 with ⟨e, l⟩ | ⟨g, cap, cur, e, hb, hg, hc, _, hcs, htk⟩
  · exact Or.inl ⟨e, List.eq_nil_of_length_eq_zero l⟩
  · have glt : g < u.heap.size := by
      rcases Nat.lt_or_ge g u.heap.size with hlt | hge
      · exact hlt
      · rw [Array.getElem?_eq_none hge] at hg; cases hg
    refine Or.inr ⟨g, cap, e, hc, hb, glt, fun q => h.ne (by rw [e]; show some g = some mb; rw [q]), fun i q hq j x hx => ?_⟩
    have := h.o.cells (g := g) (by rw [e]; rfl) (i * 6 + j) x (lcs_at hq hx)
    rw [Addr.add_lit] at this
    rw [show 0 + i * 6 + j = 0 + (i * 6 + j) by omega]
    exact this
theorem RW.len (h : RW Ex w u mb sa sc ra rc S v) : ∃ a cap, v = .slice a S.under.length cap ∧ (a = none ∧ S.under = [] ∧ cap = 0 ∨ ∃ g, a = some ⟨g, 0, none⟩ ∧ S.under.length ≤ cap ∧ w.heap.size ≤ g ∧ g < u.heap.size ∧ g ≠ mb ∧ Lts u g 0 S.under) := by
  rcases h.form with ⟨e, l⟩ | ⟨g, cap, e, q⟩
  · exact ⟨none, 0, by rw [e, l]; rfl, Or.inl ⟨rfl, l, rfl⟩⟩
  · exact ⟨_, cap, e, Or.inr ⟨g, rfl, q⟩⟩
theorem RW.on (hb : Below u.heap.size u u') (h : RW Ex w u mb sa sc ra rc S v) : RW Ex w u' mb sa sc ra rc S v := by
  refine ⟨Row.on hb h.r, h.o.kept (row := none) ⟨hb.os, hb.tape, hb.output, hb.size, fun k hk _ => hb.block k hk⟩ ?_, h.hs, h.hr, rbel_on hb h.hw, h.ne, h.lo⟩
  cases v.ownBlock with
  | none => exact Or.inl rfl
  | some k => exact Or.inr (by simp)
theorem RW.kp (hb : Below u.heap.size u u') : Kp u u' mb v v := ⟨.of hb, fun _ h => Or.inl h⟩
theorem RW.hand (h : RW Ex w u mb sa sc ra rc S v) (hI : S.I) : ∃ a cap, v = .slice a S.under.length cap ∧ WHanded u a S.under := by
  have := hI.un
  obtain ⟨a, cap, e, q⟩ := h.len
  refine ⟨a, cap, e, by omega, ?_⟩
  rcases q with ⟨_, l, _⟩ | ⟨g, e, _, _, _, _, hL⟩
  · exact Or.inl l
  · exact Or.inr ⟨g, 0, e, hL⟩
/-- What it keeps is as it was. -/
theorem RW.keep (hm : u'.heap[mb]? = u.heap[mb]?) (hv : ∀ g, v.ownBlock = some g → u'.heap[g]? = u.heap[g]?) (hw' : Below w.heap.size w u') (h : RW Ex w u mb sa sc ra rc S v) : RW Ex w u' mb sa sc ra rc S v := by
  refine ⟨row_block hm h.r, ⟨h.o.1, ?_⟩, h.hs, h.hr, hw', h.ne, h.lo⟩
  rcases h.o.2 with q | ⟨g, cap, cur, e, hb, hg, q⟩
  · exact Or.inl q
  · exact Or.inr ⟨g, cap, cur, e, hb, (hv g (by rw [e]; rfl)).trans hg, q⟩
/-- Six cells of a block. -/
def six (u : World) (b : Nat) (a0 a1 a2 a3 a4 a5 : Value) : World := (((((u.setCell ⟨b, 0, none⟩ a0).setCell ⟨b, 1, none⟩ a1).setCell ⟨b, 2, none⟩ a2).setCell ⟨b, 3, none⟩ a3).setCell ⟨b, 4, none⟩ a4).setCell ⟨b, 5, none⟩ a5
theorem six_keeps {T : Nat → Prop} {u1 : World} {b : Nat} {a0 a1 a2 a3 a4 a5 : Value} (hb : T b) (h : Keeps T u u1) : Keeps T u (six u1 b a0 a1 a2 a3 a4 a5) :=
  .put hb (.put hb (.put hb (.put hb (.put hb (.put hb h)))))
theorem RW.six {b : Nat} {a0 a1 a2 a3 a4 a5 : Value} (h : RW Ex w u mb sa sc ra rc S v) (h1 : b ≠ mb) (h2 : v.ownBlock ≠ some b) (h3 : w.heap.size ≤ b) : RW Ex w (six u b a0 a1 a2 a3 a4 a5) mb sa sc ra rc S v := by
  have k : Keeps (fun k => k = b) u (Go.Proofs.YtnagdjipmpjaaaiGreatDoor.six u b a0 a1 a2 a3 a4 a5) := six_keeps rfl (.refl _ _)
  refine RW.keep (k.block mb h.r.lt (fun e => h1 e.symm)) (fun g hg => k.block g (h.o.lt g hg).2 (fun e => h2 (by rw [hg, e]))) (h.hw.trans (k.below h.hw.size (fun i hi => by rw [hi]; exact h3))) h
theorem Kp.six {u1 : World} {v' : Value} {b : Nat} {a0 a1 a2 a3 a4 a5 : Value} (h : Kp u u1 mb v v') (hb : u.heap.size ≤ b) : Kp u (six u1 b a0 a1 a2 a3 a4 a5) mb v v' := by
  refine ⟨?_, h.2⟩
  have k : Keeps (fun k => k = b) u1 (Go.Proofs.YtnagdjipmpjaaaiGreatDoor.six u1 b a0 a1 a2 a3 a4 a5) := six_keeps rfl (.refl _ _)
  exact ⟨k.os.trans h.1.os, k.tape.trans h.1.tape, k.output.trans h.1.output, Nat.le_trans h.1.size k.size, fun i hi hn => (k.block i (Nat.lt_of_lt_of_le hi h.1.size) (fun e => by omega)).trans (h.1.block i hi hn)⟩
/-- Later. -/
theorem RW.late {W : World} {t : Int} (h : RW Ex w u mb sa sc ra rc S v) (hW : Below u.heap.size u W) : RW Ex w (W.setCell ⟨mb, 2, none⟩ (.int .i64 t)) mb sa sc ra rc { S with time := t } v ∧ Kp u (W.setCell ⟨mb, 2, none⟩ (.int .i64 t)) mb v v := by
  have k0 : Keeps (fun k => k = mb ∨ v.ownBlock = some k) u (W.setCell ⟨mb, 2, none⟩ (.int .i64 t)) := Keeps.put (Or.inl rfl) (Keeps.of hW)
  have h0 := RW.on hW h
  exact ⟨⟨Row.put 2 h0.r, ownsRow_setCell_other h0.o (a := ⟨mb, 2, none⟩) h0.ne _, h.hs, h.hr, h.hw.trans (k0.below h.hw.size (by
    rintro k (e | e)
    · rw [e]; exact h.lo
    · exact (h.o.lt k e).1)), h.ne, h.lo⟩, k0, fun _ h => Or.inl h⟩
/-- Behind calls that lay blocks and turn none. -/
theorem RW.has (h : RW Ex w u mb sa sc ra rc S v) (i : Int) : Calls Tryz.prog 55 #[.pointer (some ⟨mb, 0, none⟩), .int .i64 i] u fun o w' => o = .returned (.bool (decide (0 ≤ i ∧ i < S.n))) ∧ Below u.heap.size u w' :=
  rhas mb S.n sc sa i u h.hs.1 (h.r.c 0 _ rfl)
theorem RW.read (h : RW Ex w u mb sa sc ra rc S v) (hI : S.I) {i : Nat} (hi : i < S.n) : Calls Tryz.prog 18 #[.pointer (some ⟨mb, 0, none⟩), .int .i64 i] u fun o w' => o = .returned (.int .i64 (S.rd i)) ∧ Below u.heap.size u w' :=
  rread mb S.n sc rc sa ra S i u hI rfl hi (h.r.c 0 _ rfl) (h.r.c 1 _ rfl) (h.r.c 2 _ rfl) (h.hs.on h.hw) (h.hr.on h.hw)
/-- Letters in a row of this call's own. -/
theorem RW.turn {X : World} {v' : Value} {l : List Lt} {m : Nat} (h : RW Ex w u mb sa sc ra rc S v) (hX : Below u.heap.size u X) (ho : X.ownsRow w.heap.size 98 6 v' m (lcs l)) (hm : m = l.length) (hb : ∀ g, v'.ownBlock = some g → u.heap.size ≤ g) :
    RW Ex w (X.setCell ⟨mb, 3, none⟩ v') mb sa sc ra rc { S with under := l } v' ∧ Kp u (X.setCell ⟨mb, 3, none⟩ v') mb v v' := by
  subst hm
  have lt : mb < u.heap.size := h.r.lt
  have ne' : v'.ownBlock ≠ some mb := fun e => by have := hb mb e; omega
  have K : Keeps (fun k => k = mb ∨ v.ownBlock = some k) u (X.setCell ⟨mb, 3, none⟩ v') := Keeps.put (Or.inl rfl) (Keeps.of hX)
  refine ⟨⟨Row.put 3 (RW.on hX h).r, ownsRow_setCell_other ho (a := ⟨mb, 3, none⟩) ne' v', h.hs, h.hr, h.hw.trans (K.below h.hw.size ?_), ne', h.lo⟩, K, ?_⟩
  · rintro k (e | e)
    · rw [e]; exact h.lo
    · exact (h.o.lt k e).1
  · exact fun g hg => Or.inr (hb g hg)
/-- A letter more, behind all. -/
theorem RW.more {W w1 : World} {v' : Value} {l : Lt} (h : RW Ex w u mb sa sc ra rc S v) (hW : Below u.heap.size u W) (ho : w1.ownsRow w.heap.size 98 6 v' (S.under.length + 1) (lcs S.under ++ ltc l)) (hg : W.grownBy w1 v.ownBlock) (ha : v'.ownBlock = v.ownBlock ∨ v'.ownBlock = some W.heap.size) :
    RW Ex w (w1.setCell ⟨mb, 3, none⟩ v') mb sa sc ra rc { S with under := S.under ++ [l] } v' ∧ Kp u (w1.setCell ⟨mb, 3, none⟩ v') mb v v' := by
  have hW' := RW.on hW h
  have lt : mb < u.heap.size := h.r.lt
  have sz := hW.size
  have sz1 := hg.size
  have ne' : v'.ownBlock ≠ some mb := by
    rcases ha with e | e
    · rw [e]; exact h.ne
    · rw [e]; intro q; injection q with q; omega
  have kg : Keeps (fun k => k = mb ∨ v.ownBlock = some k) W w1 := ⟨hg.os, hg.tape, hg.output, hg.size, fun k hk hn => hg.block k hk (fun e => hn (Or.inr e.symm))⟩
  have K : Keeps (fun k => k = mb ∨ v.ownBlock = some k) u (w1.setCell ⟨mb, 3, none⟩ v') := Keeps.put (Or.inl rfl) ((Keeps.of hW).trans kg)
  have rw1 : Row w1 mb (.slice sa S.n sc :: .slice ra S.n rc :: .int .i64 S.time :: v :: Ex) := by
    refine (Keeps.row (S := fun k => v.ownBlock = some k) ⟨hg.os, hg.tape, hg.output, hg.size, fun k hk hn => hg.block k hk (fun e => hn e.symm)⟩ h.ne hW'.r)
  refine ⟨⟨Row.put 3 rw1, ?_, h.hs, h.hr, h.hw.trans (K.below h.hw.size ?_), ne', h.lo⟩, K, ?_⟩
  · show (w1.setCell ⟨mb, 3, none⟩ v').ownsRow w.heap.size 98 6 v' (S.under ++ [l]).length (lcs (S.under ++ [l]))
    rw [lcs_app, List.length_append]
    exact ownsRow_setCell_other (by simpa [lcs] using ho) (a := ⟨mb, 3, none⟩) ne' v'
  · rintro k (e | e)
    · rw [e]; exact h.lo
    · exact (h.o.lt k e).1
  · intro g hg
    rcases ha with e | e
    · exact Or.inl (e.symm.trans hg)
    · rw [e] at hg; injection hg with hg; exact Or.inr (by omega)
end
end Go.Proofs.YtnagdjipmpjaaaiGreatDoor
namespace Go.Proofs.YtnagdjipmpjaaaiGreatDoor
open Go.ChangeShapes Go.WideShapes Go.ChangeAt Go.RowKit
set_option linter.unusedVariables false
set_option linter.unusedSimpArgs false

theorem up_more {a b : Int} (h1 : 1 ≤ b) (h : a / b * b < a) : a / b + 1 = (a + b - 1) / b := by
  have e := Int.mul_ediv_add_emod a b
  have r1 := Int.emod_lt_of_pos a (show 0 < b by omega)
  have c : b * (a / b) = a / b * b := Int.mul_comm _ _
  have e2 : a + b - 1 = (a % b - 1) + b * (a / b + 1) := by rw [Int.mul_add]; omega
  have z : (a % b - 1) / b = 0 := Int.ediv_eq_zero_of_lt (by omega) (by omega)
  rw [e2, Int.add_mul_ediv_left _ _ (by omega), z]
  omega
theorem up_same {a b : Int} (h1 : 1 ≤ b) (h : ¬ a / b * b < a) : a / b = (a + b - 1) / b := by
  have e := Int.mul_ediv_add_emod a b
  have r0 := Int.emod_nonneg a (show b ≠ 0 by omega)
  have c : b * (a / b) = a / b * b := Int.mul_comm _ _
  have e2 : a + b - 1 = (b - 1) + b * (a / b) := by omega
  have z : (b - 1) / b = 0 := Int.ediv_eq_zero_of_lt (by omega) (by omega)
  rw [e2, Int.add_mul_ediv_left _ _ (by omega), z]
  omega
theorem up_b {a b : Int} (h0 : 0 ≤ a) (h1 : 1 ≤ b) : 0 ≤ a / b * b ∧ a / b * b ≤ a := by
  have e := Int.mul_ediv_add_emod a b
  have r0 := Int.emod_nonneg a (show b ≠ 0 by omega)
  have c : b * (a / b) = a / b * b := Int.mul_comm _ _
  exact ⟨Int.mul_nonneg (IntWalk.tdiv_le a b h0 h1).1 (by omega), by omega⟩

set_option maxHeartbeats 1000000 in
theorem rup_same (a b : Int) (w : World) (h1 : 0 ≤ a) (h2 : a ≤ 9000000000000000000) (h3 : 1 ≤ b) (h4 : b ≤ 2000000) :
    Calls Tryz.prog 119 #[.int .i64 a, .int .i64 b] w fun e w' => e = .returned (.int .i64 ((a + b - 1) / b)) ∧ w' = w := by
  have q := IntWalk.tdiv_le a b h1 h3
  obtain ⟨q1, q2⟩ := q
  have r := up_b h1 h3
  obtain ⟨r1, r2⟩ := r
  have hnz : ¬ (b = 0) := by omega
  by_cases h : a / b * b < a
  · have H : Hid (a / b + 1 = (a + b - 1) / b) := up_more h3 h
    go_enter Tryz.func119, Tryz.ntmps119
    go_wp2
    go_ret
    exact ⟨(by rw [H.out]; rfl), rfl⟩
  · have H : Hid (a / b = (a + b - 1) / b) := up_same h3 h
    go_enter Tryz.func119, Tryz.ntmps119
    go_wp2
    go_ret
    exact ⟨(by rw [← H.out]; rfl), rfl⟩
end Go.Proofs.YtnagdjipmpjaaaiGreatDoor
namespace Go.Proofs.YtnagdjipmpjaaaiGreatDoor
set_option linter.unusedVariables false

theorem doR_uniq {S S1 S2 : Ws} {wh a b e1 e2 : Int} {r1 r2 : Option Lt} (h : DoR S wh a b S1 r1 e1) (h' : DoR S wh a b S2 r2 e2) : S1 = S2 ∧ r1 = r2 ∧ e1 = e2 := by
  rcases h with ⟨a0, a1, rfl, rfl, rfl⟩ | ⟨a0, a1, rfl, rfl, rfl⟩ | ⟨a0, a1, rfl, rfl, rfl⟩ | ⟨a0, a1, a2, rfl, rfl, rfl⟩ | ⟨a0, a1, a2, a3, rfl, rfl, rfl⟩ | ⟨a0, a1, a2, a3, rfl, rfl, rfl⟩ | ⟨a0, a1, rfl, rfl, rfl⟩ | ⟨a0, a1, rfl, rfl, rfl⟩ | ⟨a0, a1, rfl, rfl, rfl⟩ | ⟨a0, a1, rfl, rfl, rfl⟩ | ⟨a0, rfl, rfl, rfl⟩ <;>
  rcases h' with ⟨b0, b1, rfl, rfl, rfl⟩ | ⟨b0, b1, rfl, rfl, rfl⟩ | ⟨b0, b1, rfl, rfl, rfl⟩ | ⟨b0, b1, b2, rfl, rfl, rfl⟩ | ⟨b0, b1, b2, b3, rfl, rfl, rfl⟩ | ⟨b0, b1, b2, b3, rfl, rfl, rfl⟩ | ⟨b0, b1, rfl, rfl, rfl⟩ | ⟨b0, b1, rfl, rfl, rfl⟩ | ⟨b0, b1, rfl, rfl, rfl⟩ | ⟨b0, b1, rfl, rfl, rfl⟩ | ⟨b0, rfl, rfl, rfl⟩ <;>
  first | exact ⟨rfl, rfl, rfl⟩ | (exfalso; omega) | exact absurd a1 b1 | exact absurd b1 a1 | exact absurd a2 b2 | exact absurd b2 a2
theorem anR_one {S S1 S2 : Ws} {l : Lt} {e1 e2 : Int} (h : AnR S l S1 e1) (h' : AnR S l S2 e2) : S1 = S2 ∧ e1 = e2 := by
  rcases h with ⟨a, rfl, rfl⟩ | ⟨a, b, rfl, rfl⟩ | ⟨a, b, c, rfl, rfl⟩ | ⟨a, b, c, rfl, rfl⟩ <;> rcases h' with ⟨a', rfl, rfl⟩ | ⟨a', b', rfl, rfl⟩ | ⟨a', b', c', rfl, rfl⟩ | ⟨a', b', c', rfl, rfl⟩ <;> first | exact ⟨rfl, rfl⟩ | exact absurd b b' | exact absurd b' b | (exfalso; omega) | (rw [a] at a'; exact absurd a' (by decide))
end Go.Proofs.YtnagdjipmpjaaaiGreatDoor
namespace Go.Proofs.YtnagdjipmpjaaaiGreatDoor
set_option linter.unusedVariables false

def Bnd (U : Tb) (c : Int) : Prop := ∀ i k x, U i k = some x → -(c * 1000000000000) ≤ x ∧ x ≤ c * 1000000000000
theorem Bnd.mono {U : Tb} {c c' : Int} (h : Bnd U c) (l : c ≤ c') : Bnd U c' := fun i k x e => by
  have := h i k x e; omega
theorem rlx_bnd {U : Tb} {c g : Int} (h : Bnd U c) (h0 : 0 ≤ c) (l1 : -1000000000000 ≤ g) (l2 : g ≤ 1000000000000) (i a b : Nat) : Bnd (rlx U i a b g) (c + 1) := fun i' k x e => by
  unfold rlx at e
  by_cases h' : i' = i ∧ k = b
  · obtain ⟨rfl, rfl⟩ := h'
    rw [if_pos ⟨rfl, rfl⟩] at e
    cases ha : U i' a with
    | none => rw [ha] at e; have := h _ _ _ e; omega
    | some z =>
      have hz := h _ _ _ ha
      rw [ha] at e
      cases hb : U i' k with
      | none =>
        rw [hb] at e
        obtain rfl := Option.some.inj e
        omega
      | some y =>
        have hy := h _ _ _ hb
        rw [hb] at e
        simp only at e
        split at e
        · obtain rfl := Option.some.inj e
          omega
        · obtain rfl := Option.some.inj e
          omega
  · rw [if_neg h'] at e; have := h _ _ _ e; omega
/-- Row i has been gone over along the first j edges. -/
def Dn (q : Nat → Eg) (S U : Tb) (i j : Nat) : Prop := ∀ u v c x, Arc q j u v c → S i u = some x → ∃ y, U i v = some y ∧ y ≤ x + c
theorem Dn.lower {q : Nat → Eg} {S U U' : Tb} {i j : Nat} (h : Dn q S U i j) (l : Lower U U') : Dn q S U' i j := fun u v c x g e => by
  obtain ⟨y, h1, h2⟩ := h u v c x g e
  obtain ⟨z, g1, g2⟩ := l i v y h1
  exact ⟨z, g1, by omega⟩
/-- What is known at row i, edge j of round r, of the table S at the round's beginning and the table U now. -/
structure Inv (q : Nat → Eg) (n m r i j : Nat) (S U : Tb) : Prop where
  sound : Sound (Arc q m) U
  lower : Lower S U
  rows : ∀ i', i' < i → Dn q S U i' m
  row : Dn q S U i j
  bnd : Bnd U (480 * r + 80 * i + 2 * j)
section
variable {q : Nat → Eg} {n m r i j : Nat} {S U : Tb}
theorem Inv.start (s : Sound (Arc q m) S) (b : Bnd S (480 * r)) : Inv q n m r 0 0 S S :=
  ⟨s, Lower.refl S, fun i' h => by omega, fun u v c x g e => by obtain ⟨j, hj, _⟩ := g; omega, b.mono (by omega)⟩
/-- One edge more. -/
theorem Inv.step (h : Inv q n m r i j S U) (hE : Egs n q m) (hj : j < m) {A B : Nat} (hA : (q j).a = A) (hB : (q j).b = B) :
    Inv q n m r i (j + 1) S (rlx (rlx U i A B (q j).hi) i B A (-(q j).lo)) := by
  have l1 := rlx_lower U i A B (q j).hi
  have l2 := rlx_lower (rlx U i A B (q j).hi) i B A (-(q j).lo)
  obtain ⟨_, _, o⟩ := hE.each j hj
  have ob := okB_t o
  refine ⟨rlx_sound (rlx_sound h.sound ⟨j, hj, Or.inl ⟨hA.symm, hB.symm, rfl⟩⟩) ⟨j, hj, Or.inr ⟨hB.symm, hA.symm, rfl⟩⟩, h.lower.trans (l1.trans l2), fun i' hi' => (h.rows i' hi').lower (l1.trans l2), ?_, ?_⟩
  · rintro u v c x ⟨j', hj', g⟩ e
    by_cases k : j' < j
    · exact (h.row.lower (l1.trans l2)) u v c x ⟨j', k, g⟩ e
    · obtain rfl : j' = j := by omega
      obtain ⟨z, e1, e2⟩ := h.lower i u x e
      rcases g with ⟨g1, g2, rfl⟩ | ⟨g1, g2, rfl⟩
      · obtain rfl : u = A := by omega
        obtain rfl : v = B := by omega
        obtain ⟨y, y1, y2⟩ := rlx_does U i u v (q j').hi z e1
        obtain ⟨y', y3, y4⟩ := l2 i v y y1
        exact ⟨y', y3, by omega⟩
      · obtain rfl : u = B := by omega
        obtain rfl : v = A := by omega
        obtain ⟨z', z1, z2⟩ := l1 i u z e1
        obtain ⟨y, y1, y2⟩ := rlx_does (rlx U i v u (q j').hi) i u v (-(q j').lo) z' z1
        exact ⟨y, y1, by omega⟩
  · have b1 := rlx_bnd h.bnd (by omega) (by omega) (by omega) i A B (g := (q j).hi)
    have b2 := rlx_bnd b1 (by omega) (by omega) (by omega) i B A (g := -(q j).lo)
    exact b2.mono (by omega)
/-- One row more. -/
theorem Inv.next (h : Inv q n m r i m S U) (hE : Egs n q m) : Inv q n m r (i + 1) 0 S U :=
  ⟨h.sound, h.lower, fun i' hi' => by
    by_cases e : i' = i
    · subst e; exact h.row
    · exact h.rows i' (by omega), fun u v c x g e => by obtain ⟨j, hj, _⟩ := g; omega, h.bnd.mono (by have := hE.m40; omega)⟩
/-- One round more. -/
theorem Inv.round (h : Inv q n m r n 0 S U) (hE : Egs n q m) (up : Upto (Arc q m) n r S) : Upto (Arc q m) n (r + 1) U ∧ Sound (Arc q m) U ∧ Bnd U (480 * ((r + 1 : Nat) : Int)) :=
  ⟨up.next h.lower (fun i j k c x hi g e => h.rows i hi j k c x g e), h.sound, h.bnd.mono (by have := hE.n6; omega)⟩
theorem tb0_bnd : Bnd tb0 (480 * ((0 : Nat) : Int)) := fun i k x e => by
  unfold tb0 at e
  split at e
  · obtain rfl := Option.some.inj e; omega
  · cases e
end
/-- Is a step tighter than what is known? -/
def need (U : Tb) (i a b : Nat) (c : Int) : Bool := match U i a with
  | none => false
  | some x => match U i b with
    | none => true
    | some y => decide (x + c < y)
end Go.Proofs.YtnagdjipmpjaaaiGreatDoor
