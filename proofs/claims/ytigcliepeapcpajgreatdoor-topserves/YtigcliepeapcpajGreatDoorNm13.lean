/- What bounds.All and bounds.Between answer, of any edges. Package bounds: Between. -/
import Derived.Test.YtigcliepeapcpajGreatDoorBoundsChk
namespace Go.Proofs.YtigcliepeapcpajGreatDoor
open Go.ChangeShapes Go.WideShapes Go.ChangeAt Go.RowKit Go.Joins
set_option linter.unusedVariables false
set_option linter.unusedSimpArgs false

set_option maxRecDepth 100000 in
theorem beyond11_any (lo hi : Int) (w : World) : Calls Tryz.prog 88 #[.agg #[.int .i64 lo, .int .i64 hi]] w fun e w' => e = .returned (.bool (!okB lo hi)) ∧ Below w.heap.size w w' := by
  have cS := fun u => spanCheck_any lo hi u
  cases h : okB lo hi with
  | true =>
    rw [h, if_pos rfl, errc_zero] at cS
    clear h
    go_enter Tryz.func88, Tryz.ntmps88
    go_wp2_with (go_at_call 28; refine (cS _).mono ?_; rintro e u2 ⟨rfl, hb⟩; have HB : Hid _ := hb; clear hb)
    go_ret
    exact ⟨rfl, rbel_on HB.out (rbel_al (Below.refl _ _))⟩
  | false =>
    rw [h, if_neg (by decide), errc_not (by decide)] at cS
    clear h
    go_enter Tryz.func88, Tryz.ntmps88
    go_wp2_with (go_at_call 28; refine (cS _).mono ?_; rintro e u2 ⟨rfl, hb⟩; have HB : Hid _ := hb; clear hb)
    go_ret
    exact ⟨rfl, rbel_on HB.out (rbel_al (Below.refl _ _))⟩
set_option maxRecDepth 100000 in
theorem beyond1_any (r n : Nat) (q : Nat → Int × Int) (w : World) (h6 : n ≤ 6) (hS : Spz w r 0 n q) : Calls Tryz.prog 86 #[.slice (some ⟨r, 0, none⟩) n n] w fun e w' => e = .returned (.bool (anyB (fun k => !okB (q k).1 (q k).2) n)) ∧ Below w.heap.size w w' := by
  have cA := any_spns (some ⟨r, 0, none⟩) n n q (fun k => !okB (q k).1 (q k).2) w (by omega) (Or.inr ⟨r, 0, rfl, hS⟩) (fun i u _ _ => beyond11_any (q i).1 (q i).2 u)
  clear hS
  generalize anyB (fun k => !okB (q k).1 (q k).2) n = bb at *
  go_enter Tryz.func86, Tryz.ntmps86
  go_wp2_with (go_at_call 87; refine cA.mono ?_; rintro e u2 ⟨rfl, hb⟩; have HB : Hid _ := hb; clear hb)
  go_ret
  exact ⟨rfl, HB.out⟩
def farB (n : Nat) (P : Tx) : Bool := anyB (fun i => anyB (fun k => !okB (xLo P i k) (xHi P i k)) n) n
set_option maxRecDepth 100000 in
theorem beyond_any (gs gk n : Nat) (Sb Kb : Nat → Nat) (P : Tx) (w : World) (h6 : n ≤ 6) (T : Tbx w gs gk n Sb Kb P) : Calls Tryz.prog 77 #[tbv gs gk n] w fun e w' => e = .returned (.bool (farB n P)) ∧ Below w.heap.size w w' := by
  have cA := fun u (hu : Below w.heap.size w u) => any_rows (some ⟨gs, 0, none⟩) n n (fun i => .slice (some ⟨Sb i, 0, none⟩) n n) (fun i => anyB (fun k => !okB (xLo P i k) (xHi P i k)) n) u (by omega) (Or.inr ⟨gs, 0, rfl, fun i hi => by rw [Nat.zero_add]; exact (T.on hu).outS.c i _ (outs_at Sb n i hi)⟩)
    (fun i u' hi hu' => beyond1_any (Sb i) n (fun k => (xLo P i k, xHi P i k)) u' h6 (fun k hk => by
      have b := (((T.on hu).on hu').inS i hi)
      rw [Nat.zero_add]
      exact ⟨b.c _ _ (rowS_lo P n i k hk), b.c _ _ (rowS_hi P n i k hk)⟩))
  clear T
  rw [show anyB (fun i => anyB (fun k => !okB (xLo P i k) (xHi P i k)) n) n = farB n P from rfl] at cA
  generalize farB n P = bb at *
  go_enter Tryz.func77, Tryz.ntmps77
  go_wp2_with (go_at_call 85; refine (cA _ (rbel_al (Below.refl _ _))).mono ?_; rintro e u2 ⟨rfl, hb⟩; have HB : Hid _ := hb; clear hb)
  go_ret
  exact ⟨rfl, rbel_on HB.out (rbel_al (Below.refl _ _))⟩
section
variable {q : Nat → Eg} {m n : Nat} {P : Tx} {T : Tb} {c : Int}
/-- The table that the program has, and the one that is to be told. -/
structure Tld (q : Nat → Eg) (m n : Nat) (P : Tx) (T : Tb) : Prop where
  same : ∀ i k, i < n → k < n → T i k = (P i k).map (fun x => x.2)
  turn : ∀ i k x, i < n → k < n → P i k = some x → ∃ y, P k i = some y ∧ y.2 = -x.1
  ord : ∀ i k x, i < n → k < n → P i k = some x → x.1 ≤ x.2
theorem tld (hE : Egs n q m) (G : Gd (Arc q m) n c P) (F : Fwx (Arc q m) n n P) (hT : IsT q m n T) : Tld q m n P T := by
  obtain ⟨_, h2, h3⟩ := top_isT hE G F
  refine ⟨fun i k hi hk => ?_, h3, fun i k x hi hk e => (G.ord i k x hi hk e).1⟩
  rw [hT.one h2 hi k]
  exact if_pos hk
theorem Tld.far (h : Tld q m n P T) : farB n P = true ↔ Far n T := by
  unfold farB
  rw [anyB_iff]
  constructor
  · rintro ⟨i, hi, e⟩
    obtain ⟨k, hk, e⟩ := anyB_iff.1 e
    have o : okB (xLo P i k) (xHi P i k) = false := by simpa using e
    have o := okB_f o
    cases ep : P i k with
    | none =>
      rw [show xLo P i k = 0 by unfold xLo; rw [ep], show xHi P i k = 0 by unfold xHi; rw [ep]] at o
      omega
    | some x =>
      rw [show xLo P i k = x.1 by unfold xLo; rw [ep], show xHi P i k = x.2 by unfold xHi; rw [ep]] at o
      have or := h.ord i k x hi hk ep
      by_cases g : 1000000000000 < x.2
      · exact ⟨i, k, x.2, hi, hk, by rw [h.same i k hi hk, ep]; rfl, Or.inr g⟩
      · obtain ⟨y, y1, y2⟩ := h.turn i k x hi hk ep
        exact ⟨k, i, y.2, hk, hi, by rw [h.same k i hk hi, y1]; rfl, Or.inr (by omega)⟩
  · rintro ⟨i, k, x, hi, hk, e, g⟩
    refine ⟨i, hi, anyB_iff.2 ⟨k, hk, ?_⟩⟩
    rw [h.same i k hi hk] at e
    cases ep : P i k with
    | none => rw [ep] at e; cases e
    | some z =>
      rw [ep] at e
      obtain rfl := Option.some.inj e
      have or := h.ord i k z hi hk ep
      have g : z.2 < -1000000000000 ∨ 1000000000000 < z.2 := g
      rw [show xLo P i k = z.1 by unfold xLo; rw [ep], show xHi P i k = z.2 by unfold xHi; rw [ep]]
      rw [okB_no (by omega)]; rfl
theorem Tld.stab (h : Tld q m n P T) {u : World} {gs gk : Nat} {Sb Kb : Nat → Nat} (t : Tbx u gs gk n Sb Kb P) : STab u (.slice (some ⟨gs, 0, none⟩) n n) (.slice (some ⟨gk, 0, none⟩) n n) n T := by
  refine ⟨gs, 0, n, gk, 0, n, Sb, fun _ => 0, fun _ => n, Kb, fun _ => 0, fun _ => n, rfl, rfl, fun i hi => ?_, fun i k hi hk => ?_⟩
  · rw [Nat.zero_add]
    exact ⟨t.outS.c i _ (outs_at Sb n i hi), t.outK.c i _ (outs_at Kb n i hi)⟩
  · rw [Nat.zero_add, Nat.zero_add]
    have e1 : spLo T i k = xLo P i k := by
      unfold spLo xLo
      rw [h.same i k hi hk]
      cases ep : P i k with
      | none => rfl
      | some x =>
        obtain ⟨y, y1, y2⟩ := h.turn i k x hi hk ep
        show -((T k i).getD 0) = x.1
        rw [h.same k i hk hi, y1]
        show -y.2 = x.1
        omega
    have e2 : spHi T i k = xHi P i k := by
      unfold spHi xHi
      rw [h.same i k hi hk]
      cases ep : P i k with
      | none => rfl
      | some x => rfl
    have e3 : (T i k).isSome = (P i k).isSome := by
      rw [h.same i k hi hk]
      cases P i k <;> rfl
    rw [e1, e2, e3]
    exact ⟨(t.inS i hi).c _ _ (rowS_lo P n i k hk), (t.inS i hi).c _ _ (rowS_hi P n i k hk), (t.inK i hi).c _ _ (rowK_at P n i k hk)⟩
end
/-- What All answers. -/
def AllR (n : Nat) (T : Tb) (e : Int) (u : World) (r : Ending) (w' : World) : Prop := ∃ s h, r = .returned (.tuple #[s, h, errc e]) ∧ (e = 0 → STab w' s h n T) ∧ Below u.heap.size u w'
theorem below_keeps {S : Nat → Prop} {w a b : World} (h : Below w.heap.size w a) (k : Keeps S a b) (hS : ∀ x, S x → w.heap.size ≤ x) : Below w.heap.size w b := h.trans (k.below h.size hS)
set_option maxRecDepth 100000 in
set_option maxHeartbeats 8000000 in
theorem all_bad (z : Int) (a : Option Addr) (m cap : Nat) (q : Nat → Eg) (T : Tb) (w : World) (hH : EHanded w a m q) (h0 : eE z q m ≠ 0) :
    Calls Tryz.prog 53 #[.int .i64 z, .slice a m cap] w fun r w' => AllR z.toNat T (eE z q m) w r w' := by
  have cC := check_any z a m cap q w hH
  have HE : Hid (errc (eE z q m) = .iface 71 (.int .i64 (eE z q m))) := errc_not h0
  have H0 : Hid (eE z q m ≠ 0) := h0
  rw [errc_not h0] at cC
  clear h0 hH
  generalize eE z q m = er at *
  go_enter Tryz.func53, Tryz.ntmps53
  go_wp2_with (go_at_call 51; refine cC.mono ?_; rintro e u0 ⟨rfl, hb⟩; have HB : Hid _ := hb; clear hb)
  exact bodyPost_ret (v := .tuple #[.slice none 0 0, .slice none 0 0, .iface 71 (.int .i64 er)]) (by simp [results, Tryz.results53, go_sem]) rfl ⟨.slice none 0 0, .slice none 0 0, by rw [HE.out], fun e => absurd e H0.out, HB.out⟩
set_option maxRecDepth 100000 in
set_option maxHeartbeats 8000000 in
theorem all_good (n : Nat) (a : Option Addr) (m cap : Nat) (q : Nat → Eg) (e : Int) (T : Tb) (w : World) (hH : EHanded w a m q) (h0 : eE n q m = 0) (hA : AllA q m n e T) :
    Calls Tryz.prog 53 #[.int .i64 n, .slice a m cap] w fun r w' => AllR n T e w r w' := by
  have cC := check_any n a m cap q w hH
  rw [h0, errc_zero] at cC
  have hE := eE_zero h0
  have h6 : n ≤ 6 := by have := hE.n6; omega
  have HH : Hid (EHanded w a m q) := hH
  have HE : Hid (Egs n q m) := hE
  have HA : Hid (AllA q m n e T) := hA
  have N7 : Hid (Neg (Arc q m) n → errc e = .iface 71 (.int .i64 7) ∧ e ≠ 0) := fun hn => by
    rcases hA with ⟨_, rfl⟩ | ⟨g, _⟩
    · exact ⟨errc_not (by decide), by decide⟩
    · exact absurd hn g
  have HB0 : Hid (∀ b off, 0 < m → a = some ⟨b, off, none⟩ → b < w.heap.size) := fun b off hm ea => by
    rcases hH.2 with e' | ⟨b', off', e', s⟩
    · omega
    · rw [ea] at e'
      obtain ⟨rfl, rfl⟩ : b = b' ∧ off = off' := by simpa using e'
      exact World.block_lt_of_cell? _ _ (s 0 hm).1
  have cN := fun u => new_any n u h6
  clear hH h0 hA hE
  go_enter Tryz.func53, Tryz.ntmps53
  go_wp2_with (first
    | (go_at_call 51; refine cC.mono ?_; rintro e u0 ⟨rfl, hb⟩; have HB : Hid _ := hb; clear hb)
    | (go_at_call 74; refine (cN u0).mono ?_; rintro e u1 ⟨gs, gk, Sb, Kb, rfl, t1, lw, hb⟩; have T1 : Hid _ := t1; have LW : Hid _ := lw; have HB1 : Hid _ := hb; clear hb t1 lw)
    | fail)
  have BW := rbel_al (ob := .cells #[.slice (some ⟨gs, 0, none⟩) n n, .slice (some ⟨gk, 0, none⟩) n n] 139) (rbel_on HB1.out HB.out)
  have T2 := T1.out.al (ob := .cells #[.slice (some ⟨gs, 0, none⟩) n n, .slice (some ⟨gk, 0, none⟩) n n] 139)
  have RB := Row.made (W := u1) (b := u1.heap.size) (t := 139) (vs := [.slice (some ⟨gs, 0, none⟩) n n, .slice (some ⟨gk, 0, none⟩) n n]) rfl
  have LS : Hid (∀ k, Rwx n Sb Kb k → w.heap.size ≤ k) := fun k ⟨i, hi, e⟩ => by
    have h1 := LW.out.2.2 i hi
    have h2 := HB.out.size
    rcases e with rfl | rfl <;> omega
  have NB : Hid (¬ Rwx n Sb Kb u1.heap.size) := fun ⟨i, hi, e⟩ => by
    have h1 := T1.out.lt.2.2 i hi
    rcases e with e | e <;> omega
  have cE := edges_any gs gk n Sb Kb a m cap q _ T2 HE.out (HH.out.on BW) (fun b off hm ea h => by have h1 := HB0.out b off hm ea; have h2 := LS.out b h; omega)
  have HBW : Hid _ := BW
  have HRB : Hid (Row (u1.alloc (.cells #[.slice (some ⟨gs, 0, none⟩) n n, .slice (some ⟨gk, 0, none⟩) n n] 139)) u1.heap.size [.slice (some ⟨gs, 0, none⟩) n n, .slice (some ⟨gk, 0, none⟩) n n]) := RB
  clear BW T2 RB T1 LW HB HB1 cC cN HB0 HH
  refine cE.mono ?_
  rintro e' u2 ⟨hO, hK⟩
  have HK2 : Hid _ := hK
  have RB2 : Hid _ := hK.row NB.out HRB.out
  have BW2 : Hid _ := below_keeps HBW.out hK LS.out
  have rb0 := RB2.out.c 0 _ rfl
  have rb1 := RB2.out.c 1 _ rfl
  clear cE HRB HBW hK
  rcases hO with ⟨hN, rfl⟩ | ⟨P, rfl, t2, G2, F2⟩
  · have HN : Hid _ := N7.out hN
    clear N7 HA HE hN
    as_aux_lemma =>
      go_wp2
      exact bodyPost_ret (v := .tuple #[.slice none 0 0, .slice none 0 0, .iface 71 (.int .i64 7)]) (by simp [results, Tryz.results53, go_sem]) rfl ⟨.slice none 0 0, .slice none 0 0, by rw [HN.out.1], fun e => absurd e HN.out.2, BW2.out⟩
  · have cP := paths_any (Arc q m) gs gk n Sb Kb P u2 t2 G2 F2 h6
    clear t2 G2 F2
    go_wp2_with (fail)
    refine cP.mono ?_
    rintro e' u3 ⟨hO, hK⟩
    have RB3 : Hid _ := hK.row NB.out RB2.out
    have BW3 : Hid _ := below_keeps BW2.out hK LS.out
    have rc0 := RB3.out.c 0 _ rfl
    have rc1 := RB3.out.c 1 _ rfl
    clear cP hK RB2 BW2 HK2 rb0 rb1
    rcases hO with ⟨hN, rfl⟩ | ⟨P', c', rfl, t3, G3, F3⟩
    · have HN : Hid _ := N7.out hN
      clear N7 HA HE hN
      as_aux_lemma =>
        go_wp2
        exact bodyPost_ret (v := .tuple #[.slice none 0 0, .slice none 0 0, .iface 71 (.int .i64 7)]) (by simp [results, Tryz.results53, go_sem]) rfl ⟨.slice none 0 0, .slice none 0 0, by rw [HN.out.1], fun e => absurd e HN.out.2, BW3.out⟩
    · have nn := (top_isT HE.out G3 F3).1
      obtain ⟨hT, hf⟩ : IsT q m n T ∧ ((Far n T ∧ e = 1) ∨ (¬ Far n T ∧ e = 0)) := by
        rcases HA.out with ⟨g, _⟩ | ⟨_, g1, g2⟩
        · exact absurd g nn
        · exact ⟨g1, g2⟩
      have TL := tld HE.out G3 F3 hT
      have cB := beyond_any gs gk n Sb Kb P' u3 h6 t3
      have HT3 : Hid _ := t3
      have HTL : Hid _ := TL
      clear N7 HA HE nn hT G3 F3
      rcases hf with ⟨hf, rfl⟩ | ⟨hf, rfl⟩
      · rw [TL.far.2 hf] at cB
        clear hf TL t3
        as_aux_lemma =>
          go_wp2_with (go_at_call 77; refine cB.mono ?_; rintro e u4 ⟨rfl, hb⟩; have HB4 : Hid _ := hb; clear hb)
          exact bodyPost_ret (v := .tuple #[.slice none 0 0, .slice none 0 0, .iface 71 (.int .i64 1)]) (by simp [results, Tryz.results53, go_sem]) rfl ⟨.slice none 0 0, .slice none 0 0, by rw [errc_not (by decide)], fun e => absurd e (by decide), rbel_on HB4.out BW3.out⟩
      · rw [show farB n P' = false by
          cases e : farB n P' with
          | false => rfl
          | true => exact absurd (TL.far.1 e) hf] at cB
        clear hf TL t3
        as_aux_lemma =>
          go_wp2_with (go_at_call 77; refine cB.mono ?_; rintro e u4 ⟨rfl, hb⟩; have HB4 : Hid _ := hb; have rd0 : u4.cell? ⟨u1.heap.size, 0, none⟩ = some (.slice (some ⟨gs, 0, none⟩) n n) := (by rw [hb.cell (World.block_lt_of_cell? _ _ rc0)]; exact rc0); have rd1 : u4.cell? ⟨u1.heap.size, 1, none⟩ = some (.slice (some ⟨gk, 0, none⟩) n n) := (by rw [hb.cell (World.block_lt_of_cell? _ _ rc1)]; exact rc1); clear hb)
          go_quiet (fail)
          go_wp2
          exact bodyPost_ret (v := .tuple #[.slice (some ⟨gs, 0, none⟩) n n, .slice (some ⟨gk, 0, none⟩) n n, .nilIface]) (by simp [results, Tryz.results53, go_sem]) rfl ⟨_, _, by rw [errc_zero], fun _ => HTL.out.stab (HT3.out.on HB4.out).drn, rbel_drn (rbel_on HB4.out BW3.out)⟩
theorem all_any (z : Int) (a : Option Addr) (m cap : Nat) (q : Nat → Eg) (e : Int) (T : Tb) (w : World) (hH : EHanded w a m q) (hA : AllE z q m e T) :
    Calls Tryz.prog 53 #[.int .i64 z, .slice a m cap] w fun r w' => AllR z.toNat T e w r w' := by
  rcases hA with ⟨h0, rfl⟩ | ⟨h0, hA⟩
  · exact all_bad z a m cap q T w hH h0
  · obtain ⟨n, rfl⟩ : ∃ n : Nat, z = n := ⟨z.toNat, by have := (eE_zero h0).n1; omega⟩
    rw [Int.toNat_natCast] at hA ⊢
    exact all_good n a m cap q e T w hH h0 hA
end Go.Proofs.YtigcliepeapcpajGreatDoor
namespace Go.Proofs.YtigcliepeapcpajGreatDoor
open Go.ChangeShapes Go.WideShapes Go.ChangeAt Go.RowKit Go.Joins
set_option linter.unusedVariables false
set_option linter.unusedSimpArgs false

set_option maxRecDepth 100000 in
set_option maxHeartbeats 8000000 in
theorem between_bad (z : Int) (a : Option Addr) (m cap : Nat) (q : Nat → Eg) (x y : Int) (w : World) (hH : EHanded w a m q) (h0 : eE z q m ≠ 0) :
    Calls Tryz.prog 27 #[.int .i64 z, .slice a m cap, .int .i64 x, .int .i64 y] w fun r w' => r = .returned (.tuple #[sp 0 0, errc (eE z q m)]) ∧ Below w.heap.size w w' := by
  have cC := fun u (hu : Below w.heap.size w u) => check_any z a m cap q u (hH.on hu)
  rw [errc_not h0] at cC ⊢
  clear h0 hH
  generalize eE z q m = er at *
  go_enter Tryz.func27, Tryz.ntmps27
  go_wp2_with (go_at_call 51; refine (cC _ (rbel_al (Below.refl _ _))).mono ?_; rintro e u0 ⟨rfl, hb⟩; have HB : Hid _ := hb; have r := Row.on hb (Row.made (W := w) (vs := [.int .i64 0, .int .i64 0]) rfl); have r0 := r.c 0 _ rfl; have r1 := r.c 1 _ rfl; have f0 := r.f 0 _ rfl; have f1 := r.f 1 _ rfl; clear hb r)
  exact bodyPost_ret (v := .tuple #[sp 0 0, .iface 71 (.int .i64 er)]) (by simp [results, Tryz.results27, go_sem, *]) rfl ⟨rfl, rbel_put (Nat.le_refl _) (rbel_put (Nat.le_refl _) (rbel_on HB.out (rbel_al (Below.refl _ _))))⟩
set_option maxRecDepth 100000 in
set_option maxHeartbeats 8000000 in
theorem between_no (z : Int) (a : Option Addr) (m cap : Nat) (q : Nat → Eg) (x y : Int) (w : World) (hH : EHanded w a m q) (h0 : eE z q m = 0) (X Y : Bool) (hX : Hid (nodeB z x = X)) (hY : Hid (nodeB z y = Y)) (hn : X = false ∨ (X = true ∧ Y = false)) :
    Calls Tryz.prog 27 #[.int .i64 z, .slice a m cap, .int .i64 x, .int .i64 y] w fun r w' => r = .returned (.tuple #[sp 0 0, errc 1]) ∧ Below w.heap.size w w' := by
  have cC := fun u (hu : Below w.heap.size w u) => check_any z a m cap q u (hH.on hu)
  rw [h0, errc_zero] at cC
  rw [errc_not (by decide)]
  have cX : ∀ u, Calls Tryz.prog 52 #[.int .i64 z, .int .i64 x] u fun e w' => e = .returned (.bool X) ∧ w' = u := fun u => by rw [← hX.out]; exact isNode_any z x u
  have cY : ∀ u, Calls Tryz.prog 52 #[.int .i64 z, .int .i64 y] u fun e w' => e = .returned (.bool Y) ∧ w' = u := fun u => by rw [← hY.out]; exact isNode_any z y u
  clear h0 hH hX hY
  have cnt : Mark 0 := .mk _
  rcases hn with rfl | ⟨rfl, rfl⟩
  · go_enter Tryz.func27, Tryz.ntmps27
    go_wp2_with (first
      | (go_at_call 51; refine (cC _ (rbel_al (Below.refl _ _))).mono ?_; rintro e u0 ⟨rfl, hb⟩; have HB : Hid _ := hb; have r := Row.on hb (Row.made (W := w) (vs := [.int .i64 0, .int .i64 0]) rfl); have r0 := r.c 0 _ rfl; have r1 := r.c 1 _ rfl; have f0 := r.f 0 _ rfl; have f1 := r.f 1 _ rfl; clear hb r)
      | (go_at_call 52; refine (cX _).mono ?_; rintro e u1 ⟨rfl, hu⟩; rw [hu]; clear hu))
    exact bodyPost_ret (v := .tuple #[sp 0 0, .iface 71 (.int .i64 1)]) (by simp [results, Tryz.results27, go_sem, *]) rfl ⟨rfl, rbel_put (Nat.le_refl _) (rbel_put (Nat.le_refl _) (rbel_on HB.out (rbel_al (Below.refl _ _))))⟩
  · go_enter Tryz.func27, Tryz.ntmps27
    go_wp2_with (first
      | (go_at_call 51; refine (cC _ (rbel_al (Below.refl _ _))).mono ?_; rintro e u0 ⟨rfl, hb⟩; have HB : Hid _ := hb; have r := Row.on hb (Row.made (W := w) (vs := [.int .i64 0, .int .i64 0]) rfl); have r0 := r.c 0 _ rfl; have r1 := r.c 1 _ rfl; have f0 := r.f 0 _ rfl; have f1 := r.f 1 _ rfl; clear hb r)
      | (go_at_call 52; have cq : Mark 0 := cnt; refine (cX _).mono ?_; clear cq cnt; have cnt : Mark 1 := .mk _; rintro e u1 ⟨rfl, hu⟩; rw [hu]; clear hu)
      | (go_at_call 52; have cq : Mark 1 := cnt; refine (cY _).mono ?_; clear cq cnt; rintro e u1 ⟨rfl, hu⟩; rw [hu]; clear hu))
    exact bodyPost_ret (v := .tuple #[sp 0 0, .iface 71 (.int .i64 1)]) (by simp [results, Tryz.results27, go_sem, *]) rfl ⟨rfl, rbel_put (Nat.le_refl _) (rbel_put (Nat.le_refl _) (rbel_on HB.out (rbel_al (Below.refl _ _))))⟩
set_option maxRecDepth 100000 in
set_option maxHeartbeats 8000000 in
theorem between_all (n : Nat) (a : Option Addr) (m cap : Nat) (q : Nat → Eg) (x y : Nat) (f : Int) (T : Tb) (w : World) (hH : EHanded w a m q) (h0 : eE n q m = 0) (hx : x < n) (hy : y < n) (hA : AllA q m n f T) (lo hi e : Int)
    (hr : (f ≠ 0 ∧ lo = 0 ∧ hi = 0 ∧ e = f) ∨ (f = 0 ∧ T x y = none ∧ lo = 0 ∧ hi = 0 ∧ e = 5) ∨ (f = 0 ∧ (∃ d, T x y = some d) ∧ lo = spLo T x y ∧ hi = spHi T x y ∧ e = 0)) :
    Calls Tryz.prog 27 #[.int .i64 n, .slice a m cap, .int .i64 x, .int .i64 y] w fun r w' => r = .returned (.tuple #[sp lo hi, errc e]) ∧ Below w.heap.size w w' := by
  have cC := fun u (hu : Below w.heap.size w u) => check_any n a m cap q u (hH.on hu)
  have cA := fun u (hu : Below w.heap.size w u) => all_good n a m cap q f T u (hH.on hu) h0 hA
  rw [h0, errc_zero] at cC
  have hx3 : (x : Int) < n := by omega
  have hy3 : (y : Int) < n := by omega
  have cX : ∀ u, Calls Tryz.prog 52 #[.int .i64 n, .int .i64 x] u fun e w' => e = .returned (.bool true) ∧ w' = u := fun u => by have := isNode_any n x u; rwa [show nodeB n x = true from decide_eq_true (by omega)] at this
  have cY : ∀ u, Calls Tryz.prog 52 #[.int .i64 n, .int .i64 y] u fun e w' => e = .returned (.bool true) ∧ w' = u := fun u => by have := isNode_any n y u; rwa [show nodeB n y = true from decide_eq_true (by omega)] at this
  clear h0 hH hA
  have cnt : Mark 0 := .mk _
  rcases hr with ⟨hf, rfl, rfl, rfl⟩ | ⟨rfl, ht, rfl, rfl, rfl⟩ | ⟨rfl, ⟨d, ht⟩, rfl, rfl, rfl⟩
  · rw [errc_not hf]
    have HE : Hid (errc e = .iface 71 (.int .i64 e)) := errc_not hf
    clear hf
    go_enter Tryz.func27, Tryz.ntmps27
    go_wp2_with (first
      | (go_at_call 51; refine (cC _ (rbel_al (Below.refl _ _))).mono ?_; rintro e' u0 ⟨rfl, hb⟩; have HB : Hid _ := hb; have r := Row.on hb (Row.made (W := w) (vs := [.int .i64 0, .int .i64 0]) rfl); have HR : Hid _ := r; clear hb r)
      | (go_at_call 52; have cq : Mark 0 := cnt; refine (cX _).mono ?_; clear cq cnt; have cnt : Mark 1 := .mk _; rintro e' u1 ⟨rfl, hu⟩; rw [hu]; clear hu)
      | (go_at_call 52; have cq : Mark 1 := cnt; refine (cY _).mono ?_; clear cq cnt; have cnt : Mark 2 := .mk _; rintro e' u1 ⟨rfl, hu⟩; rw [hu]; clear hu)
      | (go_at_call 53; refine (cA _ (rbel_on HB.out (rbel_al (Below.refl _ _)))).mono ?_; rintro e' u2 ⟨s, h, he, _, hb⟩; rw [HE.out] at he; subst he; have HB2 : Hid _ := hb; have r := Row.on hb HR.out; have r0 := r.c 0 _ rfl; have r1 := r.c 1 _ rfl; have f0 := r.f 0 _ rfl; have f1 := r.f 1 _ rfl; clear hb r))
    exact bodyPost_ret (v := .tuple #[sp 0 0, .iface 71 (.int .i64 e)]) (by simp [results, Tryz.results27, go_sem, *]) rfl ⟨rfl, rbel_put (Nat.le_refl _) (rbel_put (Nat.le_refl _) (rbel_on HB2.out (rbel_on HB.out (rbel_al (Below.refl _ _)))))⟩
  · rw [errc_not (by decide)]
    have HT : Hid (T x y = none) := ht
    clear ht
    go_enter Tryz.func27, Tryz.ntmps27
    go_wp2_with (first
      | (go_at_call 51; refine (cC _ (rbel_al (Below.refl _ _))).mono ?_; rintro e' u0 ⟨rfl, hb⟩; have HB : Hid _ := hb; have r := Row.on hb (Row.made (W := w) (vs := [.int .i64 0, .int .i64 0]) rfl); have HR : Hid _ := r; clear hb r)
      | (go_at_call 52; have cq : Mark 0 := cnt; refine (cX _).mono ?_; clear cq cnt; have cnt : Mark 1 := .mk _; rintro e' u1 ⟨rfl, hu⟩; rw [hu]; clear hu)
      | (go_at_call 52; have cq : Mark 1 := cnt; refine (cY _).mono ?_; clear cq cnt; have cnt : Mark 2 := .mk _; rintro e' u1 ⟨rfl, hu⟩; rw [hu]; clear hu)
      | (go_at_call 53; refine (cA _ (rbel_on HB.out (rbel_al (Below.refl _ _)))).mono ?_; rintro e' u2 ⟨s, h, rfl, hst, hb⟩; obtain ⟨sb, so, sc, hb', ho, hc, rb, ro, rc, gb, go, gc, rfl, rfl, g1, g2⟩ := hst rfl; rw [errc_zero]; obtain ⟨q1, q2⟩ := g1 x hx; obtain ⟨p1, p2, p3⟩ := g2 x y hx hy; rw [HT.out] at p3; have p3' : u2.cell? ⟨gb x, go x + y, none⟩ = some (.bool false) := p3; have HB2 : Hid _ := hb; have r := Row.on hb HR.out; have r0 := r.c 0 _ rfl; have r1 := r.c 1 _ rfl; have f0 := r.f 0 _ rfl; have f1 := r.f 1 _ rfl; clear hb r hst g1 g2 p3))
    exact bodyPost_ret (v := .tuple #[sp 0 0, .iface 71 (.int .i64 5)]) (by simp [results, Tryz.results27, go_sem, *]) rfl ⟨rfl, rbel_put (Nat.le_refl _) (rbel_put (Nat.le_refl _) (rbel_on HB2.out (rbel_on HB.out (rbel_al (Below.refl _ _)))))⟩
  · rw [errc_zero]
    have HT : Hid (T x y = some d) := ht
    clear ht
    go_enter Tryz.func27, Tryz.ntmps27
    go_wp2_with (first
      | (go_at_call 51; refine (cC _ (rbel_al (Below.refl _ _))).mono ?_; rintro e' u0 ⟨rfl, hb⟩; have HB : Hid _ := hb; have r := Row.on hb (Row.made (W := w) (vs := [.int .i64 0, .int .i64 0]) rfl); have HR : Hid _ := r; clear hb r)
      | (go_at_call 52; have cq : Mark 0 := cnt; refine (cX _).mono ?_; clear cq cnt; have cnt : Mark 1 := .mk _; rintro e' u1 ⟨rfl, hu⟩; rw [hu]; clear hu)
      | (go_at_call 52; have cq : Mark 1 := cnt; refine (cY _).mono ?_; clear cq cnt; have cnt : Mark 2 := .mk _; rintro e' u1 ⟨rfl, hu⟩; rw [hu]; clear hu)
      | (go_at_call 53; refine (cA _ (rbel_on HB.out (rbel_al (Below.refl _ _)))).mono ?_; rintro e' u2 ⟨s, h, rfl, hst, hb⟩; obtain ⟨sb, so, sc, hb', ho, hc, rb, ro, rc, gb, go, gc, rfl, rfl, g1, g2⟩ := hst rfl; rw [errc_zero]; obtain ⟨q1, q2⟩ := g1 x hx; obtain ⟨p1, p2, p3⟩ := g2 x y hx hy; rw [HT.out] at p3; have p3' : u2.cell? ⟨gb x, go x + y, none⟩ = some (.bool true) := p3; have HB2 : Hid _ := hb; have r := Row.on hb HR.out; have r0 := r.c 0 _ rfl; have r1 := r.c 1 _ rfl; have f0 := r.f 0 _ rfl; have f1 := r.f 1 _ rfl; clear hb r hst g1 g2 p3))
    exact bodyPost_ret (v := .tuple #[sp (spLo T x y) (spHi T x y), .nilIface]) (by simp [results, Tryz.results27, go_sem, *]) rfl ⟨rfl, rbel_put (Nat.le_refl _) (rbel_put (Nat.le_refl _) (rbel_on HB2.out (rbel_on HB.out (rbel_al (Below.refl _ _)))))⟩
theorem between_any (z : Int) (a : Option Addr) (m cap : Nat) (q : Nat → Eg) (x y lo hi e : Int) (w : World) (hH : EHanded w a m q) (hB : BetA z q m x y lo hi e) :
    Calls Tryz.prog 27 #[.int .i64 z, .slice a m cap, .int .i64 x, .int .i64 y] w fun r w' => r = .returned (.tuple #[sp lo hi, errc e]) ∧ Below w.heap.size w w' := by
  rcases hB with ⟨h0, rfl, rfl, rfl⟩ | ⟨h0, hn, rfl, rfl, rfl⟩ | ⟨h0, hn, f, T, hA, hr⟩
  · exact between_bad z a m cap q x y w hH h0
  · refine between_no z a m cap q x y w hH h0 _ _ rfl rfl ?_
    cases e : nodeB z x with
    | false => exact Or.inl rfl
    | true =>
      have := of_decide_eq_true e
      exact Or.inr ⟨rfl, decide_eq_false (by omega)⟩
  · obtain ⟨n, rfl⟩ : ∃ n : Nat, z = n := ⟨z.toNat, by omega⟩
    obtain ⟨x, rfl⟩ : ∃ x' : Nat, x = x' := ⟨x.toNat, by omega⟩
    obtain ⟨y, rfl⟩ : ∃ y' : Nat, y = y' := ⟨y.toNat, by omega⟩
    rw [Int.toNat_natCast] at hA
    rw [Int.toNat_natCast, Int.toNat_natCast] at hr
    exact between_all n a m cap q x y f T w hH h0 (by omega) (by omega) hA lo hi e hr
end Go.Proofs.YtigcliepeapcpajGreatDoor
