/- What the document's own reckoning (package noonref1) answers of points: Upper. -/
import Derived.Test.YtcofpgbaokmbmafDoorHullRefB
namespace Go.Proofs.YtcofpgbaokmbmafDoor
open Go.ChangeShapes Go.WideShapes Go.ChangeAt Go.RowKit Go.Joins
set_option linter.unusedVariables false
set_option linter.unusedSimpArgs false

/-- Corners in a row of the call's own: none yet, or a row. -/
def OwnL (u : World) (base : Nat) (v : Value) (out : List (Int × Int)) : Prop := (out = [] ∧ v = .slice none 0 0) ∨ (0 < out.length ∧ ∃ g cap, v = .slice (some ⟨g, 0, none⟩) out.length cap ∧ base ≤ g ∧ g < u.heap.size ∧ out.length ≤ cap ∧ cap ≤ 9223372036854775807 ∧ ∀ j c, (pcs out)[j]? = some c → u.cell? ⟨g, j, none⟩ = some c)
section
variable {u W : World} {base : Nat} {v : Value} {out : List (Int × Int)}
theorem OwnL.drn {d : Nat} (h : OwnL W base v out) : OwnL (W.drewN d) base v out := h
theorem OwnL.on (hb : Below W.heap.size W u) (h : OwnL W base v out) : OwnL u base v out := by
  rcases h with h | ⟨l0, g, cap, e, h1, h2, h3, h4, h5⟩
  · exact Or.inl h
  · exact Or.inr ⟨l0, g, cap, e, h1, Nat.lt_of_lt_of_le h2 hb.size, h3, h4, fun j c hc => by rw [hb.cell (p := ⟨g, j, none⟩) h2]; exact h5 j c hc⟩
theorem ownL_of {base' k : Nat} (h : u.ownsRow base' 33 2 v k (pcs out)) (hl : out.length = k) (h0 : 0 < k) (hb : base ≤ base') : OwnL u base v out := by
  rcases h.2 with ⟨_, e⟩ | ⟨g, cap, cur, rfl, h1, hg, h3, h4, _, htk⟩
  · omega
  · refine Or.inr ⟨by omega, g, cap, by rw [hl], by omega, ?_, by omega, by unfold maxLen at h4; omega, fun j c hc => ?_⟩
    · rcases Nat.lt_or_ge g u.heap.size with hlt | hge
      · exact hlt
      · rw [Array.getElem?_eq_none hge] at hg; cases hg
    · rw [← htk, List.getElem?_take] at hc
      split at hc
      case isFalse => cases hc
      unfold World.cell?
      rw [show u.heap[(⟨g, j, none⟩ : Addr).block]? = _ from hg]
      simpa using hc
theorem OwnL.pts (h : OwnL u base v out) {k : Nat} {q : Int × Int} (hq : out[k]? = some q) : ∃ g cap, v = .slice (some ⟨g, 0, none⟩) out.length cap ∧ g < u.heap.size ∧ u.cell? ⟨g, k * 2, none⟩ = some (.int .i64 q.1) ∧ u.cell? ⟨g, k * 2 + 1, none⟩ = some (.int .i64 q.2) := by
  have l := (List.getElem?_eq_some_iff.1 hq).1
  rcases h with ⟨e, _⟩ | ⟨l0, g, cap, e, h1, h2, h3, h4, h5⟩
  · rw [e] at l; simp at l
  · obtain ⟨p0, p1⟩ := pcs_at hq
    exact ⟨g, cap, e, h2, h5 _ _ p0, h5 _ _ p1⟩
theorem OwnL.val (h : OwnL u base v out) : ∃ a cap, v = .slice a out.length cap := by
  rcases h with ⟨e, e'⟩ | ⟨l0, g, cap, e, _⟩
  · exact ⟨none, 0, by rw [e', e]; rfl⟩
  · exact ⟨_, cap, e⟩
end
/-- The corners, X rising, in a row of the call's own. -/
def UpR (f : Nat → Int × Int) (n : Nat) (w : World) (o : Ending) (w' : World) : Prop := ∃ v out, o = .returned v ∧ OwnL w' w.heap.size v out ∧ Up (lst f n) out ∧ Below w.heap.size w w'
set_option maxRecDepth 100000 in
set_option maxHeartbeats 8000000 in
theorem rupper_any (ad : Option Addr) (n cap : Nat) (f : Nat → Int × Int) (w : World) (h60 : n ≤ 60) (hH : PHanded w ad n f) (hok : ∀ i, i < n → okP (f i)) :
    Calls Tryd.prog 8 #[.slice ad n cap] w fun o w' => UpR f n w o w' := by
  have HP : Hid (n = 0 ∨ ∃ b off : Nat, ad = some ⟨b, off, none⟩ ∧ Pls w b off n f) := hH.2
  have HO : Hid (∀ i, i < n → okP (f i)) := hok
  obtain ⟨i0, hi0, hz0, hz1, hz2⟩ := info_parts infoPoint
  clear hH hok
  go_enter Tryd.func8, Tryd.ntmps8
  go_wp2
  go_loopw [3, 4] (fun v vi wr => ∃ (i : Nat) (out : List (Int × Int)), i ≤ n ∧ vi = .int .i64 i ∧ OwnL wr w.heap.size v out ∧ UpI f n i out ∧ Below w.heap.size w wr) (fun _ i _ => n - (intOf i).toNat)
  case atStart => exact ⟨0, [], Nat.zero_le _, rfl, Or.inl ⟨rfl, rfl⟩, upI_zero, Below.refl _ _⟩
  case round =>
    obtain ⟨i, out, hi, rfl, hL, hU, hw⟩ := hrel
    have HW : Hid (Below w.heap.size w wr) := hw
    have HL : Hid (OwnL wr w.heap.size u3 out) := hL
    have HU : Hid (UpI f n i out) := hU
    have ol := hU.len
    by_cases hlt : i < n
    · have hl3 : (i : Int) < n := by omega
      obtain ⟨b, off, rfl, hP⟩ : ∃ b off : Nat, ad = some ⟨b, off, none⟩ ∧ Pls w b off n f := by
        rcases HP.out with e | h
        · omega
        · exact h
      obtain ⟨x0, x1⟩ := (hP.on hw) i hlt
      have zb : b < wr.heap.size := World.block_lt_of_cell? _ _ x0
      have cC := rcorner_any b off n cap f (f i) wr h60 (hP.on hw) HO.out (lst_in hlt)
      have HPl : Hid (Pls w b off n f) := hP
      obtain ⟨a3, c3, e3⟩ := hL.val
      subst e3
      clear hw hP HP hL hU
      go_wp2_with (go_at_call 20; refine cC.mono ?_; rintro e u0 ⟨hc, hb⟩; have HB0 : Hid (Below wr.heap.size wr u0) := hb; rcases hc with ⟨rfl, hC⟩ | ⟨rfl, hC⟩)
      · have HL0 : Hid (OwnL u0 w.heap.size (.slice a3 out.length c3) out) := HL.out.on HB0.out
        have HW0 : Hid (Below w.heap.size w u0) := rbel_on HB0.out HW.out
        have HC : Hid (Cor (lst f n) (f i)) := hC
        clear hC hb HL HW HB0 cC x0 x1 zb
        go_loopw [6] (fun vk wr' => ∃ k : Nat, k ≤ out.length ∧ vk = .int .i64 k ∧ (∀ j p, j < k → out[j]? = some p → p.1 < (f i).1) ∧ OwnL wr' w.heap.size (.slice a3 out.length c3) out ∧ Below w.heap.size w wr') (fun k _ => out.length - (intOf k).toNat)
        case atStart => exact ⟨0, Nat.zero_le _, rfl, fun j p hj => by omega, HL0.out, HW0.out⟩
        case round =>
          clear HL0 HW0
          obtain ⟨k, hk, rfl, hlo, hL, hw⟩ := hrel
          have HLo : Hid (∀ j p, j < k → out[j]? = some p → p.1 < (f i).1) := hlo
          have HL : Hid (OwnL wr w.heap.size (.slice a3 out.length c3) out) := hL
          have HW : Hid (Below w.heap.size w wr) := hw
          obtain ⟨x0, x1⟩ := (HPl.out.on hw) i hlt
          have zb : b < wr.heap.size := World.block_lt_of_cell? _ _ x0
          by_cases hlk : k < out.length
          · have hl4 : decide ((k : Int) < (out.length : Nat)) = true := decide_eq_true (by omega)
            have hl5 : (k : Int) < (out.length : Nat) := by omega
            obtain ⟨q, hq⟩ : ∃ q, out[k]? = some q := ⟨_, List.getElem?_eq_getElem hlk⟩
            obtain ⟨g, cg, eg, gl, y0, y1⟩ := hL.pts hq
            simp only [Value.slice.injEq] at eg
            obtain ⟨rfl, _, rfl⟩ := eg
            have HQ : Hid (out[k]? = some q) := hq
            clear hlo hL hw hq
            by_cases lt : q.1 < (f i).1
            · have dl : decide (q.1 < (f i).1) = true := decide_eq_true lt
              have HN : Hid (∀ j p, j < k + 1 → out[j]? = some p → p.1 < (f i).1) := fun j p hj hp => by
                by_cases e : j = k
                · subst e
                  rw [HQ.out] at hp
                  obtain rfl := Option.some.inj hp
                  exact lt
                · exact HLo.out j p (by omega) hp
              clear lt HLo HQ
              as_aux_lemma =>
                go_wp2
                go_quiet (fail)
                go_wp2
                go_roundw
                case rel => exact ⟨k + 1, by omega, by go_num, HN.out, HL.out.drn, rbel_drn HW.out⟩
                case measure => simp [intOf]; omega
            · have dl : decide (q.1 < (f i).1) = false := decide_eq_false lt
              by_cases eq : q.1 = (f i).1
              · have de : (q.1 == (f i).1) = true := beq_iff_eq.2 eq
                have HU2 : Hid (UpI f n (i + 1) out) := HU.out.has HC.out (List.mem_of_getElem? HQ.out) eq
                clear lt HLo HQ HU HC eq
                as_aux_lemma =>
                  go_wp2
                  go_quiet (fail)
                  go_wp2
                  go_quiet (fail)
                  go_wp2
                  go_roundw
                  case rel => exact ⟨i + 1, out, by omega, by go_num, HL.out.drn, HU2.out, rbel_drn HW.out⟩
                  case measure => simp [intOf]; omega
              · have de : (q.1 == (f i).1) = false := by simpa using eq
                have HU2 : Hid (UpI f n (i + 1) (out.take k ++ f i :: out.drop k)) := HU.out.ins HC.out (take_all HLo.out) (rise_drop HU.out.1 HQ.out (by omega))
                obtain ⟨hgc, hgl, hgb, hcell⟩ : out.length ≤ c3 ∧ c3 ≤ 9223372036854775807 ∧ w.heap.size ≤ g ∧ ∀ j c, (pcs out)[j]? = some c → wr.cell? ⟨g, j, none⟩ = some c := by
                  rcases HL.out with ⟨e, _⟩ | ⟨_, g', c', e, h1, h2, h3, h4, h5⟩
                  · rw [e] at hlk; simp at hlk
                  · simp only [Value.slice.injEq, Option.some.injEq, Addr.mk.injEq] at e
                    obtain ⟨⟨e1, _⟩, _, e2⟩ := e
                    rw [← e1] at h1 h5
                    rw [← e2] at h3 h4
                    exact ⟨h3, h4, h1, h5⟩
                have kc : (k : Int) ≤ c3 := by omega
                have HCe : Hid (∀ j c, (pcs out)[j]? = some c → wr.cell? ⟨g, j, none⟩ = some c) := hcell
                have HZ : Hid (w.heap.size ≤ wr.heap.size) := HW.out.size
                have HSp : Hid (pcs out = pcs (out.take k) ++ pcs (out.drop k)) := by show pcs out = _; rw [← pcs_app, List.take_append_drop]
                have tl : (out.take k).length = k := by rw [List.length_take]; omega
                have HT1 : Hid ((pcs (out.take k)).length = k * 2) := by show _ = _; rw [pcs_len, tl]
                clear lt HLo HQ HU HC eq hcell
                go_wp2
                go_quiet (fail)
                go_wp2
                go_quiet (fail)
                go_wp2_with (at_builtin; refine wpList_append_own _ rfl _ _ 22 rfl wr.heap.size 33 i0 (.agg #[.int .i64 0, .int .i64 0]) 2 16 Tryd.underlying22 hi0 hz0 hz1 hz2 rfl (by decide) _ 0 [] rfl (World.ownsRow_nil _ _ _ _) ⟨g, 0, none⟩ k c3 (pcs (out.take k)) rfl HT1.out ?c1 pcs_one ?c3 ?c4 ?c5 ?_)
                case c1 =>
                  intro j u hj
                  rw [Addr.add_lit, Nat.zero_add]
                  refine HCe.out j u ?_
                  rw [HSp.out, List.getElem?_append_left (List.getElem?_eq_some_iff.1 hj).1]
                  exact hj
                case c3 => unfold maxLen; omega
                case c4 => omega
                case c5 => exact Nat.le_refl _
                intro v1 w1 hown1 hgrow1 _
                have b1 : Below wr.heap.size wr w1 := (rbel_drn (Below.refl _ _)).grown hgrow1 (Nat.le_refl _) (fun j hj => by cases hj)
                have HB1 : Hid (Below wr.heap.size wr w1) := b1
                have x01 : w1.cell? ⟨b, off + i * 2, none⟩ = some (.int .i64 (f i).1) := by rw [b1.cell zb]; exact x0
                have x11 : w1.cell? ⟨b, off + i * 2 + 1, none⟩ = some (.int .i64 (f i).2) := by rw [b1.cell zb]; exact x1
                have HN1 : Hid (∀ j, v1.ownBlock = some j → wr.heap.size ≤ j) := fun j hj => (hown1.lt j hj).1
                have z1 := b1.size
                have zb1 : b < w1.heap.size := by omega
                clear hgrow1 b1 x0 x1 y0 y1
                go_wp2_with (at_builtin; refine wpList_append_own _ rfl _ _ 22 rfl wr.heap.size 33 i0 (.agg #[.int .i64 0, .int .i64 0]) 2 16 Tryd.underlying22 hi0 hz0 hz1 hz2 rfl (by decide) _ _ _ rfl (hown1.alloc _) ⟨w1.heap.size, 0, none⟩ 1 1 [.int .i64 (f i).1, .int .i64 (f i).2] rfl rfl ?d1 ?d2 ?d3 ?d4 ?d5 ?_)
                case d1 =>
                  intro j u hj
                  rw [Addr.add_lit, World.cell?_alloc_at _ _ _ _ (by simp)]
                  simpa using hj
                case d2 =>
                  intro u hu
                  simp at hu
                  rcases hu with rfl | rfl <;> rfl
                case d3 => unfold maxLen; omega
                case d4 => omega
                case d5 => simp; omega
                intro v2 w2 hown2 hgrow2 _
                have b2 : Below wr.heap.size wr w2 := (HB1.out.alloc (by omega) _).grown hgrow2 (by simp; omega) HN1.out
                have HB2 : Hid (Below wr.heap.size wr w2) := b2
                have HN2 : Hid (∀ j, v2.ownBlock = some j → wr.heap.size ≤ j) := fun j hj => (hown2.lt j hj).1
                have z2 := b2.size
                have nck : ¬ (c3 = k) := by omega
                clear hgrow2 b2 hown1 x01 x11 HN1 HB1
                go_wp2_with (at_builtin; refine wpList_append_own _ rfl _ _ 22 rfl wr.heap.size 33 i0 (.agg #[.int .i64 0, .int .i64 0]) 2 16 Tryd.underlying22 hi0 hz0 hz1 hz2 rfl (by decide) _ _ _ rfl hown2 ⟨g, k * 2, none⟩ (out.length - k) (c3 - k) (pcs (out.drop k)) rfl ?e0 ?e1 pcs_one ?e3 ?e4 ?e5 ?_)
                case e0 => rw [pcs_len, List.length_drop]
                case e1 =>
                  intro j u hj
                  rw [Addr.add_lit, HB2.out.cell (p := ⟨g, k * 2 + j, none⟩) gl]
                  refine HCe.out _ u ?_
                  rw [HSp.out, List.getElem?_append_right (by rw [HT1.out]; omega), HT1.out, show k * 2 + j - k * 2 = j by omega]
                  exact hj
                case e3 => unfold maxLen; omega
                case e4 => omega
                case e5 => omega
                intro v3 w3 hown3 hgrow3 _
                have HO3 : Hid (OwnL w3 w.heap.size v3 (out.take k ++ f i :: out.drop k)) := ownL_of (k := k + 1 + (out.length - k)) (by rw [pcs_app]; exact hown3) (by rw [List.length_append, List.length_cons, List.length_drop, tl]; omega) (by omega) HZ.out
                have HB3 : Hid (Below w.heap.size w w3) := HW.out.trans ((HB2.out.grown hgrow3 (by omega) HN2.out).mono HZ.out)
                clear hown3 hgrow3 hown2 HB2 HN2 HCe HSp HT1
                go_wp2
                go_roundw
                case rel => exact ⟨i + 1, _, by omega, by go_num, HO3.out, HU2.out, HB3.out⟩
                case measure => simp [intOf]; omega
          · have hl4 : decide ((k : Int) < (out.length : Nat)) = false := decide_eq_false (by omega)
            obtain rfl : k = out.length := by omega
            clear hlo hL hw
            rcases HL.out with ⟨e0, e1⟩ | ⟨l0, g, c', eg, hgb, gl, hgc, hgl, hcell⟩
            · subst e0
              simp only [Value.slice.injEq] at e1
              obtain ⟨rfl, _, rfl⟩ := e1
              have HU2 : Hid (UpI f n (i + 1) [f i]) := by
                have h := HU.out.ins (k := 0) HC.out (fun q hq => by simp at hq) (fun q hq => by simp at hq)
                show UpI f n (i + 1) [f i]
                simpa using h
              have z0 : w.heap.size ≤ wr.heap.size := HW.out.size
              clear HLo HU HC HL hl4
              have hl4 : decide ((0 : Int) < 0) = false := by decide
              go_wp2
              go_quiet (fail)
              go_wp2
              go_quiet (fail)
              go_wp2_with (at_builtin; first
                | refine wpList_append_own_none rfl _ _ 22 rfl w.heap.size 33 i0 2 Tryd.underlying22 hi0 _ 0 [] rfl (World.ownsRow_nil _ _ _ _) rfl ?_
                | refine wpList_append_own _ rfl _ _ 22 rfl w.heap.size 33 i0 (.agg #[.int .i64 0, .int .i64 0]) 2 16 Tryd.underlying22 hi0 hz0 hz1 hz2 rfl (by decide) _ 0 [] rfl (World.ownsRow_nil _ _ _ _) ⟨wr.heap.size, 0, none⟩ 1 1 [.int .i64 (f i).1, .int .i64 (f i).2] rfl rfl ?d1 ?d2 ?d3 ?d4 ?d5 ?_)
              case d1 =>
                intro j u hj
                rw [Addr.add_lit, World.cell?_alloc_at _ _ _ _ (by simp)]
                simpa using hj
              case d2 =>
                intro u hu
                simp at hu
                rcases hu with rfl | rfl <;> rfl
              case d3 => unfold maxLen; omega
              case d4 => omega
              case d5 => simp; omega
              intro v2 w2 hown2 hgrow2 _
              have b2 : Below w.heap.size w w2 := (rbel_al (rbel_drn HW.out)).grown hgrow2 (by simp; omega) (fun j hj => by cases hj)
              have HB2 : Hid (Below w.heap.size w w2) := b2
              clear hgrow2 b2
              go_wp2_with (at_builtin; refine wpList_append_own_none rfl _ _ 22 rfl w.heap.size 33 i0 2 Tryd.underlying22 hi0 _ _ _ rfl hown2 rfl ?_)
              have HO3 : Hid (OwnL w2 w.heap.size v2 [f i]) := ownL_of (k := 0 + 1) hown2 rfl (by omega) (Nat.le_refl _)
              clear hown2
              go_roundw
              case rel => exact ⟨i + 1, _, by omega, by go_num, HO3.out, HU2.out, HB2.out⟩
              case measure => simp [intOf]; omega
            · simp only [Value.slice.injEq] at eg
              obtain ⟨rfl, _, rfl⟩ := eg
              by_cases nck : c3 = out.length
              · subst nck
                have HU2 : Hid (UpI f n (i + 1) (out.take out.length ++ f i :: out.drop out.length)) := HU.out.ins HC.out (take_all HLo.out) (fun q hq => by rw [List.drop_length] at hq; cases hq)
                have kc : (out.length : Int) ≤ out.length := by omega
                have HCe : Hid (∀ j c, (pcs out)[j]? = some c → wr.cell? ⟨g, j, none⟩ = some c) := hcell
                have HZ : Hid (w.heap.size ≤ wr.heap.size) := HW.out.size
                have HSp : Hid (pcs out = pcs (out.take out.length) ++ pcs (out.drop out.length)) := by show pcs out = _; rw [← pcs_app, List.take_append_drop]
                have tl : (out.take out.length).length = out.length := by rw [List.length_take]; omega
                have HT1 : Hid ((pcs (out.take out.length)).length = out.length * 2) := by show _ = _; rw [pcs_len, tl]
                clear HLo HU HC hcell
                go_wp2
                go_quiet (fail)
                go_wp2
                go_quiet (fail)
                go_wp2_with (at_builtin; refine wpList_append_own _ rfl _ _ 22 rfl wr.heap.size 33 i0 (.agg #[.int .i64 0, .int .i64 0]) 2 16 Tryd.underlying22 hi0 hz0 hz1 hz2 rfl (by decide) _ 0 [] rfl (World.ownsRow_nil _ _ _ _) ⟨g, 0, none⟩ out.length out.length (pcs (out.take out.length)) rfl HT1.out ?c1 pcs_one ?c3 ?c4 ?c5 ?_)
                case c1 =>
                  intro j u hj
                  rw [Addr.add_lit, Nat.zero_add]
                  refine HCe.out j u ?_
                  rw [HSp.out, List.getElem?_append_left (List.getElem?_eq_some_iff.1 hj).1]
                  exact hj
                case c3 => unfold maxLen; omega
                case c4 => omega
                case c5 => exact Nat.le_refl _
                intro v1 w1 hown1 hgrow1 _
                have b1 : Below wr.heap.size wr w1 := (rbel_drn (Below.refl _ _)).grown hgrow1 (Nat.le_refl _) (fun j hj => by cases hj)
                have HB1 : Hid (Below wr.heap.size wr w1) := b1
                have x01 : w1.cell? ⟨b, off + i * 2, none⟩ = some (.int .i64 (f i).1) := by rw [b1.cell zb]; exact x0
                have x11 : w1.cell? ⟨b, off + i * 2 + 1, none⟩ = some (.int .i64 (f i).2) := by rw [b1.cell zb]; exact x1
                have HN1 : Hid (∀ j, v1.ownBlock = some j → wr.heap.size ≤ j) := fun j hj => (hown1.lt j hj).1
                have z1 := b1.size
                have zb1 : b < w1.heap.size := by omega
                clear hgrow1 b1 x0 x1
                go_wp2_with (at_builtin; refine wpList_append_own _ rfl _ _ 22 rfl wr.heap.size 33 i0 (.agg #[.int .i64 0, .int .i64 0]) 2 16 Tryd.underlying22 hi0 hz0 hz1 hz2 rfl (by decide) _ _ _ rfl (hown1.alloc _) ⟨w1.heap.size, 0, none⟩ 1 1 [.int .i64 (f i).1, .int .i64 (f i).2] rfl rfl ?d1 ?d2 ?d3 ?d4 ?d5 ?_)
                case d1 =>
                  intro j u hj
                  rw [Addr.add_lit, World.cell?_alloc_at _ _ _ _ (by simp)]
                  simpa using hj
                case d2 =>
                  intro u hu
                  simp at hu
                  rcases hu with rfl | rfl <;> rfl
                case d3 => unfold maxLen; omega
                case d4 => omega
                case d5 => simp; omega
                intro v2 w2 hown2 hgrow2 _
                have b2 : Below wr.heap.size wr w2 := (HB1.out.alloc (by omega) _).grown hgrow2 (by simp; omega) HN1.out
                have HB2 : Hid (Below wr.heap.size wr w2) := b2
                have HN2 : Hid (∀ j, v2.ownBlock = some j → wr.heap.size ≤ j) := fun j hj => (hown2.lt j hj).1
                have z2 := b2.size
                clear hgrow2 b2 hown1 x01 x11 HN1 HB1
                go_wp2_with (at_builtin; refine wpList_append_own _ rfl _ _ 22 rfl wr.heap.size 33 i0 (.agg #[.int .i64 0, .int .i64 0]) 2 16 Tryd.underlying22 hi0 hz0 hz1 hz2 rfl (by decide) _ _ _ rfl hown2 ⟨g, 0, none⟩ 0 0 [] rfl ?e0 ?e1 (fun u hu => by cases hu) ?e3 ?e4 ?e5 ?_)
                case e0 => rfl
                case e1 => intro j u hj; simp at hj
                case e3 => unfold maxLen; omega
                case e4 => omega
                case e5 => omega
                intro v3 w3 hown3 hgrow3 _
                have HO3 : Hid (OwnL w3 w.heap.size v3 (out.take out.length ++ f i :: out.drop out.length)) := ownL_of (k := out.length + 1 + 0) (by rw [pcs_app, List.drop_length]; simpa [pcs] using hown3) (by rw [List.length_append, List.length_cons, List.length_drop, tl]; omega) (by omega) HZ.out
                have HB3 : Hid (Below w.heap.size w w3) := HW.out.trans ((HB2.out.grown hgrow3 (by omega) HN2.out).mono HZ.out)
                clear hown3 hgrow3 hown2 HB2 HN2 HCe HSp HT1
                go_wp2
                go_roundw
                case rel => exact ⟨i + 1, _, by omega, by go_num, HO3.out, HU2.out, HB3.out⟩
                case measure => simp [intOf]; omega
              · skip
                have HU2 : Hid (UpI f n (i + 1) (out.take out.length ++ f i :: out.drop out.length)) := HU.out.ins HC.out (take_all HLo.out) (fun q hq => by rw [List.drop_length] at hq; cases hq)
                have kc : (out.length : Int) ≤ c3 := by omega
                have HCe : Hid (∀ j c, (pcs out)[j]? = some c → wr.cell? ⟨g, j, none⟩ = some c) := hcell
                have HZ : Hid (w.heap.size ≤ wr.heap.size) := HW.out.size
                have HSp : Hid (pcs out = pcs (out.take out.length) ++ pcs (out.drop out.length)) := by show pcs out = _; rw [← pcs_app, List.take_append_drop]
                have tl : (out.take out.length).length = out.length := by rw [List.length_take]; omega
                have HT1 : Hid ((pcs (out.take out.length)).length = out.length * 2) := by show _ = _; rw [pcs_len, tl]
                clear HLo HU HC hcell
                go_wp2
                go_quiet (fail)
                go_wp2
                go_quiet (fail)
                go_wp2_with (at_builtin; refine wpList_append_own _ rfl _ _ 22 rfl wr.heap.size 33 i0 (.agg #[.int .i64 0, .int .i64 0]) 2 16 Tryd.underlying22 hi0 hz0 hz1 hz2 rfl (by decide) _ 0 [] rfl (World.ownsRow_nil _ _ _ _) ⟨g, 0, none⟩ out.length c3 (pcs (out.take out.length)) rfl HT1.out ?c1 pcs_one ?c3 ?c4 ?c5 ?_)
                case c1 =>
                  intro j u hj
                  rw [Addr.add_lit, Nat.zero_add]
                  refine HCe.out j u ?_
                  rw [HSp.out, List.getElem?_append_left (List.getElem?_eq_some_iff.1 hj).1]
                  exact hj
                case c3 => unfold maxLen; omega
                case c4 => omega
                case c5 => exact Nat.le_refl _
                intro v1 w1 hown1 hgrow1 _
                have b1 : Below wr.heap.size wr w1 := (rbel_drn (Below.refl _ _)).grown hgrow1 (Nat.le_refl _) (fun j hj => by cases hj)
                have HB1 : Hid (Below wr.heap.size wr w1) := b1
                have x01 : w1.cell? ⟨b, off + i * 2, none⟩ = some (.int .i64 (f i).1) := by rw [b1.cell zb]; exact x0
                have x11 : w1.cell? ⟨b, off + i * 2 + 1, none⟩ = some (.int .i64 (f i).2) := by rw [b1.cell zb]; exact x1
                have HN1 : Hid (∀ j, v1.ownBlock = some j → wr.heap.size ≤ j) := fun j hj => (hown1.lt j hj).1
                have z1 := b1.size
                have zb1 : b < w1.heap.size := by omega
                clear hgrow1 b1 x0 x1
                go_wp2_with (at_builtin; refine wpList_append_own _ rfl _ _ 22 rfl wr.heap.size 33 i0 (.agg #[.int .i64 0, .int .i64 0]) 2 16 Tryd.underlying22 hi0 hz0 hz1 hz2 rfl (by decide) _ _ _ rfl (hown1.alloc _) ⟨w1.heap.size, 0, none⟩ 1 1 [.int .i64 (f i).1, .int .i64 (f i).2] rfl rfl ?d1 ?d2 ?d3 ?d4 ?d5 ?_)
                case d1 =>
                  intro j u hj
                  rw [Addr.add_lit, World.cell?_alloc_at _ _ _ _ (by simp)]
                  simpa using hj
                case d2 =>
                  intro u hu
                  simp at hu
                  rcases hu with rfl | rfl <;> rfl
                case d3 => unfold maxLen; omega
                case d4 => omega
                case d5 => simp; omega
                intro v2 w2 hown2 hgrow2 _
                have b2 : Below wr.heap.size wr w2 := (HB1.out.alloc (by omega) _).grown hgrow2 (by simp; omega) HN1.out
                have HB2 : Hid (Below wr.heap.size wr w2) := b2
                have HN2 : Hid (∀ j, v2.ownBlock = some j → wr.heap.size ≤ j) := fun j hj => (hown2.lt j hj).1
                have z2 := b2.size
                clear hgrow2 b2 hown1 x01 x11 HN1 HB1
                go_wp2_with (at_builtin; refine wpList_append_own _ rfl _ _ 22 rfl wr.heap.size 33 i0 (.agg #[.int .i64 0, .int .i64 0]) 2 16 Tryd.underlying22 hi0 hz0 hz1 hz2 rfl (by decide) _ _ _ rfl hown2 ⟨g, out.length * 2, none⟩ 0 (c3 - out.length) [] rfl ?e0 ?e1 (fun u hu => by cases hu) ?e3 ?e4 ?e5 ?_)
                case e0 => rfl
                case e1 => intro j u hj; simp at hj
                case e3 => unfold maxLen; omega
                case e4 => omega
                case e5 => omega
                intro v3 w3 hown3 hgrow3 _
                have HO3 : Hid (OwnL w3 w.heap.size v3 (out.take out.length ++ f i :: out.drop out.length)) := ownL_of (k := out.length + 1 + 0) (by rw [pcs_app, List.drop_length]; simpa [pcs] using hown3) (by rw [List.length_append, List.length_cons, List.length_drop, tl]; omega) (by omega) HZ.out
                have HB3 : Hid (Below w.heap.size w w3) := HW.out.trans ((HB2.out.grown hgrow3 (by omega) HN2.out).mono HZ.out)
                clear hown3 hgrow3 hown2 HB2 HN2 HCe HSp HT1
                go_wp2
                go_roundw
                case rel => exact ⟨i + 1, _, by omega, by go_num, HO3.out, HU2.out, HB3.out⟩
                case measure => simp [intOf]; omega
      · have HL0 : Hid (OwnL u0 w.heap.size (.slice a3 out.length c3) out) := HL.out.on HB0.out
        have HW0 : Hid (Below w.heap.size w u0) := rbel_on HB0.out HW.out
        have HC : Hid (¬ Cor (lst f n) (f i)) := hC
        clear hC hb HL HW HB0 cC x0 x1 zb
        go_loopw [6] (fun vk wr' => ∃ k : Nat, k ≤ out.length ∧ vk = .int .i64 k ∧ (∀ j p, j < k → out[j]? = some p → p.1 < (f i).1) ∧ OwnL wr' w.heap.size (.slice a3 out.length c3) out ∧ Below w.heap.size w wr') (fun k _ => out.length - (intOf k).toNat)
        case atStart => exact ⟨0, Nat.zero_le _, rfl, fun j p hj => by omega, HL0.out, HW0.out⟩
        case round =>
          clear HL0 HW0
          obtain ⟨k, hk, rfl, hlo, hL, hw⟩ := hrel
          have HLo : Hid (∀ j p, j < k → out[j]? = some p → p.1 < (f i).1) := hlo
          have HL : Hid (OwnL wr w.heap.size (.slice a3 out.length c3) out) := hL
          have HW : Hid (Below w.heap.size w wr) := hw
          obtain ⟨x0, x1⟩ := (HPl.out.on hw) i hlt
          have zb : b < wr.heap.size := World.block_lt_of_cell? _ _ x0
          by_cases hlk : k < out.length
          · have hl4 : decide ((k : Int) < (out.length : Nat)) = true := decide_eq_true (by omega)
            have hl5 : (k : Int) < (out.length : Nat) := by omega
            obtain ⟨q, hq⟩ : ∃ q, out[k]? = some q := ⟨_, List.getElem?_eq_getElem hlk⟩
            obtain ⟨g, cg, eg, gl, y0, y1⟩ := hL.pts hq
            simp only [Value.slice.injEq] at eg
            obtain ⟨rfl, _, rfl⟩ := eg
            have HQ : Hid (out[k]? = some q) := hq
            clear hlo hL hw hq
            by_cases lt : q.1 < (f i).1
            · have dl : decide (q.1 < (f i).1) = true := decide_eq_true lt
              have HN : Hid (∀ j p, j < k + 1 → out[j]? = some p → p.1 < (f i).1) := fun j p hj hp => by
                by_cases e : j = k
                · subst e
                  rw [HQ.out] at hp
                  obtain rfl := Option.some.inj hp
                  exact lt
                · exact HLo.out j p (by omega) hp
              clear lt HLo HQ
              as_aux_lemma =>
                go_wp2
                go_quiet (fail)
                go_wp2
                go_roundw
                case rel => exact ⟨k + 1, by omega, by go_num, HN.out, HL.out.drn, rbel_drn HW.out⟩
                case measure => simp [intOf]; omega
            · have dl : decide (q.1 < (f i).1) = false := decide_eq_false lt
              have HU2 : Hid (UpI f n (i + 1) out) := HU.out.skip HC.out
              clear lt HLo HQ HU HC
              as_aux_lemma =>
                go_wp2
                go_quiet (fail)
                go_wp2
                go_quiet (fail)
                go_wp2
                go_roundw
                case rel => exact ⟨i + 1, out, by omega, by go_num, HL.out.drn, HU2.out, rbel_drn HW.out⟩
                case measure => simp [intOf]; omega
          · have hl4 : decide ((k : Int) < (out.length : Nat)) = false := decide_eq_false (by omega)
            obtain rfl : k = out.length := by omega
            clear hlo hL hw
            have HU2 : Hid (UpI f n (i + 1) out) := HU.out.skip HC.out
            clear HLo HU HC
            as_aux_lemma =>
              go_wp2
              go_quiet (fail)
              go_wp2
              go_quiet (fail)
              go_wp2
              go_roundw
              case rel => exact ⟨i + 1, out, by omega, by go_num, HL.out.drn, HU2.out, rbel_drn HW.out⟩
              case measure => simp [intOf]; omega
    · have hl3 : ¬ ((i : Int) < n) := by omega
      have e : i = n := by omega
      have HUp : Hid (Up (lst f n) out) := by show Up _ _; rw [e] at hU; exact hU.all
      obtain ⟨a3, c3, e3⟩ := hL.val
      subst e3
      clear hw hL hU HP HO e HU
      go_wp2
      go_ret
      exact ⟨_, out, rfl, HL.out, HUp.out, HW.out⟩
end Go.Proofs.YtcofpgbaokmbmafDoor
