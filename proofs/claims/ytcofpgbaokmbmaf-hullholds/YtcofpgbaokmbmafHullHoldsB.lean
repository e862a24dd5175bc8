/- The ways through the law HullHolds: points as they may be. -/
import Derived.Test.YtcofpgbaokmbmafHullHoldsA
namespace Go.Proofs.Ytcofpgbaokmbmaf.hullHolds
open Go.ChangeShapes Go.WideShapes Go.ChangeAt Go.RowKit Go.Joins
set_option linter.unusedVariables false
set_option linter.unusedSimpArgs false

theorem in64_near {n : Int} (h1 : -1000000 ≤ n) (h2 : n ≤ 1000000) : In64 n := by
  show (Lit.int .i64 n).wf = true
  simp [Lit.wf, IntKind.min, IntKind.max, IntKind.signed, IntKind.bits]
  omega
theorem errc_parts (e : Int) : (e = 0 ∧ errc e = .nilIface) ∨ (e ≠ 0 ∧ errc e = .iface 37 (.int .i64 e)) := by
  by_cases h : e = 0
  · subst h; exact Or.inl ⟨rfl, errc_zero⟩
  · exact Or.inr ⟨h, errc_not h⟩
section
variable {f : Nat → Int × Int} {n : Nat} {x v e : Int}
theorem ove_in (hE : PtE n f 0) (hw : Within (lst f n) x) (h : OvE n f x v e) : e = 0 ∧ OvV (lst f n) x v := by
  rcases h with ⟨g, ne, _⟩ | ⟨_, n0, _⟩ | ⟨_, _, nw, _⟩ | ⟨_, _, o, rfl⟩
  · exact absurd (g.one hE) ne
  · obtain ⟨⟨a, ha, _⟩, _⟩ := hw
    obtain ⟨j, hj, _⟩ := mem_lst.1 ha
    omega
  · exact absurd hw nw
  · exact ⟨rfl, o⟩
theorem une_in (hE : PtE n f 0) (hw : Within (lst f n) x) (h : UnE n f x v e) : e = 0 ∧ OvV ((lst f n).map flp) x (-v) := by
  rcases h with ⟨g, ne, _⟩ | ⟨_, n0, _⟩ | ⟨_, _, nw, _⟩ | ⟨_, _, o, rfl⟩
  · exact absurd (g.one hE) ne
  · obtain ⟨⟨a, ha, _⟩, _⟩ := hw
    obtain ⟨j, hj, _⟩ := mem_lst.1 ha
    omega
  · exact absurd hw nw
  · exact ⟨rfl, o⟩
theorem ove_out (hE : PtE n f 0) (hw : ¬ Within (lst f n) x) (h : OvE n f x v e) : e ≠ 0 := by
  rcases h with ⟨_, ne, _⟩ | ⟨_, _, _, rfl⟩ | ⟨_, _, _, _, rfl⟩ | ⟨_, g, _⟩
  · exact ne
  · decide
  · decide
  · exact absurd g hw
theorem ove_zero (h : OvE n f x v 0) : OvV (lst f n) x v := by
  rcases h with ⟨_, ne, _⟩ | ⟨_, _, _, e⟩ | ⟨_, _, _, _, e⟩ | ⟨_, _, o, _⟩
  · exact absurd rfl ne
  · cases e
  · cases e
  · exact o
theorem une_zero (h : UnE n f x v 0) : OvV ((lst f n).map flp) x (-v) := by
  rcases h with ⟨_, ne, _⟩ | ⟨_, _, _, e⟩ | ⟨_, _, _, _, e⟩ | ⟨_, _, o, _⟩
  · exact absurd rfl ne
  · cases e
  · cases e
  · exact o
end
set_option maxRecDepth 100000 in
set_option maxHeartbeats 8000000 in
theorem good (a : Option Addr) (n cap : Nat) (f : Nat → Int × Int) (mx my x : Int) (out : List (Int × Int)) (w : World) (B : HlU w) (O : HlO w) (hH : PHanded w a n f) (hE : PtE n f 0) (hx : In64 x) (U : Up (lst f n) out) :
    Calls Try.prog 3 #[.slice a n cap, .agg #[.int .i64 mx, .int .i64 my], .int .i64 x] w fun o w' => o = .returned (.bool true) ∧ Below w.heap.size w w' := by
  obtain ⟨h60, hok⟩ := hE.zero
  have ol : out.length ≤ 60 := Nat.le_trans (up_len U) h60
  have W1 : Hid (Below w.heap.size w ((w.alloc (.cells #[.int .i64 mx, .int .i64 my] 24)).alloc (.cells threeCells.toArray 24))) := rbel_al (rbel_al (Below.refl _ _))
  have R1 : Hid (Row ((w.alloc (.cells #[.int .i64 mx, .int .i64 my] 24)).alloc (.cells threeCells.toArray 24)) w.heap.size [.int .i64 mx, .int .i64 my]) := Row.al (Row.made rfl)
  have cc3 := O.over (some ⟨w.heap.size + 1, 0, none⟩) 3 3 threeP 1 3 0 _ W1.out (three_handed (Row.made (by simp))) (by decide) three_ove
  rw [errc_zero] at cc3
  have cU : ∀ u, Below w.heap.size w u → Calls Try.prog 5 #[.slice a n cap] u fun o w' => ∃ ca cc, o = .returned (.tuple #[.slice ca out.length cc, .nilIface]) ∧ PHanded w' ca out.length (rowL out) ∧ Below u.heap.size u w' := fun u hu => (B.upper a n cap f 0 u hu (hH.on hu) hE).mono (by
    rintro o w' ⟨ca, k, cc, c, rfl, hp, _, hk, hb⟩
    have e := (hk rfl).one U
    have ek : k = out.length := by rw [← e, lst_len]
    subst ek
    rw [errc_zero]
    exact ⟨ca, cc, rfl, hp.same (fun i hi => by rw [← rowL_lst c out.length i hi, e]), hb⟩)
  have cU2 : Hid (∀ u ca cc, Below w.heap.size w u → PHanded u ca out.length (rowL out) → Calls Try.prog 5 #[.slice ca out.length cc] u fun o w' => ∃ da dc, o = .returned (.tuple #[.slice da out.length dc, .nilIface]) ∧ PHanded w' da out.length (rowL out) ∧ Below u.heap.size u w') := fun u ca cc hu hp => (B.upper ca out.length cc (rowL out) 0 u hu hp (Or.inr (Or.inr ⟨ol, up_ok U hok, rfl⟩))).mono (by
    rintro o w' ⟨da, k, dc, d, rfl, hp, _, hk, hb⟩
    have h := hk rfl
    rw [lst_row] at h
    have e := h.one U.again
    have ek : k = out.length := by rw [← e, lst_len]
    subst ek
    rw [errc_zero]
    exact ⟨da, dc, rfl, hp.same (fun i hi => by rw [← rowL_lst d out.length i hi, e]), hb⟩)
  have cS : Hid (∀ u ca cc da dc, PHanded u ca out.length (rowL out) → PHanded u da out.length (rowL out) → Calls Try.prog 6 #[.slice ca out.length cc, .slice da out.length dc] u fun e w' => e = .returned (.bool true) ∧ Below u.heap.size u w') := fun u ca cc da dc h1 h2 => same_points ca da _ cc dc _ u h1 h2
  have cL : Hid (∀ i, i < n → ∃ V Q, (f i).2 ≤ V ∧ Q ≤ (f i).2 ∧ (∀ u, Below w.heap.size w u → Calls Try.prog 4 #[.slice a n cap, .int .i64 (f i).1] u fun o w' => o = .returned (.tuple #[.int .i64 V, .nilIface]) ∧ Below u.heap.size u w') ∧ ∀ u, Below w.heap.size w u → Calls Try.prog 7 #[.slice a n cap, .int .i64 (f i).1] u fun o w' => o = .returned (.tuple #[.int .i64 Q, .nilIface]) ∧ Below u.heap.size u w') := fun i hi => by
    have hw : Within (lst f n) (f i).1 := ⟨⟨f i, lst_in hi, Int.le_refl _⟩, f i, lst_in hi, Int.le_refl _⟩
    obtain ⟨V, e1, hV⟩ := ovE_some n f (f i).1
    obtain ⟨Q, e2, hQ⟩ := unE_some n f (f i).1
    obtain ⟨rfl, oV⟩ := ove_in hE hw hV
    obtain ⟨rfl, oQ⟩ := une_in hE hw hQ
    have hi64 := in64_near (hok i hi).1.1 (hok i hi).1.2
    have q := oQ.1.1 (flp (f i)) (List.mem_map.2 ⟨f i, lst_in hi, rfl⟩) rfl
    refine ⟨V, Q, oV.1.1 (f i) (lst_in hi) rfl, by have : -(f i).2 ≤ -Q := q; omega, fun u hu => ?_, fun u hu => ?_⟩
    · have := O.over a n cap f (f i).1 V 0 u hu (hH.on hu) hi64 hV
      rwa [errc_zero] at this
    · have := O.under a n cap f (f i).1 Q 0 u hu (hH.on hu) hi64 hQ
      rwa [errc_zero] at this
  have HO : Hid (HlO w) := O
  have HH : Hid (PHanded w a n f) := hH
  have HEE : Hid (PtE n f 0) := hE
  have HX : Hid (In64 x) := hx
  obtain ⟨i0, hi0, hz0, hz1, hz2⟩ := info_parts infoPoint
  clear B O hH hE hx U hok
  have cnt : Mark 0 := .mk _
  go_enter Try.func3, Try.ntmps3
  go_wp2_with (first
    | (go_at_call 4; have cq : Mark 0 := cnt; refine cc3.mono ?_; clear cq cnt; have cnt : Mark 1 := .mk _; rintro e' u0 ⟨rfl, hb⟩; have HR0 : Hid (Row u0 w.heap.size [.int .i64 mx, .int .i64 my]) := Row.on hb R1.out; have HW0 : Hid (Below w.heap.size w u0) := rbel_on hb W1.out; clear hb)
    | (go_at_call 5; have cq : Mark 1 := cnt; refine (cU _ HW0.out).mono ?_; clear cq cnt; have cnt : Mark 2 := .mk _; rintro e' u1 ⟨ca, cc, rfl, hp, hb⟩; have HC1 : Hid (PHanded u1 ca out.length (rowL out)) := hp; have HR1 : Hid (Row u1 w.heap.size [.int .i64 mx, .int .i64 my]) := Row.on hb HR0.out; have HW1 : Hid (Below w.heap.size w u1) := rbel_on hb HW0.out; have cu2 := cU2.out u1 ca cc HW1.out hp; clear hb hp)
    | (go_at_call 5; have cq : Mark 2 := cnt; refine cu2.mono ?_; clear cq cnt cu2; have cnt : Mark 3 := .mk _; rintro e' u2 ⟨da, dc, rfl, hp, hb⟩; have cs := cS.out u2 ca cc da dc (HC1.out.on hb) hp; have HR2 : Hid (Row u2 w.heap.size [.int .i64 mx, .int .i64 my]) := Row.on hb HR1.out; have HW2 : Hid (Below w.heap.size w u2) := rbel_on hb HW1.out; clear hb hp)
    | (go_at_call 6; refine cs.mono ?_; clear cs; rintro e' u3 ⟨rfl, hb⟩; have HR3 : Hid (Row u3 w.heap.size [.int .i64 mx, .int .i64 my]) := Row.on hb HR2.out; have HW3 : Hid (Below w.heap.size w u3) := rbel_on hb HW2.out; clear hb))
  clear cc3 cU cU2 cS W1 R1 HR0 HR1 HR2 HW0 HW1 HW2 HC1 cnt
  go_loopw [14] (fun vi wr => ∃ i : Nat, i ≤ n ∧ vi = .int .i64 i ∧ Row wr w.heap.size [.int .i64 mx, .int .i64 my] ∧ Below w.heap.size w wr) (fun i _ => n - (intOf i).toNat)
  case atStart => exact ⟨0, Nat.zero_le _, rfl, HR3.out, HW3.out⟩
  case round =>
    clear HR3 HW3
    obtain ⟨i, hi, rfl, hR, hw⟩ := hrel
    have HR : Hid (Row wr w.heap.size [.int .i64 mx, .int .i64 my]) := hR
    have HW : Hid (Below w.heap.size w wr) := hw
    by_cases hlt : i < n
    · have hl3 : (i : Int) < n := by omega
      obtain ⟨V, Q, v1, q1, cO, cN⟩ := cL.out i hlt
      obtain ⟨b, off, rfl, hP⟩ : ∃ b off : Nat, a = some ⟨b, off, none⟩ ∧ Pls w b off n f := by
        rcases HH.out.2 with e | h
        · omega
        · exact h
      obtain ⟨x0, x1⟩ := (hP.on hw) i hlt
      have zb : b < wr.heap.size := World.block_lt_of_cell? _ _ x0
      have d1 : decide (V < (f i).2) = false := decide_eq_false (by omega)
      have d2 : decide ((f i).2 < Q) = false := decide_eq_false (by omega)
      clear hR hw cL HO HH HEE HX hP
      generalize (f i).1 = px at *
      generalize (f i).2 = py at *
      as_aux_lemma =>
        go_wp2_with (first
          | (go_at_call 4; refine (cO _ HW.out).mono ?_; rintro e' u1 ⟨rfl, hb⟩; have x01 : u1.cell? ⟨b, off + i * 2, none⟩ = some (.int .i64 px) := (by rw [hb.cell zb]; exact x0); have x11 : u1.cell? ⟨b, off + i * 2 + 1, none⟩ = some (.int .i64 py) := (by rw [hb.cell zb]; exact x1); have z1 := hb.size; have zb1 : b < u1.heap.size := (by omega); have HR1 : Hid (Row u1 w.heap.size [.int .i64 mx, .int .i64 my]) := Row.on hb HR.out; have HW1 : Hid (Below w.heap.size w u1) := rbel_on hb HW.out; clear hb)
          | (go_at_call 7; refine (cN _ HW1.out).mono ?_; rintro e' u2 ⟨rfl, hb⟩; have x12 : u2.cell? ⟨b, off + i * 2 + 1, none⟩ = some (.int .i64 py) := (by rw [hb.cell zb1]; exact x11); have HR2 : Hid (Row u2 w.heap.size [.int .i64 mx, .int .i64 my]) := Row.on hb HR1.out; have HW2 : Hid (Below w.heap.size w u2) := rbel_on hb HW1.out; clear hb))
        go_roundw
        case rel => exact ⟨i + 1, by omega, by go_num, HR2.out, HW2.out⟩
        case measure => simp [intOf]; omega
    · have hl3 : ¬ ((i : Int) < n) := by omega
      obtain ⟨V, e1, hV⟩ := ovE_some n f x
      obtain ⟨Q, e2, hQ⟩ := unE_some n f x
      have cO := fun u (hu : Below w.heap.size w u) => HO.out.over a n cap f x V e1 u hu (HH.out.on hu) HX.out hV
      have cN := fun u (hu : Below w.heap.size w u) => HO.out.under a n cap f x Q e2 u hu (HH.out.on hu) HX.out hQ
      by_cases hwi : Within (lst f n) x
      · obtain ⟨rfl, oV⟩ := ove_in HEE.out hwi hV
        obtain ⟨rfl, oQ⟩ := une_in HEE.out hwi hQ
        rw [errc_zero] at cO cN
        obtain ⟨P, e3, hP3⟩ := ovE_some (n + 1) (moreP f n (mx, my)) x
        obtain ⟨S, e4, hS4⟩ := unE_some (n + 1) (moreP f n (mx, my)) x
        have HF : Hid (e3 = 0 → e4 = 0 → V ≤ P ∧ S ≤ Q ∧ Q ≤ V) := fun z3 z4 => by
          subst z3
          subst z4
          have o3 := ove_zero hP3
          have o4 := une_zero hS4
          rw [more_lst] at o3 o4
          have g1 := oV.more o3 (fun p hp => List.mem_append.2 (Or.inl hp))
          have g2 := oQ.more o4 (fun p hp => by rw [List.map_append]; exact List.mem_append.2 (Or.inl hp))
          exact ⟨g1, by omega, under_over hwi oV oQ⟩
        have c3 : Hid (∀ u A C, Below w.heap.size w u → PHanded u A (n + 1) (moreP f n (mx, my)) → Calls Try.prog 4 #[.slice A (n + 1) C, .int .i64 x] u fun o w' => o = .returned (.tuple #[.int .i64 P, errc e3]) ∧ Below u.heap.size u w') := fun u A C hu hp => HO.out.over A (n + 1) C _ x P e3 u hu hp HX.out hP3
        have c4 : Hid (∀ u A C, Below w.heap.size w u → PHanded u A (n + 1) (moreP f n (mx, my)) → Calls Try.prog 7 #[.slice A (n + 1) C, .int .i64 x] u fun o w' => o = .returned (.tuple #[.int .i64 S, errc e4]) ∧ Below u.heap.size u w') := fun u A C hu hp => HO.out.under A (n + 1) C _ x S e4 u hu hp HX.out hS4
        obtain ⟨b, off, rfl, hP⟩ : ∃ b off : Nat, a = some ⟨b, off, none⟩ ∧ Pls w b off n f := by
          rcases HH.out.2 with e | h
          · obtain ⟨⟨p, hp, _⟩, _⟩ := hwi
            obtain ⟨j, hj, _⟩ := mem_lst.1 hp
            omega
          · exact h
        have HPl : Hid (Pls w b off n f) := hP
        have HLn : Hid ((pcs (lst f n)).length = n * 2) := by show _ = _; rw [pcs_len, lst_len]
        clear hR hw cL HO HH HEE HX hP hV hQ hP3 hS4 hwi oV oQ
        have cnt : Mark 0 := .mk _
        go_wp2_with (first
          | (go_at_call 4; have cq : Mark 0 := cnt; refine (cO _ HW.out).mono ?_; clear cq cnt; have cnt : Mark 1 := .mk _; rintro e' u1 ⟨rfl, hb⟩; have HR1 : Hid (Row u1 w.heap.size [.int .i64 mx, .int .i64 my]) := Row.on hb HR.out; have HW1 : Hid (Below w.heap.size w u1) := rbel_on hb HW.out; clear hb)
          | (go_at_call 7; have cq : Mark 1 := cnt; refine (cN _ HW1.out).mono ?_; clear cq cnt; have cnt : Mark 2 := .mk _; rintro e' u2 ⟨rfl, hb⟩; have HR2 : Hid (Row u2 w.heap.size [.int .i64 mx, .int .i64 my]) := Row.on hb HR1.out; have HW2 : Hid (Below w.heap.size w u2) := rbel_on hb HW1.out; have z2 : w.heap.size ≤ u2.heap.size := HW2.out.size; clear hb)
          | (at_builtin; refine wpList_append_own _ rfl _ _ 22 rfl u2.heap.size 24 i0 (.agg #[.int .i64 0, .int .i64 0]) 2 16 Try.underlying22 hi0 hz0 hz1 hz2 rfl (by decide) _ 0 [] rfl (World.ownsRow_nil _ _ _ _) ⟨b, off, none⟩ n cap (pcs (lst f n)) rfl HLn.out ?c1 pcs_one ?c3 ?c4 ?c5 ?_))
        case c1 =>
          intro j u hj
          rw [Addr.add_lit]
          exact pls_pcs (HPl.out.on HW2.out) j u hj
        case c3 => unfold maxLen; omega
        case c4 => omega
        case c5 => exact Nat.le_refl _
        intro v1 w1 hown1 hgrow1 _
        have b1 : Below u2.heap.size u2 w1 := (Below.refl _ _).grown hgrow1 (Nat.le_refl _) (fun j hj => by cases hj)
        have HB1 : Hid (Below u2.heap.size u2 w1) := b1
        have rw1 := Row.on b1 HR2.out
        have r0 := rw1.c 0 _ rfl
        have r1 := rw1.c 1 _ rfl
        have rz := rw1.lt
        have HN1 : Hid (∀ j, v1.ownBlock = some j → u2.heap.size ≤ j) := fun j hj => (hown1.lt j hj).1
        have z3 := b1.size
        clear hgrow1 b1 rw1 HPl HLn
        go_wp2_with (at_builtin; refine wpList_append_own _ rfl _ _ 22 rfl u2.heap.size 24 i0 (.agg #[.int .i64 0, .int .i64 0]) 2 16 Try.underlying22 hi0 hz0 hz1 hz2 rfl (by decide) _ _ _ rfl (hown1.alloc _) ⟨w1.heap.size, 0, none⟩ 1 1 [.int .i64 mx, .int .i64 my] rfl rfl ?d1 ?d2 ?d3 ?d4 ?d5 ?_)
        case d1 =>
          intro j u hj
          rw [Addr.add_lit, World.cell?_alloc_at _ _ _ _ (by simp)]
          simpa using hj
        case d2 =>
          intro u hu
          simp at hu
          rcases hu with rfl | rfl <;> rfl
        case d3 => unfold maxLen; omega
        case d4 => omega
        case d5 => simp; omega
        intro v2 w2 hown2 hgrow2 _
        have b2 : Below u2.heap.size u2 w2 := (HB1.out.alloc (by omega) _).grown hgrow2 (by simp; omega) HN1.out
        have HW3 : Hid (Below w.heap.size w w2) := rbel_on b2 HW2.out
        obtain ⟨A, C, rfl, hA, _⟩ := own_points (l := lst f n ++ [(mx, my)]) (k := n + 1) (by rw [pcs_app]; simpa [pcs] using hown2) (by rw [List.length_append, lst_len]; rfl) (by omega)
        have hA2 : PHanded w2 A (n + 1) (moreP f n (mx, my)) := hA.same (fun i hi => by rw [← more_lst, rowL_lst _ _ i hi])
        have cc3 := c3.out w2 A C HW3.out hA2
        have cc4 := fun u (hu : Below w2.heap.size w2 u) => c4.out u A C (rbel_on hu HW3.out) (hA2.on hu)
        clear hown2 hgrow2 b2 hA hA2 hown1 r0 r1 HN1 HB1 HR2 HR1 HR c3 c4 cO cN
        rcases errc_parts e3 with ⟨z3', n3⟩ | ⟨z3', n3⟩
        · rw [n3] at cc3
          rcases errc_parts e4 with ⟨z4', n4⟩ | ⟨z4', n4⟩
          · have hF := HF.out z3' z4'
            have g1 : decide (V ≤ P) = true := decide_eq_true hF.1
            have g2 : decide (S ≤ Q) = true := decide_eq_true hF.2.1
            have g3 : decide (Q ≤ V) = true := decide_eq_true hF.2.2
            clear hF HF z3' z4'
            have cc4' : ∀ u, Below w2.heap.size w2 u → Calls Try.prog 7 #[.slice A (n + 1) C, .int .i64 x] u fun o w' => o = .returned (.tuple #[.int .i64 S, .nilIface]) ∧ Below u.heap.size u w' := fun u hu => by rw [← n4]; exact cc4 u hu
            clear cc4
            as_aux_lemma =>
              go_wp2_with (first
                | (go_at_call 4; refine cc3.mono ?_; rintro e' u5 ⟨rfl, hb⟩; have HB5 : Hid (Below w2.heap.size w2 u5) := hb; clear hb)
                | (go_at_call 7; refine (cc4' _ HB5.out).mono ?_; rintro e' u6 ⟨rfl, hb⟩; have HB6 : Hid (Below w2.heap.size w2 u6) := rbel_on hb HB5.out; clear hb))
              go_ret
              exact ⟨rfl, rbel_on HB6.out HW3.out⟩
          · clear HF z3' z4'
            have cc4' : ∀ u, Below w2.heap.size w2 u → Calls Try.prog 7 #[.slice A (n + 1) C, .int .i64 x] u fun o w' => o = .returned (.tuple #[.int .i64 S, .iface 37 (.int .i64 e4)]) ∧ Below u.heap.size u w' := fun u hu => by rw [← n4]; exact cc4 u hu
            clear cc4
            as_aux_lemma =>
              go_wp2_with (first
                | (go_at_call 4; refine cc3.mono ?_; rintro e' u5 ⟨rfl, hb⟩; have HB5 : Hid (Below w2.heap.size w2 u5) := hb; clear hb)
                | (go_at_call 7; refine (cc4' _ HB5.out).mono ?_; rintro e' u6 ⟨rfl, hb⟩; have HB6 : Hid (Below w2.heap.size w2 u6) := rbel_on hb HB5.out; clear hb))
              go_ret
              exact ⟨rfl, rbel_on HB6.out HW3.out⟩
        · rw [n3] at cc3
          obtain ⟨E4, hE4⟩ : ∃ E4, E4 = errc e4 := ⟨_, rfl⟩
          have cc4' : ∀ u, Below w2.heap.size w2 u → Calls Try.prog 7 #[.slice A (n + 1) C, .int .i64 x] u fun o w' => o = .returned (.tuple #[.int .i64 S, E4]) ∧ Below u.heap.size u w' := fun u hu => by rw [hE4]; exact cc4 u hu
          clear HF z3' hE4 cc4
          as_aux_lemma =>
            go_wp2_with (first
              | (go_at_call 4; refine cc3.mono ?_; rintro e' u5 ⟨rfl, hb⟩; have HB5 : Hid (Below w2.heap.size w2 u5) := hb; clear hb)
              | (go_at_call 7; refine (cc4' _ HB5.out).mono ?_; rintro e' u6 ⟨rfl, hb⟩; have HB6 : Hid (Below w2.heap.size w2 u6) := rbel_on hb HB5.out; clear hb))
            go_ret
            exact ⟨rfl, rbel_on HB6.out HW3.out⟩
      · have z1 := ove_out HEE.out hwi hV
        rw [errc_not z1] at cO
        have e2v := errc_parts e2
        obtain ⟨E2, hE2⟩ : ∃ E2, E2 = errc e2 := ⟨_, rfl⟩
        rw [← hE2] at cN
        clear hR hw cL HO HH HEE HX hV hQ hwi hE2 e2v
        as_aux_lemma =>
          go_wp2_with (first
            | (go_at_call 4; refine (cO _ HW.out).mono ?_; rintro e' u1 ⟨rfl, hb⟩; have HW1 : Hid (Below w.heap.size w u1) := rbel_on hb HW.out; clear hb)
            | (go_at_call 7; refine (cN _ HW1.out).mono ?_; rintro e' u2 ⟨rfl, hb⟩; have HW2 : Hid (Below w.heap.size w u2) := rbel_on hb HW1.out; clear hb))
          go_ret
          exact ⟨rfl, HW2.out⟩
theorem all_ways (a : Option Addr) (n cap : Nat) (f : Nat → Int × Int) (mx my x : Int) (w : World) (B : HlU w) (O : HlO w) (hH : PHanded w a n f) (hx : In64 x) :
    Calls Try.prog 3 #[.slice a n cap, .agg #[.int .i64 mx, .int .i64 my], .int .i64 x] w fun o w' => o = .returned (.bool true) ∧ Below w.heap.size w w' := by
  obtain ⟨e, hE⟩ := ptE_some n f
  by_cases e0 : e = 0
  · subst e0
    obtain ⟨out, U⟩ := up_some f n
    exact good a n cap f mx my x out w B O hH hE hx U
  · exact wrong a n cap f mx my x e w B O hH hE e0
end Go.Proofs.Ytcofpgbaokmbmaf.hullHolds
