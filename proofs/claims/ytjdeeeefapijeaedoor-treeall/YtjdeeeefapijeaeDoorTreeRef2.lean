/- What the document's own reckoning (package noonref1) answers of trees: Parents, the walk. -/
import Derived.Test.YtjdeeeefapijeaeDoorTreeRef
namespace Go.Proofs.YtjdeeeefapijeaeDoor
open Go.ChangeShapes Go.WideShapes Go.ChangeAt Go.RowKit Go.Joins
set_option linter.unusedVariables false
set_option linter.unusedSimpArgs false

/-- A tree in memory while it grows. -/
structure StT (s : Nat) (u : World) (n : Nat) (t : Tr) (v : Value) : Prop where
  byB : Blk u 3 s (byR n t)
  inB : Blk u 4 (s + 1) (inR n t)
  row : u.ownsRow (s + 2) 3 1 v t.row.length (roR t)
theorem StT.drn {s n d : Nat} {u : World} {t : Tr} {v : Value} (h : StT s u n t v) : StT s (u.drewN d) n t v := ⟨h.byB, h.inB, h.row⟩
theorem own_new {W : World} {base : Nat} {e : TypeId} {x : Value} (hb : base ≤ W.heap.size) : (W.alloc (.cells #[x] e)).ownsRow base e 1 (.slice (some ⟨W.heap.size, 0, none⟩) 1 1) 1 [x] := by
  refine ⟨by simp, Or.inr ⟨W.heap.size, 1, #[x], rfl, hb, ?_, Nat.le_refl _, by unfold maxLen; omega, by simp, by simp⟩⟩
  show (W.heap.push _)[W.heap.size]? = _
  simp
theorem roR_at {t : Tr} {j x : Nat} (h : t.row[j]? = some x) : (roR t)[j]? = some (.int .i64 (x : Nat)) := by
  unfold roR
  rw [List.getElem?_map, h]; rfl
theorem try_no {q : Nat → Eg} {k x : Nat} {t : Tr} (h : toT q k x = none ∨ ∃ y, toT q k x = some y ∧ y ∈ t.row) : tryT q k x t = t := by
  unfold tryT
  rcases h with h | ⟨y, h, hy⟩
  · rw [h]
  · rw [h]; exact if_pos hy
theorem try_add {q : Nat → Eg} {k x y : Nat} {t : Tr} (h : toT q k x = some y) (hy : ¬ y ∈ t.row) : tryT q k x t = addT t k y := by
  unfold tryT
  rw [h]; exact if_neg hy
set_option maxRecDepth 100000 in
set_option maxHeartbeats 8000000 in
theorem rparents_any (n : Nat) (a : Option Addr) (m cap : Nat) (q : Nat → Eg) (r : Nat) (w : World) (hE : Egs n q m) (hH : EHanded w a m q) (hr : r < n) :
    Calls Tryd.prog 18 #[.int .i64 n, .slice a m cap, .int .i64 r] w fun e w' => ParR q m n r w e w' := by
  have h6 : n ≤ 6 := by have := hE.n6; omega
  have h40 := hE.m40
  have HE : Hid (Egs n q m) := hE
  have HH : Hid (m = 0 ∨ ∃ b off : Nat, a = some ⟨b, off, none⟩ ∧ Esp w b off m q) := hH.2
  have m1 := tmk_ints n h6
  have m2 := tmk_bools n h6
  have hr3 : (r : Int) < n := by omega
  obtain ⟨i0, hi0, hz0, hz1, hz2⟩ := info_parts tinfoInt
  clear hE hH
  go_enter Tryd.func18, Tryd.ntmps18
  go_wp2
  go_loopw [10] (fun vi wr => ∃ i : Nat, i ≤ n ∧ vi = .int .i64 i ∧ Blk wr 3 w.heap.size (fiR n i) ∧ Blk wr 4 (w.heap.size + 1) (List.replicate n (.bool false)) ∧ Below w.heap.size w wr) (fun i _ => n - (intOf i).toNat)
  case atStart =>
    refine ⟨0, Nat.zero_le _, rfl, ?_, ?_, rbel_al (rbel_al (Below.refl _ _))⟩
    · rw [fiR_zero, show Array.replicate n (Value.int .i64 0) = (List.replicate n (Value.int .i64 0)).toArray by simp]
      exact Blk.al (Blk.made rfl)
    · rw [show Array.replicate n (Value.bool false) = (List.replicate n (Value.bool false)).toArray by simp]
      exact Blk.made (by simp)
  case round =>
    clear m1 m2
    obtain ⟨i, hi, rfl, hB, hI, hw⟩ := hrel
    by_cases hlt : i < n
    · have hl3 : (i : Int) < n := by omega
      have c0 := hB.c i (.int .i64 (if i < i then -1 else 0)) (by simp [fiR, hlt])
      have f0 := hB.f i
      have HB : Hid (Blk wr 3 w.heap.size (fiR n i)) := hB
      have HI : Hid (Blk wr 4 (w.heap.size + 1) (List.replicate n (.bool false))) := hI
      have HW : Hid (Below w.heap.size w wr) := hw
      clear hB hI hw HE HH
      go_wp2
      go_roundw
      case rel => exact ⟨i + 1, by omega, by go_num, by rw [← fiR_set n i hlt]; exact HB.out.put i, HI.out.far (by omega), rbel_put (Nat.le_refl _) HW.out⟩
      case measure => simp [intOf]; omega
    · have hl3 : ¬ ((i : Int) < n) := by omega
      have e : i = n := by omega
      rw [e] at hB
      clear e
      have c0 := hI.c r (.bool false) (by simp [hr])
      have f0 := hI.f r
      have HB : Hid (Blk wr 3 w.heap.size (fiR n n)) := hB
      have HI : Hid (Blk wr 4 (w.heap.size + 1) (List.replicate n (.bool false))) := hI
      have HW : Hid (Below w.heap.size w wr) := hw
      have z1 := hI.lt
      clear hB hI hw
      go_wp2
      go_loopw [11, 12] (fun v vi wr => ∃ i : Nat, i ≤ n ∧ vi = .int .i64 i ∧ i ≤ (outT q m r i).row.length ∧ StT w.heap.size wr n (outT q m r i) v ∧ Below w.heap.size w wr) (fun _ i _ => n - (intOf i).toNat)
      case atStart =>
        refine ⟨0, Nat.zero_le _, rfl, Nat.zero_le _, ⟨?_, ?_, ?_⟩, rbel_al (rbel_put (by omega) HW.out)⟩
        · have := HB.out
          rw [fiR_all n r] at this
          exact (this.far (by omega)).al
        · have := HI.out.put (x := .bool true) r
          rw [inR_root n r hr] at this
          exact this.al
        · have e : (wr.setCell ⟨w.heap.size + 1, r, none⟩ (.bool true)).heap.size = wr.heap.size := by simp [World.setCell]
          have h := own_new (base := w.heap.size + 2) (W := wr.setCell ⟨w.heap.size + 1, r, none⟩ (.bool true)) (e := 3) (x := .int .i64 (r : Nat)) (by rw [e]; omega)
          rw [e] at h
          exact h
      case round =>
        clear HB HI HW c0 f0 z1
        obtain ⟨i, hi, rfl, hil, hS0, hw⟩ := hrel
        have inv := out_inv HE.out hr i
        have ln := nodup_le inv.nodup inv.lt
        have l0 : 0 < (outT q m r i).row.length := (List.getElem?_eq_some_iff.1 inv.head).1
        obtain ⟨g, cap1, rfl, gb, gl, gc, cl⟩ := own_form hS0.row l0
        have HW : Hid (Below w.heap.size w wr) := hw
        by_cases hlt : i < (outT q m r i).row.length
        · have hl3 : (i : Int) < ((outT q m r i).row.length : Nat) := by omega
          obtain ⟨x, hx⟩ : ∃ x, (outT q m r i).row[i]? = some x := ⟨_, List.getElem?_eq_getElem hlt⟩
          have eo : Hid (outT q m r (i + 1) = innT q x m (outT q m r i)) := by show outT q m r (i + 1) = _; simp only [outT]; rw [hx]
          have HX : Hid ((outT q m r i).row[i]? = some x) := hx
          have HS0 : Hid (StT w.heap.size wr n (outT q m r i) (.slice (some ⟨g, 0, none⟩) (outT q m r i).row.length cap1)) := hS0
          have INV : Hid (TrI q m n r (outT q m r i)) := inv
          have hil2 : Hid (i < (outT q m r i).row.length) := hlt
          clear hS0 hw cl gb gl gc hx inv
          generalize outT q m r i = T0 at *
          go_wp2
          go_loopw [11, 13] (fun v vk wr => ∃ k : Nat, k ≤ m ∧ vk = .int .i64 k ∧ StT w.heap.size wr n (innT q x k T0) v ∧ Below w.heap.size w wr) (fun _ i _ => m - (intOf i).toNat)
          case atStart => exact ⟨0, Nat.zero_le _, rfl, HS0.out, HW.out⟩
          case round =>
            clear HS0 HW
            obtain ⟨k, hk, rfl, hS, hw2⟩ := hrel
            have HW2 : Hid (Below w.heap.size w wr) := hw2
            have inv2 := INV.out.inn HE.out HX.out k hk
            have hx2 : (innT q x k T0).row[i]? = some x := by
              obtain ⟨l, e⟩ := inn_pre (q := q) (x := x) (t := T0) k
              rw [e]; exact getElem?_pre HX.out
            have ekT : Hid (innT q x (k + 1) T0 = tryT q k x (innT q x k T0)) := rfl
            have il2 : i < (innT q x k T0).row.length := (List.getElem?_eq_some_iff.1 hx2).1
            have ln2 := nodup_le inv2.nodup inv2.lt
            obtain ⟨g2, cap2, rfl, gb2, gl2, gc2, cl2⟩ := own_form hS.row (by omega)
            have cx := cl2 i _ (roR_at hx2)
            have il3 : (i : Int) < ((innT q x k T0).row.length : Nat) := by omega
            by_cases hlk : k < m
            · have hl4 : (k : Int) < m := by omega
              obtain ⟨b, off, rfl, hP⟩ : ∃ b off : Nat, a = some ⟨b, off, none⟩ ∧ Esp w b off m q := by
                rcases HH.out with e' | h
                · omega
                · exact h
              obtain ⟨p0, p1, p2, p3⟩ := (hP.on hw2) k hlk
              obtain ⟨⟨a1, a2, a3, a4⟩, nab, _⟩ := HE.out.each k hlk
              obtain ⟨A, eA⟩ : ∃ A : Nat, (q k).a = A := ⟨(q k).a.toNat, by omega⟩
              obtain ⟨B, eB⟩ : ∃ B : Nat, (q k).b = B := ⟨(q k).b.toNat, by omega⟩
              rw [eA] at p0
              rw [eB] at p1
              clear hP p2 p3 hw2
              generalize innT q x k T0 = T at *
              by_cases ax : A = x
              · have d1 : ((A : Int) == (x : Int)) = true := beq_iff_eq.2 (by omega)
                have hto : toT q k x = some B := by unfold toT; rw [eA, eB, if_pos (by omega), Int.toNat_natCast]
                clear ax
                have hyn : B < n := by omega
                have hy3 : (B : Int) < n := by omega
                have y0 : decide ((0 : Int) ≤ (B : Int)) = true := decide_eq_true (by omega)
                have ci := hS.inB.c B _ (inR_at n _ B hyn)
                by_cases hm : B ∈ T.row
                · rw [decide_eq_true hm] at ci
                  have HS2 : Hid (StT w.heap.size wr n (tryT q k x T) (.slice (some ⟨g2, 0, none⟩) T.row.length cap2)) := by show StT _ _ _ _ _; rw [try_no (Or.inr ⟨B, hto, hm⟩)]; exact hS
                  clear hS hm hto hx2 cl2 inv2
                  as_aux_lemma =>
                    go_wp2
                    go_quiet (fail)
                    go_wp2
                    go_roundw
                    case rel => exact ⟨k + 1, by omega, by go_num, by rw [ekT.out]; exact HS2.out.drn, rbel_drn HW2.out⟩
                    case measure => simp [intOf]; omega
                · rw [decide_eq_false hm] at ci
                  have fi := hS.inB.f B
                  have cb := hS.byB.c B _ (byR_at n _ B hyn)
                  have fb := hS.byB.f B
                  have HS : Hid (StT w.heap.size wr n T (.slice (some ⟨g2, 0, none⟩) T.row.length cap2)) := hS
                  have ta : Hid (tryT q k x T = addT T k B) := try_add hto hm
                  have zl := hS.inB.lt
                  clear hS hm hto hx2 cl2 inv2
                  as_aux_lemma =>
                    go_wp2
                    go_quiet (fail)
                    go_wp2_with (at_builtin; refine wpList_append_own _ rfl _ _ 23 rfl (w.heap.size + 2) 3 i0 (.int .i64 0) 1 8 Tryd.underlying23 hi0 hz0 hz1 hz2 rfl (by decide) _ _ _ rfl ((own_far (own_far HS.out.drn.row (by omega)) (by omega)).alloc _) ⟨wr.heap.size, 0, none⟩ 1 1 [.int .i64 B] rfl rfl ?c1 ?c2 ?c3 ?c4 ?c5 ?_)
                    case c1 =>
                      intro j u hj
                      rw [Addr.add_lit, World.cell?_alloc_at _ _ _ _ (by simp)]
                      simpa using hj
                    case c2 =>
                      intro u hu
                      simp at hu
                      subst hu
                      rfl
                    case c3 => unfold maxLen; omega
                    case c4 => omega
                    case c5 => simp; omega
                    intro v9 u9 hown9 hgrow _
                    have b1 := ((((HS.out.drn).byB.far (i := B) (x := .bool true) (show w.heap.size ≠ w.heap.size + 1 by omega)).put (x := .int .i64 (k : Nat)) B).al (ob := .cells #[.int .i64 (B : Nat)] 3)).grown hgrow (by simp [Value.ownBlock]; omega)
                    have b2 := ((((HS.out.drn).inB.put (x := .bool true) B).far (i := B) (x := .int .i64 (k : Nat)) (show w.heap.size + 1 ≠ w.heap.size by omega)).al (ob := .cells #[.int .i64 (B : Nat)] 3)).grown hgrow (by simp [Value.ownBlock]; omega)
                    rw [byR_add n T k B hyn] at b1
                    rw [inR_add n T k B hyn] at b2
                    have HS9 : Hid (StT w.heap.size u9 n (addT T k B) v9) := ⟨b1, b2, by
                      have e1 : (addT T k B).row.length = T.row.length + 1 := by simp [addT]
                      have e2 : roR (addT T k B) = roR T ++ [.int .i64 (B : Nat)] := by simp [addT, roR]
                      rw [e1, e2]; exact hown9⟩
                    have HW9 : Hid (Below w.heap.size w u9) := (rbel_al (rbel_put (Nat.le_refl _) (rbel_put (by omega) (rbel_drn HW2.out)))).grown hgrow (by simp; omega) (fun j hj => by simp [Value.ownBlock] at hj; omega)
                    clear b1 b2 hown9 hgrow
                    go_wp2
                    go_roundw
                    case rel => exact ⟨k + 1, by omega, by go_num, by rw [ekT.out, ta.out]; exact HS9.out, HW9.out⟩
                    case measure => simp [intOf]; omega
              · have d1 : ((A : Int) == (x : Int)) = false := by simp; omega
                by_cases bx : B = x
                · have d2 : ((B : Int) == (x : Int)) = true := beq_iff_eq.2 (by omega)
                  have hto : toT q k x = some A := by unfold toT; rw [eA, eB, if_neg (by omega), if_pos (by omega), Int.toNat_natCast]
                  clear bx ax
                  have hyn : A < n := by omega
                  have hy3 : (A : Int) < n := by omega
                  have y0 : decide ((0 : Int) ≤ (A : Int)) = true := decide_eq_true (by omega)
                  have ci := hS.inB.c A _ (inR_at n _ A hyn)
                  by_cases hm : A ∈ T.row
                  · rw [decide_eq_true hm] at ci
                    have HS2 : Hid (StT w.heap.size wr n (tryT q k x T) (.slice (some ⟨g2, 0, none⟩) T.row.length cap2)) := by show StT _ _ _ _ _; rw [try_no (Or.inr ⟨A, hto, hm⟩)]; exact hS
                    clear hS hm hto hx2 cl2 inv2
                    as_aux_lemma =>
                      go_wp2
                      go_quiet (fail)
                      go_wp2
                      go_quiet (fail)
                      go_wp2
                      go_roundw
                      case rel => exact ⟨k + 1, by omega, by go_num, by rw [ekT.out]; exact HS2.out.drn, rbel_drn HW2.out⟩
                      case measure => simp [intOf]; omega
                  · rw [decide_eq_false hm] at ci
                    have fi := hS.inB.f A
                    have cb := hS.byB.c A _ (byR_at n _ A hyn)
                    have fb := hS.byB.f A
                    have HS : Hid (StT w.heap.size wr n T (.slice (some ⟨g2, 0, none⟩) T.row.length cap2)) := hS
                    have ta : Hid (tryT q k x T = addT T k A) := try_add hto hm
                    have zl := hS.inB.lt
                    clear hS hm hto hx2 cl2 inv2
                    as_aux_lemma =>
                      go_wp2
                      go_quiet (fail)
                      go_wp2
                      go_quiet (fail)
                      go_wp2_with (at_builtin; refine wpList_append_own _ rfl _ _ 23 rfl (w.heap.size + 2) 3 i0 (.int .i64 0) 1 8 Tryd.underlying23 hi0 hz0 hz1 hz2 rfl (by decide) _ _ _ rfl ((own_far (own_far HS.out.drn.row (by omega)) (by omega)).alloc _) ⟨wr.heap.size, 0, none⟩ 1 1 [.int .i64 A] rfl rfl ?c1 ?c2 ?c3 ?c4 ?c5 ?_)
                      case c1 =>
                        intro j u hj
                        rw [Addr.add_lit, World.cell?_alloc_at _ _ _ _ (by simp)]
                        simpa using hj
                      case c2 =>
                        intro u hu
                        simp at hu
                        subst hu
                        rfl
                      case c3 => unfold maxLen; omega
                      case c4 => omega
                      case c5 => simp; omega
                      intro v9 u9 hown9 hgrow _
                      have b1 := ((((HS.out.drn).byB.far (i := A) (x := .bool true) (show w.heap.size ≠ w.heap.size + 1 by omega)).put (x := .int .i64 (k : Nat)) A).al (ob := .cells #[.int .i64 (A : Nat)] 3)).grown hgrow (by simp [Value.ownBlock]; omega)
                      have b2 := ((((HS.out.drn).inB.put (x := .bool true) A).far (i := A) (x := .int .i64 (k : Nat)) (show w.heap.size + 1 ≠ w.heap.size by omega)).al (ob := .cells #[.int .i64 (A : Nat)] 3)).grown hgrow (by simp [Value.ownBlock]; omega)
                      rw [byR_add n T k A hyn] at b1
                      rw [inR_add n T k A hyn] at b2
                      have HS9 : Hid (StT w.heap.size u9 n (addT T k A) v9) := ⟨b1, b2, by
                        have e1 : (addT T k A).row.length = T.row.length + 1 := by simp [addT]
                        have e2 : roR (addT T k A) = roR T ++ [.int .i64 (A : Nat)] := by simp [addT, roR]
                        rw [e1, e2]; exact hown9⟩
                      have HW9 : Hid (Below w.heap.size w u9) := (rbel_al (rbel_put (Nat.le_refl _) (rbel_put (by omega) (rbel_drn HW2.out)))).grown hgrow (by simp; omega) (fun j hj => by simp [Value.ownBlock] at hj; omega)
                      clear b1 b2 hown9 hgrow
                      go_wp2
                      go_roundw
                      case rel => exact ⟨k + 1, by omega, by go_num, by rw [ekT.out, ta.out]; exact HS9.out, HW9.out⟩
                      case measure => simp [intOf]; omega
                · have d2 : ((B : Int) == (x : Int)) = false := by simp; omega
                  have hto : toT q k x = none := by unfold toT; rw [eA, eB, if_neg (by omega), if_neg (by omega)]
                  have HS2 : Hid (StT w.heap.size wr n (tryT q k x T) (.slice (some ⟨g2, 0, none⟩) T.row.length cap2)) := by show StT _ _ _ _ _; rw [try_no (Or.inl hto)]; exact hS
                  clear hS hto hx2 cl2 inv2
                  as_aux_lemma =>
                    go_wp2
                    go_quiet (fail)
                    go_wp2
                    go_quiet (fail)
                    go_wp2
                    go_roundw
                    case rel => exact ⟨k + 1, by omega, by go_num, by rw [ekT.out]; exact HS2.out.drn, rbel_drn HW2.out⟩
                    case measure => simp [intOf]; omega
            · have hl4 : ¬ ((k : Int) < m) := by omega
              have km : k = m := by omega
              have HS2 : Hid (StT w.heap.size wr n (outT q m r (i + 1)) (.slice (some ⟨g2, 0, none⟩) (innT q x k T0).row.length cap2) ∧ i + 1 ≤ (outT q m r (i + 1)).row.length) := by
                show _ ∧ _
                rw [eo.out, ← km]
                exact ⟨hS, by omega⟩
              clear hS hw2 km
              as_aux_lemma =>
                go_wp2
                go_roundw
                case rel => exact ⟨i + 1, by omega, by go_num, HS2.out.2, HS2.out.1, HW2.out⟩
                case measure => simp [intOf]; omega
        · have hl3 : ¬ ((i : Int) < ((outT q m r i).row.length : Nat)) := by omega
          have et : treeT q m n r = outT q m r i := by
            unfold treeT
            rw [show n = i + (n - i) by omega]
            exact out_stay (by omega) (n - i)
          have HS : Hid (Blk wr 3 w.heap.size (byR n (treeT q m n r)) ∧ wr.ownsRow (w.heap.size + 2) 3 1 (.slice (some ⟨g, 0, none⟩) (outT q m r i).row.length cap1) (treeT q m n r).row.length (roR (treeT q m n r))) := by
            show _ ∧ _
            rw [et]
            exact ⟨hS0.byB, hS0.row⟩
          clear hS0 hw cl et
          go_wp2
          go_ret2
          exact ⟨_, rfl, HS.out.1, HS.out.2, HW.out⟩
end Go.Proofs.YtjdeeeefapijeaeDoor
