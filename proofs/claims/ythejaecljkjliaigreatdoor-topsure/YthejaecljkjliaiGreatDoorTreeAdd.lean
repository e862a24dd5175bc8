/- What package tree's addFrom answers: those to which a node's edges lead. -/
import Derived.Test.YthejaecljkjliaiGreatDoorNm15
import Derived.Test.YthejaecljkjliaiGreatDoorNm16
namespace Go.Proofs.YthejaecljkjliaiGreatDoor
open Go.ChangeShapes Go.WideShapes Go.ChangeAt Go.RowKit Go.Joins
set_option linter.unusedVariables false
set_option linter.unusedSimpArgs false

theorem nod_of {u : World} {g : Nat} {t : Tr} (cl : ∀ j c, (roR t)[j]? = some c → u.cell? ⟨g, j, none⟩ = some c) : Nod u g t.row := fun j c h => cl j _ (roR_at h)
set_option maxRecDepth 100000 in
set_option maxHeartbeats 8000000 in
theorem addFrom_any (n : Nat) (a : Option Addr) (m cap : Nat) (q : Nat → Eg) (r x j p gb : Nat) (t : Tr) (v : Value) (w0 w : World) (hE : Egs n q m) (hH : EHanded w0 a m q) (hw : Below w0.heap.size w0 w) (hG : Gro w w0.heap.size p gb n t v) (inv : TrI q m n r t) (hx : t.row[j]? = some x) :
    Calls Tryz.prog 78 #[.pointer (some ⟨p, 0, none⟩), .int .i64 x, .slice a m cap] w fun e w' => e = .returned (.tuple #[]) ∧ (∃ v', Gro w' w0.heap.size p gb n (innT q x m t) v') ∧ Below w0.heap.size w0 w' := by
  have h6 : n ≤ 6 := by have := hE.n6; omega
  have h40 := hE.m40
  have HE : Hid (Egs n q m) := hE
  have HH : Hid (m = 0 ∨ ∃ b off : Nat, a = some ⟨b, off, none⟩ ∧ Esp w0 b off m q) := hH.2
  have INV : Hid (TrI q m n r t) := inv
  have HX : Hid (t.row[j]? = some x) := hx
  have HG : Hid (Gro w w0.heap.size p gb n t v) := hG
  have HW : Hid (Below w0.heap.size w0 w) := hw
  have sp := hG.sp
  have sg := hG.sg
  have pg := hG.pg
  obtain ⟨i0, hi0, hz0, hz1, hz2⟩ := info_parts tinfoInt
  clear hE hH inv hx hG hw
  go_enter Tryz.func78, Tryz.ntmps78
  go_wp2
  go_loopw [11] (fun vk wr => ∃ (k : Nat) (v : Value), k ≤ m ∧ vk = .int .i64 k ∧ Gro wr w0.heap.size p gb n (innT q x k t) v ∧ Below w0.heap.size w0 wr) (fun vk _ => m - (intOf vk).toNat)
  case atStart => exact ⟨0, v, Nat.zero_le _, rfl, HG.out, HW.out⟩
  case round =>
    clear HG HW
    obtain ⟨k, v, hk, rfl, hG, hw⟩ := hrel
    by_cases hlk : k < m
    · have hl4 : (k : Int) < m := by omega
      have inv := INV.out.inn HE.out HX.out k hk
      have hx2 : (innT q x k t).row[j]? = some x := by
        obtain ⟨l, e⟩ := inn_pre (q := q) (x := x) (t := t) k
        rw [e]; exact getElem?_pre HX.out
      have ekT : Hid (innT q x (k + 1) t = tryT q k x (innT q x k t)) := rfl
      have l0 : 0 < (innT q x k t).row.length := by have := (List.getElem?_eq_some_iff.1 hx2).1; omega
      have ln := nodup_le inv.nodup inv.lt
      obtain ⟨b, off, rfl, hP⟩ : ∃ b off : Nat, a = some ⟨b, off, none⟩ ∧ Esp w0 b off m q := by
        rcases HH.out with e' | h
        · omega
        · exact h
      obtain ⟨p0, p1, p2, p3⟩ := (hP.on hw) k hlk
      obtain ⟨⟨a1, a2, a3, a4⟩, nab, _⟩ := HE.out.each k hlk
      obtain ⟨A, eA⟩ : ∃ A : Nat, (q k).a = A := ⟨(q k).a.toNat, by omega⟩
      obtain ⟨B, eB⟩ : ∃ B : Nat, (q k).b = B := ⟨(q k).b.toNat, by omega⟩
      rw [eA] at p0
      rw [eB] at p1
      have bl : b < wr.heap.size := World.block_lt_of_cell? _ _ p0
      have z1 := hG.st.lt
      have z2 := hG.byB.lt
      have HW : Hid (Below w0.heap.size w0 wr) := hw
      have HG : Hid (Gro wr w0.heap.size p gb n (innT q x k t) v) := hG
      clear hP hw hG
      generalize innT q x k t = T at *
      generalize (q k).lo = lo at *
      generalize (q k).hi = hi at *
      by_cases hno : ¬ A = x ∧ ¬ B = x
      · obtain ⟨nA, nB⟩ := hno
        have d1 : ¬ ((A : Int) = (x : Int)) := by omega
        have d2 : ¬ ((B : Int) = (x : Int)) := by omega
        have hto : toT q k x = none := by unfold toT; rw [eA, eB, if_neg d1, if_neg d2]
        have tn : Hid (tryT q k x T = T) := try_no (Or.inl hto)
        have e1 : ((A : Int) != (x : Int)) = true := by simp [d1]
        have e2 : ((B : Int) != (x : Int)) = true := by simp [d2]
        clear hto hx2 inv nA nB d1 d2
        go_wp2
        go_roundw
        case rel => exact ⟨k + 1, v, by omega, by go_num, by rw [ekT.out, tn.out]; exact HG.out.on (rbel_al (Below.refl _ _)), rbel_al HW.out⟩
        case measure => simp [intOf]; omega
      · obtain ⟨y, hy, hto, hg, cO⟩ : ∃ y : Nat, y < n ∧ toT q k x = some y ∧ ((A : Int) = (x : Int) ∨ (¬ ((A : Int) = (x : Int)) ∧ (B : Int) = (x : Int))) ∧ ∀ u, Calls Tryz.prog 111 #[.agg #[.int .i64 A, .int .i64 B, .int .i64 lo, .int .i64 hi], .int .i64 x] u fun e w' => e = .returned (.int .i64 (y : Nat)) ∧ Below u.heap.size u w' := by
          by_cases ax : A = x
          · refine ⟨B, by omega, by unfold toT; rw [eA, eB, if_pos (by omega), Int.toNat_natCast], Or.inl (by omega), fun u => ?_⟩
            have := otherEnd_any A B lo hi x u
            rwa [if_pos ax.symm] at this
          · have bx : B = x := by
              apply Classical.byContradiction
              intro nb
              exact hno ⟨ax, nb⟩
            refine ⟨A, by omega, by unfold toT; rw [eA, eB, if_neg (by omega), if_pos (by omega), Int.toNat_natCast], Or.inr ⟨by omega, by omega⟩, fun u => ?_⟩
            have := otherEnd_any A B lo hi x u
            rwa [if_neg (fun e => ax e.symm)] at this
        obtain ⟨g2, cap2, rfl, gb2, gl2, gc2, cl2⟩ := own_form HG.out.row l0
        have CN : Hid (∀ u, Below wr.heap.size wr u → Calls Tryz.prog 112 #[.slice (some ⟨g2, 0, none⟩) T.row.length cap2, .int .i64 y] u fun e w' => e = .returned (.bool (decide (y ∈ T.row))) ∧ w' = u) := fun u hu => contains_any g2 T.row.length cap2 T.row y u rfl (by omega) (nod_of (fun j c h => by rw [hu.cell (World.block_lt_of_cell? _ _ (cl2 j c h))]; exact cl2 j c h))
        have hy3 : (y : Int) < n := by omega
        have CO : Hid (∀ u, Calls Tryz.prog 111 #[.agg #[.int .i64 A, .int .i64 B, .int .i64 lo, .int .i64 hi], .int .i64 x] u fun e w' => e = .returned (.int .i64 (y : Nat)) ∧ Below u.heap.size u w') := cO
        by_cases hm : y ∈ T.row
        · rw [decide_eq_true hm] at CN
          have tn : Hid (tryT q k x T = T) := try_no (Or.inr ⟨y, hto, hm⟩)
          clear hto hx2 inv hm cl2 cO hno eA eB a1 a2 a3 a4 nab
          rcases hg with d1 | ⟨d1, d2⟩
          · obtain rfl : A = x := by omega
            clear d1
            as_aux_lemma =>
              go_wp2_with (first
                | (go_at_call 111; refine (CO.out _).mono ?_; rintro e u0 ⟨rfl, hb⟩; have hb0 : Below wr.heap.size wr u0 := rbel_on hb (rbel_al (Below.refl _ _)); have c0 := (HG.out.on hb0).st.c 0 _ rfl; have HB0 : Hid (Below wr.heap.size wr u0) := hb0; clear hb hb0)
                | (go_at_call 112; refine (CN.out _ HB0.out).mono ?_; rintro e u1 ⟨rfl, hu⟩; rw [hu]; clear hu))
              go_roundw
              case rel => exact ⟨k + 1, _, by omega, by go_num, by rw [ekT.out, tn.out]; exact HG.out.on HB0.out, rbel_on HB0.out HW.out⟩
              case measure => simp [intOf]; omega
          · obtain rfl : B = x := by omega
            have e1 : ((A : Int) != (B : Int)) = true := by simp [d1]
            clear d2 d1
            as_aux_lemma =>
              go_wp2_with (first
                | (go_at_call 111; refine (CO.out _).mono ?_; rintro e u0 ⟨rfl, hb⟩; have hb0 : Below wr.heap.size wr u0 := rbel_on hb (rbel_al (Below.refl _ _)); have c0 := (HG.out.on hb0).st.c 0 _ rfl; have HB0 : Hid (Below wr.heap.size wr u0) := hb0; clear hb hb0)
                | (go_at_call 112; refine (CN.out _ HB0.out).mono ?_; rintro e u1 ⟨rfl, hu⟩; rw [hu]; clear hu))
              go_roundw
              case rel => exact ⟨k + 1, _, by omega, by go_num, by rw [ekT.out, tn.out]; exact HG.out.on HB0.out, rbel_on HB0.out HW.out⟩
              case measure => simp [intOf]; omega
        · rw [decide_eq_false hm] at CN
          have tn : Hid (tryT q k x T = addT T k y) := try_add hto hm
          clear hto hx2 inv hm cl2 cO hno eA eB a1 a2 a3 a4 nab
          rcases hg with d1 | ⟨d1, d2⟩
          · obtain rfl : A = x := by omega
            clear d1
            go_wp2_with (first
              | (go_at_call 111; refine (CO.out _).mono ?_; rintro e u0 ⟨rfl, hb⟩; have hb0 : Below wr.heap.size wr u0 := rbel_on hb (rbel_al (Below.refl _ _)); have c0 := (HG.out.on hb0).st.c 0 _ rfl; have c1 := (HG.out.on hb0).st.c 1 _ rfl; have p0' := (HG.out.on hb0).st.lt; have HB0 : Hid (Below wr.heap.size wr u0) := hb0; clear hb hb0)
              | (go_at_call 112; refine (CN.out _ HB0.out).mono ?_; rintro e u1 ⟨rfl, hu⟩; rw [hu]; clear hu))
            have GA : Hid (Gro (u0.drew.alloc (.cells #[.int .i64 (y : Nat)] 3)) w0.heap.size p gb n T (.slice (some ⟨g2, 0, none⟩) T.row.length cap2)) := HG.out.on (rbel_al (rbel_dr HB0.out))
            have WA : Hid (Below w0.heap.size w0 (u0.drew.alloc (.cells #[.int .i64 (y : Nat)] 3))) := rbel_al (rbel_dr (rbel_on HB0.out HW.out))
            have wz : w0.heap.size ≤ u0.heap.size := (rbel_on HB0.out HW.out).size
            go_region_law (refine step_append_atT rfl (.tmp 45) (.tmp 47) 22 rfl w0.heap.size 3 i0 (.int .i64 0) 1 8 Tryz.underlying22 hi0 hz0 hz1 hz2 rfl (by decide) (.slice (some ⟨g2, 0, none⟩) T.row.length cap2) T.row.length (roR T) (by simp [Act.eval, Act.put]) GA.out.row l0 ⟨u0.heap.size, 0, none⟩ 1 1 [.int .i64 (y : Nat)] (by simp [Act.eval, Act.put]) rfl (fun j u hj => by rw [Addr.add_lit, Nat.zero_add]; exact (Row.made (W := u0.drew) (vs := [.int .i64 (y : Nat)]) rfl).c _ _ (by simpa using hj)) (fun u hu => by simp at hu; subst hu; rfl) (by unfold maxLen; omega) (by omega) (by simp; omega) ?_; intro v' w1 ho hg hx; have ad := GA.out.add (k := k) hy ho hg hx; have wd := WA.out.grown hg (by simp; omega) (fun j hj => by simp [Value.ownBlock] at hj; omega); obtain ⟨g3, cap3, rfl, _, _, _, _⟩ := own_form ho (by omega); have hst := GA.out.st.grown hg GA.out.pv; have s0 := hst.c 0 _ rfl; have s1 := hst.c 1 _ rfl; have t0 := hst.f 0; have hby := GA.out.byB.grown hg (fun e => GA.out.ne e.symm); have b0 := hby.c y _ (byR_at n T y hy); have f0 := hby.f y; have AD : Hid _ := ad; have WD : Hid (Below w0.heap.size w0 w1) := wd; clear ad wd hst hby ho hg hx)
            all_goals
              go_wp2
              go_roundw
              case rel => exact ⟨k + 1, _, by omega, by go_num, by rw [ekT.out, tn.out]; exact AD.out, rbel_put sg (rbel_put sp WD.out)⟩
              case measure => simp [intOf]; omega
          · obtain rfl : B = x := by omega
            have e1 : ((A : Int) != (B : Int)) = true := by simp [d1]
            clear d2 d1
            go_wp2_with (first
              | (go_at_call 111; refine (CO.out _).mono ?_; rintro e u0 ⟨rfl, hb⟩; have hb0 : Below wr.heap.size wr u0 := rbel_on hb (rbel_al (Below.refl _ _)); have c0 := (HG.out.on hb0).st.c 0 _ rfl; have c1 := (HG.out.on hb0).st.c 1 _ rfl; have p0' := (HG.out.on hb0).st.lt; have HB0 : Hid (Below wr.heap.size wr u0) := hb0; clear hb hb0)
              | (go_at_call 112; refine (CN.out _ HB0.out).mono ?_; rintro e u1 ⟨rfl, hu⟩; rw [hu]; clear hu))
            have GA : Hid (Gro (u0.drew.alloc (.cells #[.int .i64 (y : Nat)] 3)) w0.heap.size p gb n T (.slice (some ⟨g2, 0, none⟩) T.row.length cap2)) := HG.out.on (rbel_al (rbel_dr HB0.out))
            have WA : Hid (Below w0.heap.size w0 (u0.drew.alloc (.cells #[.int .i64 (y : Nat)] 3))) := rbel_al (rbel_dr (rbel_on HB0.out HW.out))
            have wz : w0.heap.size ≤ u0.heap.size := (rbel_on HB0.out HW.out).size
            go_region_law (refine step_append_atT rfl (.tmp 45) (.tmp 47) 22 rfl w0.heap.size 3 i0 (.int .i64 0) 1 8 Tryz.underlying22 hi0 hz0 hz1 hz2 rfl (by decide) (.slice (some ⟨g2, 0, none⟩) T.row.length cap2) T.row.length (roR T) (by simp [Act.eval, Act.put]) GA.out.row l0 ⟨u0.heap.size, 0, none⟩ 1 1 [.int .i64 (y : Nat)] (by simp [Act.eval, Act.put]) rfl (fun j u hj => by rw [Addr.add_lit, Nat.zero_add]; exact (Row.made (W := u0.drew) (vs := [.int .i64 (y : Nat)]) rfl).c _ _ (by simpa using hj)) (fun u hu => by simp at hu; subst hu; rfl) (by unfold maxLen; omega) (by omega) (by simp; omega) ?_; intro v' w1 ho hg hx; have ad := GA.out.add (k := k) hy ho hg hx; have wd := WA.out.grown hg (by simp; omega) (fun j hj => by simp [Value.ownBlock] at hj; omega); obtain ⟨g3, cap3, rfl, _, _, _, _⟩ := own_form ho (by omega); have hst := GA.out.st.grown hg GA.out.pv; have s0 := hst.c 0 _ rfl; have s1 := hst.c 1 _ rfl; have t0 := hst.f 0; have hby := GA.out.byB.grown hg (fun e => GA.out.ne e.symm); have b0 := hby.c y _ (byR_at n T y hy); have f0 := hby.f y; have AD : Hid _ := ad; have WD : Hid (Below w0.heap.size w0 w1) := wd; clear ad wd hst hby ho hg hx)
            all_goals
              go_wp2
              go_roundw
              case rel => exact ⟨k + 1, _, by omega, by go_num, by rw [ekT.out, tn.out]; exact AD.out, rbel_put sg (rbel_put sp WD.out)⟩
              case measure => simp [intOf]; omega
    · have hl4 : ¬ ((k : Int) < m) := by omega
      have km : k = m := by omega
      rw [km] at hG
      have HG : Hid (Gro wr w0.heap.size p gb n (innT q x m t) v) := hG
      have HW : Hid (Below w0.heap.size w0 wr) := hw
      clear hG hw km
      go_wp2
      exact bodyPost_end (v := .tuple #[]) (by simp [results, Tryz.results78, go_sem, *]) rfl ⟨rfl, ⟨_, HG.out⟩, HW.out⟩
end Go.Proofs.YthejaecljkjliaiGreatDoor
