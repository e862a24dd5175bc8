/- What package loops' search answers when it goes back from a node: a loop. -/
import Derived.Test.YtiebojccnaelbaeDoorLoopsAhd
import Derived.Deep.AppendLies
namespace Go.Proofs.YtiebojccnaelbaeDoor
open Go.ChangeShapes Go.WideShapes Go.ChangeAt Go.RowKit Go.Joins
set_option linter.unusedVariables false
set_option linter.unusedSimpArgs false

theorem linfoInt : (Tryd.prog.info? 3).map (fun i => (i.zero, i.size, i.bytes)) = some (some (.int .i64 0), 1, 8) := by kernel_rfl
section
variable {u W : World} {base n k : Nat} {e : TypeId} {v x : Value} {xs : List Value}
theorem lown_new (hb : base ≤ W.heap.size) : (W.alloc (.cells #[x] e)).ownsRow base e 1 (.slice (some ⟨W.heap.size, 0, none⟩) 1 1) 1 [x] := by
  refine ⟨by simp, Or.inr ⟨W.heap.size, 1, #[x], rfl, hb, ?_, Nat.le_refl _, by unfold maxLen; omega, by simp, by simp⟩⟩
  show (W.heap.push _)[W.heap.size]? = _
  simp
theorem lown_lt {g cap : Nat} {cur : Array Value} (hg : u.heap[g]? = some (.cells cur e (0, 0))) : g < u.heap.size := by
  rcases Nat.lt_or_ge g u.heap.size with hlt | hge
  · exact hlt
  · rw [Array.getElem?_eq_none hge] at hg; cases hg
theorem lown_on (hb : Below W.heap.size W u) (h : W.ownsRow base e 1 v n xs) : u.ownsRow base e 1 v n xs := by
  refine ⟨h.1, ?_⟩
  rcases h.2 with h' | ⟨g, cap, cur, h1, h2, h3, h4⟩
  · exact Or.inl h'
  · exact Or.inr ⟨g, cap, cur, h1, h2, (hb.block g (lown_lt (cap := cap) h3)).trans h3, h4⟩
theorem lown_wrd {z : Nat → Int} (h : u.ownsRow base 3 1 v n (nums z n)) (hn : 0 < n) : ∃ g cap, v = .slice (some ⟨g, 0, none⟩) n cap ∧ base ≤ g ∧ Wrd u g n z := by
  rcases h.2 with ⟨_, h0⟩ | ⟨g, cap, cur, hv, hb, hg, _, _, hcc, htk⟩
  · omega
  · refine ⟨g, cap, hv, hb, fun i hi => ?_, fun i hi => ?_⟩
    · have hc := nums_at z n i hi
      rw [← htk, List.getElem?_take] at hc
      split at hc
      case isFalse => cases hc
      unfold World.cell?
      rw [show u.heap[(⟨g, i, none⟩ : Addr).block]? = _ from hg]
      simpa using hc
    · unfold World.frozen?
      rw [show u.heap[(⟨g, i, none⟩ : Addr).block]? = _ from hg]
      simp
end
theorem nums_snoc (z : Nat → Int) (n : Nat) : nums z (n + 1) = nums z n ++ [.int .i64 (z n)] := by
  unfold nums
  rw [List.range_succ, List.map_append]
  rfl
def lenOf : Value → Nat
  | .slice _ n _ => n
  | _ => 0
theorem lown_len {u : World} {base n : Nat} {e : TypeId} {v : Value} {xs : List Value} (h : u.ownsRow base e 1 v n xs) : lenOf v = n := by
  rcases h.2 with ⟨rfl, h0⟩ | ⟨g, cap, cur, rfl, _⟩
  · exact h0.symm
  · rfl
/-- A loop that lies in a row of its own. -/
def LpR (q : Nat → Eg) (Y : Nat → Int) (c d : Nat) (w : World) (e : Ending) (w' : World) : Prop := ∃ g cap, e = .returned (.slice (some ⟨g, 0, none⟩) d cap) ∧ Nrd w' g 0 d (lpS q Y c d) ∧ Below w.heap.size w w'
set_option maxRecDepth 100000 in
set_option maxHeartbeats 8000000 in
theorem loopAhead_any (a : Option Addr) (m cap : Nat) (q : Nat → Eg) (bm bb n mv c d : Nat) (M Y : Nat → Int) (T : Nat → Nat) (w : World) (hE : Egs n q m) (hH : EHanded w a m q) (S : Srm w bm bb n M Y) (hc : bk q Y mv n = c) (ok : ∀ j, bk q Y mv j < n ∧ okS m (Y (bk q Y mv j))) (R : Rng q n m M Y T c d) :
    Calls Tryd.prog 36 #[.agg #[.slice a m cap, .slice (some ⟨bm, 0, none⟩) n n, .slice (some ⟨bb, 0, none⟩) n n], .int .i64 mv] w fun e w' => LpR q Y c d w e w' := by
  have h6 : n ≤ 6 := by have := hE.n6; omega
  have dn := R.dn
  have d0 := R.d0
  have l2 := S.yB.lt
  have HR : Hid (Rng q n m M Y T c d) := R
  have HO : Hid (∀ j, bk q Y mv j < n ∧ okS m (Y (bk q Y mv j))) := ok
  have HC : Hid (bk q Y mv n = c) := hc
  have HS : Hid (Srm w bm bb n M Y) := S
  have cA : Hid (∀ u v, Below w.heap.size w u → v < n → okS m (Y v) → Calls Tryd.prog 52 #[.agg #[.slice a m cap, .slice (some ⟨bm, 0, none⟩) n n, .slice (some ⟨bb, 0, none⟩) n n], .int .i64 v] u fun e w' => e = .returned (.int .i64 (frN q (Y v) : Nat)) ∧ Below u.heap.size u w') := fun u v hu hv ho => ahead_any a m cap q bm bb n v M Y u hE (hH.on hu) (S.on hu) hv ho
  obtain ⟨i0, hi0, hz0, hz1, hz2⟩ := info_parts linfoInt
  clear hE hH S hc ok R
  go_enter Tryd.func36, Tryd.ntmps36
  go_wp2
  go_loopw [1, 10] (fun v vi wr => ∃ i : Nat, i ≤ n ∧ vi = .int .i64 i ∧ v = .int .i64 (bk q Y mv i : Nat) ∧ Blk wr 76 w.heap.size [.slice a m cap, .slice (some ⟨bm, 0, none⟩) n n, .slice (some ⟨bb, 0, none⟩) n n] ∧ Below w.heap.size w wr) (fun _ i _ => n - (intOf i).toNat)
  case atStart => exact ⟨0, Nat.zero_le _, rfl, rfl, Blk.made rfl, rbel_al (Below.refl _ _)⟩
  case round =>
    obtain ⟨i, hi, rfl, rfl, hB, hw⟩ := hrel
    have c0 := hB.c 0 _ rfl
    have c1 := hB.c 1 _ rfl
    have c2 := hB.c 2 _ rfl
    have zz := hB.lt
    have HB : Hid (Blk wr 76 w.heap.size [.slice a m cap, .slice (some ⟨bm, 0, none⟩) n n, .slice (some ⟨bb, 0, none⟩) n n]) := hB
    have HW : Hid (Below w.heap.size w wr) := hw
    by_cases hlt : i < n
    · have hl3 : (i : Int) < n := by omega
      have cj := cA.out wr _ hw (HO.out i).1 (HO.out i).2
      have HN : Hid (frN q (Y (bk q Y mv i)) = bk q Y mv (i + 1)) := rfl
      clear hB hw cA
      generalize frN q (Y (bk q Y mv i)) = f at *
      generalize bk q Y mv i = at' at *
      as_aux_lemma =>
        go_wp2_with (go_at_call 52; refine cj.mono ?_; rintro e u0 ⟨rfl, hb⟩; have HB0 : Hid _ := hb; clear hb)
        go_roundw
        case rel => exact ⟨i + 1, by omega, by go_num, by rw [HN.out], HB.out.on HB0.out, rbel_on HB0.out HW.out⟩
        case measure => simp [intOf]; omega
    · have hl3 : ¬ ((i : Int) < n) := by omega
      obtain rfl : i = n := by omega
      rw [HC.out]
      have hcn := (HR.out.ok 0).1
      have hco := (HR.out.ok 0).2.1
      have hcn' : c < i := hcn
      have hco' : okS m (Y c) := hco
      have y0 := (HS.out.on hw).yB.c c _ (nums_at Y i c hcn')
      have hc3 : (c : Int) < i := by omega
      have wz := hw.size
      have cj := cA.out (wr.alloc (.cells #[.int .i64 (Y c)] 3)) c (rbel_al hw) hcn' hco'
      have HN : Hid (frN q (Y c) = bk q Y c 1) := rfl
      clear hB hw hcn hco hco'
      generalize frN q (Y c) = f at *
      go_wp2_with (go_at_call 52; refine cj.mono ?_; rintro e u0 ⟨rfl, hb⟩; have HB0 : Hid _ := hb; clear hb)
      go_loopw [5, 6] (fun v vb wr' => ∃ j : Nat, 0 < j ∧ j ≤ d ∧ vb = .int .i64 (bk q Y c j : Nat) ∧ wr'.ownsRow (w.heap.size + 1) 3 1 v j (nums (fun i => Y (bk q Y c i)) j) ∧ Blk wr' 76 w.heap.size [.slice a m cap, .slice (some ⟨bm, 0, none⟩) i i, .slice (some ⟨bb, 0, none⟩) i i] ∧ Below w.heap.size w wr') (fun v _ _ => d - lenOf v)
      case atStart => exact ⟨1, by omega, by omega, by rw [HN.out], lown_on HB0.out (lown_new (by omega)), (HB.out.al).on HB0.out, rbel_on HB0.out (rbel_al HW.out)⟩
      case round =>
        clear HB HW HB0 HN cj c0 c1 c2 zz y0
        obtain ⟨j, j0, jd, rfl, hO, hB, hw⟩ := hrel
        have c0 := hB.c 0 _ rfl
        have c1 := hB.c 1 _ rfl
        have c2 := hB.c 2 _ rfl
        have zz := hB.lt
        have HB : Hid (Blk wr 76 w.heap.size [.slice a m cap, .slice (some ⟨bm, 0, none⟩) i i, .slice (some ⟨bb, 0, none⟩) i i]) := hB
        have HW : Hid (Below w.heap.size w wr) := hw
        by_cases hlt : j < d
        · have hbn := (HR.out.ok j).1
          have hbo := (HR.out.ok j).2.1
          have hb3 : (bk q Y c j : Int) < i := by omega
          have ne : ((bk q Y c j : Int) == (c : Int)) = false := by have := HR.out.first j j0 hlt; simp; omega
          have y0 := (HS.out.on hw).yB.c _ _ (nums_at Y i (bk q Y c j) hbn)
          have cj : Hid (∀ u, Below w.heap.size w u → Calls Tryd.prog 52 #[.agg #[.slice a m cap, .slice (some ⟨bm, 0, none⟩) i i, .slice (some ⟨bb, 0, none⟩) i i], .int .i64 (bk q Y c j : Nat)] u fun e w' => e = .returned (.int .i64 (bk q Y c (j + 1) : Nat)) ∧ Below u.heap.size u w') := fun u hu => cA.out u _ hu hbn hbo
          have HY : Hid (nums (fun i => Y (bk q Y c i)) (j + 1) = nums (fun i => Y (bk q Y c i)) j ++ [.int .i64 (Y (bk q Y c j))]) := nums_snoc _ _
          have HOB : Hid (∀ x, u5.ownBlock = some x → w.heap.size + 1 ≤ x) := fun x hx => (hO.lt x hx).1
          clear hB hw hbn hbo cA
          obtain ⟨b1, hb1⟩ : ∃ b1, b1 = bk q Y c (j + 1) := ⟨_, rfl⟩
          rw [← hb1] at cj
          have Hb1 : Hid (b1 = bk q Y c (j + 1)) := hb1
          clear hb1
          generalize Y (bk q Y c j) = yb at *
          generalize bk q Y c j = b at *
          generalize nums (fun i => Y (bk q Y c i)) j = xs at *
          have LU : Hid (lenOf u5 = j) := lown_len hO
          go_wp2_with (at_builtin; refine wpList_append_own _ rfl _ _ 23 rfl (w.heap.size + 1) 3 i0 (.int .i64 0) 1 8 Tryd.underlying23 hi0 hz0 hz1 hz2 rfl (by decide) _ _ _ rfl (hO.alloc _) ⟨wr.heap.size, 0, none⟩ 1 1 [.int .i64 yb] rfl rfl ?c1 ?c2 ?c3 ?c4 ?c5 ?_)
          case c1 =>
            intro j u hj
            rw [Addr.add_lit, World.cell?_alloc_at _ _ _ _ (by simp)]
            simpa using hj
          case c2 =>
            intro u hu
            simp at hu
            subst hu
            rfl
          case c3 => unfold maxLen; omega
          case c4 => omega
          case c5 => simp; omega
          intro v' w1 hown' hgrow _
          have hown1 : Hid (w1.ownsRow (w.heap.size + 1) 3 1 v' (j + 1) (nums (fun i => Y (bk q Y c i)) (j + 1))) := by
            show w1.ownsRow (w.heap.size + 1) 3 1 v' (j + 1) (nums (fun i => Y (bk q Y c i)) (j + 1))
            rw [HY.out]
            exact hown'
          have LV : Hid (lenOf v' = j + 1) := lown_len hown'
          have hb1 : Blk w1 76 w.heap.size [.slice a m cap, .slice (some ⟨bm, 0, none⟩) i i, .slice (some ⟨bb, 0, none⟩) i i] := (HB.out.al).grown hgrow (fun e => by have := HOB.out _ e.symm; omega)
          have hw1 : Hid (Below w.heap.size w w1) := (rbel_al HW.out).grown hgrow (by simp; omega) (fun x hx => by have := HOB.out x hx; omega)
          have e0 := hb1.c 0 _ rfl
          have e1 := hb1.c 1 _ rfl
          have e2 := hb1.c 2 _ rfl
          have HB1 : Hid _ := hb1
          have cj1 := cj.out w1 hw1.out
          clear hown' hgrow hO hb1 cj HY HOB
          go_wp2_with (go_at_call 52; refine cj1.mono ?_; rintro e u0 ⟨rfl, hb⟩; have HB2 : Hid _ := hb; clear hb)
          go_roundw
          case rel => exact ⟨j + 1, by omega, by omega, by rw [Hb1.out], lown_on HB2.out hown1.out, Blk.on HB2.out HB1.out, rbel_on HB2.out hw1.out⟩
          case measure =>
            have a1 := LU.out
            have a2 := LV.out
            simp
            omega
        · obtain rfl : j = d := by omega
          rw [HR.out.back]
          obtain ⟨g, cap5, rfl, gb, hWr⟩ := lown_wrd hO j0
          have cv := reverse_any g j cap5 _ wr hWr j0 (by omega)
          clear hB hw hO hWr cA
          go_wp2_with (go_at_call 53; refine cv.mono ?_; rintro e u1 ⟨rfl, hZ, hK⟩; have HZ : Hid _ := hZ; have HB1 : Hid (Below w.heap.size w u1) := HW.out.trans (hK.below (by omega) (fun k hk => by omega)); clear hZ hK)
          go_ret
          exact ⟨g, cap5, rfl, fun i hi => by rw [Nat.zero_add]; exact HZ.out.c i hi, HB1.out⟩
end Go.Proofs.YtiebojccnaelbaeDoor
