/- What package loops' search answers when it goes back from a node: a loop. A tree in memory while it grows. What package tree's grow must answer of a good root. What is told along a tree as it lies in memory, node by node. -/
import Derived.Test.YthejaecljkjliaiGreatDoorNm15
import Derived.Deep.AppendLies
import Derived.Test.YthejaecljkjliaiGreatDoorNm10
namespace Go.Proofs.YthejaecljkjliaiGreatDoor
open Go.ChangeShapes Go.WideShapes Go.ChangeAt Go.RowKit Go.Joins
set_option linter.unusedVariables false
set_option linter.unusedSimpArgs false

theorem linfoInt : (Tryz.prog.info? 3).map (fun i => (i.zero, i.size, i.bytes)) = some (some (.int .i64 0), 1, 8) := by kernel_rfl
section
variable {u W : World} {base n k : Nat} {e : TypeId} {v x : Value} {xs : List Value}
theorem lown_new (hb : base ≤ W.heap.size) : (W.alloc (.cells #[x] e)).ownsRow base e 1 (.slice (some ⟨W.heap.size, 0, none⟩) 1 1) 1 [x] := by
  refine ⟨by simp, Or.inr ⟨W.heap.size, 1, #[x], rfl, hb, ?_, Nat.le_refl _, by unfold maxLen; omega, by simp, by simp⟩⟩
  show (W.heap.push _)[W.heap.size]? = _
  simp
theorem lown_lt {g cap : Nat} {cur : Array Value} (hg : u.heap[g]? = some (.cells cur e (0, 0))) : g < u.heap.size := by
  rcases Nat.lt_or_ge g u.heap.size with hlt | hge
  · exact hlt
  · rw [Array.getElem?_eq_none hge] at hg; cases hg
theorem lown_on (hb : Below W.heap.size W u) (h : W.ownsRow base e 1 v n xs) : u.ownsRow base e 1 v n xs := by
  refine ⟨h.1, ?_⟩
  rcases h.2 with h' | ⟨g, cap, cur, h1, h2, h3, h4⟩
  · exact Or.inl h'
  · exact Or.inr ⟨g, cap, cur, h1, h2, (hb.block g (lown_lt (cap := cap) h3)).trans h3, h4⟩
theorem lown_wrd {z : Nat → Int} (h : u.ownsRow base 3 1 v n (nums z n)) (hn : 0 < n) : ∃ g cap, v = .slice (some ⟨g, 0, none⟩) n cap ∧ base ≤ g ∧ Wrd u g n z := by
  rcases h.2 with ⟨_, h0⟩ | ⟨g, cap, cur, hv, hb, hg, _, _, hcc, htk⟩
  · omega
  · refine ⟨g, cap, hv, hb, fun i hi => ?_, fun i hi => ?_⟩
    · have hc := nums_at z n i hi
      rw [← htk, List.getElem?_take] at hc
      split at hc
      case isFalse => cases hc
      unfold World.cell?
      rw [show u.heap[(⟨g, i, none⟩ : Addr).block]? = _ from hg]
      simpa using hc
    · unfold World.frozen?
      rw [show u.heap[(⟨g, i, none⟩ : Addr).block]? = _ from hg]
      simp
end
theorem nums_snoc (z : Nat → Int) (n : Nat) : nums z (n + 1) = nums z n ++ [.int .i64 (z n)] := by
  unfold nums
  rw [List.range_succ, List.map_append]
  rfl
def lenOf : Value → Nat
  | .slice _ n _ => n
  | _ => 0
theorem lown_len {u : World} {base n : Nat} {e : TypeId} {v : Value} {xs : List Value} (h : u.ownsRow base e 1 v n xs) : lenOf v = n := by
  rcases h.2 with ⟨rfl, h0⟩ | ⟨g, cap, cur, rfl, _⟩
  · exact h0.symm
  · rfl
/-- A loop that lies in a row of its own. -/
def LpR (q : Nat → Eg) (Y : Nat → Int) (c d : Nat) (w : World) (e : Ending) (w' : World) : Prop := ∃ g cap, e = .returned (.slice (some ⟨g, 0, none⟩) d cap) ∧ Nrd w' g 0 d (lpS q Y c d) ∧ Below w.heap.size w w'
set_option maxRecDepth 100000 in
set_option maxHeartbeats 8000000 in
theorem loopAhead_any (a : Option Addr) (m cap : Nat) (q : Nat → Eg) (bm bb n mv c d : Nat) (M Y : Nat → Int) (T : Nat → Nat) (w : World) (hE : Egs n q m) (hH : EHanded w a m q) (S : Srm w bm bb n M Y) (hc : bk q Y mv n = c) (ok : ∀ j, bk q Y mv j < n ∧ okS m (Y (bk q Y mv j))) (R : Rng q n m M Y T c d) :
    Calls Tryz.prog 76 #[.agg #[.slice a m cap, .slice (some ⟨bm, 0, none⟩) n n, .slice (some ⟨bb, 0, none⟩) n n], .int .i64 mv] w fun e w' => LpR q Y c d w e w' := by
  have h6 : n ≤ 6 := by have := hE.n6; omega
  have dn := R.dn
  have d0 := R.d0
  have l2 := S.yB.lt
  have HR : Hid (Rng q n m M Y T c d) := R
  have HO : Hid (∀ j, bk q Y mv j < n ∧ okS m (Y (bk q Y mv j))) := ok
  have HC : Hid (bk q Y mv n = c) := hc
  have HS : Hid (Srm w bm bb n M Y) := S
  have cA : Hid (∀ u v, Below w.heap.size w u → v < n → okS m (Y v) → Calls Tryz.prog 108 #[.agg #[.slice a m cap, .slice (some ⟨bm, 0, none⟩) n n, .slice (some ⟨bb, 0, none⟩) n n], .int .i64 v] u fun e w' => e = .returned (.int .i64 (frN q (Y v) : Nat)) ∧ Below u.heap.size u w') := fun u v hu hv ho => ahead_any a m cap q bm bb n v M Y u hE (hH.on hu) (S.on hu) hv ho
  obtain ⟨i0, hi0, hz0, hz1, hz2⟩ := info_parts linfoInt
  clear hE hH S hc ok R
  go_enter Tryz.func76, Tryz.ntmps76
  go_wp2
  go_loopw [1, 10] (fun v vi wr => ∃ i : Nat, i ≤ n ∧ vi = .int .i64 i ∧ v = .int .i64 (bk q Y mv i : Nat) ∧ Blk wr 160 w.heap.size [.slice a m cap, .slice (some ⟨bm, 0, none⟩) n n, .slice (some ⟨bb, 0, none⟩) n n] ∧ Below w.heap.size w wr) (fun _ i _ => n - (intOf i).toNat)
  case atStart => exact ⟨0, Nat.zero_le _, rfl, rfl, Blk.made rfl, rbel_al (Below.refl _ _)⟩
  case round =>
    obtain ⟨i, hi, rfl, rfl, hB, hw⟩ := hrel
    have c0 := hB.c 0 _ rfl
    have c1 := hB.c 1 _ rfl
    have c2 := hB.c 2 _ rfl
    have zz := hB.lt
    have HB : Hid (Blk wr 160 w.heap.size [.slice a m cap, .slice (some ⟨bm, 0, none⟩) n n, .slice (some ⟨bb, 0, none⟩) n n]) := hB
    have HW : Hid (Below w.heap.size w wr) := hw
    by_cases hlt : i < n
    · have hl3 : (i : Int) < n := by omega
      have cj := cA.out wr _ hw (HO.out i).1 (HO.out i).2
      have HN : Hid (frN q (Y (bk q Y mv i)) = bk q Y mv (i + 1)) := rfl
      clear hB hw cA
      generalize frN q (Y (bk q Y mv i)) = f at *
      generalize bk q Y mv i = at' at *
      as_aux_lemma =>
        go_wp2_with (go_at_call 108; refine cj.mono ?_; rintro e u0 ⟨rfl, hb⟩; have HB0 : Hid _ := hb; clear hb)
        go_roundw
        case rel => exact ⟨i + 1, by omega, by go_num, by rw [HN.out], HB.out.on HB0.out, rbel_on HB0.out HW.out⟩
        case measure => simp [intOf]; omega
    · have hl3 : ¬ ((i : Int) < n) := by omega
      obtain rfl : i = n := by omega
      rw [HC.out]
      have hcn := (HR.out.ok 0).1
      have hco := (HR.out.ok 0).2.1
      have hcn' : c < i := hcn
      have hco' : okS m (Y c) := hco
      have y0 := (HS.out.on hw).yB.c c _ (nums_at Y i c hcn')
      have hc3 : (c : Int) < i := by omega
      have wz := hw.size
      have cj := cA.out (wr.alloc (.cells #[.int .i64 (Y c)] 3)) c (rbel_al hw) hcn' hco'
      have HN : Hid (frN q (Y c) = bk q Y c 1) := rfl
      clear hB hw hcn hco hco'
      generalize frN q (Y c) = f at *
      go_wp2_with (go_at_call 108; refine cj.mono ?_; rintro e u0 ⟨rfl, hb⟩; have HB0 : Hid _ := hb; clear hb)
      go_loopw [5, 6] (fun v vb wr' => ∃ j : Nat, 0 < j ∧ j ≤ d ∧ vb = .int .i64 (bk q Y c j : Nat) ∧ wr'.ownsRow (w.heap.size + 1) 3 1 v j (nums (fun i => Y (bk q Y c i)) j) ∧ Blk wr' 160 w.heap.size [.slice a m cap, .slice (some ⟨bm, 0, none⟩) i i, .slice (some ⟨bb, 0, none⟩) i i] ∧ Below w.heap.size w wr') (fun v _ _ => d - lenOf v)
      case atStart => exact ⟨1, by omega, by omega, by rw [HN.out], lown_on HB0.out (lown_new (by omega)), (HB.out.al).on HB0.out, rbel_on HB0.out (rbel_al HW.out)⟩
      case round =>
        clear HB HW HB0 HN cj c0 c1 c2 zz y0
        obtain ⟨j, j0, jd, rfl, hO, hB, hw⟩ := hrel
        have c0 := hB.c 0 _ rfl
        have c1 := hB.c 1 _ rfl
        have c2 := hB.c 2 _ rfl
        have zz := hB.lt
        have HB : Hid (Blk wr 160 w.heap.size [.slice a m cap, .slice (some ⟨bm, 0, none⟩) i i, .slice (some ⟨bb, 0, none⟩) i i]) := hB
        have HW : Hid (Below w.heap.size w wr) := hw
        by_cases hlt : j < d
        · have hbn := (HR.out.ok j).1
          have hbo := (HR.out.ok j).2.1
          have hb3 : (bk q Y c j : Int) < i := by omega
          have ne : ((bk q Y c j : Int) == (c : Int)) = false := by have := HR.out.first j j0 hlt; simp; omega
          have y0 := (HS.out.on hw).yB.c _ _ (nums_at Y i (bk q Y c j) hbn)
          have cj : Hid (∀ u, Below w.heap.size w u → Calls Tryz.prog 108 #[.agg #[.slice a m cap, .slice (some ⟨bm, 0, none⟩) i i, .slice (some ⟨bb, 0, none⟩) i i], .int .i64 (bk q Y c j : Nat)] u fun e w' => e = .returned (.int .i64 (bk q Y c (j + 1) : Nat)) ∧ Below u.heap.size u w') := fun u hu => cA.out u _ hu hbn hbo
          have HY : Hid (nums (fun i => Y (bk q Y c i)) (j + 1) = nums (fun i => Y (bk q Y c i)) j ++ [.int .i64 (Y (bk q Y c j))]) := nums_snoc _ _
          have HOB : Hid (∀ x, u5.ownBlock = some x → w.heap.size + 1 ≤ x) := fun x hx => (hO.lt x hx).1
          clear hB hw hbn hbo cA
          obtain ⟨b1, hb1⟩ : ∃ b1, b1 = bk q Y c (j + 1) := ⟨_, rfl⟩
          rw [← hb1] at cj
          have Hb1 : Hid (b1 = bk q Y c (j + 1)) := hb1
          clear hb1
          generalize Y (bk q Y c j) = yb at *
          generalize bk q Y c j = b at *
          generalize nums (fun i => Y (bk q Y c i)) j = xs at *
          have LU : Hid (lenOf u5 = j) := lown_len hO
          go_wp2_with (at_builtin; refine wpList_append_own _ rfl _ _ 22 rfl (w.heap.size + 1) 3 i0 (.int .i64 0) 1 8 Tryz.underlying22 hi0 hz0 hz1 hz2 rfl (by decide) _ _ _ rfl (hO.alloc _) ⟨wr.heap.size, 0, none⟩ 1 1 [.int .i64 yb] rfl rfl ?c1 ?c2 ?c3 ?c4 ?c5 ?_)
          case c1 =>
            intro j u hj
            rw [Addr.add_lit, World.cell?_alloc_at _ _ _ _ (by simp)]
            simpa using hj
          case c2 =>
            intro u hu
            simp at hu
            subst hu
            rfl
          case c3 => unfold maxLen; omega
          case c4 => omega
          case c5 => simp; omega
          intro v' w1 hown' hgrow _
          have hown1 : Hid (w1.ownsRow (w.heap.size + 1) 3 1 v' (j + 1) (nums (fun i => Y (bk q Y c i)) (j + 1))) := by
            show w1.ownsRow (w.heap.size + 1) 3 1 v' (j + 1) (nums (fun i => Y (bk q Y c i)) (j + 1))
            rw [HY.out]
            exact hown'
          have LV : Hid (lenOf v' = j + 1) := lown_len hown'
          have hb1 : Blk w1 160 w.heap.size [.slice a m cap, .slice (some ⟨bm, 0, none⟩) i i, .slice (some ⟨bb, 0, none⟩) i i] := (HB.out.al).grown hgrow (fun e => by have := HOB.out _ e.symm; omega)
          have hw1 : Hid (Below w.heap.size w w1) := (rbel_al HW.out).grown hgrow (by simp; omega) (fun x hx => by have := HOB.out x hx; omega)
          have e0 := hb1.c 0 _ rfl
          have e1 := hb1.c 1 _ rfl
          have e2 := hb1.c 2 _ rfl
          have HB1 : Hid _ := hb1
          have cj1 := cj.out w1 hw1.out
          clear hown' hgrow hO hb1 cj HY HOB
          go_wp2_with (go_at_call 108; refine cj1.mono ?_; rintro e u0 ⟨rfl, hb⟩; have HB2 : Hid _ := hb; clear hb)
          go_roundw
          case rel => exact ⟨j + 1, by omega, by omega, by rw [Hb1.out], lown_on HB2.out hown1.out, Blk.on HB2.out HB1.out, rbel_on HB2.out hw1.out⟩
          case measure =>
            have a1 := LU.out
            have a2 := LV.out
            simp
            omega
        · obtain rfl : j = d := by omega
          rw [HR.out.back]
          obtain ⟨g, cap5, rfl, gb, hWr⟩ := lown_wrd hO j0
          have cv := reverse_any g j cap5 _ wr hWr j0 (by omega)
          clear hB hw hO hWr cA
          go_wp2_with (go_at_call 109; refine cv.mono ?_; rintro e u1 ⟨rfl, hZ, hK⟩; have HZ : Hid _ := hZ; have HB1 : Hid (Below w.heap.size w u1) := HW.out.trans (hK.below (by omega) (fun k hk => by omega)); clear hZ hK)
          go_ret
          exact ⟨g, cap5, rfl, fun i hi => by rw [Nat.zero_add]; exact HZ.out.c i hi, HB1.out⟩
end Go.Proofs.YthejaecljkjliaiGreatDoor
namespace Go.Proofs.YthejaecljkjliaiGreatDoor
open Go.ChangeShapes Go.WideShapes Go.ChangeAt Go.RowKit Go.Joins
set_option linter.unusedVariables false
set_option linter.unusedSimpArgs false

/-- A tree in memory while it grows. -/
structure StT (s : Nat) (u : World) (n : Nat) (t : Tr) (v : Value) : Prop where
  byB : Blk u 3 s (byR n t)
  inB : Blk u 4 (s + 1) (inR n t)
  row : u.ownsRow (s + 2) 3 1 v t.row.length (roR t)
theorem StT.drn {s n d : Nat} {u : World} {t : Tr} {v : Value} (h : StT s u n t v) : StT s (u.drewN d) n t v := ⟨h.byB, h.inB, h.row⟩
theorem own_new {W : World} {base : Nat} {e : TypeId} {x : Value} (hb : base ≤ W.heap.size) : (W.alloc (.cells #[x] e)).ownsRow base e 1 (.slice (some ⟨W.heap.size, 0, none⟩) 1 1) 1 [x] := by
  refine ⟨by simp, Or.inr ⟨W.heap.size, 1, #[x], rfl, hb, ?_, Nat.le_refl _, by unfold maxLen; omega, by simp, by simp⟩⟩
  show (W.heap.push _)[W.heap.size]? = _
  simp
theorem roR_at {t : Tr} {j x : Nat} (h : t.row[j]? = some x) : (roR t)[j]? = some (.int .i64 (x : Nat)) := by
  unfold roR
  rw [List.getElem?_map, h]; rfl
theorem try_no {q : Nat → Eg} {k x : Nat} {t : Tr} (h : toT q k x = none ∨ ∃ y, toT q k x = some y ∧ y ∈ t.row) : tryT q k x t = t := by
  unfold tryT
  rcases h with h | ⟨y, h, hy⟩
  · rw [h]
  · rw [h]; exact if_pos hy
theorem try_add {q : Nat → Eg} {k x y : Nat} {t : Tr} (h : toT q k x = some y) (hy : ¬ y ∈ t.row) : tryT q k x t = addT t k y := by
  unfold tryT
  rw [h]; exact if_neg hy
end Go.Proofs.YthejaecljkjliaiGreatDoor
namespace Go.Proofs.YthejaecljkjliaiGreatDoor
open Go.ChangeShapes Go.WideShapes Go.ChangeAt Go.RowKit Go.Joins
set_option linter.unusedVariables false

/-- A tree that lies in rows of its own. -/
def GrR (q : Nat → Eg) (m n r : Nat) (w : World) (e : Ending) (w' : World) : Prop :=
  ∃ (g cap gb : Nat), e = .returned (.tuple #[.agg #[.slice (some ⟨g, 0, none⟩) (treeT q m n r).row.length cap, .slice (some ⟨gb, 0, none⟩) n n], .nilIface]) ∧ Nod w' g (treeT q m n r).row ∧ (treeT q m n r).row.length ≤ cap ∧ Blk w' 3 gb (byR n (treeT q m n r)) ∧ Below w.heap.size w w'
theorem Nod.on {W u : World} {g : Nat} {l : List Nat} (hb : Below W.heap.size W u) (h : Nod W g l) : Nod u g l := fun j c hc => by
  rw [hb.cell (World.block_lt_of_cell? _ _ (h j c hc))]; exact h j c hc
theorem Nod.far {W : World} {g b i : Nat} {x : Value} {l : List Nat} (hne : b ≠ g) (h : Nod W g l) : Nod (W.setCell ⟨b, i, none⟩ x) g l := fun j c hc => by
  rw [World.cell?_setCell_far _ _ _ _ hne]; exact h j c hc
end Go.Proofs.YthejaecljkjliaiGreatDoor
namespace Go.Proofs.YthejaecljkjliaiGreatDoor
open Go.ChangeShapes Go.WideShapes Go.ChangeAt Go.RowKit Go.Joins
set_option linter.unusedVariables false
set_option linter.unusedSimpArgs false

def updW (W : Nat → Int × Int) (v : Nat) (x : Int × Int) : Nat → Int × Int := fun u => if u = v then x else W u
theorem updW_at (W : Nat → Int × Int) (v : Nat) (x : Int × Int) : updW W v x v = x := if_pos rfl
theorem updW_ne (W : Nat → Int × Int) {v u : Nat} (x : Int × Int) (h : u ≠ v) : updW W v x u = W u := if_neg h
/-- The cells of spans in a row. -/
def spR (W : Nat → Int × Int) (n : Nat) : List Value := (List.range (n * 2)).map fun j => .int .i64 (if j % 2 = 0 then (W (j / 2)).1 else (W (j / 2)).2)
theorem spR_lo (W : Nat → Int × Int) (n k : Nat) (h : k < n) : (spR W n)[k * 2]? = some (.int .i64 (W k).1) := by
  unfold spR
  rw [List.getElem?_map, List.getElem?_range (by omega)]
  show some (Value.int .i64 (if k * 2 % 2 = 0 then (W (k * 2 / 2)).1 else (W (k * 2 / 2)).2)) = _
  rw [if_pos (by omega), show k * 2 / 2 = k by omega]
theorem spR_hi (W : Nat → Int × Int) (n k : Nat) (h : k < n) : (spR W n)[k * 2 + 1]? = some (.int .i64 (W k).2) := by
  unfold spR
  rw [List.getElem?_map, List.getElem?_range (by omega)]
  show some (Value.int .i64 (if (k * 2 + 1) % 2 = 0 then (W ((k * 2 + 1) / 2)).1 else (W ((k * 2 + 1) / 2)).2)) = _
  rw [if_neg (by omega), show (k * 2 + 1) / 2 = k by omega]
theorem spR_ext {W : Nat → Int × Int} {n : Nat} {l : List Value} (h1 : ∀ k, k < n → l[k * 2]? = some (.int .i64 (W k).1) ∧ l[k * 2 + 1]? = some (.int .i64 (W k).2)) (h2 : l.length = n * 2) : l = spR W n := by
  apply List.ext_getElem?
  intro j
  by_cases hj : j < n * 2
  · by_cases e : j % 2 = 0
    · obtain ⟨k, rfl⟩ : ∃ k, j = k * 2 := ⟨j / 2, by omega⟩
      rw [spR_lo _ _ _ (by omega), (h1 k (by omega)).1]
    · obtain ⟨k, rfl⟩ : ∃ k, j = k * 2 + 1 := ⟨j / 2, by omega⟩
      rw [spR_hi _ _ _ (by omega), (h1 k (by omega)).2]
  · rw [List.getElem?_eq_none (by omega), List.getElem?_eq_none (by simp [spR]; omega)]
theorem spR_len (W : Nat → Int × Int) (n : Nat) : (spR W n).length = n * 2 := by simp [spR]
theorem spR_set (W : Nat → Int × Int) (n v : Nat) (x : Int × Int) (hv : v < n) : ((spR W n).set (v * 2) (.int .i64 x.1)).set (v * 2 + 1) (.int .i64 x.2) = spR (updW W v x) n := by
  have len := spR_len W n
  refine spR_ext (fun k hk => ?_) (by simp [len])
  by_cases e : k = v
  · subst e
    rw [updW_at]
    exact ⟨by rw [List.getElem?_set_ne (by omega), List.getElem?_set_self (by omega)], by rw [List.getElem?_set_self (by simp; omega)]⟩
  · rw [updW_ne _ _ e]
    exact ⟨by rw [List.getElem?_set_ne (by omega), List.getElem?_set_ne (by omega), spR_lo _ _ _ hk], by rw [List.getElem?_set_ne (by omega), List.getElem?_set_ne (by omega), spR_hi _ _ _ hk]⟩
theorem spR_zero (n : Nat) : List.replicate (n * 2) (Value.int .i64 0) = spR (fun _ => (0, 0)) n := by
  refine spR_ext (fun k hk => ?_) (by simp)
  rw [List.getElem?_replicate, List.getElem?_replicate, if_pos (by omega), if_pos (by omega)]
  exact ⟨rfl, rfl⟩
/-- Who of the first i is in. -/
def inK (n : Nat) (t : Tr) (i : Nat) : List Value := (List.range n).map fun v => .bool (decide (v ∈ t.row.take i))
theorem inK_at (n : Nat) (t : Tr) (i v : Nat) (h : v < n) : (inK n t i)[v]? = some (.bool (decide (v ∈ t.row.take i))) := by simp [inK, h]
theorem take_next {t : Tr} {i v : Nat} (h : t.row[i]? = some v) : t.row.take (i + 1) = t.row.take i ++ [v] := by
  rw [List.take_add_one, h]
  rfl
theorem inK_set (n : Nat) (t : Tr) (i v : Nat) (hv : v < n) (h : t.row[i]? = some v) : (inK n t i).set v (.bool true) = inK n t (i + 1) := by
  symm
  refine map_range_ext (fun j hj => ?_) (by simp [inK])
  by_cases e : v = j
  · subst e
    rw [List.getElem?_set_self (by simp [inK]; exact hj), take_next h]
    simp
  · rw [List.getElem?_set_ne e, inK_at _ _ _ _ hj, take_next h]
    have : ¬ j = v := fun x => e x.symm
    simp [this]
theorem inK_zero (n : Nat) (t : Tr) : List.replicate n (Value.bool false) = inK n t 0 := by
  symm
  refine map_range_ext (fun j hj => ?_) (by simp)
  rw [List.getElem?_replicate, if_pos hj]
  simp
section
variable {q : Nat → Eg} {m n r : Nat} {t : Tr}
theorem waT_next {i v : Nat} (h0 : 0 < i) (h : t.row[i]? = some v) : waT q t (i + 1) = updW (waT q t i) v (suT q t (waT q t i) v) := by
  funext u
  simp only [waT]
  rw [if_neg (by omega), h]
  rfl
/-- Who is not among the first i has zeros. -/
theorem waT_out : ∀ {i u : Nat}, u ∉ t.row.take i → waT q t i u = (0, 0)
  | 0, u, _ => rfl
  | i + 1, u, h => by
    simp only [waT]
    by_cases e : i = 0
    · rw [if_pos e]
    · rw [if_neg e]
      cases e' : t.row[i]? with
      | none =>
        simp only
        refine waT_out (fun hm => h ?_)
        rw [List.take_add_one, e']
        simpa using hm
      | some v =>
        simp only
        rw [take_next e'] at h
        simp only [List.mem_append, List.mem_singleton, not_or] at h
        rw [if_neg h.2]
        exact waT_out h.1
end
/-- What is told behind the first i nodes, in memory. -/
structure WtT (q : Nat → Eg) (n : Nat) (t : Tr) (u : World) (gw gi i : Nat) : Prop where
  w : Blk u 38 gw (spR (waT q t i) n)
  h : Blk u 4 gi (inK n t i)
section
variable {q : Nat → Eg} {m n r gw gi i : Nat} {t : Tr} {u W : World}
theorem WtT.on (hb : Below W.heap.size W u) (h : WtT q n t W gw gi i) : WtT q n t u gw gi i := ⟨h.w.on hb, h.h.on hb⟩
theorem WtT.al {ob : Obj} (h : WtT q n t W gw gi i) : WtT q n t (W.alloc ob) gw gi i := ⟨h.w.al, h.h.al⟩
theorem WtT.dr (h : WtT q n t W gw gi i) : WtT q n t W.drew gw gi i := ⟨h.w, h.h⟩
theorem WtT.drn {d : Nat} (h : WtT q n t W gw gi i) : WtT q n t (W.drewN d) gw gi i := ⟨h.w, h.h⟩
theorem WtT.ne (h : WtT q n t W gw gi i) : gw ≠ gi := h.w.ne h.h (by decide)
theorem WtT.put {v : Nat} {lo hi : Int} (h0 : 0 < i) (hv : v < n) (hr : t.row[i]? = some v) (e : suT q t (waT q t i) v = (lo, hi)) (h : WtT q n t W gw gi i) :
    WtT q n t (((W.setCell ⟨gw, v * 2, none⟩ (.int .i64 lo)).setCell ⟨gw, v * 2 + 1, none⟩ (.int .i64 hi)).setCell ⟨gi, v, none⟩ (.bool true)) gw gi (i + 1) :=
  ⟨by rw [waT_next h0 hr, e, ← spR_set _ _ _ _ hv]; exact ((h.w.put _).put _).far h.ne, by rw [← inK_set n t i v hv hr]; exact ((h.h.far (fun e => h.ne e.symm)).far (fun e => h.ne e.symm)).put v⟩
/-- At the end: the spans and who is in, as they are handed over. -/
theorem WtT.fin (h : WtT q n (treeT q m n r) W gw gi (treeT q m n r).row.length) (hn : n ≤ 6) : SHanded W (some ⟨gw, 0, none⟩) n (teT q m n r) ∧ BHanded W (some ⟨gi, 0, none⟩) n (inT q m n r) := by
  refine ⟨⟨by omega, Or.inr ⟨gw, 0, rfl, fun v hv => ?_⟩⟩, ⟨by omega, Or.inr ⟨gi, 0, rfl, fun v hv => ?_⟩⟩⟩
  · have e : waT q (treeT q m n r) (treeT q m n r).row.length v = teT q m n r v := by
      unfold teT
      split
      · rfl
      · exact waT_out (fun hm => by rw [List.take_length] at hm; contradiction)
    rw [Nat.zero_add, ← e]
    exact ⟨h.w.c _ _ (spR_lo _ _ _ hv), h.w.c _ _ (spR_hi _ _ _ hv)⟩
  · rw [Nat.zero_add]
    have := h.h.c v _ (inK_at n _ _ v hv)
    rw [List.take_length] at this
    rw [this]
    unfold inT
    congr
end
theorem SHanded.same {w : World} {a : Option Addr} {n : Nat} {f g : Nat → Int × Int} (h : SHanded w a n f) (e : ∀ i, i < n → f i = g i) : SHanded w a n g :=
  ⟨h.1, h.2.imp id (fun ⟨b, off, e', s⟩ => ⟨b, off, e', fun i hi => by rw [← e i hi]; exact s i hi⟩)⟩
theorem BHanded.same {w : World} {a : Option Addr} {n : Nat} {f g : Nat → Bool} (h : BHanded w a n f) (e : ∀ i, i < n → f i = g i) : BHanded w a n g :=
  ⟨h.1, h.2.imp id (fun ⟨b, off, e', s⟩ => ⟨b, off, e', fun i hi => by rw [← e i hi]; exact s i hi⟩)⟩
theorem NHanded.same {w : World} {a : Option Addr} {n : Nat} {f g : Nat → Int} (h : NHanded w a n f) (e : ∀ i, i < n → f i = g i) : NHanded w a n g :=
  ⟨h.1, h.2.imp id (fun ⟨b, off, e', s⟩ => ⟨b, off, e', fun i hi => by rw [← e i hi]; exact s i hi⟩)⟩
section
variable {q : Nat → Eg} {m n r : Nat}
/-- Are the first i spans as they may be? -/
def OkT (q : Nat → Eg) (m n r i : Nat) : Prop := ∀ j v, j < i → (treeT q m n r).row[j]? = some v → okB (waT q (treeT q m n r) (j + 1) v).1 (waT q (treeT q m n r) (j + 1) v).2 = true
theorem okT_one : OkT q m n r 1 := fun j v hj _ => by
  obtain rfl : j = 0 := by omega
  rw [waT_one]
  rfl
theorem okT_next {i v : Nat} (h : OkT q m n r i) (hr : (treeT q m n r).row[i]? = some v) (o : okB (waT q (treeT q m n r) (i + 1) v).1 (waT q (treeT q m n r) (i + 1) v).2 = true) : OkT q m n r (i + 1) := fun j v' hj hv => by
  by_cases e : j = i
  · subst e
    rw [hr] at hv
    obtain rfl := Option.some.inj hv
    exact o
  · exact h j v' (by omega) hv
theorem okT_far (hE : Egs n q m) (hr : r < n) (h : OkT q m n r (treeT q m n r).row.length) : ¬ FarT q m n r := by
  rintro ⟨v, hv, o⟩
  obtain ⟨j, hj, e⟩ := List.getElem_of_mem hv
  have ev : (treeT q m n r).row[j]? = some v := by rw [List.getElem?_eq_getElem hj, e]
  unfold wantT at o
  rw [waT_at (tree_inv hE hr) ev hj, h j v hj ev] at o
  cases o
theorem far_at (hE : Egs n q m) (hr : r < n) {i v : Nat} (hv : (treeT q m n r).row[i]? = some v) (o : okB (waT q (treeT q m n r) (i + 1) v).1 (waT q (treeT q m n r) (i + 1) v).2 = false) : FarT q m n r := by
  refine ⟨v, List.mem_of_getElem? hv, ?_⟩
  unfold wantT
  rw [waT_at (tree_inv hE hr) hv (List.getElem?_eq_some_iff.1 hv).1]
  exact o
end
end Go.Proofs.YthejaecljkjliaiGreatDoor
