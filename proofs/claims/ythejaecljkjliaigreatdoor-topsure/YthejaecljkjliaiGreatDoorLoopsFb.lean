/- What package loops finds: findBelow, Find, Fault. -/
import Derived.Test.YthejaecljkjliaiGreatDoorNm16
import Derived.Test.YthejaecljkjliaiGreatDoorNm17
namespace Go.Proofs.YthejaecljkjliaiGreatDoor
open Go.ChangeShapes Go.WideShapes Go.ChangeAt Go.RowKit Go.Joins
set_option linter.unusedVariables false
set_option linter.unusedSimpArgs false

theorem lmade_cells (z : Value) (hz : z.cells = #[z]) (n : Nat) : madeCells z.cells (n * 1) = (List.replicate n z).toArray := by
  rw [hz, Nat.mul_one]
  apply Array.ext
  · simp [madeCells]
  · intro i h1 h2
    simp [madeCells, Nat.mod_one]
theorem lmk_ints (n : Nat) (h6 : n ≤ 6) (W : World) : (Instr.makeSlice 22 (.int .i64 n) (.int .i64 n)).run Tryz.prog W = .ok (.slice (some ⟨W.heap.size, 0, none⟩) n n) (W.alloc (.cells (List.replicate n (.int .i64 0)).toArray 3)) := by
  obtain ⟨i0, hi0, hz0, hz1, hz2⟩ := info_parts linfoInt
  have h := run_makeSlice W 22 3 i0 _ Tryz.underlying22 hi0 hz0 .i64 .i64 n n (by omega) (by omega) (by rw [hz1]; simp; omega) (by rw [hz2]; simp; omega) (by omega)
  rw [hz1, Int.toNat_natCast, lmade_cells _ rfl n] at h
  exact h
theorem nums_zero (n : Nat) : nums (fun _ => 0) n = List.replicate n (.int .i64 0) := by
  apply List.ext_getElem?
  intro j
  by_cases hj : j < n
  · rw [nums_at _ _ _ hj, List.getElem?_replicate, if_pos hj]
  · rw [List.getElem?_eq_none (by simp [nums]; omega), List.getElem?_eq_none (by simp; omega)]
/-- A search that begins. -/
def NfR (a : Option Addr) (m cap n : Nat) (w : World) (p : Value) (w' : World) : Prop := ∃ B bm bb, p = .pointer (some ⟨B, 0, none⟩) ∧ Row w' B [.slice a m cap, .slice (some ⟨bm, 0, none⟩) n n, .slice (some ⟨bb, 0, none⟩) n n] ∧ Srm w' bm bb n (fun _ => 0) (fun _ => 0) ∧ Below w.heap.size w w' ∧ w.heap.size ≤ bm ∧ w.heap.size ≤ bb ∧ B ≠ bm ∧ B ≠ bb
theorem nfR_mk {a : Option Addr} {m cap n B bm bb : Nat} {w w' : World} (r : Row w' B [.slice a m cap, .slice (some ⟨bm, 0, none⟩) n n, .slice (some ⟨bb, 0, none⟩) n n]) (b1 : Blk w' 3 bm (List.replicate n (.int .i64 0))) (b2 : Blk w' 3 bb (List.replicate n (.int .i64 0))) (bel : Below w.heap.size w w') (h1 : w.heap.size ≤ bm) (h2 : w.heap.size ≤ bb) (h3 : B ≠ bm) (h4 : B ≠ bb) (h5 : bm ≠ bb) : NfR a m cap n w (.pointer (some ⟨B, 0, none⟩)) w' :=
  ⟨B, bm, bb, rfl, r, ⟨by rw [nums_zero]; exact b1, by rw [nums_zero]; exact b2, h5⟩, bel, h1, h2, h3, h4⟩
theorem lblk_rep {W : World} {e : TypeId} {b n : Nat} {v : Value} (hb : b = W.heap.size) : Blk (W.alloc (.cells (Array.replicate n v) e)) e b (List.replicate n v) := by
  rw [show Array.replicate n v = (List.replicate n v).toArray by simp]
  exact Blk.made hb
/-- What is found. -/
def FbR (q : Nat → Eg) (n m : Nat) (w : World) (e : Ending) (w' : World) : Prop :=
  ((¬ Neg (Arc q m) n ∧ e = .returned (.slice none 0 0)) ∨ (Neg (Arc q m) n ∧ ∃ (g cap d : Nat) (s : Nat → Int), e = .returned (.slice (some ⟨g, 0, none⟩) d cap) ∧ d ≤ n ∧ Nrd w' g 0 d s ∧ RmR q m d s (rmS q s d) 0 ∧ rmS q s d < 0)) ∧ Below w.heap.size w w'
set_option maxRecDepth 100000 in
set_option maxHeartbeats 8000000 in
theorem findBelow_any (n : Nat) (a : Option Addr) (m cap : Nat) (q : Nat → Eg) (w : World) (hE : Egs n q m) (hH : EHanded w a m q) :
    Calls Tryz.prog 43 #[.int .i64 n, .slice a m cap] w fun e w' => FbR q n m w e w' := by
  have h6 : n ≤ 6 := by have := hE.n6; omega
  have n1 : 1 ≤ n := by have := hE.n1; omega
  have m1 := lmk_ints n h6
  have HE : Hid (Egs n q m) := hE
  have HH : Hid (EHanded w a m q) := hH
  clear hE hH
  go_enter Tryz.func43, Tryz.ntmps43
  go_wp2
  go_upto_region 1 with (fail)
  go_cut [5] from 7 to 24 (fun p w' => NfR a m cap n w p w')
  case first =>
    as_aux_lemma =>
      go_region
      all_goals
        go_wp2
        go_meet
        case rel =>
          first
            | exact nfR_mk (bm := w.heap.size) (bb := w.heap.size + 1) (Row.dr (Row.made (by simp))) (Blk.dr (Blk.al (Blk.al (lblk_rep (by simp))))) (Blk.dr (Blk.al (lblk_rep (by simp)))) (rbel_dr (rbel_al (rbel_al (rbel_al (Below.refl _ _))))) (by omega) (by omega) (by omega) (by omega) (by omega)
            | exact nfR_mk (bm := w.heap.size + 1) (bb := w.heap.size) (Row.dr (Row.made (by simp))) (Blk.dr (Blk.al (lblk_rep (by simp)))) (Blk.dr (Blk.al (Blk.al (lblk_rep (by simp))))) (rbel_dr (rbel_al (rbel_al (rbel_al (Below.refl _ _))))) (by omega) (by omega) (by omega) (by omega) (by omega)
            | exact nfR_mk (bm := w.heap.size) (bb := w.heap.size + 1 + 1) (Row.dr (Row.al (Row.made (by simp)))) (Blk.dr (Blk.al (Blk.al (lblk_rep (by simp))))) (Blk.dr (lblk_rep (by simp))) (rbel_dr (rbel_al (rbel_al (rbel_al (Below.refl _ _))))) (by omega) (by omega) (by omega) (by omega) (by omega)
            | exact nfR_mk (bm := w.heap.size + 1 + 1) (bb := w.heap.size) (Row.dr (Row.al (Row.made (by simp)))) (Blk.dr (lblk_rep (by simp))) (Blk.dr (Blk.al (Blk.al (lblk_rep (by simp))))) (rbel_dr (rbel_al (rbel_al (rbel_al (Below.refl _ _))))) (by omega) (by omega) (by omega) (by omega) (by omega)
            | exact nfR_mk (bm := w.heap.size + 1) (bb := w.heap.size + 1 + 1) (Row.dr (Row.al (Row.al (Row.made (by simp))))) (Blk.dr (Blk.al (lblk_rep (by simp)))) (Blk.dr (lblk_rep (by simp))) (rbel_dr (rbel_al (rbel_al (rbel_al (Below.refl _ _))))) (by omega) (by omega) (by omega) (by omega) (by omega)
            | exact nfR_mk (bm := w.heap.size + 1 + 1) (bb := w.heap.size + 1) (Row.dr (Row.al (Row.al (Row.made (by simp))))) (Blk.dr (lblk_rep (by simp))) (Blk.dr (Blk.al (lblk_rep (by simp)))) (rbel_dr (rbel_al (rbel_al (rbel_al (Below.refl _ _))))) (by omega) (by omega) (by omega) (by omega) (by omega)
  case rest =>
    obtain ⟨B, bm, bb, rfl, hR, hS, hw, b1, b2, b3, b4⟩ := hcut
    clear m1
    have HNE : Hid (∀ b off, 0 < m → a = some ⟨b, off, none⟩ → ¬ Sbk bm bb b) := fun b off m0 e h => by
      obtain ⟨b', off', e', hs⟩ : ∃ b off : Nat, a = some ⟨b, off, none⟩ ∧ Esp w b off m q := by
        rcases HH.out.2 with e | h
        · omega
        · exact h
      have lb := World.block_lt_of_cell? _ _ (hs 0 m0).1
      rw [e] at e'
      simp at e'
      obtain ⟨rfl, rfl⟩ := e'
      have lb' : b < w.heap.size := lb
      rcases h with h | h <;> omega
    have NB : Hid (¬ Sbk bm bb B) := fun h => by rcases h with h | h <;> omega
    have LB : Hid (∀ k, Sbk bm bb k → w.heap.size ≤ k) := fun k h => by rcases h with h | h <;> omega
    have HR : Hid _ := hR
    have HS : Hid _ := hS
    have HW : Hid (Below w.heap.size w wc) := hw
    clear hR hS hw
    go_wp2
    go_loopw [6, 14] (fun v vi wr => ∃ (i : Nat) (M Y : Nat → Int) (mv : Int), i ≤ n ∧ vi = .int .i64 i ∧ v = .int .i64 mv ∧ Row wr B [.slice a m cap, .slice (some ⟨bm, 0, none⟩) n n, .slice (some ⟨bb, 0, none⟩) n n] ∧ Srm wr bm bb n M Y ∧ ((i = 0 ∧ Bf q n m 0 0 (fun _ => False) M Y (-1)) ∨ ∃ k, i = k + 1 ∧ 0 ≤ mv ∧ Bf q n m k 80 (fun x => okS m x) M Y mv) ∧ Below w.heap.size w wr) (fun _ i _ => n - (intOf i).toNat)
    case atStart => exact ⟨0, _, _, -1, Nat.zero_le _, rfl, rfl, HR.out, HS.out, Or.inl ⟨rfl, bf_zero⟩, HW.out⟩
    case round =>
      clear HR HS HW
      obtain ⟨i, M, Y, mv, hi, rfl, rfl, hR, hS, hF, hw⟩ := hrel
      have c0 := hR.c 0 _ rfl
      have c1 := hR.c 1 _ rfl
      have c2 := hR.c 2 _ rfl
      have HR : Hid (Row wr B [.slice a m cap, .slice (some ⟨bm, 0, none⟩) n n, .slice (some ⟨bb, 0, none⟩) n n]) := hR
      have HW : Hid (Below w.heap.size w wr) := hw
      by_cases hlt : i < n
      · have hl3 : (i : Int) < n := by omega
        have F0 : Bf q n m i 0 (fun _ => False) M Y (-1) := by
          rcases hF with ⟨rfl, h⟩ | ⟨k, rfl, _, h⟩
          · exact h
          · exact h.next (Nat.le_refl _) (fun x hx => hx)
        have cT := tryAll_any a m cap q bm bb n i M Y wr HE.out (HH.out.on hw) HNE.out hS (by omega) F0
        clear hR hS hF hw F0
        as_aux_lemma =>
          go_wp2_with (go_at_call 75; refine cT.mono ?_; rintro e u0 ⟨M', Y', mv', rfl, hS0, hF0, hK0⟩; have HS0 : Hid (Srm u0 bm bb n M' Y') := hS0; have HF0 : Hid (Bf q n m i 80 (fun x => okS m x) M' Y' mv') := hF0; have HR0 : Hid _ := hK0.row NB.out HR.out; have HW0 : Hid (Below w.heap.size w u0) := HW.out.trans (hK0.below HW.out.size LB.out); clear hS0 hF0 hK0; by_cases mz : mv' < 0)
          · have HG : Hid (¬ Neg (Arc q m) n) := by
              show ¬ _
              have h := HF0.out
              rcases h.mv_in with e | e
              · rw [e] at h; exact h.fit HE.out (fun x hx => hx)
              · omega
            go_wp2
            go_ret
            exact ⟨Or.inl ⟨HG.out, rfl⟩, HW0.out⟩
          · go_wp2
            go_roundw
            case rel => exact ⟨i + 1, M', Y', mv', by omega, by go_num, rfl, HR0.out, HS0.out, Or.inr ⟨i, rfl, by omega, HF0.out⟩, HW0.out⟩
            case measure => simp [intOf]; omega
      · have hl3 : ¬ ((i : Int) < n) := by omega
        obtain rfl : i = n := by omega
        obtain ⟨k, e, z0, hF⟩ : ∃ k, i = k + 1 ∧ 0 ≤ mv ∧ Bf q i m k 80 (fun x => okS m x) M Y mv := by
          rcases hF with ⟨e, _⟩ | h
          · omega
          · exact h
        obtain ⟨v, rfl⟩ : ∃ v : Nat, mv = v := ⟨mv.toNat, by omega⟩
        obtain ⟨_, ok, T, d, R⟩ := hF.ring HE.out e.symm
        have cL := loopAhead_any a m cap q bm bb i v _ d M Y T wr HE.out (HH.out.on hw) hS rfl ok R
        have HX : Hid (d ≤ i ∧ RmR q m d (lpS q Y (bk q Y v i) d) (rmS q (lpS q Y (bk q Y v i) d) d) 0 ∧ rmS q (lpS q Y (bk q Y v i) d) d < 0) := ⟨R.dn, R.room HE.out, R.below⟩
        clear hR hS hF hw ok R e z0
        go_wp2_with (go_at_call 76; refine cL.mono ?_; rintro e u0 ⟨g, cap', rfl, hN, hb⟩; have HN : Hid _ := hN; have HW0 : Hid (Below w.heap.size w u0) := rbel_on hb HW.out; clear hN hb)
        go_ret
        exact ⟨Or.inr ⟨rm_neg HE.out HX.out.2.1 HX.out.2.2, g, cap', d, _, rfl, HX.out.1, HN.out, HX.out.2.1, HX.out.2.2⟩, HW0.out⟩
end Go.Proofs.YthejaecljkjliaiGreatDoor
