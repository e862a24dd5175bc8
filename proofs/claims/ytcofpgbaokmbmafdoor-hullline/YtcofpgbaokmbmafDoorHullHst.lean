/- What hull.highest answers: of each X the highest point alone. -/
import Derived.Test.YtcofpgbaokmbmafDoorHullSort
namespace Go.Proofs.YtcofpgbaokmbmafDoor
open Go.ChangeShapes Go.WideShapes Go.ChangeAt Go.RowKit Go.Joins
set_option linter.unusedVariables false
set_option linter.unusedSimpArgs false

theorem nilP (u : World) : (binOp .eql 22 (.slice none 0 0) (.slice none 0 0)).run Tryd.prog u = .ok (.bool true) u := by kernel_rfl
theorem nilP' (n c : Nat) (u : World) : (binOp .eql 22 (.slice none n c) (.slice none 0 0)).run Tryd.prog u = .ok (.bool true) u := by kernel_rfl
theorem someP (a : Addr) (n c : Nat) (u : World) : (binOp .eql 22 (.slice (some a) n c) (.slice none 0 0)).run Tryd.prog u = .ok (.bool false) u := by kernel_rfl
theorem own_emptyP (w : World) (e : TypeId) (size : Nat) : (w.alloc (.cells #[] e)).ownsRow w.heap.size e size (.slice (some ⟨w.heap.size, 0, none⟩) 0 0) 0 [] := by
  refine ⟨by simp, Or.inr ⟨w.heap.size, 0, #[], rfl, Nat.le_refl _, ?_, Nat.le_refl _, Nat.zero_le _, by simp, by simp⟩⟩
  show (w.heap.push _)[w.heap.size]? = _
  simp
theorem pls_cells {w : World} {b off n : Nat} {f : Nat → Int × Int} (h : Pls w b off n f) (j : Nat) (u : Value) (hj : (pcs (lst f n))[j]? = some u) : w.cell? ⟨b, off + j, none⟩ = some u := by
  have l := (List.getElem?_eq_some_iff.1 hj).1
  rw [pcs_len, lst_len] at l
  obtain ⟨a, c⟩ := h (j / 2) (by omega)
  obtain ⟨x, y⟩ := pcs_at (lst_at f n (j / 2) (by omega))
  have : j % 2 = 0 ∨ j % 2 = 1 := by omega
  rcases this with e | e
  · rw [show j / 2 * 2 = j by omega] at x
    rw [x] at hj
    rw [show off + j = off + j / 2 * 2 by omega, a, ← hj]
  · rw [show j / 2 * 2 + 1 = j by omega] at y
    rw [y] at hj
    rw [show off + j = off + j / 2 * 2 + 1 by omega, c, ← hj]
set_option maxHeartbeats 1000000 in
theorem clone_any (ad : Option Addr) (n cap : Nat) (f : Nat → Int × Int) (w : World) (h60 : n ≤ 60) (hH : PHanded w ad n f) :
    Calls Tryd.prog 37 #[.slice ad n cap] w fun e w' => ∃ v, e = .returned v ∧ w'.ownsRow w.heap.size 33 2 v n (pcs (lst f n)) ∧ Below w.heap.size w w' := by
  have q1 := nilP'
  have q2 := someP
  obtain ⟨i0, hi0, hz0, hz1, hz2⟩ := info_parts infoPoint
  cases ad with
  | none =>
    have n0 : n = 0 := by
      rcases hH.2 with e | ⟨b, off, e, _⟩
      · exact e
      · cases e
    subst n0
    clear hH
    go_enter Tryd.func37, Tryd.ntmps37
    go_wp2
    go_ret
    exact ⟨_, rfl, World.ownsRow_nil _ _ _ _, Below.refl _ _⟩
  | some a =>
    have HC : Hid (∀ j u, (pcs (lst f n))[j]? = some u → (w.alloc (.cells #[] 33)).cell? (a.add j) = some u) := by
      intro j u hj
      rcases hH.2 with e | ⟨b, off, e, hP⟩
      · subst e
        simp [lst, pcs] at hj
      · obtain rfl := Option.some.inj e
        rw [Addr.add_lit]
        have c := pls_cells hP j u hj
        rw [(rbel_al (Below.refl w.heap.size w)).cell (p := ⟨b, off + j, none⟩) (World.block_lt_of_cell? _ _ c)]
        exact c
    have HL : Hid ((pcs (lst f n)).length = n * 2) := by show (pcs (lst f n)).length = n * 2; rw [pcs_len, lst_len]
    have H1 : Hid (∀ u ∈ pcs (lst f n), u.oneCell' = true) := pcs_one
    clear hH
    generalize pcs (lst f n) = news at *
    go_enter Tryd.func37, Tryd.ntmps37
    go_wp2_with (at_builtin; refine wpList_append_own _ rfl _ _ 22 rfl w.heap.size 33 i0 (.agg #[.int .i64 0, .int .i64 0]) 2 16 Tryd.underlying22 hi0 hz0 hz1 hz2 rfl (by decide) _ 0 [] rfl (own_emptyP w 33 2) a n cap news rfl HL.out HC.out H1.out (by unfold maxLen; omega) (by omega) (by simp) ?_)
    intro v' w1 hown' hgrow _
    have HO : Hid (w1.ownsRow w.heap.size 33 2 v' n news) := hown'
    have hw1 : Hid (Below w.heap.size w w1) := (rbel_al (Below.refl _ _)).grown hgrow (by simp) (fun j hj => ((own_emptyP w 33 2).lt j hj).1)
    clear hown' hgrow HC HL H1
    go_wp2
    go_ret
    exact ⟨_, rfl, HO.out, hw1.out⟩
/-- Of each X the highest alone. -/
def HiR (f : Nat → Int × Int) (n : Nat) (w : World) (o : Ending) (w' : World) : Prop := ∃ (ca : Option Addr) (k cc : Nat) (c : Nat → Int × Int), o = .returned (.slice ca k cc) ∧ PHanded w' ca k c ∧ Hi (lst f n) (lst c k) ∧ k ≤ n ∧ Below w.heap.size w w' ∧ (k = 0 ∨ ∃ g, ca = some ⟨g, 0, none⟩ ∧ w.heap.size ≤ g ∧ g < w'.heap.size)
theorem hi_small {f : Nat → Int × Int} {n : Nat} (h : n < 2) : Hi (lst f n) (lst f n) := by
  have : n = 0 ∨ n = 1 := by omega
  rcases this with rfl | rfl
  · exact ⟨List.Pairwise.nil, fun p => ⟨fun h => (by cases h), fun h => (by cases h.1)⟩⟩
  · refine ⟨by simp [lst], fun p => ⟨fun h => ⟨h, fun i hi e => ?_⟩, fun h => h.1⟩⟩
    obtain ⟨j, hj, rfl⟩ := mem_lst.1 h
    obtain ⟨j', hj', rfl⟩ := mem_lst.1 hi
    rw [show j = 0 by omega, show j' = 0 by omega]
    exact Int.le_refl _
set_option maxHeartbeats 1000000 in
theorem highest_any (ad : Option Addr) (n cap : Nat) (f : Nat → Int × Int) (w : World) (h60 : n ≤ 60) (hH : PHanded w ad n f) :
    Calls Tryd.prog 27 #[.slice ad n cap] w fun o w' => HiR f n w o w' := by
  have cC := clone_any ad n cap f w h60 hH
  clear hH
  go_enter Tryd.func27, Tryd.ntmps27
  by_cases n0 : n = 0
  · subst n0
    have HS : Hid (∀ p cap fv w, Calls Tryd.prog 38 #[.slice p 0 cap, fv] w fun e w' => e = .returned (.tuple #[]) ∧ w' = w) := sort_none
    have HK : Hid (∀ p cap fv w, Calls Tryd.prog 42 #[.slice p 0 cap, fv] w fun e w' => e = .returned (.slice p 0 cap) ∧ w' = w) := fun p cap fv w => compact_small p 0 cap fv w (by decide)
    go_wp2_with (first | (go_at_call 37; refine cC.mono ?_; rintro e u0 ⟨v, rfl, hO, hb⟩; obtain ⟨a, c, e⟩ : ∃ a c, v = .slice a 0 c := (own_points hO rfl (by omega)).elim (fun a h => h.elim (fun c h => ⟨a, c, h.1⟩)); subst e; have HB : Hid (Below w.heap.size w u0) := hb; clear hO hb) | (go_at_call 38; refine (HS.out _ _ _ _).mono ?_; rintro e w' ⟨rfl, rfl⟩) | (go_at_call 42; refine (HK.out _ _ _ _).mono ?_; rintro e w' ⟨rfl, rfl⟩))
    go_ret
    exact ⟨_, 0, _, f, rfl, ⟨by omega, Or.inl rfl⟩, hi_small (by decide), Nat.le_refl _, HB.out, Or.inl rfl⟩
  · have hd : (lst f n).toArray.size = n := by simp [lst_len]
    have HSz : Hid ((lst f n).toArray.size = n) := hd
    have HN : Hid (n ≠ 0 ∧ n ≤ 60) := ⟨n0, h60⟩
    clear hd
    go_wp2_with (first | (go_at_call 37; refine cC.mono ?_; rintro e u0 ⟨v, rfl, hO, hb⟩; rcases hO.2 with ⟨_, e⟩ | ⟨g, c, cur, e, hg, hgb, hcn, hcm, hcs, htk⟩; exact absurd e n0; subst e; have HB : Hid (Below w.heap.size w u0) := hb; have HO : Hid (u0.ownsRow w.heap.size 33 2 (.slice (some ⟨g, 0, none⟩) n c) n (pcs (lst f n))) := hO; have HG : Hid (w.heap.size ≤ g ∧ n ≤ c ∧ c ≤ maxLen ∧ g < u0.heap.size) := ⟨hg, hcn, hcm, (hO.lt g rfl).2⟩; clear hO hb hg hgb hcn hcm hcs htk) | (go_at_call 38; refine (sort_pts g c n (lst f n).toArray u0 HSz.out (holds_of_ownP (by simpa using HO.out) HSz.out) HG.out.2.2.2 (by have := HN.out.2; omega)).mono ?_; rintro e u1 ⟨rfl, d', m, os, hp, hs, hw'⟩; have HB1 : Hid (Below w.heap.size w u1) := (by rw [hw']; exact sort_belowP HB.out HG.out.1 HB.out.size); have HW1 : Hid (Wls u1 g n (fun i => d'[i]!)) := (by have z := wls_of_holds (holdsK_sortWorldK_c encP 2 u0 g 0 (lst f n).toArray d' m os (holds_of_ownP (by simpa using HO.out) HSz.out) HG.out.2.2.2 hp.1); rw [hp.1.trans HSz.out, ← hw'] at z; exact z); have HT : Hid (Srt (fun i => d'[i]!) n) := (by rw [HSz.out] at hs; exact srt_of hs); have HM : Hid (∀ p, p ∈ lst (fun i => d'[i]!) n ↔ p ∈ lst f n) := (fun p => by have z := mem_of hp p; rw [← lst_arr d', hp.1.trans HSz.out] at z; simpa using z); clear hp hs hw' HO HB) | (go_at_call 42; fail))
    by_cases n2 : n < 2
    · refine (compact_small _ n c _ u1 n2).mono ?_
      rintro e w' ⟨rfl, rfl⟩
      go_wp2
      go_ret
      exact ⟨some ⟨g, 0, none⟩, n, c, (fun i => d'[i]!), rfl, ⟨by have := HN.out.2; omega, Or.inr ⟨g, 0, rfl, HW1.out.pls⟩⟩, (hi_small n2).mem HM.out, Nat.le_refl _, HB1.out, Or.inr ⟨g, rfl, HG.out.1, World.block_lt_of_cell? _ _ (HW1.out 0 (by omega)).1.1⟩⟩
    · refine (compact_any g n c (fun i => d'[i]!) u1 (by omega) HG.out.2.1 (by have := HG.out.2.2.1; unfold maxLen at this; omega) HW1.out).mono ?_
      rintro e w' ⟨rfl, hP, hK⟩
      have HR : Hid (HiR f n w (.returned (.slice (some ⟨g, 0, none⟩) (cmpN (fun i => d'[i]!) n).length c)) w') := by
        refine ⟨some ⟨g, 0, none⟩, _, c, rowL (cmpN (fun i => d'[i]!) n), rfl, ⟨?_, Or.inr ⟨g, 0, rfl, hP⟩⟩, ?_, cmpN_len _ _, HB1.out.trans (hK.below HB1.out.size (fun k e => by rw [e]; exact HG.out.1)), Or.inr ⟨g, rfl, HG.out.1, Nat.lt_of_lt_of_le (World.block_lt_of_cell? _ _ (HW1.out 0 (by omega)).1.1) hK.size⟩⟩
        · have := cmpN_len (fun i => d'[i]!) n
          have := HN.out.2
          omega
        · rw [lst_row]
          exact (cmp_hi HT.out n (Nat.le_refl _)).mem HM.out
      clear hP hK HB1 HW1 HT HM HG
      go_wp2
      go_ret
      exact HR.out
end Go.Proofs.YtcofpgbaokmbmafDoor
