/- What package world answers: Answer, Under. -/
import Derived.Test.YtkmbllkkccelaahDoorWorldPkg
import Derived.Test.YtkmbllkkccelaahDoorWorldDefD
import Derived.BigQuiet
import Derived.Deep.QuietTactic
import Derived.Deep.RegionWith
import Derived.Deep.RegionLaw
import Derived.Laws.AppendOwnNone
import Derived.Maps.AppendAt
import Derived.Deep.CutRange
import Derived.Deep.CutBlock
import Derived.BigRegion
import Derived.IntWalk
namespace Go.Proofs.YtkmbllkkccelaahDoor
open Go.ChangeShapes Go.WideShapes Go.ChangeAt Go.RowKit Go.Joins
set_option linter.unusedVariables false
set_option linter.unusedSimpArgs false

section
variable {u : World} {mb cb cc : Nat} {S : Ws} {v : Value}
set_option maxRecDepth 100000 in
set_option maxHeartbeats 8000000 in
theorem an_ans (h : PW u mb cb cc S v) (hI : S.I) (l1 l2 : Int)  (l4 l5 l6 : Int)  :
    Calls Tryd.prog 11 #[.pointer (some ⟨mb, 0, none⟩), .agg #[.int .i64 l1, .int .i64 l2, .bool true, .int .i64 l4, .int .i64 l5, .int .i64 l6]] u fun o w' => o = .returned (errc 3) ∧ Below u.heap.size u w' := by
  rw [errc_not (e := 3) (by decide)]
  clear h hI
  go_enter Tryd.func11, Tryd.ntmps11
  go_wp2
  go_ret
  exact ⟨rfl, rbel_al (Below.refl _ _)⟩
set_option maxRecDepth 100000 in
set_option maxHeartbeats 8000000 in
theorem an_none1 (h : PW u mb cb cc S v) (hI : S.I) (l1 l2 : Int)  (l4 l5 l6 : Int) (h1 : ¬ S.hs l1) :
    Calls Tryd.prog 11 #[.pointer (some ⟨mb, 0, none⟩), .agg #[.int .i64 l1, .int .i64 l2, .bool false, .int .i64 l4, .int .i64 l5, .int .i64 l6]] u fun o w' => o = .returned (errc 1) ∧ Below u.heap.size u w' := by
  rw [errc_not (e := 1) (by decide)]
  have c1 : Hid (∀ W, Below u.heap.size u W → Calls Tryd.prog 24 #[.pointer (some ⟨mb, 0, none⟩), .int .i64 l1] W fun o w' => o = .returned (.bool false) ∧ w' = W) := fun W hW => iscl (h.on hW) hI l1 false (decide_eq_false (p := 0 ≤ l1 ∧ l1 < (S.n : Int)) h1).symm
  clear h hI h1
  go_enter Tryd.func11, Tryd.ntmps11
  go_wp2_with (first | (go_at_call 24; refine (c1.out _ (rbel_al (Below.refl _ _))).mono ?_; rintro o w0 ⟨rfl, hu⟩; rw [hu]; clear hu))
  go_ret
  exact ⟨rfl, rbel_al (Below.refl _ _)⟩
set_option maxRecDepth 100000 in
set_option maxHeartbeats 8000000 in
theorem an_none2 (h : PW u mb cb cc S v) (hI : S.I) (l1 l2 : Int)  (l4 l5 l6 : Int) (h1 : S.hs l1) (h2 : ¬ S.hs l2) :
    Calls Tryd.prog 11 #[.pointer (some ⟨mb, 0, none⟩), .agg #[.int .i64 l1, .int .i64 l2, .bool false, .int .i64 l4, .int .i64 l5, .int .i64 l6]] u fun o w' => o = .returned (errc 1) ∧ Below u.heap.size u w' := by
  rw [errc_not (e := 1) (by decide)]
  have c1 : Hid (∀ W, Below u.heap.size u W → Calls Tryd.prog 24 #[.pointer (some ⟨mb, 0, none⟩), .int .i64 l1] W fun o w' => o = .returned (.bool true) ∧ w' = W) := fun W hW => iscl (h.on hW) hI l1 true (decide_eq_true (p := 0 ≤ l1 ∧ l1 < (S.n : Int)) h1).symm
  have c2 : Hid (∀ W, Below u.heap.size u W → Calls Tryd.prog 24 #[.pointer (some ⟨mb, 0, none⟩), .int .i64 l2] W fun o w' => o = .returned (.bool false) ∧ w' = W) := fun W hW => iscl (h.on hW) hI l2 false (decide_eq_false (p := 0 ≤ l2 ∧ l2 < (S.n : Int)) h2).symm
  have cnt : Mark 0 := .mk _
  clear h hI h1 h2
  go_enter Tryd.func11, Tryd.ntmps11
  go_wp2_with (first | (go_at_call 24; (first | (have cm : Mark 0 := cnt; clear cm cnt; have cnt : Mark 1 := .mk _; refine (c1.out _ (rbel_al (Below.refl _ _))).mono ?_) | refine (c2.out _ (rbel_al (Below.refl _ _))).mono ?_); rintro o w0 ⟨rfl, hu⟩; rw [hu]; clear hu))
  go_ret
  exact ⟨rfl, rbel_al (Below.refl _ _)⟩
set_option maxRecDepth 100000 in
set_option maxHeartbeats 8000000 in
theorem an_full (h : PW u mb cb cc S v) (hI : S.I) (l1 l2 : Int)  (l4 l5 l6 : Int) (h1 : S.hs l1) (h2 : S.hs l2) (hl : 40 ≤ S.under.length) :
    Calls Tryd.prog 11 #[.pointer (some ⟨mb, 0, none⟩), .agg #[.int .i64 l1, .int .i64 l2, .bool false, .int .i64 l4, .int .i64 l5, .int .i64 l6]] u fun o w' => o = .returned (errc 4) ∧ Below u.heap.size u w' := by
  have c1 : Hid (∀ W, Below u.heap.size u W → Calls Tryd.prog 24 #[.pointer (some ⟨mb, 0, none⟩), .int .i64 l1] W fun o w' => o = .returned (.bool true) ∧ w' = W) := fun W hW => iscl (h.on hW) hI l1 true (decide_eq_true (p := 0 ≤ l1 ∧ l1 < (S.n : Int)) h1).symm
  have c2 : Hid (∀ W, Below u.heap.size u W → Calls Tryd.prog 24 #[.pointer (some ⟨mb, 0, none⟩), .int .i64 l2] W fun o w' => o = .returned (.bool true) ∧ w' = W) := fun W hW => iscl (h.on hW) hI l2 true (decide_eq_true (p := 0 ≤ l2 ∧ l2 < (S.n : Int)) h2).symm
  have cnt : Mark 0 := .mk _
  obtain ⟨k, rfl⟩ : ∃ k : Nat, l2 = k := ⟨l2.toNat, by have := h2.1; omega⟩
  have c3 : Hid (∀ W, Below u.heap.size u W → Calls Tryd.prog 25 #[.pointer (some ⟨mb, 0, none⟩), .int .i64 k] W fun o w' => o = .returned (.int .i64 (S.rd k)) ∧ Below W.heap.size W w') := fun W hW => shown (h.on hW) hI k (by have := h2.2; omega)
  have c4 : Hid (∀ W, Below u.heap.size u W → Calls Tryd.prog 26 #[.pointer (some ⟨mb, 0, none⟩), .agg #[.int .i64 (k : Int), .int .i64 l1, .bool true, .int .i64 l6, .int .i64 (S.rd k), .int .i64 (S.rd k)]] W fun o w' => o = .returned (errc 4) ∧ Below W.heap.size W w') := fun W hW => send_full (h.on hW) hI hl ⟨k, l1, true, l6, S.rd k, S.rd k⟩
  clear h hI h1 h2 hl
  generalize S.rd k = t at *
  go_enter Tryd.func11, Tryd.ntmps11
  go_wp2_with (first | (go_at_call 24; (first | (have cm : Mark 0 := cnt; clear cm cnt; have cnt : Mark 1 := .mk _; refine (c1.out _ (rbel_al (Below.refl _ _))).mono ?_) | refine (c2.out _ (rbel_al (Below.refl _ _))).mono ?_); rintro o w0 ⟨rfl, hu⟩; rw [hu]; clear hu) | (go_at_call 25; refine (c3.out _ (rbel_al (Below.refl _ _))).mono ?_; rintro o u1 ⟨rfl, hb⟩; have HB : Hid (Below u.heap.size u u1) := rbel_on hb (rbel_al (Below.refl _ _)); have RR : Hid (Row u1 u.heap.size [.int .i64 l1, .int .i64 (k : Int), .bool false, .int .i64 l4, .int .i64 l5, .int .i64 l6]) := Row.on hb (Row.made rfl); have z0 := RR.out.c 0 _ rfl; have z1 := RR.out.c 1 _ rfl; have z5 := RR.out.c 5 _ rfl; have zl := RR.out.lt; clear hb) | (go_at_call 26; refine (c4.out _ HB.out).mono ?_; rintro o u2 ⟨rfl, hb⟩; have HB2 : Hid (Below u.heap.size u u2) := rbel_on hb HB.out; clear hb))
  go_ret
  exact ⟨rfl, HB2.out⟩
set_option maxRecDepth 100000 in
set_option maxHeartbeats 8000000 in
theorem an_ok (h : PW u mb cb cc S v) (hI : S.I) (l1 l2 : Int)  (l4 l5 l6 : Int) (h1 : S.hs l1) (h2 : S.hs l2) (hl : S.under.length < 40) :
    Calls Tryd.prog 11 #[.pointer (some ⟨mb, 0, none⟩), .agg #[.int .i64 l1, .int .i64 l2, .bool false, .int .i64 l4, .int .i64 l5, .int .i64 l6]] u fun o w' => ∃ v', o = .returned (errc 0) ∧ Gp u w' mb cb cc v { S with under := S.under ++ [⟨l2, l1, true, l6, S.rd l2.toNat, S.rd l2.toNat⟩] } v' := by
  have c1 : Hid (∀ W, Below u.heap.size u W → Calls Tryd.prog 24 #[.pointer (some ⟨mb, 0, none⟩), .int .i64 l1] W fun o w' => o = .returned (.bool true) ∧ w' = W) := fun W hW => iscl (h.on hW) hI l1 true (decide_eq_true (p := 0 ≤ l1 ∧ l1 < (S.n : Int)) h1).symm
  have c2 : Hid (∀ W, Below u.heap.size u W → Calls Tryd.prog 24 #[.pointer (some ⟨mb, 0, none⟩), .int .i64 l2] W fun o w' => o = .returned (.bool true) ∧ w' = W) := fun W hW => iscl (h.on hW) hI l2 true (decide_eq_true (p := 0 ≤ l2 ∧ l2 < (S.n : Int)) h2).symm
  have cnt : Mark 0 := .mk _
  obtain ⟨k, rfl⟩ : ∃ k : Nat, l2 = k := ⟨l2.toNat, by have := h2.1; omega⟩
  have c3 : Hid (∀ W, Below u.heap.size u W → Calls Tryd.prog 25 #[.pointer (some ⟨mb, 0, none⟩), .int .i64 k] W fun o w' => o = .returned (.int .i64 (S.rd k)) ∧ Below W.heap.size W w') := fun W hW => shown (h.on hW) hI k (by have := h2.2; omega)
  have c4 : Hid (∀ W, Below u.heap.size u W → Calls Tryd.prog 26 #[.pointer (some ⟨mb, 0, none⟩), .agg #[.int .i64 (k : Int), .int .i64 l1, .bool true, .int .i64 l6, .int .i64 (S.rd k), .int .i64 (S.rd k)]] W fun o w' => ∃ v', o = .returned (errc 0) ∧ Gp u w' mb cb cc v { S with under := S.under ++ [⟨k, l1, true, l6, S.rd k, S.rd k⟩] } v') := fun W hW => (send_ok (h.on hW) hI hl ⟨k, l1, true, l6, S.rd k, S.rd k⟩).mono (by
    rintro o w' ⟨v', rfl, g1, g2⟩
    exact ⟨v', rfl, g1, g2.from hW⟩)
  rw [Int.toNat_natCast]
  clear h hI h1 h2 hl
  generalize S.rd k = t at *
  go_enter Tryd.func11, Tryd.ntmps11
  go_wp2_with (first | (go_at_call 24; (first | (have cm : Mark 0 := cnt; clear cm cnt; have cnt : Mark 1 := .mk _; refine (c1.out _ (rbel_al (Below.refl _ _))).mono ?_) | refine (c2.out _ (rbel_al (Below.refl _ _))).mono ?_); rintro o w0 ⟨rfl, hu⟩; rw [hu]; clear hu) | (go_at_call 25; refine (c3.out _ (rbel_al (Below.refl _ _))).mono ?_; rintro o u1 ⟨rfl, hb⟩; have HB : Hid (Below u.heap.size u u1) := rbel_on hb (rbel_al (Below.refl _ _)); have RR : Hid (Row u1 u.heap.size [.int .i64 l1, .int .i64 (k : Int), .bool false, .int .i64 l4, .int .i64 l5, .int .i64 l6]) := Row.on hb (Row.made rfl); have z0 := RR.out.c 0 _ rfl; have z1 := RR.out.c 1 _ rfl; have z5 := RR.out.c 5 _ rfl; have zl := RR.out.lt; clear hb) | (go_at_call 26; refine (c4.out _ HB.out).mono ?_; rintro o u2 ⟨v', rfl, hg⟩; have HG : Hid _ := hg; clear hg))
  go_ret
  exact ⟨v', rfl, HG.out⟩
theorem answer_any (h : PW u mb cb cc S v) (hI : S.I) (l : Lt) {S' : Ws} {e : Int} (hD : AnR S l S' e) :
    Calls Tryd.prog 11 #[.pointer (some ⟨mb, 0, none⟩), ltv l] u fun o w' => o = .returned (errc e) ∧ ∃ v', Gp u w' mb cb cc v S' v' := by
  obtain ⟨l1, l2, l3, l4, l5, l6⟩ := l
  unfold ltv
  rcases hD with ⟨a, rfl, rfl⟩ | ⟨a, c, rfl, rfl⟩ | ⟨a, c, d, rfl, rfl⟩ | ⟨a, c, d, rfl, rfl⟩
  · obtain rfl : l3 = true := a
    refine (an_ans h hI l1 l2 l4 l5 l6).mono ?_
    rintro o w' ⟨rfl, hb⟩
    exact ⟨rfl, v, .same h hb⟩
  · obtain rfl : l3 = false := a
    by_cases q : S'.hs l1
    · refine (an_none2 h hI l1 l2 l4 l5 l6 q (fun r => c ⟨q, r⟩)).mono ?_
      rintro o w' ⟨rfl, hb⟩
      exact ⟨rfl, v, .same h hb⟩
    · refine (an_none1 h hI l1 l2 l4 l5 l6 q).mono ?_
      rintro o w' ⟨rfl, hb⟩
      exact ⟨rfl, v, .same h hb⟩
  · obtain rfl : l3 = false := a
    refine (an_full h hI l1 l2 l4 l5 l6 c.1 c.2 d).mono ?_
    rintro o w' ⟨rfl, hb⟩
    exact ⟨rfl, v, .same h hb⟩
  · obtain rfl : l3 = false := a
    refine (an_ok h hI l1 l2 l4 l5 l6 c.1 c.2 d).mono ?_
    rintro o w' ⟨v', rfl, hg⟩
    exact ⟨rfl, v', hg⟩
theorem nilL (n c : Nat) (u : World) : (binOp .eql 34 (.slice none n c) (.slice none 0 0)).run Tryd.prog u = .ok (.bool true) u := by kernel_rfl
theorem someL (a : Addr) (n c : Nat) (u : World) : (binOp .eql 34 (.slice (some a) n c) (.slice none 0 0)).run Tryd.prog u = .ok (.bool false) u := by kernel_rfl
theorem lts_cells {w : World} {b off : Nat} {L : List Lt} (h : Lts w b off L) (j : Nat) (u : Value) (hj : (lcs L)[j]? = some u) : w.cell? ⟨b, off + j, none⟩ = some u := by
  have l := (List.getElem?_eq_some_iff.1 hj).1
  rw [lcs_len] at l
  have hk : j / 6 < L.length := by omega
  have e1 : L[j / 6]? = some L[j / 6] := List.getElem?_eq_getElem hk
  have hm : j % 6 < (ltc L[j / 6]).length := by show j % 6 < 6; omega
  have e2 : (ltc L[j / 6])[j % 6]? = some (ltc L[j / 6])[j % 6] := List.getElem?_eq_getElem hm
  have q := lcs_at e1 e2
  rw [show j / 6 * 6 + j % 6 = j by omega, hj] at q
  have c := h _ _ e1 _ _ e2
  rw [show off + j / 6 * 6 + j % 6 = off + j by omega] at c
  rw [c, q]
set_option maxRecDepth 100000 in
set_option maxHeartbeats 8000000 in
theorem cloneL (ad : Option Addr) (L : List Lt) (cap : Nat) (w : World) (h40 : L.length ≤ 40) (hH : WHanded w ad L) (hN : ad = none → L = []) :
    Calls Tryd.prog 22 #[.slice ad L.length cap] w fun e w' => ∃ v, e = .returned v ∧ w'.ownsRow w.heap.size 37 6 v L.length (lcs L) ∧ Below w.heap.size w w' := by
  have q1 := nilL
  have q2 := someL
  obtain ⟨i0, hi0, hz0, hz1, hz2⟩ := info_parts infoLetter
  cases ad with
  | none =>
    obtain rfl := hN rfl
    clear hH hN
    go_enter Tryd.func22, Tryd.ntmps22
    go_wp2
    go_ret
    exact ⟨_, rfl, World.ownsRow_nil _ _ _ _, Below.refl _ _⟩
  | some a =>
    have HC : Hid (∀ j u, (lcs L)[j]? = some u → (w.alloc (.cells #[] 37)).cell? (a.add j) = some u) := by
      intro j u hj
      rcases hH.2 with e | ⟨b, off, e, hP⟩
      · subst e
        simp [lcs] at hj
      · obtain rfl := Option.some.inj e
        rw [Addr.add_lit]
        have c := lts_cells hP j u hj
        rw [(rbel_al (Below.refl w.heap.size w)).cell (p := ⟨b, off + j, none⟩) (World.block_lt_of_cell? _ _ c)]
        exact c
    have HL : Hid ((lcs L).length = L.length * 6) := lcs_len L
    have H1 : Hid (∀ u ∈ lcs L, u.oneCell' = true) := lcs_one L
    clear hH hN
    generalize lcs L = news at *
    generalize L.length = n at *
    go_enter Tryd.func22, Tryd.ntmps22
    go_wp2_with (at_builtin; refine wpList_append_own _ rfl _ _ 34 rfl w.heap.size 37 i0 (.agg #[.int .i64 0, .int .i64 0, .bool false, .int .i64 0, .int .i64 0, .int .i64 0]) 6 48 Tryd.underlying34 hi0 hz0 hz1 hz2 rfl (by decide) _ 0 [] rfl (own_empty_clk w 37 6 w.heap.size (Nat.le_refl _)) a n cap news rfl HL.out HC.out H1.out (by unfold maxLen; omega) (by omega) (by simp) ?_)
    intro v' w1 hown' hgrow _
    have HO : Hid (w1.ownsRow w.heap.size 37 6 v' n news) := by
      show w1.ownsRow w.heap.size 37 6 v' n news
      simpa using hown'
    have hw1 : Hid (Below w.heap.size w w1) := (rbel_al (Below.refl _ _)).grown hgrow (by simp) (fun j hj => ((own_empty_clk w 37 6 w.heap.size (Nat.le_refl _)).lt j hj).1)
    clear hown' hgrow HC HL H1
    go_wp2
    go_ret
    exact ⟨_, rfl, HO.out, hw1.out⟩
set_option maxRecDepth 100000 in
set_option maxHeartbeats 8000000 in
theorem wunder_any (h : PW u mb cb cc S v) (hI : S.I) :
    Calls Tryd.prog 8 #[.pointer (some ⟨mb, 0, none⟩)] u fun o w' => ∃ (la : Option Addr) (cap : Nat), o = .returned (.slice la S.under.length cap) ∧ WHanded w' la S.under ∧ Below u.heap.size u w' := by
  obtain ⟨a, cap, rfl, hH, hN⟩ := h.hand hI
  have cC := cloneL a S.under cap u hI.un hH hN
  have c2 := h.r.c 2 _ rfl
  have l0 := h.r.lt
  have un := hI.un
  clear h hI hH hN
  go_enter Tryd.func8, Tryd.ntmps8
  go_wp2_with (go_at_call 22; refine cC.mono ?_; rintro o u1 ⟨v, rfl, ho, hb⟩; have HO : Hid (u1.ownsRow u.heap.size 37 6 v S.under.length (lcs S.under)) := ho; have HB : Hid (Below u.heap.size u u1) := hb; clear ho hb)
  go_ret
  rcases HO.out.2 with ⟨rfl, l⟩ | ⟨g, cp, cur, rfl, hb, hg, _⟩
  · exact ⟨none, 0, by rw [l]; rfl, ⟨by omega, Or.inl (List.eq_nil_of_length_eq_zero l)⟩, HB.out⟩
  · refine ⟨_, cp, rfl, ⟨by omega, Or.inr ⟨g, 0, rfl, fun i q hq j x hx => ?_⟩⟩, HB.out⟩
    have := HO.out.cells (g := g) rfl (i * 6 + j) x (lcs_at hq hx)
    rw [Addr.add_lit] at this
    rw [show 0 + i * 6 + j = 0 + (i * 6 + j) by omega]
    exact this
end
/-- Package world, whole. -/
def wpd (w : World) : WpD w where
  toWp := wp w
  answer := fun b F S S' l e u h hI h1 h2 hD => by
    obtain ⟨cb, cc, v, hP, rfl⟩ := h
    refine (answer_any hP hI l hD).mono ?_
    rintro o w' ⟨rfl, v', g1, g2⟩
    obtain ⟨F', hk, rfl, hK, hF⟩ := Wkp.of (S := S) (cc := cc) g1 g2
    exact ⟨_, rfl, hk, hK, hF⟩
  way := fun b F S u h hI => by
    obtain ⟨cb, cc, v, hP, rfl⟩ := h
    exact wunder_any hP hI
end Go.Proofs.YtkmbllkkccelaahDoor
