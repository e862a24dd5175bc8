/- What package world answers: sent. What package world answers: New. -/
import Derived.Test.YtigcliepeapcpajGreatDoorWorldPkgA
import Derived.BigQuiet
import Derived.Deep.QuietTactic
import Derived.Deep.RegionWith
import Derived.Deep.RegionLaw
import Derived.Laws.AppendOwnNone
import Derived.Maps.AppendAt
import Derived.Deep.CutRange
import Derived.Deep.CutBlock
import Derived.BigRegion
import Derived.IntWalk
namespace Go.Proofs.YtigcliepeapcpajGreatDoor
open Go.ChangeShapes Go.WideShapes Go.ChangeAt Go.RowKit Go.Joins
set_option linter.unusedVariables false
set_option linter.unusedSimpArgs false

section
variable {u : World} {mb cb cc : Nat} {S : Ws} {v : Value}
theorem KpW.from {W w' : World} {v' : Value} (h : KpW W w' mb cb v v') (hW : Below u.heap.size u W) : KpW u w' mb cb v v' :=
  ⟨(Keeps.of hW).trans h.1, fun g hg => (h.2 g hg).imp id (fun q => Nat.le_trans hW.size q)⟩
/-- A letter more, behind all. -/
theorem PW.more {W w1 : World} {v' : Value} {l : Lt} (h : PW u mb cb cc S v) (hW : Below u.heap.size u W) (ho : w1.ownsRow 0 81 6 v' (S.under.length + 1) (lcs S.under ++ ltc l)) (hg : W.grownBy w1 v.ownBlock) (ha : v'.ownBlock = v.ownBlock ∨ v'.ownBlock = some W.heap.size) :
    PW (w1.setCell ⟨mb, 2, none⟩ v') mb cb cc { S with under := S.under ++ [l] } v' ∧ KpW u (w1.setCell ⟨mb, 2, none⟩ v') mb cb v v' := by
  have kg : Keeps (fun k => v.ownBlock = some k) W w1 := ⟨hg.os, hg.tape, hg.output, hg.size, fun k hk hn => hg.block k hk (fun e => hn e.symm)⟩
  refine PW.turn h ((Keeps.of hW).trans kg) (m := S.under.length + 1) (l := S.under ++ [l]) ?_ (by simp) (fun g hg => ?_)
  · rw [lcs_app]
    simpa [lcs] using ho
  · rcases ha with e | e
    · exact Or.inl (e.symm.trans hg)
    · rw [e] at hg; injection hg with hg; exact Or.inr (by have := hW.size; omega)
set_option maxRecDepth 100000 in
set_option maxHeartbeats 8000000 in
theorem send_full (h : PW u mb cb cc S v) (hI : S.I) (hl : 40 ≤ S.under.length) (l : Lt) :
    Calls Tryz.prog 68 #[.pointer (some ⟨mb, 0, none⟩), ltv l] u fun o w' => o = .returned (errc 4) ∧ Below u.heap.size u w' := by
  obtain ⟨va, vcap, rfl, hform⟩ := h.len
  have c2 := h.r.c 2 _ rfl
  have l0 := h.r.lt
  have lu := hI.un
  have d1 : (40 : Int) ≤ (S.under.length : Int) := by omega
  rw [errc_not (e := 4) (by decide)]
  obtain ⟨l1, l2, l3, l4, l5, l6⟩ := l
  unfold ltv
  clear h hI hform
  go_enter Tryz.func68, Tryz.ntmps68
  go_wp2
  go_ret
  exact ⟨rfl, rbel_al (Below.refl _ _)⟩
set_option maxRecDepth 100000 in
set_option maxHeartbeats 8000000 in
theorem send_ok (h : PW u mb cb cc S v) (hI : S.I) (hl : S.under.length < 40) (l : Lt) :
    Calls Tryz.prog 68 #[.pointer (some ⟨mb, 0, none⟩), ltv l] u fun o w' => ∃ v', o = .returned (errc 0) ∧ PW w' mb cb cc { S with under := S.under ++ [l] } v' ∧ KpW u w' mb cb v v' := by
  obtain ⟨va, vcap, rfl, hform⟩ := h.len
  obtain ⟨i0, hi0, hz0, hz1, hz2⟩ := info_parts infoLetter
  have HP : Hid (PW u mb cb cc S (.slice va S.under.length vcap)) := h
  have d1 : ¬ ((40 : Int) ≤ (S.under.length : Int)) := by omega
  have d2 : decide ((40 : Int) ≤ (S.under.length : Int)) = false := decide_eq_false d1
  rw [errc_zero]
  obtain ⟨l1, l2, l3, l4, l5, l6⟩ := l
  unfold ltv
  have l0 := h.r.lt
  have c2 := h.r.c 2 _ rfl
  clear h hI hform
  go_enter Tryz.func68, Tryz.ntmps68
  go_wp2
  have BW : Hid (Below u.heap.size u (u.alloc (Obj.cells #[.int .i64 l1, .int .i64 l2, .bool l3, .int .i64 l4, .int .i64 l5, .int .i64 l6] 81))) := rbel_al (Below.refl _ _)
  have RB : Hid (Row (u.alloc (Obj.cells #[.int .i64 l1, .int .i64 l2, .bool l3, .int .i64 l4, .int .i64 l5, .int .i64 l6] 81)) u.heap.size [.int .i64 l1, .int .i64 l2, .bool l3, .int .i64 l4, .int .i64 l5, .int .i64 l6]) := Row.made rfl
  generalize u.alloc (Obj.cells #[.int .i64 l1, .int .i64 l2, .bool l3, .int .i64 l4, .int .i64 l5, .int .i64 l6] 81) = W at *
  have HW : Hid (PW W mb cb cc S (.slice va S.under.length vcap)) := PW.on BW.out HP.out
  have sw : u.heap.size < W.heap.size := RB.out.lt
  have mw : mb < W.heap.size := by omega
  clear c2
  have e2 := HW.out.r.c 2 _ rfl
  have g2 := HW.out.r.f 2 _ rfl
  have z0 := RB.out.c 0 _ rfl
  have z1 := RB.out.c 1 _ rfl
  have z2 := RB.out.c 2 _ rfl
  have z3 := RB.out.c 3 _ rfl
  have z4 := RB.out.c 4 _ rfl
  have z5 := RB.out.c 5 _ rfl
  go_region_law (refine step_append_at rfl (.tmp 16) (.tmp 18) 106 rfl 0 81 i0 (.agg #[.int .i64 0, .int .i64 0, .bool false, .int .i64 0, .int .i64 0, .int .i64 0]) 6 48 Tryz.underlying106 hi0 hz0 hz1 hz2 rfl (by decide) (.slice va S.under.length vcap) S.under.length _ (by simp [Act.eval, Act.put]) (HW.out.o.alloc _) ⟨W.heap.size, 0, none⟩ 1 1 [.int .i64 l1, .int .i64 l2, .bool l3, .int .i64 l4, .int .i64 l5, .int .i64 l6] (by simp [Act.eval, Act.put]) rfl (fun j q hj => by rw [Addr.add_lit]; exact (Row.made (W := W) (vs := [.int .i64 l1, .int .i64 l2, .bool l3, .int .i64 l4, .int .i64 l5, .int .i64 l6]) rfl).c _ _ (by simpa using hj)) (ltc_one ⟨l1, l2, l3, l4, l5, l6⟩) (by unfold maxLen; omega) (by omega) (Nat.zero_le _) ?_; intro v' w1 hown1 hgrow1 hat1; obtain ⟨va', vc', rfl⟩ := own_slice hown1; have mr1 : Row w1 mb [.slice (some ⟨cb, 0, none⟩) S.n cc, .int .i64 S.time, .slice va S.under.length vcap] := (by first | exact row_grown hgrow1 (by simp; omega) HW.out.ne (Row.al HW.out.r) | exact row_grown hgrow1 (by simp; omega) HW.out.ne (Row.dr (Row.al HW.out.r))); have m2 := mr1.c 2 _ rfl; have q2 := mr1.f 2 _ rfl; have lw1 := mr1.lt; have HO1 : Hid _ := hown1; have HG1 : Hid _ := hgrow1; have HA1 : Hid _ := hat1; clear mr1 hown1 hgrow1 hat1)
  all_goals
    have G : Hid (PW (w1.setCell ⟨mb, 2, none⟩ (.slice va' (S.under.length + 1) vc')) mb cb cc { S with under := S.under ++ [⟨l1, l2, l3, l4, l5, l6⟩] } (.slice va' (S.under.length + 1) vc') ∧ KpW u (w1.setCell ⟨mb, 2, none⟩ (.slice va' (S.under.length + 1) vc')) mb cb (.slice va S.under.length vcap) (.slice va' (S.under.length + 1) vc')) := PW.more HP.out (by first | exact rbel_al BW.out | exact rbel_dr (rbel_al BW.out) | exact rbel_al (rbel_dr BW.out)) HO1.out HG1.out HA1.out
    clear HO1 HG1 HA1
    go_wp2
    go_ret
    exact ⟨_, rfl, G.out.1, G.out.2⟩
set_option maxRecDepth 100000 in
set_option maxHeartbeats 8000000 in
theorem wask_none1 (h : PW u mb cb cc S v) (hI : S.I) (a b : Int) (ha : ¬ S.hs a) :
    Calls Tryz.prog 43 #[.pointer (some ⟨mb, 0, none⟩), .int .i64 a, .int .i64 b] u fun o w' => o = .returned (errc 1) ∧ w' = u := by
  rw [errc_not (e := 1) (by decide)]
  have c1 := iscl h hI a false (decide_eq_false (p := 0 ≤ a ∧ a < (S.n : Int)) ha).symm
  clear h hI ha
  go_enter Tryz.func43, Tryz.ntmps43
  go_wp2_with (first | (go_at_call 48; refine c1.mono ?_; rintro o w0 ⟨rfl, hu⟩; rw [hu]; clear hu))
  go_ret
  exact ⟨rfl, rfl⟩
set_option maxRecDepth 100000 in
set_option maxHeartbeats 8000000 in
theorem wask_none2 (h : PW u mb cb cc S v) (hI : S.I) (a b : Int) (ha : S.hs a) (hb : ¬ S.hs b) :
    Calls Tryz.prog 43 #[.pointer (some ⟨mb, 0, none⟩), .int .i64 a, .int .i64 b] u fun o w' => o = .returned (errc 1) ∧ w' = u := by
  rw [errc_not (e := 1) (by decide)]
  have c1 := iscl h hI a true (decide_eq_true (p := 0 ≤ a ∧ a < (S.n : Int)) ha).symm
  have c2 := iscl h hI b false (decide_eq_false (p := 0 ≤ b ∧ b < (S.n : Int)) hb).symm
  have cnt : Mark 0 := .mk _
  clear h hI ha hb
  go_enter Tryz.func43, Tryz.ntmps43
  go_wp2_with (first | (go_at_call 48; (first | (have cm : Mark 0 := cnt; clear cm cnt; have cnt : Mark 1 := .mk _; refine c1.mono ?_) | refine c2.mono ?_); rintro o w0 ⟨rfl, hu⟩; rw [hu]; clear hu))
  go_ret
  exact ⟨rfl, rfl⟩
set_option maxRecDepth 100000 in
set_option maxHeartbeats 8000000 in
theorem wask_self (h : PW u mb cb cc S v) (hI : S.I) (a b : Int) (ha : S.hs a) (hb : S.hs b) (e : a = b) :
    Calls Tryz.prog 43 #[.pointer (some ⟨mb, 0, none⟩), .int .i64 a, .int .i64 b] u fun o w' => o = .returned (errc 3) ∧ w' = u := by
  rw [errc_not (e := 3) (by decide)]
  have c1 := iscl h hI a true (decide_eq_true (p := 0 ≤ a ∧ a < (S.n : Int)) ha).symm
  have c2 := iscl h hI b true (decide_eq_true (p := 0 ≤ b ∧ b < (S.n : Int)) hb).symm
  have cnt : Mark 0 := .mk _
  clear h hI ha hb
  subst e
  have e1 : (a == a) = true := by simp
  go_enter Tryz.func43, Tryz.ntmps43
  go_wp2_with (first | (go_at_call 48; (first | (have cm : Mark 0 := cnt; clear cm cnt; have cnt : Mark 1 := .mk _; refine c1.mono ?_) | refine c2.mono ?_); rintro o w0 ⟨rfl, hu⟩; rw [hu]; clear hu))
  go_ret
  exact ⟨rfl, rfl⟩
set_option maxRecDepth 100000 in
set_option maxHeartbeats 8000000 in
theorem wask_full (h : PW u mb cb cc S v) (hI : S.I) (a b : Int) (ha : S.hs a) (hb : S.hs b) (e : a ≠ b) (hl : 40 ≤ S.under.length) :
    Calls Tryz.prog 43 #[.pointer (some ⟨mb, 0, none⟩), .int .i64 a, .int .i64 b] u fun o w' => o = .returned (errc 4) ∧ Below u.heap.size u w' := by
  have c1 := iscl h hI a true (decide_eq_true (p := 0 ≤ a ∧ a < (S.n : Int)) ha).symm
  have c2 := iscl h hI b true (decide_eq_true (p := 0 ≤ b ∧ b < (S.n : Int)) hb).symm
  have cnt : Mark 0 := .mk _
  obtain ⟨k, rfl⟩ : ∃ k : Nat, a = k := ⟨a.toNat, by have := ha.1; omega⟩
  have c3 := shown h hI k (by have := ha.2; omega)
  skip
  have e1 : ((k : Int) == b) = false := by simpa using e
  have HS : Hid (∀ W, Below u.heap.size u W → Calls Tryz.prog 68 #[.pointer (some ⟨mb, 0, none⟩), .agg #[.int .i64 (k : Int), .int .i64 b, .bool false, .int .i64 0, .int .i64 0, .int .i64 (S.rd k)]] W fun o w' => o = .returned (errc 4) ∧ Below W.heap.size W w') := fun W hW => send_full (h.on hW) hI hl ⟨k, b, false, 0, 0, S.rd k⟩
  clear h hI ha hb hl
  generalize S.rd k = t at *
  go_enter Tryz.func43, Tryz.ntmps43
  go_wp2_with (first | (go_at_call 48; (first | (have cm : Mark 0 := cnt; clear cm cnt; have cnt : Mark 1 := .mk _; refine c1.mono ?_) | refine c2.mono ?_); rintro o w0 ⟨rfl, hu⟩; rw [hu]; clear hu) | (go_at_call 49; refine c3.mono ?_; rintro o u1 ⟨rfl, hb⟩; have HB : Hid (Below u.heap.size u u1) := hb; clear hb) | (go_at_call 68; refine (HS.out _ HB.out).mono ?_; rintro o u2 ⟨rfl, hb⟩; have HB2 : Hid (Below u.heap.size u u2) := rbel_on hb HB.out; clear hb))
  go_ret
  exact ⟨rfl, HB2.out⟩
set_option maxRecDepth 100000 in
set_option maxHeartbeats 8000000 in
theorem wask_ok (h : PW u mb cb cc S v) (hI : S.I) (a b : Int) (ha : S.hs a) (hb : S.hs b) (e : a ≠ b) (hl : S.under.length < 40) :
    Calls Tryz.prog 43 #[.pointer (some ⟨mb, 0, none⟩), .int .i64 a, .int .i64 b] u fun o w' => ∃ v', o = .returned (errc 0) ∧ PW w' mb cb cc { S with under := S.under ++ [⟨a, b, false, 0, 0, S.rd a.toNat⟩] } v' ∧ KpW u w' mb cb v v' := by
  have c1 := iscl h hI a true (decide_eq_true (p := 0 ≤ a ∧ a < (S.n : Int)) ha).symm
  have c2 := iscl h hI b true (decide_eq_true (p := 0 ≤ b ∧ b < (S.n : Int)) hb).symm
  have cnt : Mark 0 := .mk _
  obtain ⟨k, rfl⟩ : ∃ k : Nat, a = k := ⟨a.toNat, by have := ha.1; omega⟩
  have c3 := shown h hI k (by have := ha.2; omega)
  rw [show (k : Int).toNat = k by omega]
  have e1 : ((k : Int) == b) = false := by simpa using e
  have HS : Hid (∀ W, Below u.heap.size u W → Calls Tryz.prog 68 #[.pointer (some ⟨mb, 0, none⟩), .agg #[.int .i64 (k : Int), .int .i64 b, .bool false, .int .i64 0, .int .i64 0, .int .i64 (S.rd k)]] W fun o w' => ∃ v', o = .returned (errc 0) ∧ PW w' mb cb cc { S with under := S.under ++ [⟨k, b, false, 0, 0, S.rd k⟩] } v' ∧ KpW u w' mb cb v v') := fun W hW => (send_ok (h.on hW) hI hl ⟨k, b, false, 0, 0, S.rd k⟩).mono (by
    rintro o w' ⟨v', rfl, g1, g2⟩
    exact ⟨v', rfl, g1, g2.from hW⟩)
  clear h hI ha hb hl
  generalize S.rd k = t at *
  go_enter Tryz.func43, Tryz.ntmps43
  go_wp2_with (first | (go_at_call 48; (first | (have cm : Mark 0 := cnt; clear cm cnt; have cnt : Mark 1 := .mk _; refine c1.mono ?_) | refine c2.mono ?_); rintro o w0 ⟨rfl, hu⟩; rw [hu]; clear hu) | (go_at_call 49; refine c3.mono ?_; rintro o u1 ⟨rfl, hb⟩; have HB : Hid (Below u.heap.size u u1) := hb; clear hb) | (go_at_call 68; refine (HS.out _ HB.out).mono ?_; rintro o u2 ⟨v', rfl, g1, g2⟩; have G1 : Hid _ := g1; have G2 : Hid (KpW u u2 mb cb v v') := g2; clear g1 g2))
  go_ret
  exact ⟨v', rfl, G1.out, G2.out⟩
end
end Go.Proofs.YtigcliepeapcpajGreatDoor
namespace Go.Proofs.YtigcliepeapcpajGreatDoor
open Go.ChangeShapes Go.WideShapes Go.ChangeAt Go.RowKit Go.Joins
set_option linter.unusedVariables false
set_option linter.unusedSimpArgs false

theorem infoClock : (Tryz.prog.info? 105).map (fun i => (i.zero, i.size, i.bytes)) = some (some (.agg #[.int .i64 0, .int .i64 0]), 2, 16) := by kernel_rfl
/-- Clocks' cells. -/
def ccs (z r : Nat → Int) : Nat → List Value
  | 0 => []
  | i + 1 => ccs z r i ++ [.int .i64 (z i), .int .i64 (r i)]
theorem ccs_len (z r : Nat → Int) (n : Nat) : (ccs z r n).length = n * 2 := by
  induction n with
  | zero => rfl
  | succ n ih => show (ccs z r n ++ _).length = _; rw [List.length_append, ih]; show n * 2 + 2 = _; omega
theorem ccs_at (z r : Nat → Int) {n i : Nat} (h : i < n) : (ccs z r n)[i * 2]? = some (.int .i64 (z i)) ∧ (ccs z r n)[i * 2 + 1]? = some (.int .i64 (r i)) := by
  induction n with
  | zero => omega
  | succ n ih =>
    have l := ccs_len z r n
    by_cases e : i = n
    · subst e
      show (ccs z r i ++ _)[i * 2]? = _ ∧ (ccs z r i ++ _)[i * 2 + 1]? = _
      rw [List.getElem?_append_right (by omega), List.getElem?_append_right (by omega), l, show i * 2 - i * 2 = 0 by omega, show i * 2 + 1 - i * 2 = 1 by omega]
      exact ⟨rfl, rfl⟩
    · obtain ⟨a, b⟩ := ih (by omega)
      show (ccs z r n ++ _)[i * 2]? = _ ∧ (ccs z r n ++ _)[i * 2 + 1]? = _
      rw [List.getElem?_append_left (by omega), List.getElem?_append_left (by omega)]
      exact ⟨a, b⟩
theorem own_clocks {w : World} {base n : Nat} {v : Value} {z r : Nat → Int} {e : TypeId} (h : w.ownsRow base e 2 v n (ccs z r n)) (hn : 1 ≤ n) : ∃ g c, v = .slice (some ⟨g, 0, none⟩) n c ∧ Cls w g n z r ∧ base ≤ g ∧ g < w.heap.size := by
  rcases h.2 with ⟨_, e⟩ | ⟨g, cap, cur, rfl, hb, hg, _⟩
  · omega
  · refine ⟨g, cap, rfl, fun i hi => ?_, hb, (h.lt g rfl).2⟩
    obtain ⟨a, b⟩ := ccs_at z r hi
    have q1 := h.cells (g := g) rfl _ _ a
    have q2 := h.cells (g := g) rfl _ _ b
    rw [Addr.add_lit, Nat.zero_add] at q1 q2
    exact ⟨q1, q2⟩
theorem own_empty_clk (w : World) (e : TypeId) (size base : Nat) (h : base ≤ w.heap.size) : (w.alloc (.cells #[] e)).ownsRow base e size (.slice (some ⟨w.heap.size, 0, none⟩) 0 0) 0 [] := by
  refine ⟨by simp, Or.inr ⟨w.heap.size, 0, #[], rfl, h, ?_, Nat.le_refl _, Nat.zero_le _, by simp, by simp⟩⟩
  show (w.heap.push _)[w.heap.size]? = _
  simp
theorem beE_one {n m : Nat} {z r : Nat → Int} {p e e' : Int} (h : BeE n z m r p e) (h' : BeE n z m r p e') : e = e' := by
  unfold BeE at h h'
  rcases h with ⟨a, rfl⟩ | ⟨a, b, rfl⟩ | ⟨a, b, ⟨i, hi, c⟩, rfl⟩ | ⟨a, b, c, rfl⟩ <;> rcases h' with ⟨a', rfl⟩ | ⟨a', b', rfl⟩ | ⟨a', b', ⟨i', hi', c'⟩, rfl⟩ | ⟨a', b', c', rfl⟩ <;> first | rfl | omega | (have := c i' hi'; omega) | (have := c' i hi; omega)
/-- What New answers. -/
def WnR (n m : Nat) (z r : Nat → Int) (p : Int) (w : World) (o : Ending) (w' : World) : Prop := ∃ e pv, BeE n z m r p e ∧ o = .returned (.tuple #[pv, errc e]) ∧ Below w.heap.size w w' ∧ (e = 0 → ∃ b cb cc, pv = .pointer (some ⟨b, 0, none⟩) ∧ PW w' b cb cc (ws0 n z r) (.slice none 0 0) ∧ w.heap.size ≤ b ∧ w.heap.size ≤ cb)
theorem wnR_bad {n m : Nat} {z r : Nat → Int} {p e : Int} {w w' : World} (h : BeE n z m r p e) (he : e ≠ 0) (hb : Below w.heap.size w w') : WnR n m z r p w (.returned (.tuple #[.pointer none, .iface 71 (.int .i64 e)])) w' :=
  ⟨e, _, h, by rw [errc_not he], hb, fun q => absurd q he⟩
theorem pw_made {n m cb cc : Nat} {z r : Nat → Int} {p : Int} {w W : World} {t : TypeId} (h : BeE n z m r p 0) (hc : Cls W cb n z r) (hl : w.heap.size ≤ cb) (hlt : cb < W.heap.size) (hb : Below w.heap.size w W) : WnR n m z r p w (.returned (.tuple #[.pointer (some ⟨W.heap.size, 0, none⟩), .nilIface])) (W.alloc (.cells #[.slice (some ⟨cb, 0, none⟩) n cc, .int .i64 0, .slice none 0 0] t)) := by
  refine ⟨0, _, h, by rw [errc_zero], rbel_al hb, fun _ => ⟨W.heap.size, cb, cc, rfl, ⟨Row.made rfl, fun i hi => ?_, by simp; omega, World.ownsRow_nil _ _ _ _, by omega, fun q => (by cases q), fun q => (by cases q)⟩, hb.size, hl⟩⟩
  obtain ⟨a, b⟩ := hc i hi
  exact ⟨by rw [World.cell?_alloc_lt _ _ _ hlt]; exact a, by rw [World.cell?_alloc_lt _ _ _ hlt]; exact b⟩
set_option maxRecDepth 100000 in
set_option maxHeartbeats 8000000 in
theorem wnew_any (sa : Option Addr) (n sc : Nat) (z : Nat → Int) (ra : Option Addr) (m rc : Nat) (r : Nat → Int) (p : Int) (w : World) (hS : NHanded w sa n z) (hR : NHanded w ra m r) :
    Calls Tryz.prog 20 #[.slice sa n sc, .slice ra m rc, .int .i64 p] w fun o w' => WnR n m z r p w o w' := by
  have HS : Hid (NHanded w sa n z) := hS
  have HR : Hid (NHanded w ra m r) := hR
  have hn := hS.1
  have hm := hR.1
  clear hS hR
  by_cases h : 0 ≤ p ∧ p ≤ 1000 ∧ 1 ≤ n ∧ n ≤ 6
  case neg =>
    have HB : Hid (BeE n z m r p 1) := Or.inl ⟨by omega, rfl⟩
    have hc : (p < 0) ∨ (¬ p < 0 ∧ 1000 < p) ∨ (¬ p < 0 ∧ ¬ 1000 < p ∧ (n : Int) < 1) ∨ (¬ p < 0 ∧ ¬ 1000 < p ∧ ¬ (n : Int) < 1 ∧ 6 < (n : Int)) := by omega
    clear h
    rcases hc with a | ⟨a, b⟩ | ⟨a, b, c⟩ | ⟨a, b, c, d⟩
    all_goals
      go_enter Tryz.func20, Tryz.ntmps20
      go_wp2
      go_ret2
      exact wnR_bad HB.out (by decide) (Below.refl _ _)
  have H : Hid (0 ≤ p ∧ p ≤ 1000 ∧ 1 ≤ n ∧ n ≤ 6) := h
  have a : ¬ p < 0 := by omega
  have b : ¬ 1000 < p := by omega
  have c : ¬ (n : Int) < 1 := by omega
  have d : ¬ 6 < (n : Int) := by omega
  by_cases hmn : m = n
  case neg =>
    have e1 : ((m : Int) == n) = false := by simp; omega
    have e2 : ¬ ((m : Int) = n) := by omega
    have HB : Hid (BeE n z m r p 3) := Or.inr (Or.inl ⟨h, hmn, rfl⟩)
    clear h
    go_enter Tryz.func20, Tryz.ntmps20
    go_wp2
    go_ret2
    exact wnR_bad HB.out (by decide) (Below.refl _ _)
  subst hmn
  have HP : Hid (IntKind.i64.wrap (-p) = -p) := IntWalk.i64_in _ (by omega)
  obtain ⟨i0, hi0, hz0, hz1, hz2⟩ := info_parts infoClock
  have HN1 : Hid ((w.alloc (.cells #[] 105)).ownsRow w.heap.size 105 2 (.slice (some ⟨w.heap.size, 0, none⟩) 0 0) 0 []) := own_empty_clk w 105 2 w.heap.size (Nat.le_refl _)
  have HB1 : Hid (Below w.heap.size w (w.alloc (.cells #[] 105))) := rbel_al (Below.refl _ _)
  have hm6 : m ≤ 6 := h.2.2.2
  clear h
  go_enter Tryz.func20, Tryz.ntmps20
  go_wp2
  go_loopw [8, 37] (fun v vi wr => ∃ i : Nat, i ≤ m ∧ vi = .int .i64 i ∧ (∀ j, j < i → 0 ≤ z j ∧ z j ≤ 1000000 ∧ -p ≤ r j ∧ r j ≤ p) ∧ wr.ownsRow w.heap.size 105 2 v i (ccs z r i) ∧ Below w.heap.size w wr) (fun _ i _ => m - (intOf i).toNat)
  case atStart => exact ⟨0, Nat.zero_le _, rfl, fun j hj => by omega, HN1.out, HB1.out⟩
  case round =>
    clear HN1 HB1
    obtain ⟨i, hi, rfl, hok, hown, hw⟩ := hrel
    have HW : Hid (Below w.heap.size w wr) := hw
    have HO : Hid (∀ j, j < i → 0 ≤ z j ∧ z j ≤ 1000000 ∧ -p ≤ r j ∧ r j ≤ p) := hok
    have HN : Hid (wr.ownsRow w.heap.size 105 2 u8 i (ccs z r i)) := hown
    clear hok
    by_cases hlt : i < m
    · have hl : (i : Int) < m := by omega
      obtain ⟨b1, o1, rfl, hP1⟩ : ∃ b off : Nat, sa = some ⟨b, off, none⟩ ∧ Nrd w b off m z := by
        rcases HS.out.2 with e | h
        · omega
        · exact h
      obtain ⟨b2, o2, rfl, hP2⟩ : ∃ b off : Nat, ra = some ⟨b, off, none⟩ ∧ Nrd w b off m r := by
        rcases HR.out.2 with e | h
        · omega
        · exact h
      have x1 := (hP1.on hw) i hlt
      have x2 := (hP2.on hw) i hlt
      have l1 := World.block_lt_of_cell? _ _ x1
      have l2 := World.block_lt_of_cell? _ _ x2
      have wp := HP.out
      by_cases hz : 0 ≤ z i ∧ z i ≤ 1000000 ∧ -p ≤ r i ∧ r i ≤ p
      · have HZ : Hid (0 ≤ z i ∧ z i ≤ 1000000 ∧ -p ≤ r i ∧ r i ≤ p) := hz
        have d1 : decide (z i < 0) = false := decide_eq_false (by omega)
        have d2 : decide (1000000 < z i) = false := decide_eq_false (by omega)
        have d3 : decide (r i < -p) = false := decide_eq_false (by omega)
        have d4 : decide (p < r i) = false := decide_eq_false (by omega)
        have HIc : Hid (ccs z r (i + 1) = ccs z r i ++ [.int .i64 (z i), .int .i64 (r i)]) := rfl
        have HBk : Hid (∀ j, u8.ownBlock = some j → w.heap.size ≤ j) := fun j hj => (HN.out.lt j hj).1
        have szw := hw.size
        clear hz hw hP1 hP2 HS HR hown
        generalize hzi : z i = zi at *
        generalize hri : r i = ri at *
        generalize ccs z r i = xs at *
        go_wp2_with (at_builtin; refine wpList_append_own _ rfl _ _ 103 rfl w.heap.size 105 i0 (.agg #[.int .i64 0, .int .i64 0]) 2 16 Tryz.underlying103 hi0 hz0 hz1 hz2 rfl (by decide) _ _ _ rfl (HN.out.alloc _) ⟨wr.heap.size, 0, none⟩ 1 1 [.int .i64 zi, .int .i64 ri] rfl rfl (fun j u hj => by rw [Addr.add_lit]; exact (Row.made (W := wr) (vs := [.int .i64 zi, .int .i64 ri]) rfl).c _ _ (by simpa using hj)) (fun u hu => by simp at hu; rcases hu with rfl | rfl <;> rfl) (by unfold maxLen; omega) (by omega) (by simp; omega) ?_)
        intro v' w1 hown' hgrow _
        have HO1 : Hid (w1.ownsRow w.heap.size 105 2 v' (i + 1) (ccs z r (i + 1))) := by
          show w1.ownsRow w.heap.size 105 2 v' (i + 1) (ccs z r (i + 1))
          rw [HIc.out]
          exact hown'
        have HW1 : Hid (Below w.heap.size w w1) := (rbel_al HW.out).grown hgrow (by simp; omega) (fun j hj => HBk.out j hj)
        clear hown' hgrow HN HBk HIc HW
        go_wp2
        go_roundw
        case rel => exact ⟨i + 1, by omega, by go_num, fun j hj => by
          by_cases e : j = i
          · subst e; rw [hzi, hri]; exact HZ.out
          · exact HO.out j (by omega), HO1.out, HW1.out⟩
        case measure => simp [intOf]; omega
      · have HB : Hid (BeE m z m r p 1) := Or.inr (Or.inr (Or.inl ⟨H.out, rfl, ⟨i, hlt, by omega⟩, rfl⟩))
        have hc : (z i < 0) ∨ (¬ z i < 0 ∧ 1000000 < z i) ∨ (¬ z i < 0 ∧ ¬ 1000000 < z i ∧ r i < -p) ∨ (¬ z i < 0 ∧ ¬ 1000000 < z i ∧ ¬ r i < -p ∧ p < r i) := by omega
        clear hz hw hP1 hP2 HS HR hown HN
        rcases hc with a | ⟨a, b⟩ | ⟨a, b, c⟩ | ⟨a, b, c, d⟩
        · have d1 : decide (z i < 0) = true := decide_eq_true a
          go_wp2
          go_ret2
          exact wnR_bad HB.out (by decide) HW.out
        · have d1 : decide (z i < 0) = false := decide_eq_false a
          have d2 : decide (1000000 < z i) = true := decide_eq_true b
          go_wp2
          go_ret2
          exact wnR_bad HB.out (by decide) HW.out
        · have d1 : decide (z i < 0) = false := decide_eq_false a
          have d2 : decide (1000000 < z i) = false := decide_eq_false b
          have d3 : decide (r i < -p) = true := decide_eq_true c
          go_wp2
          go_ret2
          exact wnR_bad HB.out (by decide) HW.out
        · have d1 : decide (z i < 0) = false := decide_eq_false a
          have d2 : decide (1000000 < z i) = false := decide_eq_false b
          have d3 : decide (r i < -p) = false := decide_eq_false c
          have d4 : decide (p < r i) = true := decide_eq_true d
          go_wp2
          go_ret2
          exact wnR_bad HB.out (by decide) HW.out
    · have hl : ¬ ((i : Int) < m) := by omega
      have e' : i = m := by omega
      subst e'
      obtain ⟨g, c, rfl, hC, hg1, hg2⟩ := own_clocks hown H.out.2.2.1
      have HB : Hid (BeE i z i r p 0) := Or.inr (Or.inr (Or.inr ⟨H.out, rfl, HO.out, rfl⟩))
      have HC : Hid (Cls wr g i z r ∧ w.heap.size ≤ g ∧ g < wr.heap.size) := ⟨hC, hg1, hg2⟩
      clear hown HN hC hw HS HR HO
      go_wp2
      go_ret2
      exact pw_made HB.out HC.out.1 HC.out.2.1 HC.out.2.2 HW.out
end Go.Proofs.YtigcliepeapcpajGreatDoor
