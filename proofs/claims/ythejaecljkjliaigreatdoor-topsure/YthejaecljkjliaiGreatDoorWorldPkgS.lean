/- What package world answers: sent. -/
import Derived.Test.YthejaecljkjliaiGreatDoorNm04
import Derived.BigQuiet
import Derived.Deep.QuietTactic
import Derived.Deep.RegionWith
import Derived.Deep.RegionLaw
import Derived.Laws.AppendOwnNone
import Derived.Maps.AppendAt
import Derived.Deep.CutRange
import Derived.Deep.CutBlock
import Derived.BigRegion
import Derived.IntWalk
namespace Go.Proofs.YthejaecljkjliaiGreatDoor
open Go.ChangeShapes Go.WideShapes Go.ChangeAt Go.RowKit Go.Joins
set_option linter.unusedVariables false
set_option linter.unusedSimpArgs false

section
variable {u : World} {mb cb cc : Nat} {S : Ws} {v : Value}
theorem KpW.from {W w' : World} {v' : Value} (h : KpW W w' mb cb v v') (hW : Below u.heap.size u W) : KpW u w' mb cb v v' :=
  ⟨(Keeps.of hW).trans h.1, fun g hg => (h.2 g hg).imp id (fun q => Nat.le_trans hW.size q)⟩
/-- A letter more, behind all. -/
theorem PW.more {W w1 : World} {v' : Value} {l : Lt} (h : PW u mb cb cc S v) (hW : Below u.heap.size u W) (ho : w1.ownsRow 0 98 6 v' (S.under.length + 1) (lcs S.under ++ ltc l)) (hg : W.grownBy w1 v.ownBlock) (ha : v'.ownBlock = v.ownBlock ∨ v'.ownBlock = some W.heap.size) :
    PW (w1.setCell ⟨mb, 2, none⟩ v') mb cb cc { S with under := S.under ++ [l] } v' ∧ KpW u (w1.setCell ⟨mb, 2, none⟩ v') mb cb v v' := by
  have kg : Keeps (fun k => v.ownBlock = some k) W w1 := ⟨hg.os, hg.tape, hg.output, hg.size, fun k hk hn => hg.block k hk (fun e => hn e.symm)⟩
  refine PW.turn h ((Keeps.of hW).trans kg) (m := S.under.length + 1) (l := S.under ++ [l]) ?_ (by simp) (fun g hg => ?_)
  · rw [lcs_app]
    simpa [lcs] using ho
  · rcases ha with e | e
    · exact Or.inl (e.symm.trans hg)
    · rw [e] at hg; injection hg with hg; exact Or.inr (by have := hW.size; omega)
set_option maxRecDepth 100000 in
set_option maxHeartbeats 8000000 in
theorem send_full (h : PW u mb cb cc S v) (hI : S.I) (hl : 40 ≤ S.under.length) (l : Lt) :
    Calls Tryz.prog 88 #[.pointer (some ⟨mb, 0, none⟩), ltv l] u fun o w' => o = .returned (errc 4) ∧ Below u.heap.size u w' := by
  obtain ⟨va, vcap, rfl, hform⟩ := h.len
  have c2 := h.r.c 2 _ rfl
  have l0 := h.r.lt
  have lu := hI.un
  have d1 : (40 : Int) ≤ (S.under.length : Int) := by omega
  rw [errc_not (e := 4) (by decide)]
  obtain ⟨l1, l2, l3, l4, l5, l6⟩ := l
  unfold ltv
  clear h hI hform
  go_enter Tryz.func88, Tryz.ntmps88
  go_wp2
  go_ret
  exact ⟨rfl, rbel_al (Below.refl _ _)⟩
set_option maxRecDepth 100000 in
set_option maxHeartbeats 8000000 in
theorem send_ok (h : PW u mb cb cc S v) (hI : S.I) (hl : S.under.length < 40) (l : Lt) :
    Calls Tryz.prog 88 #[.pointer (some ⟨mb, 0, none⟩), ltv l] u fun o w' => ∃ v', o = .returned (errc 0) ∧ PW w' mb cb cc { S with under := S.under ++ [l] } v' ∧ KpW u w' mb cb v v' := by
  obtain ⟨va, vcap, rfl, hform⟩ := h.len
  obtain ⟨i0, hi0, hz0, hz1, hz2⟩ := info_parts infoLetter
  have HP : Hid (PW u mb cb cc S (.slice va S.under.length vcap)) := h
  have d1 : ¬ ((40 : Int) ≤ (S.under.length : Int)) := by omega
  have d2 : decide ((40 : Int) ≤ (S.under.length : Int)) = false := decide_eq_false d1
  rw [errc_zero]
  obtain ⟨l1, l2, l3, l4, l5, l6⟩ := l
  unfold ltv
  have l0 := h.r.lt
  have c2 := h.r.c 2 _ rfl
  clear h hI hform
  go_enter Tryz.func88, Tryz.ntmps88
  go_wp2
  have BW : Hid (Below u.heap.size u (u.alloc (Obj.cells #[.int .i64 l1, .int .i64 l2, .bool l3, .int .i64 l4, .int .i64 l5, .int .i64 l6] 98))) := rbel_al (Below.refl _ _)
  have RB : Hid (Row (u.alloc (Obj.cells #[.int .i64 l1, .int .i64 l2, .bool l3, .int .i64 l4, .int .i64 l5, .int .i64 l6] 98)) u.heap.size [.int .i64 l1, .int .i64 l2, .bool l3, .int .i64 l4, .int .i64 l5, .int .i64 l6]) := Row.made rfl
  generalize u.alloc (Obj.cells #[.int .i64 l1, .int .i64 l2, .bool l3, .int .i64 l4, .int .i64 l5, .int .i64 l6] 98) = W at *
  have HW : Hid (PW W mb cb cc S (.slice va S.under.length vcap)) := PW.on BW.out HP.out
  have sw : u.heap.size < W.heap.size := RB.out.lt
  have mw : mb < W.heap.size := by omega
  clear c2
  have e2 := HW.out.r.c 2 _ rfl
  have g2 := HW.out.r.f 2 _ rfl
  have z0 := RB.out.c 0 _ rfl
  have z1 := RB.out.c 1 _ rfl
  have z2 := RB.out.c 2 _ rfl
  have z3 := RB.out.c 3 _ rfl
  have z4 := RB.out.c 4 _ rfl
  have z5 := RB.out.c 5 _ rfl
  go_region_law (refine step_append_at rfl (.tmp 16) (.tmp 18) 53 rfl 0 98 i0 (.agg #[.int .i64 0, .int .i64 0, .bool false, .int .i64 0, .int .i64 0, .int .i64 0]) 6 48 Tryz.underlying53 hi0 hz0 hz1 hz2 rfl (by decide) (.slice va S.under.length vcap) S.under.length _ (by simp [Act.eval, Act.put]) (HW.out.o.alloc _) ⟨W.heap.size, 0, none⟩ 1 1 [.int .i64 l1, .int .i64 l2, .bool l3, .int .i64 l4, .int .i64 l5, .int .i64 l6] (by simp [Act.eval, Act.put]) rfl (fun j q hj => by rw [Addr.add_lit]; exact (Row.made (W := W) (vs := [.int .i64 l1, .int .i64 l2, .bool l3, .int .i64 l4, .int .i64 l5, .int .i64 l6]) rfl).c _ _ (by simpa using hj)) (ltc_one ⟨l1, l2, l3, l4, l5, l6⟩) (by unfold maxLen; omega) (by omega) (Nat.zero_le _) ?_; intro v' w1 hown1 hgrow1 hat1; obtain ⟨va', vc', rfl⟩ := own_slice hown1; have mr1 : Row w1 mb [.slice (some ⟨cb, 0, none⟩) S.n cc, .int .i64 S.time, .slice va S.under.length vcap] := (by first | exact row_grown hgrow1 (by simp; omega) HW.out.ne (Row.al HW.out.r) | exact row_grown hgrow1 (by simp; omega) HW.out.ne (Row.dr (Row.al HW.out.r))); have m2 := mr1.c 2 _ rfl; have q2 := mr1.f 2 _ rfl; have lw1 := mr1.lt; have HO1 : Hid _ := hown1; have HG1 : Hid _ := hgrow1; have HA1 : Hid _ := hat1; clear mr1 hown1 hgrow1 hat1)
  all_goals
    have G : Hid (PW (w1.setCell ⟨mb, 2, none⟩ (.slice va' (S.under.length + 1) vc')) mb cb cc { S with under := S.under ++ [⟨l1, l2, l3, l4, l5, l6⟩] } (.slice va' (S.under.length + 1) vc') ∧ KpW u (w1.setCell ⟨mb, 2, none⟩ (.slice va' (S.under.length + 1) vc')) mb cb (.slice va S.under.length vcap) (.slice va' (S.under.length + 1) vc')) := PW.more HP.out (by first | exact rbel_al BW.out | exact rbel_dr (rbel_al BW.out) | exact rbel_al (rbel_dr BW.out)) HO1.out HG1.out HA1.out
    clear HO1 HG1 HA1
    go_wp2
    go_ret
    exact ⟨_, rfl, G.out.1, G.out.2⟩
set_option maxRecDepth 100000 in
set_option maxHeartbeats 8000000 in
theorem wask_none1 (h : PW u mb cb cc S v) (hI : S.I) (a b : Int) (ha : ¬ S.hs a) :
    Calls Tryz.prog 50 #[.pointer (some ⟨mb, 0, none⟩), .int .i64 a, .int .i64 b] u fun o w' => o = .returned (errc 1) ∧ w' = u := by
  rw [errc_not (e := 1) (by decide)]
  have c1 := iscl h hI a false (decide_eq_false (p := 0 ≤ a ∧ a < (S.n : Int)) ha).symm
  clear h hI ha
  go_enter Tryz.func50, Tryz.ntmps50
  go_wp2_with (first | (go_at_call 68; refine c1.mono ?_; rintro o w0 ⟨rfl, hu⟩; rw [hu]; clear hu))
  go_ret
  exact ⟨rfl, rfl⟩
set_option maxRecDepth 100000 in
set_option maxHeartbeats 8000000 in
theorem wask_none2 (h : PW u mb cb cc S v) (hI : S.I) (a b : Int) (ha : S.hs a) (hb : ¬ S.hs b) :
    Calls Tryz.prog 50 #[.pointer (some ⟨mb, 0, none⟩), .int .i64 a, .int .i64 b] u fun o w' => o = .returned (errc 1) ∧ w' = u := by
  rw [errc_not (e := 1) (by decide)]
  have c1 := iscl h hI a true (decide_eq_true (p := 0 ≤ a ∧ a < (S.n : Int)) ha).symm
  have c2 := iscl h hI b false (decide_eq_false (p := 0 ≤ b ∧ b < (S.n : Int)) hb).symm
  have cnt : Mark 0 := .mk _
  clear h hI ha hb
  go_enter Tryz.func50, Tryz.ntmps50
  go_wp2_with (first | (go_at_call 68; (first | (have cm : Mark 0 := cnt; clear cm cnt; have cnt : Mark 1 := .mk _; refine c1.mono ?_) | refine c2.mono ?_); rintro o w0 ⟨rfl, hu⟩; rw [hu]; clear hu))
  go_ret
  exact ⟨rfl, rfl⟩
set_option maxRecDepth 100000 in
set_option maxHeartbeats 8000000 in
theorem wask_self (h : PW u mb cb cc S v) (hI : S.I) (a b : Int) (ha : S.hs a) (hb : S.hs b) (e : a = b) :
    Calls Tryz.prog 50 #[.pointer (some ⟨mb, 0, none⟩), .int .i64 a, .int .i64 b] u fun o w' => o = .returned (errc 3) ∧ w' = u := by
  rw [errc_not (e := 3) (by decide)]
  have c1 := iscl h hI a true (decide_eq_true (p := 0 ≤ a ∧ a < (S.n : Int)) ha).symm
  have c2 := iscl h hI b true (decide_eq_true (p := 0 ≤ b ∧ b < (S.n : Int)) hb).symm
  have cnt : Mark 0 := .mk _
  clear h hI ha hb
  subst e
  have e1 : (a == a) = true := by simp
  go_enter Tryz.func50, Tryz.ntmps50
  go_wp2_with (first | (go_at_call 68; (first | (have cm : Mark 0 := cnt; clear cm cnt; have cnt : Mark 1 := .mk _; refine c1.mono ?_) | refine c2.mono ?_); rintro o w0 ⟨rfl, hu⟩; rw [hu]; clear hu))
  go_ret
  exact ⟨rfl, rfl⟩
set_option maxRecDepth 100000 in
set_option maxHeartbeats 8000000 in
theorem wask_full (h : PW u mb cb cc S v) (hI : S.I) (a b : Int) (ha : S.hs a) (hb : S.hs b) (e : a ≠ b) (hl : 40 ≤ S.under.length) :
    Calls Tryz.prog 50 #[.pointer (some ⟨mb, 0, none⟩), .int .i64 a, .int .i64 b] u fun o w' => o = .returned (errc 4) ∧ Below u.heap.size u w' := by
  have c1 := iscl h hI a true (decide_eq_true (p := 0 ≤ a ∧ a < (S.n : Int)) ha).symm
  have c2 := iscl h hI b true (decide_eq_true (p := 0 ≤ b ∧ b < (S.n : Int)) hb).symm
  have cnt : Mark 0 := .mk _
  obtain ⟨k, rfl⟩ : ∃ k : Nat, a = k := ⟨a.toNat, by have := ha.1; omega⟩
  have c3 := shown h hI k (by have := ha.2; omega)
  skip
  have e1 : ((k : Int) == b) = false := by simpa using e
  have HS : Hid (∀ W, Below u.heap.size u W → Calls Tryz.prog 88 #[.pointer (some ⟨mb, 0, none⟩), .agg #[.int .i64 (k : Int), .int .i64 b, .bool false, .int .i64 0, .int .i64 0, .int .i64 (S.rd k)]] W fun o w' => o = .returned (errc 4) ∧ Below W.heap.size W w') := fun W hW => send_full (h.on hW) hI hl ⟨k, b, false, 0, 0, S.rd k⟩
  clear h hI ha hb hl
  generalize S.rd k = t at *
  go_enter Tryz.func50, Tryz.ntmps50
  go_wp2_with (first | (go_at_call 68; (first | (have cm : Mark 0 := cnt; clear cm cnt; have cnt : Mark 1 := .mk _; refine c1.mono ?_) | refine c2.mono ?_); rintro o w0 ⟨rfl, hu⟩; rw [hu]; clear hu) | (go_at_call 69; refine c3.mono ?_; rintro o u1 ⟨rfl, hb⟩; have HB : Hid (Below u.heap.size u u1) := hb; clear hb) | (go_at_call 88; refine (HS.out _ HB.out).mono ?_; rintro o u2 ⟨rfl, hb⟩; have HB2 : Hid (Below u.heap.size u u2) := rbel_on hb HB.out; clear hb))
  go_ret
  exact ⟨rfl, HB2.out⟩
set_option maxRecDepth 100000 in
set_option maxHeartbeats 8000000 in
theorem wask_ok (h : PW u mb cb cc S v) (hI : S.I) (a b : Int) (ha : S.hs a) (hb : S.hs b) (e : a ≠ b) (hl : S.under.length < 40) :
    Calls Tryz.prog 50 #[.pointer (some ⟨mb, 0, none⟩), .int .i64 a, .int .i64 b] u fun o w' => ∃ v', o = .returned (errc 0) ∧ PW w' mb cb cc { S with under := S.under ++ [⟨a, b, false, 0, 0, S.rd a.toNat⟩] } v' ∧ KpW u w' mb cb v v' := by
  have c1 := iscl h hI a true (decide_eq_true (p := 0 ≤ a ∧ a < (S.n : Int)) ha).symm
  have c2 := iscl h hI b true (decide_eq_true (p := 0 ≤ b ∧ b < (S.n : Int)) hb).symm
  have cnt : Mark 0 := .mk _
  obtain ⟨k, rfl⟩ : ∃ k : Nat, a = k := ⟨a.toNat, by have := ha.1; omega⟩
  have c3 := shown h hI k (by have := ha.2; omega)
  rw [show (k : Int).toNat = k by omega]
  have e1 : ((k : Int) == b) = false := by simpa using e
  have HS : Hid (∀ W, Below u.heap.size u W → Calls Tryz.prog 88 #[.pointer (some ⟨mb, 0, none⟩), .agg #[.int .i64 (k : Int), .int .i64 b, .bool false, .int .i64 0, .int .i64 0, .int .i64 (S.rd k)]] W fun o w' => ∃ v', o = .returned (errc 0) ∧ PW w' mb cb cc { S with under := S.under ++ [⟨k, b, false, 0, 0, S.rd k⟩] } v' ∧ KpW u w' mb cb v v') := fun W hW => (send_ok (h.on hW) hI hl ⟨k, b, false, 0, 0, S.rd k⟩).mono (by
    rintro o w' ⟨v', rfl, g1, g2⟩
    exact ⟨v', rfl, g1, g2.from hW⟩)
  clear h hI ha hb hl
  generalize S.rd k = t at *
  go_enter Tryz.func50, Tryz.ntmps50
  go_wp2_with (first | (go_at_call 68; (first | (have cm : Mark 0 := cnt; clear cm cnt; have cnt : Mark 1 := .mk _; refine c1.mono ?_) | refine c2.mono ?_); rintro o w0 ⟨rfl, hu⟩; rw [hu]; clear hu) | (go_at_call 69; refine c3.mono ?_; rintro o u1 ⟨rfl, hb⟩; have HB : Hid (Below u.heap.size u u1) := hb; clear hb) | (go_at_call 88; refine (HS.out _ HB.out).mono ?_; rintro o u2 ⟨v', rfl, g1, g2⟩; have G1 : Hid _ := g1; have G2 : Hid (KpW u u2 mb cb v v') := g2; clear g1 g2))
  go_ret
  exact ⟨v', rfl, G1.out, G2.out⟩
end
end Go.Proofs.YthejaecljkjliaiGreatDoor
