/- What package world answers: which clocks there are, what they show, and how time goes on. What package world answers: sent. What package world answers: letters that come. What package world answers: Do. What package world answers: Answer. What package world answers: New. The document's own world (package noonref2) in memory: its clocks, how late it is, its letters in a row of the call's own. What the document's own world (package noonref2) answers of an act: where nothing turns. What the document's own world (package noonref2) answers of an act: Ask, refused. What the document's own world (package noonref2) answers of an act: Go, taken. What the document's own world (package noonref2) answers of an act: Ask, taken. What the document's own world (package noonref2) answers of an act: Repeat. What the document's own world (package noonref2) answers of an act: Deliver, Lose. What the document's own world (package noonref2) answers of an act: Lose. What the document's own world (package noonref2) answers of any act. What the document's own world (package noonref2) answers of an answer. What the document's own world (package noonref2) answers of any answer. The document's own world (package noonref2): what it answers, just so. -/
import Derived.Test.YtadkgnbagmnkkakGreatDoorNm14
import Derived.BigQuiet
import Derived.Deep.QuietTactic
import Derived.Deep.RegionWith
import Derived.Deep.CutRange
import Derived.Deep.CutBlock
import Derived.IntWalk
import Derived.Deep.RegionLaw
import Derived.Laws.AppendOwnNone
import Derived.Maps.AppendAt
import Derived.BigRegion
import Derived.Laws.OwnMore
import Derived.Test.YtadkgnbagmnkkakGreatDoorNm12
import Derived.Test.YtadkgnbagmnkkakGreatDoorNm05
import Derived.Test.YtadkgnbagmnkkakGreatDoorNm04
import Derived.Test.YtadkgnbagmnkkakGreatDoorWorldRefR
import Derived.OneCell
namespace Go.Proofs.YtadkgnbagmnkkakGreatDoor
open Go.ChangeShapes Go.WideShapes Go.ChangeAt Go.RowKit Go.Joins
set_option linter.unusedVariables false
set_option linter.unusedSimpArgs false

set_option maxHeartbeats 8000000
set_option maxRecDepth 100000
section
variable {u : World} {mb cb cc : Nat} {S : Ws} {v : Value}
theorem iscl (h : PW u mb cb cc S v) (hI : S.I) (i : Int) (b : Bool) (hb : b = decide (0 ≤ i ∧ i < (S.n : Int))) :
  Calls Tryz.prog 150 #[.pointer (some ⟨mb, 0, none⟩), .int .i64 i] u fun o w' => o = .returned (.bool b) ∧ w' = u := by
 have c0 := h.r.c 0 _ rfl
 have l0 := h.r.lt
 have n6 := hI.n6
 clear h hI
 subst hb
 generalize S.n = n at *
 by_cases h : 0 ≤ i
 ·by_cases h2 : i < n
  ·rw [show decide (0 ≤ i ∧ i < (n : Int)) = true from decide_eq_true ⟨h, h2⟩]
   have d1 : decide (i < (n : Int)) = true := decide_eq_true h2
   go_enter Tryz.func150, Tryz.ntmps150
   go_wp2
   go_ret
   exact ⟨rfl, rfl⟩
  ·rw [show decide (0 ≤ i ∧ i < (n : Int)) = false from decide_eq_false (fun q => h2 q.2)]
   have d1 : decide (i < (n : Int)) = false := decide_eq_false h2
   go_enter Tryz.func150, Tryz.ntmps150
   go_wp2
   go_ret
   exact ⟨rfl, rfl⟩
 ·rw [show decide (0 ≤ i ∧ i < (n : Int)) = false from decide_eq_false (fun q => h q.1)]
  have d1 : decide (0 ≤ i) = false := decide_eq_false h
  go_enter Tryz.func150, Tryz.ntmps150
  go_wp2
  go_ret
  exact ⟨rfl, rfl⟩
theorem shown (h : PW u mb cb cc S v) (hI : S.I) (i : Nat) (hi : i < S.n) :
  Calls Tryz.prog 151 #[.pointer (some ⟨mb, 0, none⟩), .int .i64 i] u fun o w' => o = .returned (.int .i64 (S.rd i)) ∧ Below u.heap.size u w' := by
 have c0 := h.r.c 0 _ rfl
 have c1 := h.r.c 1 _ rfl
 have l0 := h.r.lt
 have l1 := h.kl
 obtain ⟨x1, x2⟩ := h.k i hi
 obtain ⟨s1, s2⟩ := hI.st i hi
 obtain ⟨a1, a2⟩ := hI.ra i hi
 have t0 := hI.t0
 have t1 := hI.t1
 have n6 := hI.n6
 have hl : (i : Int) < (S.n : Int) := by omega
 have e : S.rd i = S.starts i + (S.time * (1000000 + S.rates i)).tdiv 1000000 := by
  have p0 : 0 ≤ S.time * (1000000 + S.rates i) := Int.mul_nonneg t0 (by omega)
  have p1 : S.time * (1000000 + S.rates i) = S.time * S.rates i + S.time * 1000000 := by grind
  rw [Int.tdiv_eq_ediv_of_nonneg p0, p1, Int.add_mul_ediv_right _ _ (by decide)]
  unfold Ws.rd
  omega
 obtain ⟨r1, r2, r3, r4, r5, r6⟩ := Ws.rd_in hI hi
 rw [e] at r5 r6 ⊢
 clear e r1 r2 hI h
 generalize S.time = T at *
 generalize S.rates i = rr at *
 generalize S.starts i = st at *
 generalize S.n = n at *
 have w1 : IntKind.i64.wrap (1000000 + rr) = 1000000 + rr := IntWalk.i64_in _ (by omega)
 have p1 : T * (1000000 + rr) = T * rr + T * 1000000 := by grind
 have w2 : IntKind.i64.wrap (T * (1000000 + rr)) = T * (1000000 + rr) := IntWalk.i64_in _ (by omega)
 obtain ⟨q, hq⟩ : ∃ q, (T * (1000000 + rr)).tdiv 1000000 = q := ⟨_, rfl⟩
 rw [hq] at r5 r6 ⊢
 have w3 : IntKind.i64.wrap ((T * (1000000 + rr)).tdiv 1000000) = q := by rw [hq]; exact IntWalk.i64_in _ (by omega)
 have w4 : IntKind.i64.wrap (st + q) = st + q := IntWalk.i64_in _ (by omega)
 have w5 : IntKind.i64.wrap q = q := IntWalk.i64_in _ (by omega)
 clear p1 r3 r4
 go_enter Tryz.func151, Tryz.ntmps151
 go_wp2
 go_quiet (fail)
 go_wp2
 go_ret
 exact ⟨by simp [*], rbel_drn (rbel_al (Below.refl _ _))⟩
theorem wread_any (h : PW u mb cb cc S v) (hI : S.I) (i : Int) :
  Calls Tryz.prog 121 #[.pointer (some ⟨mb, 0, none⟩), .int .i64 i] u fun o w' => ((S.hs i ∧ o = .returned (.tuple #[.int .i64 (S.rd i.toNat), errc 0])) ∨ (¬ S.hs i ∧ o = .returned (.tuple #[.int .i64 0, errc 1]))) ∧ Below u.heap.size u w' := by
 rw [errc_zero, errc_not (e := 1) (by decide)]
 by_cases hh : S.hs i
 ·have c1 := iscl h hI i true (decide_eq_true (p := 0 ≤ i ∧ i < (S.n : Int)) hh).symm
  obtain ⟨k, rfl⟩ : ∃ k : Nat, i = k := ⟨i.toNat, by have := hh.1; omega⟩
  have c2 := shown h hI k (by have := hh.2; omega)
  rw [show (k : Int).toNat = k by omega]
  have HH : Hid (S.hs k) := hh
  clear h hI hh
  generalize S.rd k = t at *
  go_enter Tryz.func121, Tryz.ntmps121
  go_wp2_with (first | (go_at_call 150; refine c1.mono ?_; rintro o u1 ⟨rfl, hu⟩; rw [hu]; clear hu) | (go_at_call 151; refine c2.mono ?_; rintro o u2 ⟨rfl, hb⟩; have HB : Hid (Below u.heap.size u u2) := hb; clear hb))
  go_ret2
  exact ⟨Or.inl ⟨HH.out, rfl⟩, HB.out⟩
 ·have c1 := iscl h hI i false (decide_eq_false (p := 0 ≤ i ∧ i < (S.n : Int)) hh).symm
  have HH : Hid (¬ S.hs i) := hh
  clear h hI hh
  go_enter Tryz.func121, Tryz.ntmps121
  go_wp2_with (go_at_call 150; refine c1.mono ?_; rintro o u1 ⟨rfl, hu⟩; rw [hu]; clear hu)
  go_ret2
  exact ⟨Or.inr ⟨HH.out, rfl⟩, Below.refl _ _⟩
theorem goon_bad (h : PW u mb cb cc S v) (hI : S.I) (a : Int) (hb : a < 0 ∨ 1000000 < a ∨ 1000000000 < S.time + a) :
  Calls Tryz.prog 144 #[.pointer (some ⟨mb, 0, none⟩), .int .i64 a] u fun o w' => o = .returned (errc 1) ∧ w' = u := by
 have c1 := h.r.c 1 _ rfl
 have l0 := h.r.lt
 have t0 := hI.t0
 have t1 := hI.t1
 clear h hI
 rw [errc_not (e := 1) (by decide)]
 generalize S.time = T at *
 have hc : a < 0 ∨ (¬ a < 0 ∧ 1000000 < a) ∨ (¬ a < 0 ∧ ¬ 1000000 < a ∧ 1000000000 < T + a) := by omega
 rcases hc with d1 | ⟨d1, d2⟩ | ⟨d1, d2, d3⟩
 ·have e1 : decide (a < 0) = true := decide_eq_true d1
  clear hb
  go_enter Tryz.func144, Tryz.ntmps144
  go_wp2
  go_ret
  exact ⟨rfl, rfl⟩
 ·have e1 : decide (a < 0) = false := decide_eq_false d1
  have e2 : decide (1000000 < a) = true := decide_eq_true d2
  clear hb
  go_enter Tryz.func144, Tryz.ntmps144
  go_wp2
  go_ret
  exact ⟨rfl, rfl⟩
 ·have e1 : decide (a < 0) = false := decide_eq_false d1
  have e2 : decide (1000000 < a) = false := decide_eq_false d2
  have e3 : decide (1000000000 < T + a) = true := decide_eq_true d3
  have wr : IntKind.i64.wrap (T + a) = T + a := IntWalk.i64_in _ (by omega)
  clear hb
  go_enter Tryz.func144, Tryz.ntmps144
  go_wp2
  go_ret
  exact ⟨rfl, rfl⟩
theorem goon_ok (h : PW u mb cb cc S v) (hI : S.I) (a : Int) (hb : 0 ≤ a ∧ a ≤ 1000000 ∧ S.time + a ≤ 1000000000) :
  Calls Tryz.prog 144 #[.pointer (some ⟨mb, 0, none⟩), .int .i64 a] u fun o w' => o = .returned (errc 0) ∧ PW w' mb cb cc { S with time := S.time + a } v ∧ KpW u w' mb cb v v := by
 have HL : Hid (PW (u.setCell ⟨mb, 1, none⟩ (.int .i64 (S.time + a))) mb cb cc { S with time := S.time + a } v ∧ KpW u (u.setCell ⟨mb, 1, none⟩ (.int .i64 (S.time + a))) mb cb v v) := h.late (Below.refl _ _)
 have c1 := h.r.c 1 _ rfl
 have f1 := h.r.f 1 _ rfl
 have l0 := h.r.lt
 have t0 := hI.t0
 have t1 := hI.t1
 clear h hI
 rw [errc_zero]
 generalize S.time = T at *
 have e1 : decide (a < 0) = false := decide_eq_false (by omega)
 have e2 : decide (1000000 < a) = false := decide_eq_false (by omega)
 have e3 : decide (1000000000 < T + a) = false := decide_eq_false (by omega)
 have d1 : ¬ a < 0 := by omega
 have d2 : ¬ 1000000 < a := by omega
 have d3 : ¬ 1000000000 < T + a := by omega
 have wr : IntKind.i64.wrap (T + a) = T + a := IntWalk.i64_in _ (by omega)
 clear hb
 go_enter Tryz.func144, Tryz.ntmps144
 go_wp2
 go_ret
 exact ⟨rfl, HL.out.1, HL.out.2⟩
end
set_option maxHeartbeats 8000000
set_option maxRecDepth 100000
section
variable {u : World} {mb cb cc : Nat} {S : Ws} {v : Value}
theorem KpW.from {W w' : World} {v' : Value} (h : KpW W w' mb cb v v') (hW : Below u.heap.size u W) : KpW u w' mb cb v v' :=
 ⟨(Keeps.of hW).trans h.1, fun g hg => (h.2 g hg).imp id (fun q => Nat.le_trans hW.size q)⟩
theorem PW.more {W w1 : World} {v' : Value} {l : Lt} (h : PW u mb cb cc S v) (hW : Below u.heap.size u W) (ho : w1.ownsRow 0 113 6 v' (S.under.length + 1) (lcs S.under ++ ltc l)) (hg : W.grownBy w1 v.ownBlock) (ha : v'.ownBlock = v.ownBlock ∨ v'.ownBlock = some W.heap.size) :
  PW (w1.setCell ⟨mb, 2, none⟩ v') mb cb cc { S with under := S.under ++ [l] } v' ∧ KpW u (w1.setCell ⟨mb, 2, none⟩ v') mb cb v v' := by
 have kg : Keeps (fun k => v.ownBlock = some k) W w1 := ⟨hg.os, hg.tape, hg.output, hg.size, fun k hk hn => hg.block k hk (fun e => hn e.symm)⟩
 refine PW.turn h ((Keeps.of hW).trans kg) (m := S.under.length + 1) (l := S.under ++ [l]) ?_ (by simp) (fun g hg => ?_)
 ·rw [lcs_app]
  simpa [lcs] using ho
 ·rcases ha with e | e
  ·exact Or.inl (e.symm.trans hg)
  ·rw [e] at hg; injection hg with hg; exact Or.inr (by have := hW.size; omega)
theorem send_full (h : PW u mb cb cc S v) (hI : S.I) (hl : 40 ≤ S.under.length) (l : Lt) :
  Calls Tryz.prog 176 #[.pointer (some ⟨mb, 0, none⟩), ltv l] u fun o w' => o = .returned (errc 4) ∧ Below u.heap.size u w' := by
 obtain ⟨va, vcap, rfl, hform⟩ := h.len
 have c2 := h.r.c 2 _ rfl
 have l0 := h.r.lt
 have lu := hI.un
 have d1 : (40 : Int) ≤ (S.under.length : Int) := by omega
 rw [errc_not (e := 4) (by decide)]
 obtain ⟨l1, l2, l3, l4, l5, l6⟩ := l
 unfold ltv
 clear h hI hform
 go_enter Tryz.func176, Tryz.ntmps176
 go_wp2
 go_ret
 exact ⟨rfl, rbel_al (Below.refl _ _)⟩
theorem send_ok (h : PW u mb cb cc S v) (hI : S.I) (hl : S.under.length < 40) (l : Lt) :
  Calls Tryz.prog 176 #[.pointer (some ⟨mb, 0, none⟩), ltv l] u fun o w' => ∃ v', o = .returned (errc 0) ∧ PW w' mb cb cc { S with under := S.under ++ [l] } v' ∧ KpW u w' mb cb v v' := by
 obtain ⟨va, vcap, rfl, hform⟩ := h.len
 obtain ⟨i0, hi0, hz0, hz1, hz2⟩ := info_parts infoLetter
 have HP : Hid (PW u mb cb cc S (.slice va S.under.length vcap)) := h
 have d1 : ¬ ((40 : Int) ≤ (S.under.length : Int)) := by omega
 have d2 : decide ((40 : Int) ≤ (S.under.length : Int)) = false := decide_eq_false d1
 rw [errc_zero]
 obtain ⟨l1, l2, l3, l4, l5, l6⟩ := l
 unfold ltv
 have l0 := h.r.lt
 have c2 := h.r.c 2 _ rfl
 clear h hI hform
 go_enter Tryz.func176, Tryz.ntmps176
 go_wp2
 have BW : Hid (Below u.heap.size u (u.alloc (Obj.cells #[.int .i64 l1, .int .i64 l2, .bool l3, .int .i64 l4, .int .i64 l5, .int .i64 l6] 113))) := rbel_al (Below.refl _ _)
 have RB : Hid (Row (u.alloc (Obj.cells #[.int .i64 l1, .int .i64 l2, .bool l3, .int .i64 l4, .int .i64 l5, .int .i64 l6] 113)) u.heap.size [.int .i64 l1, .int .i64 l2, .bool l3, .int .i64 l4, .int .i64 l5, .int .i64 l6]) := Row.made rfl
 generalize u.alloc (Obj.cells #[.int .i64 l1, .int .i64 l2, .bool l3, .int .i64 l4, .int .i64 l5, .int .i64 l6] 113) = W at *
 have HW : Hid (PW W mb cb cc S (.slice va S.under.length vcap)) := PW.on BW.out HP.out
 have sw : u.heap.size < W.heap.size := RB.out.lt
 have mw : mb < W.heap.size := by omega
 clear c2
 have e2 := HW.out.r.c 2 _ rfl
 have g2 := HW.out.r.f 2 _ rfl
 have z0 := RB.out.c 0 _ rfl
 have z1 := RB.out.c 1 _ rfl
 have z2 := RB.out.c 2 _ rfl
 have z3 := RB.out.c 3 _ rfl
 have z4 := RB.out.c 4 _ rfl
 have z5 := RB.out.c 5 _ rfl
 go_region_law (refine step_append_at rfl (.tmp 16) (.tmp 18) 57 rfl 0 113 i0 (.agg #[.int .i64 0, .int .i64 0, .bool false, .int .i64 0, .int .i64 0, .int .i64 0]) 6 48 Tryz.underlying57 hi0 hz0 hz1 hz2 rfl (by decide) (.slice va S.under.length vcap) S.under.length _ (by simp [Act.eval, Act.put]) (HW.out.o.alloc _) ⟨W.heap.size, 0, none⟩ 1 1 [.int .i64 l1, .int .i64 l2, .bool l3, .int .i64 l4, .int .i64 l5, .int .i64 l6] (by simp [Act.eval, Act.put]) rfl (fun j q hj => by rw [Addr.add_lit]; exact (Row.made (W := W) (vs := [.int .i64 l1, .int .i64 l2, .bool l3, .int .i64 l4, .int .i64 l5, .int .i64 l6]) rfl).c _ _ (by simpa using hj)) (ltc_one ⟨l1, l2, l3, l4, l5, l6⟩) (by unfold maxLen; omega) (by omega) (Nat.zero_le _) ?_; intro v' w1 hown1 hgrow1 hat1; obtain ⟨va', vc', rfl⟩ := own_slice hown1; have mr1 : Row w1 mb [.slice (some ⟨cb, 0, none⟩) S.n cc, .int .i64 S.time, .slice va S.under.length vcap] := (by first | exact row_grown hgrow1 (by simp; omega) HW.out.ne (Row.al HW.out.r) | exact row_grown hgrow1 (by simp; omega) HW.out.ne (Row.dr (Row.al HW.out.r))); have m2 := mr1.c 2 _ rfl; have q2 := mr1.f 2 _ rfl; have lw1 := mr1.lt; have HO1 : Hid _ := hown1; have HG1 : Hid _ := hgrow1; have HA1 : Hid _ := hat1; clear mr1 hown1 hgrow1 hat1)
 all_goals
  have G : Hid (PW (w1.setCell ⟨mb, 2, none⟩ (.slice va' (S.under.length + 1) vc')) mb cb cc { S with under := S.under ++ [⟨l1, l2, l3, l4, l5, l6⟩] } (.slice va' (S.under.length + 1) vc') ∧ KpW u (w1.setCell ⟨mb, 2, none⟩ (.slice va' (S.under.length + 1) vc')) mb cb (.slice va S.under.length vcap) (.slice va' (S.under.length + 1) vc')) := PW.more HP.out (by first | exact rbel_al BW.out | exact rbel_dr (rbel_al BW.out) | exact rbel_al (rbel_dr BW.out)) HO1.out HG1.out HA1.out
  clear HO1 HG1 HA1
  go_wp2
  go_ret
  exact ⟨_, rfl, G.out.1, G.out.2⟩
theorem wask_none1 (h : PW u mb cb cc S v) (hI : S.I) (a b : Int) (ha : ¬ S.hs a) :
  Calls Tryz.prog 145 #[.pointer (some ⟨mb, 0, none⟩), .int .i64 a, .int .i64 b] u fun o w' => o = .returned (errc 1) ∧ w' = u := by
 rw [errc_not (e := 1) (by decide)]
 have c1 := iscl h hI a false (decide_eq_false (p := 0 ≤ a ∧ a < (S.n : Int)) ha).symm
 clear h hI ha
 go_enter Tryz.func145, Tryz.ntmps145
 go_wp2_with (first | (go_at_call 150; refine c1.mono ?_; rintro o w0 ⟨rfl, hu⟩; rw [hu]; clear hu))
 go_ret
 exact ⟨rfl, rfl⟩
theorem wask_none2 (h : PW u mb cb cc S v) (hI : S.I) (a b : Int) (ha : S.hs a) (hb : ¬ S.hs b) :
  Calls Tryz.prog 145 #[.pointer (some ⟨mb, 0, none⟩), .int .i64 a, .int .i64 b] u fun o w' => o = .returned (errc 1) ∧ w' = u := by
 rw [errc_not (e := 1) (by decide)]
 have c1 := iscl h hI a true (decide_eq_true (p := 0 ≤ a ∧ a < (S.n : Int)) ha).symm
 have c2 := iscl h hI b false (decide_eq_false (p := 0 ≤ b ∧ b < (S.n : Int)) hb).symm
 have cnt : Mark 0 := .mk _
 clear h hI ha hb
 go_enter Tryz.func145, Tryz.ntmps145
 go_wp2_with (first | (go_at_call 150; (first | (have cm : Mark 0 := cnt; clear cm cnt; have cnt : Mark 1 := .mk _; refine c1.mono ?_) | refine c2.mono ?_); rintro o w0 ⟨rfl, hu⟩; rw [hu]; clear hu))
 go_ret
 exact ⟨rfl, rfl⟩
theorem wask_self (h : PW u mb cb cc S v) (hI : S.I) (a b : Int) (ha : S.hs a) (hb : S.hs b) (e : a = b) :
  Calls Tryz.prog 145 #[.pointer (some ⟨mb, 0, none⟩), .int .i64 a, .int .i64 b] u fun o w' => o = .returned (errc 3) ∧ w' = u := by
 rw [errc_not (e := 3) (by decide)]
 have c1 := iscl h hI a true (decide_eq_true (p := 0 ≤ a ∧ a < (S.n : Int)) ha).symm
 have c2 := iscl h hI b true (decide_eq_true (p := 0 ≤ b ∧ b < (S.n : Int)) hb).symm
 have cnt : Mark 0 := .mk _
 clear h hI ha hb
 subst e
 have e1 : (a == a) = true := by simp
 go_enter Tryz.func145, Tryz.ntmps145
 go_wp2_with (first | (go_at_call 150; (first | (have cm : Mark 0 := cnt; clear cm cnt; have cnt : Mark 1 := .mk _; refine c1.mono ?_) | refine c2.mono ?_); rintro o w0 ⟨rfl, hu⟩; rw [hu]; clear hu))
 go_ret
 exact ⟨rfl, rfl⟩
theorem wask_full (h : PW u mb cb cc S v) (hI : S.I) (a b : Int) (ha : S.hs a) (hb : S.hs b) (e : a ≠ b) (hl : 40 ≤ S.under.length) :
  Calls Tryz.prog 145 #[.pointer (some ⟨mb, 0, none⟩), .int .i64 a, .int .i64 b] u fun o w' => o = .returned (errc 4) ∧ Below u.heap.size u w' := by
 have c1 := iscl h hI a true (decide_eq_true (p := 0 ≤ a ∧ a < (S.n : Int)) ha).symm
 have c2 := iscl h hI b true (decide_eq_true (p := 0 ≤ b ∧ b < (S.n : Int)) hb).symm
 have cnt : Mark 0 := .mk _
 obtain ⟨k, rfl⟩ : ∃ k : Nat, a = k := ⟨a.toNat, by have := ha.1; omega⟩
 have c3 := shown h hI k (by have := ha.2; omega)
 skip
 have e1 : ((k : Int) == b) = false := by simpa using e
 have HS : Hid (∀ W, Below u.heap.size u W → Calls Tryz.prog 176 #[.pointer (some ⟨mb, 0, none⟩), .agg #[.int .i64 (k : Int), .int .i64 b, .bool false, .int .i64 0, .int .i64 0, .int .i64 (S.rd k)]] W fun o w' => o = .returned (errc 4) ∧ Below W.heap.size W w') := fun W hW => send_full (h.on hW) hI hl ⟨k, b, false, 0, 0, S.rd k⟩
 clear h hI ha hb hl
 generalize S.rd k = t at *
 go_enter Tryz.func145, Tryz.ntmps145
 go_wp2_with (first | (go_at_call 150; (first | (have cm : Mark 0 := cnt; clear cm cnt; have cnt : Mark 1 := .mk _; refine c1.mono ?_) | refine c2.mono ?_); rintro o w0 ⟨rfl, hu⟩; rw [hu]; clear hu) | (go_at_call 151; refine c3.mono ?_; rintro o u1 ⟨rfl, hb⟩; have HB : Hid (Below u.heap.size u u1) := hb; clear hb) | (go_at_call 176; refine (HS.out _ HB.out).mono ?_; rintro o u2 ⟨rfl, hb⟩; have HB2 : Hid (Below u.heap.size u u2) := rbel_on hb HB.out; clear hb))
 go_ret
 exact ⟨rfl, HB2.out⟩
theorem wask_ok (h : PW u mb cb cc S v) (hI : S.I) (a b : Int) (ha : S.hs a) (hb : S.hs b) (e : a ≠ b) (hl : S.under.length < 40) :
  Calls Tryz.prog 145 #[.pointer (some ⟨mb, 0, none⟩), .int .i64 a, .int .i64 b] u fun o w' => ∃ v', o = .returned (errc 0) ∧ PW w' mb cb cc { S with under := S.under ++ [⟨a, b, false, 0, 0, S.rd a.toNat⟩] } v' ∧ KpW u w' mb cb v v' := by
 have c1 := iscl h hI a true (decide_eq_true (p := 0 ≤ a ∧ a < (S.n : Int)) ha).symm
 have c2 := iscl h hI b true (decide_eq_true (p := 0 ≤ b ∧ b < (S.n : Int)) hb).symm
 have cnt : Mark 0 := .mk _
 obtain ⟨k, rfl⟩ : ∃ k : Nat, a = k := ⟨a.toNat, by have := ha.1; omega⟩
 have c3 := shown h hI k (by have := ha.2; omega)
 rw [show (k : Int).toNat = k by omega]
 have e1 : ((k : Int) == b) = false := by simpa using e
 have HS : Hid (∀ W, Below u.heap.size u W → Calls Tryz.prog 176 #[.pointer (some ⟨mb, 0, none⟩), .agg #[.int .i64 (k : Int), .int .i64 b, .bool false, .int .i64 0, .int .i64 0, .int .i64 (S.rd k)]] W fun o w' => ∃ v', o = .returned (errc 0) ∧ PW w' mb cb cc { S with under := S.under ++ [⟨k, b, false, 0, 0, S.rd k⟩] } v' ∧ KpW u w' mb cb v v') := fun W hW => (send_ok (h.on hW) hI hl ⟨k, b, false, 0, 0, S.rd k⟩).mono (by
  rintro o w' ⟨v', rfl, g1, g2⟩
  exact ⟨v', rfl, g1, g2.from hW⟩)
 clear h hI ha hb hl
 generalize S.rd k = t at *
 go_enter Tryz.func145, Tryz.ntmps145
 go_wp2_with (first | (go_at_call 150; (first | (have cm : Mark 0 := cnt; clear cm cnt; have cnt : Mark 1 := .mk _; refine c1.mono ?_) | refine c2.mono ?_); rintro o w0 ⟨rfl, hu⟩; rw [hu]; clear hu) | (go_at_call 151; refine c3.mono ?_; rintro o u1 ⟨rfl, hb⟩; have HB : Hid (Below u.heap.size u u1) := hb; clear hb) | (go_at_call 176; refine (HS.out _ HB.out).mono ?_; rintro o u2 ⟨v', rfl, g1, g2⟩; have G1 : Hid _ := g1; have G2 : Hid (KpW u u2 mb cb v v') := g2; clear g1 g2))
 go_ret
 exact ⟨v', rfl, G1.out, G2.out⟩
end
set_option maxHeartbeats 8000000
set_option maxRecDepth 100000
theorem step_append_fits {P : Program} {ops : Array Oper} {o : Oper} {a : Act} {w : World} {K : Act → World → Prop} {Q : Exit → Act → World → Prop} {E : Prop}
  (hg : o.guard = none) (s x : Operand) (t : TypeId) (hop : o.op = Op.call { callee := Callee.builtin Builtin.append, args := #[s, x], argTypes := #[t, t] })
  (base : Nat) (e : TypeId) (i : TypeInfo) (size : Nat) (h1 : P.underlying t = some (.slice e)) (h2 : P.info? e = some i) (h4 : i.size = size)
  (g n cap : Nat) (xs : List Value) (hs : a.eval s = .slice (some ⟨g, 0, none⟩) n cap) (hown : w.ownsRow base e size (.slice (some ⟨g, 0, none⟩) n cap) n xs)
  (ad : Addr) (m c tot : Nat) (news : List Value) (hx : a.eval x = .slice (some ad) m c) (hn : news.length = m * size) (hc : ∀ j u, news[j]? = some u → w.cell? (ad.add j) = some u) (h1c : ∀ u ∈ news, u.oneCell' = true)
  (ht : n + m = tot) (hroom : tot ≤ cap)
  (hK : ∀ w', w'.ownsRow base e size (.slice (some ⟨g, 0, none⟩) tot cap) tot (xs ++ news) → w.grownBy w' (some g) → K (a.put o.dst (.slice (some ⟨g, 0, none⟩) tot cap)) w') :
  if Region.wanted o (yielded ops a.tmps) = true then Oper.wp P o a w K Q else E := by
 have hw : Region.wanted o (yielded ops a.tmps) = true := by simp [Region.wanted, hg]
 rw [if_pos hw]
 subst ht
 obtain ⟨w', hr, g1, g2⟩ := run_append_fits (P := P) w base t o.type e i size h1 h2 h4 g n cap xs hown ad m c news hn hc h1c hroom
 unfold Oper.wp execOp
 simp only [hop, resolve, invoke, builtin, Sem.run_bind, Sem.run_pure, Result.andThen_ok, List.map_toArray, List.map_cons, List.map_nil, hs, hx, hr]
 exact hK w' g1 g2
theorem own_lessW {w : World} {base size g n m cap : Nat} {e : TypeId} {xs : List Value} (h : w.ownsRow base e size (.slice (some ⟨g, 0, none⟩) n cap) n xs) (hm : m ≤ n) : w.ownsRow base e size (.slice (some ⟨g, 0, none⟩) m cap) m (xs.take (m * size)) := by
 rcases h.2 with ⟨h', _⟩ | ⟨g', cap', cur, h', hb, hg, hnc, hcm, hcs, htake⟩
 ·simp at h'
 ·simp only [Value.slice.injEq, Option.some.injEq, Addr.mk.injEq, and_true, true_and] at h'
  obtain ⟨rfl, rfl⟩ := h'
  have le : m * size ≤ n * size := Nat.mul_le_mul_right _ hm
  refine ⟨by rw [List.length_take, h.1]; omega, Or.inr ⟨g, cap, cur, rfl, hb, hg, Nat.le_trans hm hnc, hcm, hcs, ?_⟩⟩
  rw [← htake, List.take_take, Nat.min_eq_left le]
theorem own_clear {P : Program} {w : World} {g N cap : Nat} {t e : TypeId} {xs : List Value} (ht : P.underlying t = some (.slice e)) (hv : ∀ w, (zeroValue e).run P w = .ok (.agg #[.int .i64 0, .int .i64 0, .bool false, .int .i64 0, .int .i64 0, .int .i64 0]) w) (h : w.ownsRow 0 e 6 (.slice (some ⟨g, 0, none⟩) N cap) N xs) (hc : N < cap) :
  ∃ w', (∀ c ty, (Builtin.clear_ #[t] ty #[.slice (some ⟨g, N * 6, none⟩) 1 c]).run P w = .ok (.tuple #[]) w') ∧ w'.ownsRow 0 e 6 (.slice (some ⟨g, 0, none⟩) N cap) N xs ∧ w.grownBy w' (some g) := by
 rcases h.2 with ⟨h', _⟩ | ⟨g', cap', cur, h', hb, hg, hnc, hcm, hcs, htake⟩
 ·simp at h'
 ·simp only [Value.slice.injEq, Option.some.injEq, Addr.mk.injEq, and_true, true_and] at h'
  obtain ⟨rfl, rfl⟩ := h'
  have hzc : (Builtin.zeroCells (.agg #[.int .i64 0, .int .i64 0, .bool false, .int .i64 0, .int .i64 0, .int .i64 0] : Value).cells 1).toList = [.int .i64 0, .int .i64 0, .bool false, .int .i64 0, .int .i64 0, .int .i64 0] := by first | rfl | kernel_rfl | simp [Builtin.zeroCells, Value.cells]
  have hst := run_storeCells_at P g (N * 6) e [.int .i64 0, .int .i64 0, .bool false, .int .i64 0, .int .i64 0, .int .i64 0] 0 cur w hg (by simp; omega) (ltc_one ⟨0, 0, false, 0, 0, 0⟩)
  simp only [Nat.add_zero] at hst
  refine ⟨w.setRow g (cur.toList.take (N * 6) ++ ([.int .i64 0, .int .i64 0, .bool false, .int .i64 0, .int .i64 0, .int .i64 0] : List Value) ++ cur.toList.drop (N * 6 + ([.int .i64 0, .int .i64 0, .bool false, .int .i64 0, .int .i64 0, .int .i64 0] : List Value).length)).toArray, fun c ty => ?_, ⟨h.1, Or.inr ⟨g, cap, _, rfl, hb, setRow_heap w g cur _ e _ hg, hnc, hcm, ?_, ?_⟩⟩, ⟨rfl, rfl, rfl, by simp, fun k _ hk => setRow_other w g k _ (fun e => hk (by simp [e]))⟩⟩
  ·simp [Builtin.clear_, run_underlying ht, hv, hzc, hst]
   done
  ·simp only [List.size_toArray, List.length_append, List.length_take, List.length_drop, Array.length_toList]
   simp
   omega
  ·have l : (cur.toList.take (N * 6)).length = N * 6 := by rw [List.length_take, Array.length_toList]; omega
   rw [List.append_assoc]
   exact (List.take_left' l).trans htake
theorem zeroLetter : ∀ w, (zeroValue 113).run Tryz.prog w = .ok (.agg #[.int .i64 0, .int .i64 0, .bool false, .int .i64 0, .int .i64 0, .int .i64 0]) w := Tryz.zeroValue113
theorem del_any (g N cap k : Nat) (L : List Lt) (hL : L.length = N + 1) (hk : k ≤ N) (hN : N ≤ 100) (u : World) (ho : u.ownsRow 0 113 6 (.slice (some ⟨g, 0, none⟩) (N + 1) cap) (N + 1) (lcs L)) :
  Calls Tryz.prog 177 #[.slice (some ⟨g, 0, none⟩) ((N + 1 : Nat) : Int).toNat cap, .int .i64 k, .int .i64 ((k : Int) + 1)] u fun o w' => o = .returned (.slice (some ⟨g, 0, none⟩) N cap) ∧ w'.ownsRow 0 113 6 (.slice (some ⟨g, 0, none⟩) N cap) N (lcs (L.eraseIdx k)) ∧ Keeps (fun j => j = g) u w' := by
 obtain ⟨i0, hi0, hz0, hz1, hz2⟩ := info_parts infoLetter
 have hcap : N + 1 ≤ cap ∧ cap ≤ 9223372036854775807 ∧ g < u.heap.size := by
  rcases ho.2 with ⟨h', _⟩ | ⟨g', cap', cur, h', hb, hg, hnc, hcm, hcs, htake⟩
  ·simp at h'
  ·simp only [Value.slice.injEq, Option.some.injEq, Addr.mk.injEq, and_true, true_and] at h'
   obtain ⟨rfl, rfl⟩ := h'
   exact ⟨hnc, by unfold maxLen at hcm; omega, (ho.lt g rfl).2⟩
 obtain ⟨hc1, hc2, gl⟩ := hcap
 have e1 : lcs L = lcs (L.take (k + 1)) ++ lcs (L.drop (k + 1)) := by rw [← lcs_app, List.take_append_drop]
 have e0 : lcs L = lcs (L.take k) ++ lcs (L.drop k) := by rw [← lcs_app, List.take_append_drop]
 have ll : (lcs (L.take (k + 1))).length = (k + 1) * 6 := by rw [lcs_len, List.length_take]; congr 1; omega
 have lk : (lcs (L.take k)).length = k * 6 := by rw [lcs_len, List.length_take]; congr 1; omega
 have HO : Hid (u.ownsRow 0 113 6 (.slice (some ⟨g, 0, none⟩) k cap) k (lcs (L.take k))) := by
  have := own_lessW ho (m := k) (by omega)
  rw [e0, ← lk, List.take_left] at this
  exact this
 have NC : Hid (∀ j q, (lcs (L.drop (k + 1)))[j]? = some q → u.cell? ((⟨g, (k + 1) * 6, none⟩ : Addr).add j) = some q) := fun j q hj => by
  have := ho.cells (g := g) rfl ((k + 1) * 6 + j) q (by rw [e1, List.getElem?_append_right (by omega), ll, Nat.add_sub_cancel_left]; exact hj)
  rw [Addr.add_lit] at this ⊢
  rw [Nat.zero_add] at this
  exact this
 have NL : Hid ((lcs (L.drop (k + 1))).length = (N + 1 - (k + 1)) * 6) := by show _ = _; rw [lcs_len, List.length_drop, hL]
 have ND : Hid (cap = k + 1 → lcs (L.drop (k + 1)) = []) := fun e => by rw [List.drop_eq_nil_of_le (by omega)]; rfl
 have LE : Hid (lcs (L.take k) ++ lcs (L.drop (k + 1)) = lcs (L.eraseIdx k)) := by show _ = _; rw [← lcs_app, List.eraseIdx_eq_take_drop_succ]
 rw [Int.toNat_natCast]
 have wk : IntKind.i64.wrap ((k : Int) + 1) = (k : Int) + 1 := IntWalk.i64_in _ (by omega)
 have d1 : ((k : Int) == (k : Int) + 1) = false := by simp; omega
 have k1 : (k : Int) + 1 ≤ (N : Int) + 1 := by omega
 have k2 : (k : Int) ≤ (N : Int) + 1 := by omega
 have k3 : (k : Int) ≤ (cap : Int) := by omega
 have k4 : (k : Int) ≤ (k : Int) + 1 := by omega
 have k5 : (N : Int) + 1 ≤ (cap : Int) := by omega
 have k6 : (0 : Int) ≤ (k : Int) + 1 := by omega
 have k7 : ((k : Int) + 1).toNat = k + 1 := by omega
 have k8 : ((N : Int) + 1).toNat = N + 1 := by omega
 have k9 : (N : Int) ≤ (N : Int) + 1 := by omega
 have kA : ¬ cap = N := by omega
 have HE : Hid ((L.length = N + 1 ∧ k ≤ N ∧ N ≤ 100 ∧ N + 1 ≤ cap)) := ⟨hL, hk, hN, hc1⟩
 clear ho e1 e0 ll lk
 go_enter Tryz.func177, Tryz.ntmps177
 go_wp2
 by_cases hc : cap = k + 1
 ·subst hc
  have ek : k = N := by omega
  subst ek
  go_region_law (refine step_append_fits rfl (.tmp 22) (.tmp 25) 57 rfl 0 113 i0 6 Tryz.underlying57 hi0 hz1 g k (k + 1) (lcs (L.take k)) (by simp [Act.eval, Act.put]) HO.out ⟨g, 0, none⟩ (k + 1 - (k + 1)) (k + 1 - (k + 1)) k (lcs (L.drop (k + 1))) (by simp [Act.eval, Act.put]) NL.out (fun j q hj => by rw [ND.out rfl] at hj; cases hj) (lcs_one _) (by have := HE.out; omega) (by omega) ?_; intro w1 hown1 hgrow1; have HO1 : Hid _ := hown1; have HG1 : Hid _ := hgrow1; have gl1 : g < w1.heap.size := (hown1.lt g rfl).2; obtain ⟨w2, hcl, ho2, hg2⟩ := own_clear (P := Tryz.prog) (t := 57) (e := 113) Tryz.underlying57 zeroLetter hown1 (by have := HE.out; omega); have HO2 : Hid _ := ho2; have HG2 : Hid _ := hg2; clear hown1 hgrow1 ho2 hg2)
  all_goals
   have HR : Hid (w2.ownsRow 0 113 6 (.slice (some ⟨g, 0, none⟩) k (k + 1)) k (lcs (L.eraseIdx k)) ∧ Keeps (fun j => j = g) u w2) := by
    refine ⟨by rw [← LE.out]; exact HO2.out, ?_⟩
    have q1 : Keeps (fun j => j = g) u w1 := ⟨HG1.out.os, HG1.out.tape, HG1.out.output, HG1.out.size, fun k hk hn => HG1.out.block k hk (fun e => hn (by injection e))⟩
    have q2 : Keeps (fun j => j = g) w1 w2 := ⟨HG2.out.os, HG2.out.tape, HG2.out.output, HG2.out.size, fun k hk hn => HG2.out.block k hk (fun e => hn (by injection e))⟩
    exact q1.trans q2
   clear HO1 HG1 HO2 HG2
   go_wp2
   go_ret
   exact ⟨rfl, HR.out.1, HR.out.2⟩
 ·go_region_law (refine step_append_fits rfl (.tmp 22) (.tmp 25) 57 rfl 0 113 i0 6 Tryz.underlying57 hi0 hz1 g k cap (lcs (L.take k)) (by simp [Act.eval, Act.put]) HO.out ⟨g, (k + 1) * 6, none⟩ (N + 1 - (k + 1)) (cap - (k + 1)) N (lcs (L.drop (k + 1))) (by simp [Act.eval, Act.put, hc]) NL.out NC.out (lcs_one _) (by have := HE.out; omega) (by omega) ?_; intro w1 hown1 hgrow1; have HO1 : Hid _ := hown1; have HG1 : Hid _ := hgrow1; have gl1 : g < w1.heap.size := (hown1.lt g rfl).2; obtain ⟨w2, hcl, ho2, hg2⟩ := own_clear (P := Tryz.prog) (t := 57) (e := 113) Tryz.underlying57 zeroLetter hown1 (by have := HE.out; omega); have HO2 : Hid _ := ho2; have HG2 : Hid _ := hg2; clear hown1 hgrow1 ho2 hg2)
  all_goals
   have HR : Hid (w2.ownsRow 0 113 6 (.slice (some ⟨g, 0, none⟩) N cap) N (lcs (L.eraseIdx k)) ∧ Keeps (fun j => j = g) u w2) := by
    refine ⟨by rw [← LE.out]; exact HO2.out, ?_⟩
    have q1 : Keeps (fun j => j = g) u w1 := ⟨HG1.out.os, HG1.out.tape, HG1.out.output, HG1.out.size, fun k hk hn => HG1.out.block k hk (fun e => hn (by injection e))⟩
    have q2 : Keeps (fun j => j = g) w1 w2 := ⟨HG2.out.os, HG2.out.tape, HG2.out.output, HG2.out.size, fun k hk hn => HG2.out.block k hk (fun e => hn (by injection e))⟩
    exact q1.trans q2
   clear HO1 HG1 HO2 HG2
   go_wp2
   go_ret
   exact ⟨rfl, HR.out.1, HR.out.2⟩
section
variable {u : World} {mb cb cc : Nat} {S : Ws} {v : Value}
theorem letter_bad (h : PW u mb cb cc S v) (hI : S.I) (a : Int) (hb : a < 0 ∨ (S.under.length : Int) ≤ a) :
  Calls Tryz.prog 147 #[.pointer (some ⟨mb, 0, none⟩), .int .i64 a] u fun o w' => o = .returned (.tuple #[.pointer none, errc 5]) ∧ w' = u := by
 obtain ⟨va, vcap, rfl, hform⟩ := h.len
 have c2 := h.r.c 2 _ rfl
 have l0 := h.r.lt
 have lu := hI.un
 rw [errc_not (e := 5) (by decide)]
 clear h hI hform
 by_cases d : a < 0
 ·have e1 : decide (a < 0) = true := decide_eq_true d
  clear hb
  go_enter Tryz.func147, Tryz.ntmps147
  go_wp2
  go_ret2
  exact ⟨rfl, rfl⟩
 ·have e1 : decide (a < 0) = false := decide_eq_false d
  have e2 : decide ((S.under.length : Int) ≤ a) = true := decide_eq_true (by omega)
  have e3 : (S.under.length : Int) ≤ a := by omega
  clear hb
  go_enter Tryz.func147, Tryz.ntmps147
  go_wp2
  go_ret2
  exact ⟨rfl, rfl⟩
theorem letter_ok (h : PW u mb cb cc S v) (hI : S.I) (k : Nat) (l : Lt) (hk : S.under[k]? = some l) :
  Calls Tryz.prog 147 #[.pointer (some ⟨mb, 0, none⟩), .int .i64 k] u fun o w' => ∃ g, o = .returned (.tuple #[.pointer (some ⟨g, 0, none⟩), errc 0]) ∧ Row w' g (ltc l) ∧ u.heap.size ≤ g ∧ Below u.heap.size u w' := by
 obtain ⟨va, vcap, rfl, hform⟩ := h.len
 have kl : k < S.under.length := by
  rcases Nat.lt_or_ge k S.under.length with h | h
  ·exact h
  ·rw [List.getElem?_eq_none h] at hk; cases hk
 obtain ⟨g, rfl, gc, gm, gu, gn, gk, gL⟩ := hform.resolve_left (fun h => by rw [h.2.1] at kl; exact absurd kl (by simp))
 have c2 := h.r.c 2 _ rfl
 have l0 := h.r.lt
 have lu := hI.un
 have LL := gL k l hk
 obtain ⟨l1, l2, l3, l4, l5, l6⟩ := l
 have a0 : u.cell? ⟨g, k * 6, none⟩ = some (.int .i64 l1) := by have := LL 0 _ rfl; simpa using this
 have a1 : u.cell? ⟨g, k * 6 + 1, none⟩ = some (.int .i64 l2) := by have := LL 1 _ rfl; simpa using this
 have a2 : u.cell? ⟨g, k * 6 + 2, none⟩ = some (.bool l3) := by have := LL 2 _ rfl; simpa using this
 have a3 : u.cell? ⟨g, k * 6 + 3, none⟩ = some (.int .i64 l4) := by have := LL 3 _ rfl; simpa using this
 have a4 : u.cell? ⟨g, k * 6 + 4, none⟩ = some (.int .i64 l5) := by have := LL 4 _ rfl; simpa using this
 have a5 : u.cell? ⟨g, k * 6 + 5, none⟩ = some (.int .i64 l6) := by have := LL 5 _ rfl; simpa using this
 rw [errc_zero]
 have d1 : decide ((k : Int) < 0) = false := decide_eq_false (by omega)
 have d2 : decide ((S.under.length : Int) ≤ (k : Int)) = false := decide_eq_false (by omega)
 have d3 : (k : Int) < (S.under.length : Int) := by omega
 have d4 : ¬ ((S.under.length : Int) ≤ (k : Int)) := by omega
 clear h hI gL LL hk
 go_enter Tryz.func147, Tryz.ntmps147
 go_wp2
 go_ret2
 first | exact ⟨_, rfl, Row.made rfl, Nat.le_refl _, rbel_al (Below.refl _ _)⟩ | exact ⟨rfl, Row.made rfl, Nat.le_refl _, rbel_al (Below.refl _ _)⟩
theorem take_bad (h : PW u mb cb cc S v) (hI : S.I) (a : Int) (hb : a < 0 ∨ (S.under.length : Int) ≤ a) :
  Calls Tryz.prog 146 #[.pointer (some ⟨mb, 0, none⟩), .int .i64 a] u fun o w' => o = .returned (.tuple #[.pointer none, errc 5]) ∧ w' = u := by
 have cL := letter_bad h hI a hb
 rw [errc_not (e := 5) (by decide)] at cL ⊢
 clear h hI hb
 go_enter Tryz.func146, Tryz.ntmps146
 go_wp2_with (go_at_call 147; refine cL.mono ?_; rintro o w0 ⟨rfl, hu⟩; rw [hu]; clear hu)
 go_ret2
 exact ⟨rfl, rfl⟩
theorem take_ok (h : PW u mb cb cc S v) (hI : S.I) (k : Nat) (l : Lt) (hk : S.under[k]? = some l) :
  Calls Tryz.prog 146 #[.pointer (some ⟨mb, 0, none⟩), .int .i64 k] u fun o w' => ∃ g v', o = .returned (.tuple #[.pointer (some ⟨g, 0, none⟩), errc 0]) ∧ Row w' g (ltc l) ∧ u.heap.size ≤ g ∧ PW w' mb cb cc { S with under := S.under.eraseIdx k } v' ∧ KpW u w' mb cb v v' ∧ v'.ownBlock = v.ownBlock := by
 have cL := letter_ok h hI k l hk
 rw [errc_zero] at cL ⊢
 obtain ⟨va, vcap, rfl, hform⟩ := h.len
 have kl : k < S.under.length := by
  rcases Nat.lt_or_ge k S.under.length with h | h
  ·exact h
  ·rw [List.getElem?_eq_none h] at hk; cases hk
 obtain ⟨g, rfl, gc, gm, gu, gn, gk, gL⟩ := hform.resolve_left (fun h => by rw [h.2.1] at kl; exact absurd kl (by simp))
 have lu := hI.un
 obtain ⟨N, hN⟩ : ∃ N, S.under.length = N + 1 := ⟨S.under.length - 1, by omega⟩
 have HD : Hid (∀ W, Below u.heap.size u W → Calls Tryz.prog 177 #[.slice (some ⟨g, 0, none⟩) (N + 1) vcap, .int .i64 k, .int .i64 ((k : Int) + 1)] W fun o w' => o = .returned (.slice (some ⟨g, 0, none⟩) N vcap) ∧ w'.ownsRow 0 113 6 (.slice (some ⟨g, 0, none⟩) N vcap) N (lcs (S.under.eraseIdx k)) ∧ Keeps (fun j => j = g) W w') := fun W hW => by
  have := (PW.on hW h).o
  rw [hN] at this
  have q := del_any g N vcap k S.under hN (by omega) (by omega) W this
  rw [Int.toNat_natCast] at q
  exact q
 have HP : Hid (PW u mb cb cc S (.slice (some ⟨g, 0, none⟩) (N + 1) vcap)) := by rw [← hN]; exact h
 have wk : IntKind.i64.wrap ((k : Int) + 1) = (k : Int) + 1 := IntWalk.i64_in _ (by omega)
 rw [hN]
 have HN : Hid (S.under.length = N + 1 ∧ k < N + 1) := ⟨hN, by omega⟩
 clear h hI hform gL hk
 go_enter Tryz.func146, Tryz.ntmps146
 go_wp2_with (first | (go_at_call 147; refine cL.mono ?_; rintro o u1 ⟨gl, rfl, hr, hg, hb⟩; have HB : Hid (Below u.heap.size u u1) := hb; have HR : Hid (Row u1 gl (ltc l)) := hr; have HG : Hid (u.heap.size ≤ gl) := hg; have HP1 : Hid (PW u1 mb cb cc S (.slice (some ⟨g, 0, none⟩) (N + 1) vcap)) := PW.on hb HP.out; have c2 := HP1.out.r.c 2 _ rfl; have l1 := HP1.out.r.lt; clear hb hr hg) | (go_at_call 177; refine (HD.out _ HB.out).mono ?_; rintro o u2 ⟨rfl, ho, hK⟩; have HO : Hid _ := ho; have HK : Hid (Keeps (fun j => j = g) u1 u2) := hK; have hr2 := hK.row gn.symm HP1.out.r; have f2 := hr2.f 2 _ rfl; have m2 := hr2.c 2 _ rfl; have l2 := hr2.lt; clear ho hK hr2))
 have lg : gl < u1.heap.size := HR.out.lt
 have hm : N = (S.under.eraseIdx k).length := by rw [List.length_eraseIdx_of_lt (by have := HN.out; omega), HN.out.1]; rfl
 have KX : Keeps (fun j => (Value.slice (some ⟨g, 0, none⟩) (N + 1) vcap).ownBlock = some j) u u2 := (Keeps.of HB.out).trans ⟨HK.out.os, HK.out.tape, HK.out.output, HK.out.size, fun j hj hn => HK.out.block j hj (fun e => hn (by rw [e]; rfl))⟩
 obtain ⟨g1, g2⟩ := PW.turn HP.out KX HO.out hm (fun j hj => Or.inl hj)
 have RG : Row (u2.setCell ⟨mb, 2, none⟩ (.slice (some ⟨g, 0, none⟩) N vcap)) gl (ltc l) := Row.far (by have := HG.out; have := HP.out.r.lt; omega) (HK.out.row (fun e => by have := HG.out; omega) HR.out)
 have G : Hid (_ ∧ _ ∧ _) := ⟨g1, g2, RG⟩
 clear g1 g2 RG KX hm
 go_ret2
 first | exact ⟨gl, rfl, G.out.2.2, HG.out, _, G.out.1, G.out.2.1, rfl⟩ | exact ⟨gl, _, rfl, G.out.2.2, HG.out, G.out.1, G.out.2.1, rfl⟩
end
set_option maxHeartbeats 8000000
set_option maxRecDepth 100000
section
variable {u : World} {mb cb cc : Nat} {S : Ws} {v : Value}
def Gp (u w' : World) (mb cb cc : Nat) (v : Value) (S' : Ws) (v' : Value) : Prop := PW w' mb cb cc S' v' ∧ KpW u w' mb cb v v'
theorem Gp.same {w' : World} (h : PW u mb cb cc S v) (hb : Below u.heap.size u w') : Gp u w' mb cb cc v S v := ⟨h.on hb, .same hb⟩
theorem Gp.from {W w' : World} {S' : Ws} {v' : Value} (hW : Below u.heap.size u W) (h : Gp W w' mb cb cc v S' v') : Gp u w' mb cb cc v S' v' := ⟨h.1, h.2.from hW⟩
theorem goon_any (h : PW u mb cb cc S v) (hI : S.I) {a e : Int} {S' : Ws} (hD : ((a < 0 ∨ 1000000 < a ∨ 1000000000 < S.time + a) ∧ S' = S ∧ e = 1) ∨ ((0 ≤ a ∧ a ≤ 1000000 ∧ S.time + a ≤ 1000000000) ∧ S' = { S with time := S.time + a } ∧ e = 0)) (W : World) (hW : Below u.heap.size u W) :
  Calls Tryz.prog 144 #[.pointer (some ⟨mb, 0, none⟩), .int .i64 a] W fun o w' => o = .returned (errc e) ∧ ∃ v', Gp u w' mb cb cc v S' v' := by
 rcases hD with ⟨c, rfl, rfl⟩ | ⟨c, rfl, rfl⟩
 ·refine (goon_bad (h.on hW) hI a c).mono ?_
  rintro o w' ⟨rfl, rfl⟩
  exact ⟨rfl, v, .same h hW⟩
 ·refine (goon_ok (h.on hW) hI a c).mono ?_
  rintro o w' ⟨rfl, g1, g2⟩
  exact ⟨rfl, v, .from hW ⟨g1, g2⟩⟩
theorem wask_any (h : PW u mb cb cc S v) (hI : S.I) {a b e : Int} {S' : Ws} (hD : (¬ (S.hs a ∧ S.hs b) ∧ S' = S ∧ e = 1) ∨ ((S.hs a ∧ S.hs b) ∧ a = b ∧ S' = S ∧ e = 3) ∨ ((S.hs a ∧ S.hs b) ∧ a ≠ b ∧ 40 ≤ S.under.length ∧ S' = S ∧ e = 4) ∨ ((S.hs a ∧ S.hs b) ∧ a ≠ b ∧ S.under.length < 40 ∧ S' = { S with under := S.under ++ [⟨a, b, false, 0, 0, S.rd a.toNat⟩] } ∧ e = 0)) (W : World) (hW : Below u.heap.size u W) :
  Calls Tryz.prog 145 #[.pointer (some ⟨mb, 0, none⟩), .int .i64 a, .int .i64 b] W fun o w' => o = .returned (errc e) ∧ ∃ v', Gp u w' mb cb cc v S' v' := by
 rcases hD with ⟨c, rfl, rfl⟩ | ⟨c, d, rfl, rfl⟩ | ⟨c, d, l, rfl, rfl⟩ | ⟨c, d, l, rfl, rfl⟩
 ·by_cases q : S'.hs a
  ·refine (wask_none2 (h.on hW) hI a b q (fun r => c ⟨q, r⟩)).mono ?_
   rintro o w' ⟨rfl, rfl⟩
   exact ⟨rfl, v, .same h hW⟩
  ·refine (wask_none1 (h.on hW) hI a b q).mono ?_
   rintro o w' ⟨rfl, rfl⟩
   exact ⟨rfl, v, .same h hW⟩
 ·refine (wask_self (h.on hW) hI a b c.1 c.2 d).mono ?_
  rintro o w' ⟨rfl, rfl⟩
  exact ⟨rfl, v, .same h hW⟩
 ·refine (wask_full (h.on hW) hI a b c.1 c.2 d l).mono ?_
  rintro o w' ⟨rfl, hb⟩
  exact ⟨rfl, v, .same h (rbel_on hb hW)⟩
 ·refine (wask_ok (h.on hW) hI a b c.1 c.2 d l).mono ?_
  rintro o w' ⟨v', rfl, g1, g2⟩
  exact ⟨rfl, v', .from hW ⟨g1, g2⟩⟩
def Cm (u w' : World) (v' pv : Value) (r : Option Lt) : Prop := (r = none ∧ pv = .pointer none) ∨ ∃ l g, r = some l ∧ pv = .pointer (some ⟨g, 0, none⟩) ∧ Row w' g (ltc l) ∧ u.heap.size ≤ g ∧ v'.ownBlock ≠ some g
theorem take_any (h : PW u mb cb cc S v) (hI : S.I) {a e : Int} {S' : Ws} {r : Option Lt} (hD : ((a < 0 ∨ (S.under.length : Int) ≤ a) ∧ S' = S ∧ r = none ∧ e = 5) ∨ ((0 ≤ a ∧ a < S.under.length) ∧ S' = { S with under := S.under.eraseIdx a.toNat } ∧ r = S.under[a.toNat]? ∧ e = 0)) (W : World) (hW : Below u.heap.size u W) :
  Calls Tryz.prog 146 #[.pointer (some ⟨mb, 0, none⟩), .int .i64 a] W fun o w' => ∃ pv v', o = .returned (.tuple #[pv, errc e]) ∧ Gp u w' mb cb cc v S' v' ∧ Cm u w' v' pv r := by
 rcases hD with ⟨c, rfl, rfl, rfl⟩ | ⟨c, rfl, rfl, rfl⟩
 ·refine (take_bad (h.on hW) hI a c).mono ?_
  rintro o w' ⟨rfl, rfl⟩
  exact ⟨_, v, rfl, .same h hW, Or.inl ⟨rfl, rfl⟩⟩
 ·obtain ⟨k, rfl⟩ : ∃ k : Nat, a = k := ⟨a.toNat, by omega⟩
  rw [Int.toNat_natCast]
  have hk : k < S.under.length := by omega
  have e1 : S.under[k]? = some S.under[k] := List.getElem?_eq_getElem hk
  refine (take_ok (h.on hW) hI k _ e1).mono ?_
  rintro o w' ⟨g, v', rfl, hr, hg, g1, g2, g3⟩
  refine ⟨_, v', rfl, .from hW ⟨g1, g2⟩, Or.inr ⟨_, g, e1, rfl, hr, Nat.le_trans hW.size hg, fun q => ?_⟩⟩
  rw [g3] at q
  have := ((h.on hW).o.lt g q).2
  omega
theorem letter_any (h : PW u mb cb cc S v) (hI : S.I) {a e : Int} {S' : Ws} {r : Option Lt} (hD : ((a < 0 ∨ (S.under.length : Int) ≤ a) ∧ S' = S ∧ r = none ∧ e = 5) ∨ ((0 ≤ a ∧ a < S.under.length) ∧ S' = S ∧ r = S.under[a.toNat]? ∧ e = 0)) (W : World) (hW : Below u.heap.size u W) :
  Calls Tryz.prog 147 #[.pointer (some ⟨mb, 0, none⟩), .int .i64 a] W fun o w' => ∃ pv v', o = .returned (.tuple #[pv, errc e]) ∧ Gp u w' mb cb cc v S' v' ∧ Cm u w' v' pv r := by
 rcases hD with ⟨c, rfl, rfl, rfl⟩ | ⟨c, rfl, rfl, rfl⟩
 ·refine (letter_bad (h.on hW) hI a c).mono ?_
  rintro o w' ⟨rfl, rfl⟩
  exact ⟨_, v, rfl, .same h hW, Or.inl ⟨rfl, rfl⟩⟩
 ·obtain ⟨k, rfl⟩ : ∃ k : Nat, a = k := ⟨a.toNat, by omega⟩
  rw [Int.toNat_natCast]
  have hk : k < S'.under.length := by omega
  have e1 : S'.under[k]? = some S'.under[k] := List.getElem?_eq_getElem hk
  refine (letter_ok (h.on hW) hI k _ e1).mono ?_
  rintro o w' ⟨g, rfl, hr, hg, hb⟩
  refine ⟨_, v, rfl, .same h (rbel_on hb hW), Or.inr ⟨_, g, e1, rfl, hr, Nat.le_trans hW.size hg, fun q => ?_⟩⟩
  have := ((h.on hW).o.lt g q).2
  omega
theorem do_go (x y : Int) (ev : Value) (S' : Ws) (hc : ∀ W, Below u.heap.size u W → Calls Tryz.prog 144 #[.pointer (some ⟨mb, 0, none⟩), .int .i64 x] W fun o w' => o = .returned ev ∧ ∃ v', Gp u w' mb cb cc v S' v') :
  Calls Tryz.prog 119 #[.pointer (some ⟨mb, 0, none⟩), .agg #[.int .i64 1, .int .i64 x, .int .i64 y]] u fun o w' => ∃ pv v', o = .returned (.tuple #[pv, ev]) ∧ Gp u w' mb cb cc v S' v' ∧ Cm u w' v' pv none := by
 have HC : Hid _ := hc
 clear hc
 go_enter Tryz.func119, Tryz.ntmps119
 go_wp2_with (go_at_call 144; refine (HC.out _ (rbel_al (Below.refl _ _))).mono ?_; rintro o w1 ⟨rfl, v', hg⟩; have HG : Hid (Gp u w1 mb cb cc v S' v') := hg; clear hg)
 go_ret2
 first | exact ⟨_, v', rfl, HG.out, Or.inl ⟨rfl, rfl⟩⟩ | exact ⟨v', rfl, HG.out, Or.inl ⟨rfl, rfl⟩⟩ | exact ⟨v', HG.out, Or.inl ⟨rfl, rfl⟩⟩
theorem do_ask (x y : Int) (ev : Value) (S' : Ws) (hc : ∀ W, Below u.heap.size u W → Calls Tryz.prog 145 #[.pointer (some ⟨mb, 0, none⟩), .int .i64 x, .int .i64 y] W fun o w' => o = .returned ev ∧ ∃ v', Gp u w' mb cb cc v S' v') :
  Calls Tryz.prog 119 #[.pointer (some ⟨mb, 0, none⟩), .agg #[.int .i64 2, .int .i64 x, .int .i64 y]] u fun o w' => ∃ pv v', o = .returned (.tuple #[pv, ev]) ∧ Gp u w' mb cb cc v S' v' ∧ Cm u w' v' pv none := by
 have HC : Hid _ := hc
 clear hc
 go_enter Tryz.func119, Tryz.ntmps119
 go_wp2_with (go_at_call 145; refine (HC.out _ (rbel_al (Below.refl _ _))).mono ?_; rintro o w1 ⟨rfl, v', hg⟩; have HG : Hid (Gp u w1 mb cb cc v S' v') := hg; clear hg)
 go_ret2
 first | exact ⟨_, v', rfl, HG.out, Or.inl ⟨rfl, rfl⟩⟩ | exact ⟨v', rfl, HG.out, Or.inl ⟨rfl, rfl⟩⟩ | exact ⟨v', HG.out, Or.inl ⟨rfl, rfl⟩⟩
theorem do_deliver (x y : Int) (ev : Value) (S' : Ws) (r : Option Lt) (hc : ∀ W, Below u.heap.size u W → Calls Tryz.prog 146 #[.pointer (some ⟨mb, 0, none⟩), .int .i64 x] W fun o w' => ∃ pv v', o = .returned (.tuple #[pv, ev]) ∧ Gp u w' mb cb cc v S' v' ∧ Cm u w' v' pv r) :
  Calls Tryz.prog 119 #[.pointer (some ⟨mb, 0, none⟩), .agg #[.int .i64 3, .int .i64 x, .int .i64 y]] u fun o w' => ∃ pv v', o = .returned (.tuple #[pv, ev]) ∧ Gp u w' mb cb cc v S' v' ∧ Cm u w' v' pv r := by
 have HC : Hid _ := hc
 clear hc
 go_enter Tryz.func119, Tryz.ntmps119
 go_wp2_with (go_at_call 146; refine (HC.out _ (rbel_al (Below.refl _ _))).mono ?_; rintro o w1 ⟨pv, v', rfl, hg, hm⟩; have HG : Hid (Gp u w1 mb cb cc v S' v') := hg; have HM : Hid (Cm u w1 v' pv r) := hm; clear hg hm)
 go_ret2
 first | exact ⟨_, v', rfl, HG.out, HM.out⟩ | exact ⟨v', rfl, HG.out, HM.out⟩ | exact ⟨pv, rfl, v', HG.out, HM.out⟩ | exact ⟨v', HG.out, HM.out⟩
theorem do_lose (x y : Int) (ev : Value) (S' : Ws) (r : Option Lt) (hc : ∀ W, Below u.heap.size u W → Calls Tryz.prog 146 #[.pointer (some ⟨mb, 0, none⟩), .int .i64 x] W fun o w' => ∃ pv v', o = .returned (.tuple #[pv, ev]) ∧ Gp u w' mb cb cc v S' v' ∧ Cm u w' v' pv r) :
  Calls Tryz.prog 119 #[.pointer (some ⟨mb, 0, none⟩), .agg #[.int .i64 4, .int .i64 x, .int .i64 y]] u fun o w' => ∃ pv v', o = .returned (.tuple #[pv, ev]) ∧ Gp u w' mb cb cc v S' v' ∧ Cm u w' v' pv none := by
 have HC : Hid _ := hc
 clear hc
 go_enter Tryz.func119, Tryz.ntmps119
 go_wp2_with (go_at_call 146; refine (HC.out _ (rbel_al (Below.refl _ _))).mono ?_; rintro o w1 ⟨pv, v', rfl, hg, hm⟩; have HG : Hid (Gp u w1 mb cb cc v S' v') := hg; have HM : Hid (Cm u w1 v' pv r) := hm; clear hg hm)
 go_ret2
 first | exact ⟨_, v', rfl, HG.out, Or.inl ⟨rfl, rfl⟩⟩ | exact ⟨v', rfl, HG.out, Or.inl ⟨rfl, rfl⟩⟩ | exact ⟨pv, rfl, v', HG.out, Or.inl ⟨rfl, rfl⟩⟩ | exact ⟨v', HG.out, Or.inl ⟨rfl, rfl⟩⟩
theorem do_repeat (x y : Int) (ev : Value) (S' : Ws) (r : Option Lt) (hc : ∀ W, Below u.heap.size u W → Calls Tryz.prog 147 #[.pointer (some ⟨mb, 0, none⟩), .int .i64 x] W fun o w' => ∃ pv v', o = .returned (.tuple #[pv, ev]) ∧ Gp u w' mb cb cc v S' v' ∧ Cm u w' v' pv r) :
  Calls Tryz.prog 119 #[.pointer (some ⟨mb, 0, none⟩), .agg #[.int .i64 5, .int .i64 x, .int .i64 y]] u fun o w' => ∃ pv v', o = .returned (.tuple #[pv, ev]) ∧ Gp u w' mb cb cc v S' v' ∧ Cm u w' v' pv r := by
 have HC : Hid _ := hc
 clear hc
 go_enter Tryz.func119, Tryz.ntmps119
 go_wp2_with (go_at_call 147; refine (HC.out _ (rbel_al (Below.refl _ _))).mono ?_; rintro o w1 ⟨pv, v', rfl, hg, hm⟩; have HG : Hid (Gp u w1 mb cb cc v S' v') := hg; have HM : Hid (Cm u w1 v' pv r) := hm; clear hg hm)
 go_ret2
 first | exact ⟨_, v', rfl, HG.out, HM.out⟩ | exact ⟨v', rfl, HG.out, HM.out⟩ | exact ⟨pv, rfl, v', HG.out, HM.out⟩ | exact ⟨v', HG.out, HM.out⟩
theorem do_none (h : PW u mb cb cc S v) (wh x y : Int) (hw : wh < 1 ∨ 5 < wh) :
  Calls Tryz.prog 119 #[.pointer (some ⟨mb, 0, none⟩), .agg #[.int .i64 wh, .int .i64 x, .int .i64 y]] u fun o w' => ∃ pv v', o = .returned (.tuple #[pv, errc 1]) ∧ Gp u w' mb cb cc v S v' ∧ Cm u w' v' pv none := by
 rw [errc_not (e := 1) (by decide)]
 have HP : Hid (PW u mb cb cc S v) := h
 have n1 : ¬ wh = 1 := by omega
 have n2 : ¬ wh = 2 := by omega
 have n3 : ¬ wh = 3 := by omega
 have n4 : ¬ wh = 4 := by omega
 have n5 : ¬ wh = 5 := by omega
 clear h hw
 go_enter Tryz.func119, Tryz.ntmps119
 go_wp2
 go_ret2
 first | exact ⟨_, v, rfl, .same HP.out (rbel_al (Below.refl _ _)), Or.inl ⟨rfl, rfl⟩⟩ | exact ⟨v, .same HP.out (rbel_al (Below.refl _ _)), Or.inl ⟨rfl, rfl⟩⟩
theorem do_any (h : PW u mb cb cc S v) (hI : S.I) {wh x y e : Int} {S' : Ws} {r : Option Lt} (hD : DoR S wh x y S' r e) :
  Calls Tryz.prog 119 #[.pointer (some ⟨mb, 0, none⟩), .agg #[.int .i64 wh, .int .i64 x, .int .i64 y]] u fun o w' => ∃ pv v', o = .returned (.tuple #[pv, errc e]) ∧ Gp u w' mb cb cc v S' v' ∧ Cm u w' v' pv r := by
 rcases hD with ⟨rfl, c, rfl, rfl, rfl⟩ | ⟨rfl, c, rfl, rfl, rfl⟩ | ⟨rfl, c, rfl, rfl, rfl⟩ | ⟨rfl, c, d, rfl, rfl, rfl⟩ | ⟨rfl, c, d, l, rfl, rfl, rfl⟩ | ⟨rfl, c, d, l, rfl, rfl, rfl⟩ | ⟨hw, c, rfl, rfl, rfl⟩ | ⟨rfl, c, rfl, rfl, rfl⟩ | ⟨rfl, c, rfl, rfl, rfl⟩ | ⟨rfl, c, rfl, rfl, rfl⟩ | ⟨hw, rfl, rfl, rfl⟩
 ·exact do_go x y _ _ (goon_any h hI (Or.inl ⟨c, rfl, rfl⟩))
 ·exact do_go x y _ _ (goon_any h hI (Or.inr ⟨c, rfl, rfl⟩))
 ·exact do_ask x y _ _ (wask_any h hI (Or.inl ⟨c, rfl, rfl⟩))
 ·exact do_ask x y _ _ (wask_any h hI (Or.inr (Or.inl ⟨c, d, rfl, rfl⟩)))
 ·exact do_ask x y _ _ (wask_any h hI (Or.inr (Or.inr (Or.inl ⟨c, d, l, rfl, rfl⟩))))
 ·exact do_ask x y _ _ (wask_any h hI (Or.inr (Or.inr (Or.inr ⟨c, d, l, rfl, rfl⟩))))
 ·rcases hw with rfl | rfl | rfl
  ·exact do_deliver x y _ _ _ (take_any h hI (Or.inl ⟨c, rfl, rfl, rfl⟩))
  ·exact do_lose x y _ _ none (take_any h hI (Or.inl ⟨c, rfl, rfl, rfl⟩))
  ·exact do_repeat x y _ _ _ (letter_any h hI (Or.inl ⟨c, rfl, rfl, rfl⟩))
 ·exact do_deliver x y _ _ _ (take_any h hI (Or.inr ⟨c, rfl, rfl, rfl⟩))
 ·exact do_lose x y _ _ _ (take_any h hI (Or.inr ⟨c, rfl, rfl, rfl⟩))
 ·exact do_repeat x y _ _ _ (letter_any h hI (Or.inr ⟨c, rfl, rfl, rfl⟩))
 ·exact do_none h wh x y hw
end
set_option maxHeartbeats 8000000
set_option maxRecDepth 100000
section
variable {u : World} {mb cb cc : Nat} {S : Ws} {v : Value}
theorem an_ans (h : PW u mb cb cc S v) (hI : S.I) (l1 l2 : Int)  (l4 l5 l6 : Int)  :
  Calls Tryz.prog 149 #[.pointer (some ⟨mb, 0, none⟩), .agg #[.int .i64 l1, .int .i64 l2, .bool true, .int .i64 l4, .int .i64 l5, .int .i64 l6]] u fun o w' => o = .returned (errc 3) ∧ Below u.heap.size u w' := by
 rw [errc_not (e := 3) (by decide)]
 clear h hI
 go_enter Tryz.func149, Tryz.ntmps149
 go_wp2
 go_ret
 exact ⟨rfl, rbel_al (Below.refl _ _)⟩
theorem an_none1 (h : PW u mb cb cc S v) (hI : S.I) (l1 l2 : Int)  (l4 l5 l6 : Int) (h1 : ¬ S.hs l1) :
  Calls Tryz.prog 149 #[.pointer (some ⟨mb, 0, none⟩), .agg #[.int .i64 l1, .int .i64 l2, .bool false, .int .i64 l4, .int .i64 l5, .int .i64 l6]] u fun o w' => o = .returned (errc 1) ∧ Below u.heap.size u w' := by
 rw [errc_not (e := 1) (by decide)]
 have c1 : Hid (∀ W, Below u.heap.size u W → Calls Tryz.prog 150 #[.pointer (some ⟨mb, 0, none⟩), .int .i64 l1] W fun o w' => o = .returned (.bool false) ∧ w' = W) := fun W hW => iscl (h.on hW) hI l1 false (decide_eq_false (p := 0 ≤ l1 ∧ l1 < (S.n : Int)) h1).symm
 clear h hI h1
 go_enter Tryz.func149, Tryz.ntmps149
 go_wp2_with (first | (go_at_call 150; refine (c1.out _ (rbel_al (Below.refl _ _))).mono ?_; rintro o w0 ⟨rfl, hu⟩; rw [hu]; clear hu))
 go_ret
 exact ⟨rfl, rbel_al (Below.refl _ _)⟩
theorem an_none2 (h : PW u mb cb cc S v) (hI : S.I) (l1 l2 : Int)  (l4 l5 l6 : Int) (h1 : S.hs l1) (h2 : ¬ S.hs l2) :
  Calls Tryz.prog 149 #[.pointer (some ⟨mb, 0, none⟩), .agg #[.int .i64 l1, .int .i64 l2, .bool false, .int .i64 l4, .int .i64 l5, .int .i64 l6]] u fun o w' => o = .returned (errc 1) ∧ Below u.heap.size u w' := by
 rw [errc_not (e := 1) (by decide)]
 have c1 : Hid (∀ W, Below u.heap.size u W → Calls Tryz.prog 150 #[.pointer (some ⟨mb, 0, none⟩), .int .i64 l1] W fun o w' => o = .returned (.bool true) ∧ w' = W) := fun W hW => iscl (h.on hW) hI l1 true (decide_eq_true (p := 0 ≤ l1 ∧ l1 < (S.n : Int)) h1).symm
 have c2 : Hid (∀ W, Below u.heap.size u W → Calls Tryz.prog 150 #[.pointer (some ⟨mb, 0, none⟩), .int .i64 l2] W fun o w' => o = .returned (.bool false) ∧ w' = W) := fun W hW => iscl (h.on hW) hI l2 false (decide_eq_false (p := 0 ≤ l2 ∧ l2 < (S.n : Int)) h2).symm
 have cnt : Mark 0 := .mk _
 clear h hI h1 h2
 go_enter Tryz.func149, Tryz.ntmps149
 go_wp2_with (first | (go_at_call 150; (first | (have cm : Mark 0 := cnt; clear cm cnt; have cnt : Mark 1 := .mk _; refine (c1.out _ (rbel_al (Below.refl _ _))).mono ?_) | refine (c2.out _ (rbel_al (Below.refl _ _))).mono ?_); rintro o w0 ⟨rfl, hu⟩; rw [hu]; clear hu))
 go_ret
 exact ⟨rfl, rbel_al (Below.refl _ _)⟩
theorem an_full (h : PW u mb cb cc S v) (hI : S.I) (l1 l2 : Int)  (l4 l5 l6 : Int) (h1 : S.hs l1) (h2 : S.hs l2) (hl : 40 ≤ S.under.length) :
  Calls Tryz.prog 149 #[.pointer (some ⟨mb, 0, none⟩), .agg #[.int .i64 l1, .int .i64 l2, .bool false, .int .i64 l4, .int .i64 l5, .int .i64 l6]] u fun o w' => o = .returned (errc 4) ∧ Below u.heap.size u w' := by
 have c1 : Hid (∀ W, Below u.heap.size u W → Calls Tryz.prog 150 #[.pointer (some ⟨mb, 0, none⟩), .int .i64 l1] W fun o w' => o = .returned (.bool true) ∧ w' = W) := fun W hW => iscl (h.on hW) hI l1 true (decide_eq_true (p := 0 ≤ l1 ∧ l1 < (S.n : Int)) h1).symm
 have c2 : Hid (∀ W, Below u.heap.size u W → Calls Tryz.prog 150 #[.pointer (some ⟨mb, 0, none⟩), .int .i64 l2] W fun o w' => o = .returned (.bool true) ∧ w' = W) := fun W hW => iscl (h.on hW) hI l2 true (decide_eq_true (p := 0 ≤ l2 ∧ l2 < (S.n : Int)) h2).symm
 have cnt : Mark 0 := .mk _
 obtain ⟨k, rfl⟩ : ∃ k : Nat, l2 = k := ⟨l2.toNat, by have := h2.1; omega⟩
 have c3 : Hid (∀ W, Below u.heap.size u W → Calls Tryz.prog 151 #[.pointer (some ⟨mb, 0, none⟩), .int .i64 k] W fun o w' => o = .returned (.int .i64 (S.rd k)) ∧ Below W.heap.size W w') := fun W hW => shown (h.on hW) hI k (by have := h2.2; omega)
 have c4 : Hid (∀ W, Below u.heap.size u W → Calls Tryz.prog 176 #[.pointer (some ⟨mb, 0, none⟩), .agg #[.int .i64 (k : Int), .int .i64 l1, .bool true, .int .i64 l6, .int .i64 (S.rd k), .int .i64 (S.rd k)]] W fun o w' => o = .returned (errc 4) ∧ Below W.heap.size W w') := fun W hW => send_full (h.on hW) hI hl ⟨k, l1, true, l6, S.rd k, S.rd k⟩
 clear h hI h1 h2 hl
 generalize S.rd k = t at *
 go_enter Tryz.func149, Tryz.ntmps149
 go_wp2_with (first | (go_at_call 150; (first | (have cm : Mark 0 := cnt; clear cm cnt; have cnt : Mark 1 := .mk _; refine (c1.out _ (rbel_al (Below.refl _ _))).mono ?_) | refine (c2.out _ (rbel_al (Below.refl _ _))).mono ?_); rintro o w0 ⟨rfl, hu⟩; rw [hu]; clear hu) | (go_at_call 151; refine (c3.out _ (rbel_al (Below.refl _ _))).mono ?_; rintro o u1 ⟨rfl, hb⟩; have HB : Hid (Below u.heap.size u u1) := rbel_on hb (rbel_al (Below.refl _ _)); have RR : Hid (Row u1 u.heap.size [.int .i64 l1, .int .i64 (k : Int), .bool false, .int .i64 l4, .int .i64 l5, .int .i64 l6]) := Row.on hb (Row.made rfl); have z0 := RR.out.c 0 _ rfl; have z1 := RR.out.c 1 _ rfl; have z5 := RR.out.c 5 _ rfl; have zl := RR.out.lt; clear hb) | (go_at_call 176; refine (c4.out _ HB.out).mono ?_; rintro o u2 ⟨rfl, hb⟩; have HB2 : Hid (Below u.heap.size u u2) := rbel_on hb HB.out; clear hb))
 go_ret
 exact ⟨rfl, HB2.out⟩
theorem an_ok (h : PW u mb cb cc S v) (hI : S.I) (l1 l2 : Int)  (l4 l5 l6 : Int) (h1 : S.hs l1) (h2 : S.hs l2) (hl : S.under.length < 40) :
  Calls Tryz.prog 149 #[.pointer (some ⟨mb, 0, none⟩), .agg #[.int .i64 l1, .int .i64 l2, .bool false, .int .i64 l4, .int .i64 l5, .int .i64 l6]] u fun o w' => ∃ v', o = .returned (errc 0) ∧ Gp u w' mb cb cc v { S with under := S.under ++ [⟨l2, l1, true, l6, S.rd l2.toNat, S.rd l2.toNat⟩] } v' := by
 have c1 : Hid (∀ W, Below u.heap.size u W → Calls Tryz.prog 150 #[.pointer (some ⟨mb, 0, none⟩), .int .i64 l1] W fun o w' => o = .returned (.bool true) ∧ w' = W) := fun W hW => iscl (h.on hW) hI l1 true (decide_eq_true (p := 0 ≤ l1 ∧ l1 < (S.n : Int)) h1).symm
 have c2 : Hid (∀ W, Below u.heap.size u W → Calls Tryz.prog 150 #[.pointer (some ⟨mb, 0, none⟩), .int .i64 l2] W fun o w' => o = .returned (.bool true) ∧ w' = W) := fun W hW => iscl (h.on hW) hI l2 true (decide_eq_true (p := 0 ≤ l2 ∧ l2 < (S.n : Int)) h2).symm
 have cnt : Mark 0 := .mk _
 obtain ⟨k, rfl⟩ : ∃ k : Nat, l2 = k := ⟨l2.toNat, by have := h2.1; omega⟩
 have c3 : Hid (∀ W, Below u.heap.size u W → Calls Tryz.prog 151 #[.pointer (some ⟨mb, 0, none⟩), .int .i64 k] W fun o w' => o = .returned (.int .i64 (S.rd k)) ∧ Below W.heap.size W w') := fun W hW => shown (h.on hW) hI k (by have := h2.2; omega)
 have c4 : Hid (∀ W, Below u.heap.size u W → Calls Tryz.prog 176 #[.pointer (some ⟨mb, 0, none⟩), .agg #[.int .i64 (k : Int), .int .i64 l1, .bool true, .int .i64 l6, .int .i64 (S.rd k), .int .i64 (S.rd k)]] W fun o w' => ∃ v', o = .returned (errc 0) ∧ Gp u w' mb cb cc v { S with under := S.under ++ [⟨k, l1, true, l6, S.rd k, S.rd k⟩] } v') := fun W hW => (send_ok (h.on hW) hI hl ⟨k, l1, true, l6, S.rd k, S.rd k⟩).mono (by
  rintro o w' ⟨v', rfl, g1, g2⟩
  exact ⟨v', rfl, g1, g2.from hW⟩)
 rw [Int.toNat_natCast]
 clear h hI h1 h2 hl
 generalize S.rd k = t at *
 go_enter Tryz.func149, Tryz.ntmps149
 go_wp2_with (first | (go_at_call 150; (first | (have cm : Mark 0 := cnt; clear cm cnt; have cnt : Mark 1 := .mk _; refine (c1.out _ (rbel_al (Below.refl _ _))).mono ?_) | refine (c2.out _ (rbel_al (Below.refl _ _))).mono ?_); rintro o w0 ⟨rfl, hu⟩; rw [hu]; clear hu) | (go_at_call 151; refine (c3.out _ (rbel_al (Below.refl _ _))).mono ?_; rintro o u1 ⟨rfl, hb⟩; have HB : Hid (Below u.heap.size u u1) := rbel_on hb (rbel_al (Below.refl _ _)); have RR : Hid (Row u1 u.heap.size [.int .i64 l1, .int .i64 (k : Int), .bool false, .int .i64 l4, .int .i64 l5, .int .i64 l6]) := Row.on hb (Row.made rfl); have z0 := RR.out.c 0 _ rfl; have z1 := RR.out.c 1 _ rfl; have z5 := RR.out.c 5 _ rfl; have zl := RR.out.lt; clear hb) | (go_at_call 176; refine (c4.out _ HB.out).mono ?_; rintro o u2 ⟨v', rfl, hg⟩; have HG : Hid _ := hg; clear hg))
 go_ret
 exact ⟨v', rfl, HG.out⟩
theorem answer_any (h : PW u mb cb cc S v) (hI : S.I) (l : Lt) {S' : Ws} {e : Int} (hD : AnR S l S' e) :
  Calls Tryz.prog 149 #[.pointer (some ⟨mb, 0, none⟩), ltv l] u fun o w' => o = .returned (errc e) ∧ ∃ v', Gp u w' mb cb cc v S' v' := by
 obtain ⟨l1, l2, l3, l4, l5, l6⟩ := l
 unfold ltv
 rcases hD with ⟨a, rfl, rfl⟩ | ⟨a, c, rfl, rfl⟩ | ⟨a, c, d, rfl, rfl⟩ | ⟨a, c, d, rfl, rfl⟩
 ·obtain rfl : l3 = true := a
  refine (an_ans h hI l1 l2 l4 l5 l6).mono ?_
  rintro o w' ⟨rfl, hb⟩
  exact ⟨rfl, v, .same h hb⟩
 ·obtain rfl : l3 = false := a
  by_cases q : S'.hs l1
  ·refine (an_none2 h hI l1 l2 l4 l5 l6 q (fun r => c ⟨q, r⟩)).mono ?_
   rintro o w' ⟨rfl, hb⟩
   exact ⟨rfl, v, .same h hb⟩
  ·refine (an_none1 h hI l1 l2 l4 l5 l6 q).mono ?_
   rintro o w' ⟨rfl, hb⟩
   exact ⟨rfl, v, .same h hb⟩
 ·obtain rfl : l3 = false := a
  refine (an_full h hI l1 l2 l4 l5 l6 c.1 c.2 d).mono ?_
  rintro o w' ⟨rfl, hb⟩
  exact ⟨rfl, v, .same h hb⟩
 ·obtain rfl : l3 = false := a
  refine (an_ok h hI l1 l2 l4 l5 l6 c.1 c.2 d).mono ?_
  rintro o w' ⟨v', rfl, hg⟩
  exact ⟨rfl, v', hg⟩
end
theorem infoClock : (Tryz.prog.info? 178).map (fun i => (i.zero, i.size, i.bytes)) = some (some (.agg #[.int .i64 0, .int .i64 0]), 2, 16) := by kernel_rfl
def ccs (z r : Nat → Int) : Nat → List Value
 | 0 => []
 | i + 1 => ccs z r i ++ [.int .i64 (z i), .int .i64 (r i)]
theorem ccs_len (z r : Nat → Int) (n : Nat) : (ccs z r n).length = n * 2 := by
 induction n with
 | zero => rfl
 | succ n ih => show (ccs z r n ++ _).length = _; rw [List.length_append, ih]; show n * 2 + 2 = _; omega
theorem ccs_at (z r : Nat → Int) {n i : Nat} (h : i < n) : (ccs z r n)[i * 2]? = some (.int .i64 (z i)) ∧ (ccs z r n)[i * 2 + 1]? = some (.int .i64 (r i)) := by
 induction n with
 | zero => omega
 | succ n ih =>
  have l := ccs_len z r n
  by_cases e : i = n
  ·subst e
   show (ccs z r i ++ _)[i * 2]? = _ ∧ (ccs z r i ++ _)[i * 2 + 1]? = _
   rw [List.getElem?_append_right (by omega), List.getElem?_append_right (by omega), l, show i * 2 - i * 2 = 0 by omega, show i * 2 + 1 - i * 2 = 1 by omega]
   exact ⟨rfl, rfl⟩
  ·obtain ⟨a, b⟩ := ih (by omega)
   show (ccs z r n ++ _)[i * 2]? = _ ∧ (ccs z r n ++ _)[i * 2 + 1]? = _
   rw [List.getElem?_append_left (by omega), List.getElem?_append_left (by omega)]
   exact ⟨a, b⟩
theorem own_clocks {w : World} {base n : Nat} {v : Value} {z r : Nat → Int} {e : TypeId} (h : w.ownsRow base e 2 v n (ccs z r n)) (hn : 1 ≤ n) : ∃ g c, v = .slice (some ⟨g, 0, none⟩) n c ∧ Cls w g n z r ∧ base ≤ g ∧ g < w.heap.size := by
 rcases h.2 with ⟨_, e⟩ | ⟨g, cap, cur, rfl, hb, hg, _⟩
 ·omega
 ·refine ⟨g, cap, rfl, fun i hi => ?_, hb, (h.lt g rfl).2⟩
  obtain ⟨a, b⟩ := ccs_at z r hi
  have q1 := h.cells (g := g) rfl _ _ a
  have q2 := h.cells (g := g) rfl _ _ b
  rw [Addr.add_lit, Nat.zero_add] at q1 q2
  exact ⟨q1, q2⟩
theorem own_empty_clk (w : World) (e : TypeId) (size base : Nat) (h : base ≤ w.heap.size) : (w.alloc (.cells #[] e)).ownsRow base e size (.slice (some ⟨w.heap.size, 0, none⟩) 0 0) 0 [] := by
 refine ⟨by simp, Or.inr ⟨w.heap.size, 0, #[], rfl, h, ?_, Nat.le_refl _, Nat.zero_le _, by simp, by simp⟩⟩
 show (w.heap.push _)[w.heap.size]? = _
 simp
theorem beE_one {n m : Nat} {z r : Nat → Int} {p e e' : Int} (h : BeE n z m r p e) (h' : BeE n z m r p e') : e = e' := by
 unfold BeE at h h'
 rcases h with ⟨a, rfl⟩ | ⟨a, b, rfl⟩ | ⟨a, b, ⟨i, hi, c⟩, rfl⟩ | ⟨a, b, c, rfl⟩ <;> rcases h' with ⟨a', rfl⟩ | ⟨a', b', rfl⟩ | ⟨a', b', ⟨i', hi', c'⟩, rfl⟩ | ⟨a', b', c', rfl⟩ <;> first | rfl | omega | (have := c i' hi'; omega) | (have := c' i hi; omega)
def WnR (n m : Nat) (z r : Nat → Int) (p : Int) (w : World) (o : Ending) (w' : World) : Prop := ∃ e pv, BeE n z m r p e ∧ o = .returned (.tuple #[pv, errc e]) ∧ Below w.heap.size w w' ∧ (e = 0 → ∃ b cb cc, pv = .pointer (some ⟨b, 0, none⟩) ∧ PW w' b cb cc (ws0 n z r) (.slice none 0 0) ∧ w.heap.size ≤ b ∧ w.heap.size ≤ cb)
theorem wnR_bad {n m : Nat} {z r : Nat → Int} {p e : Int} {w w' : World} (h : BeE n z m r p e) (he : e ≠ 0) (hb : Below w.heap.size w w') : WnR n m z r p w (.returned (.tuple #[.pointer none, .iface 86 (.int .i64 e)])) w' :=
 ⟨e, _, h, by rw [errc_not he], hb, fun q => absurd q he⟩
theorem pw_made {n m cb cc : Nat} {z r : Nat → Int} {p : Int} {w W : World} {t : TypeId} (h : BeE n z m r p 0) (hc : Cls W cb n z r) (hl : w.heap.size ≤ cb) (hlt : cb < W.heap.size) (hb : Below w.heap.size w W) : WnR n m z r p w (.returned (.tuple #[.pointer (some ⟨W.heap.size, 0, none⟩), .nilIface])) (W.alloc (.cells #[.slice (some ⟨cb, 0, none⟩) n cc, .int .i64 0, .slice none 0 0] t)) := by
 refine ⟨0, _, h, by rw [errc_zero], rbel_al hb, fun _ => ⟨W.heap.size, cb, cc, rfl, ⟨Row.made rfl, fun i hi => ?_, by simp; omega, World.ownsRow_nil _ _ _ _, by omega, fun q => (by cases q), fun q => (by cases q)⟩, hb.size, hl⟩⟩
 obtain ⟨a, b⟩ := hc i hi
 exact ⟨by rw [World.cell?_alloc_lt _ _ _ hlt]; exact a, by rw [World.cell?_alloc_lt _ _ _ hlt]; exact b⟩
set_option maxRecDepth 100000 in
set_option maxHeartbeats 8000000 in
theorem wnew_any (sa : Option Addr) (n sc : Nat) (z : Nat → Int) (ra : Option Addr) (m rc : Nat) (r : Nat → Int) (p : Int) (w : World) (hS : NHanded w sa n z) (hR : NHanded w ra m r) :
  Calls Tryz.prog 57 #[.slice sa n sc, .slice ra m rc, .int .i64 p] w fun o w' => WnR n m z r p w o w' := by
 have HS : Hid (NHanded w sa n z) := hS
 have HR : Hid (NHanded w ra m r) := hR
 have hn := hS.1
 have hm := hR.1
 clear hS hR
 by_cases h : 0 ≤ p ∧ p ≤ 1000 ∧ 1 ≤ n ∧ n ≤ 6
 case neg =>
  have HB : Hid (BeE n z m r p 1) := Or.inl ⟨by omega, rfl⟩
  have hc : (p < 0) ∨ (¬ p < 0 ∧ 1000 < p) ∨ (¬ p < 0 ∧ ¬ 1000 < p ∧ (n : Int) < 1) ∨ (¬ p < 0 ∧ ¬ 1000 < p ∧ ¬ (n : Int) < 1 ∧ 6 < (n : Int)) := by omega
  clear h
  rcases hc with a | ⟨a, b⟩ | ⟨a, b, c⟩ | ⟨a, b, c, d⟩
  all_goals
   go_enter Tryz.func57, Tryz.ntmps57
   go_wp2
   go_ret2
   exact wnR_bad HB.out (by decide) (Below.refl _ _)
 have H : Hid (0 ≤ p ∧ p ≤ 1000 ∧ 1 ≤ n ∧ n ≤ 6) := h
 have a : ¬ p < 0 := by omega
 have b : ¬ 1000 < p := by omega
 have c : ¬ (n : Int) < 1 := by omega
 have d : ¬ 6 < (n : Int) := by omega
 by_cases hmn : m = n
 case neg =>
  have e1 : ((m : Int) == n) = false := by simp; omega
  have e2 : ¬ ((m : Int) = n) := by omega
  have HB : Hid (BeE n z m r p 3) := Or.inr (Or.inl ⟨h, hmn, rfl⟩)
  clear h
  go_enter Tryz.func57, Tryz.ntmps57
  go_wp2
  go_ret2
  exact wnR_bad HB.out (by decide) (Below.refl _ _)
 subst hmn
 have HP : Hid (IntKind.i64.wrap (-p) = -p) := IntWalk.i64_in _ (by omega)
 obtain ⟨i0, hi0, hz0, hz1, hz2⟩ := info_parts infoClock
 have HN1 : Hid ((w.alloc (.cells #[] 178)).ownsRow w.heap.size 178 2 (.slice (some ⟨w.heap.size, 0, none⟩) 0 0) 0 []) := own_empty_clk w 178 2 w.heap.size (Nat.le_refl _)
 have HB1 : Hid (Below w.heap.size w (w.alloc (.cells #[] 178))) := rbel_al (Below.refl _ _)
 have hm6 : m ≤ 6 := h.2.2.2
 clear h
 go_enter Tryz.func57, Tryz.ntmps57
 go_wp2
 go_loopw [8, 37] (fun v vi wr => ∃ i : Nat, i ≤ m ∧ vi = .int .i64 i ∧ (∀ j, j < i → 0 ≤ z j ∧ z j ≤ 1000000 ∧ -p ≤ r j ∧ r j ≤ p) ∧ wr.ownsRow w.heap.size 178 2 v i (ccs z r i) ∧ Below w.heap.size w wr) (fun _ i _ => m - (intOf i).toNat)
 case atStart => exact ⟨0, Nat.zero_le _, rfl, fun j hj => by omega, HN1.out, HB1.out⟩
 case round =>
  clear HN1 HB1
  obtain ⟨i, hi, rfl, hok, hown, hw⟩ := hrel
  have HW : Hid (Below w.heap.size w wr) := hw
  have HO : Hid (∀ j, j < i → 0 ≤ z j ∧ z j ≤ 1000000 ∧ -p ≤ r j ∧ r j ≤ p) := hok
  have HN : Hid (wr.ownsRow w.heap.size 178 2 u8 i (ccs z r i)) := hown
  clear hok
  by_cases hlt : i < m
  ·have hl : (i : Int) < m := by omega
   obtain ⟨b1, o1, rfl, hP1⟩ : ∃ b off : Nat, sa = some ⟨b, off, none⟩ ∧ Nrd w b off m z := by
    rcases HS.out.2 with e | h
    ·omega
    ·exact h
   obtain ⟨b2, o2, rfl, hP2⟩ : ∃ b off : Nat, ra = some ⟨b, off, none⟩ ∧ Nrd w b off m r := by
    rcases HR.out.2 with e | h
    ·omega
    ·exact h
   have x1 := (hP1.on hw) i hlt
   have x2 := (hP2.on hw) i hlt
   have l1 := World.block_lt_of_cell? _ _ x1
   have l2 := World.block_lt_of_cell? _ _ x2
   have wp := HP.out
   by_cases hz : 0 ≤ z i ∧ z i ≤ 1000000 ∧ -p ≤ r i ∧ r i ≤ p
   ·have HZ : Hid (0 ≤ z i ∧ z i ≤ 1000000 ∧ -p ≤ r i ∧ r i ≤ p) := hz
    have d1 : decide (z i < 0) = false := decide_eq_false (by omega)
    have d2 : decide (1000000 < z i) = false := decide_eq_false (by omega)
    have d3 : decide (r i < -p) = false := decide_eq_false (by omega)
    have d4 : decide (p < r i) = false := decide_eq_false (by omega)
    have HIc : Hid (ccs z r (i + 1) = ccs z r i ++ [.int .i64 (z i), .int .i64 (r i)]) := rfl
    have HBk : Hid (∀ j, u8.ownBlock = some j → w.heap.size ≤ j) := fun j hj => (HN.out.lt j hj).1
    have szw := hw.size
    clear hz hw hP1 hP2 HS HR hown
    generalize hzi : z i = zi at *
    generalize hri : r i = ri at *
    generalize ccs z r i = xs at *
    go_wp2_with (at_builtin; refine wpList_append_own _ rfl _ _ 176 rfl w.heap.size 178 i0 (.agg #[.int .i64 0, .int .i64 0]) 2 16 Tryz.underlying176 hi0 hz0 hz1 hz2 rfl (by decide) _ _ _ rfl (HN.out.alloc _) ⟨wr.heap.size, 0, none⟩ 1 1 [.int .i64 zi, .int .i64 ri] rfl rfl (fun j u hj => by rw [Addr.add_lit]; exact (Row.made (W := wr) (vs := [.int .i64 zi, .int .i64 ri]) rfl).c _ _ (by simpa using hj)) (fun u hu => by simp at hu; rcases hu with rfl | rfl <;> rfl) (by unfold maxLen; omega) (by omega) (by simp; omega) ?_)
    intro v' w1 hown' hgrow _
    have HO1 : Hid (w1.ownsRow w.heap.size 178 2 v' (i + 1) (ccs z r (i + 1))) := by
     show w1.ownsRow w.heap.size 178 2 v' (i + 1) (ccs z r (i + 1))
     rw [HIc.out]
     exact hown'
    have HW1 : Hid (Below w.heap.size w w1) := (rbel_al HW.out).grown hgrow (by simp; omega) (fun j hj => HBk.out j hj)
    clear hown' hgrow HN HBk HIc HW
    go_wp2
    go_roundw
    case rel => exact ⟨i + 1, by omega, by go_num, fun j hj => by
     by_cases e : j = i
     ·subst e; rw [hzi, hri]; exact HZ.out
     ·exact HO.out j (by omega), HO1.out, HW1.out⟩
    case measure => simp [intOf]; omega
   ·have HB : Hid (BeE m z m r p 1) := Or.inr (Or.inr (Or.inl ⟨H.out, rfl, ⟨i, hlt, by omega⟩, rfl⟩))
    have hc : (z i < 0) ∨ (¬ z i < 0 ∧ 1000000 < z i) ∨ (¬ z i < 0 ∧ ¬ 1000000 < z i ∧ r i < -p) ∨ (¬ z i < 0 ∧ ¬ 1000000 < z i ∧ ¬ r i < -p ∧ p < r i) := by omega
    clear hz hw hP1 hP2 HS HR hown HN
    rcases hc with a | ⟨a, b⟩ | ⟨a, b, c⟩ | ⟨a, b, c, d⟩
    ·have d1 : decide (z i < 0) = true := decide_eq_true a
     go_wp2
     go_ret2
     exact wnR_bad HB.out (by decide) HW.out
    ·have d1 : decide (z i < 0) = false := decide_eq_false a
     have d2 : decide (1000000 < z i) = true := decide_eq_true b
     go_wp2
     go_ret2
     exact wnR_bad HB.out (by decide) HW.out
    ·have d1 : decide (z i < 0) = false := decide_eq_false a
     have d2 : decide (1000000 < z i) = false := decide_eq_false b
     have d3 : decide (r i < -p) = true := decide_eq_true c
     go_wp2
     go_ret2
     exact wnR_bad HB.out (by decide) HW.out
    ·have d1 : decide (z i < 0) = false := decide_eq_false a
     have d2 : decide (1000000 < z i) = false := decide_eq_false b
     have d3 : decide (r i < -p) = false := decide_eq_false c
     have d4 : decide (p < r i) = true := decide_eq_true d
     go_wp2
     go_ret2
     exact wnR_bad HB.out (by decide) HW.out
  ·have hl : ¬ ((i : Int) < m) := by omega
   have e' : i = m := by omega
   subst e'
   obtain ⟨g, c, rfl, hC, hg1, hg2⟩ := own_clocks hown H.out.2.2.1
   have HB : Hid (BeE i z i r p 0) := Or.inr (Or.inr (Or.inr ⟨H.out, rfl, HO.out, rfl⟩))
   have HC : Hid (Cls wr g i z r ∧ w.heap.size ≤ g ∧ g < wr.heap.size) := ⟨hC, hg1, hg2⟩
   clear hown HN hC hw HS HR HO
   go_wp2
   go_ret2
   exact pw_made HB.out HC.out.1 HC.out.2.1 HC.out.2.2 HW.out
structure RW (Ex : List Value) (w u : World) (mb : Nat) (sa : Option Addr) (sc : Nat) (ra : Option Addr) (rc : Nat) (S : Ws) (v : Value) : Prop where
 r : Row u mb (.slice sa S.n sc :: .slice ra S.n rc :: .int .i64 S.time :: v :: Ex)
 o : u.ownsRow w.heap.size 113 6 v S.under.length (lcs S.under)
 hs : NHanded w sa S.n S.starts
 hr : NHanded w ra S.n S.rates
 hw : Below w.heap.size w u
 ne : v.ownBlock ≠ some mb
 lo : w.heap.size ≤ mb
def Kp (u u' : World) (mb : Nat) (v v' : Value) : Prop := Keeps (fun k => k = mb ∨ v.ownBlock = some k) u u' ∧ ∀ g, v'.ownBlock = some g → v.ownBlock = some g ∨ u.heap.size ≤ g
section
variable {Ex : List Value} {w u u' : World} {mb sc rc : Nat} {sa ra : Option Addr} {S : Ws} {v : Value}
theorem RW.form (h : RW Ex w u mb sa sc ra rc S v) : (v = .slice none 0 0 ∧ S.under = []) ∨ ∃ g cap, v = .slice (some ⟨g, 0, none⟩) S.under.length cap ∧ S.under.length ≤ cap ∧ w.heap.size ≤ g ∧ g < u.heap.size ∧ g ≠ mb ∧ Lts u g 0 S.under := by
 rcases h.o.2 with ⟨e, l⟩ | ⟨g, cap, cur, e, hb, hg, hc, _, hcs, htk⟩
 ·exact Or.inl ⟨e, List.eq_nil_of_length_eq_zero l⟩
 ·have glt : g < u.heap.size := by
   rcases Nat.lt_or_ge g u.heap.size with hlt | hge
   ·exact hlt
   ·rw [Array.getElem?_eq_none hge] at hg; cases hg
  refine Or.inr ⟨g, cap, e, hc, hb, glt, fun q => h.ne (by rw [e]; show some g = some mb; rw [q]), fun i q hq j x hx => ?_⟩
  have := h.o.cells (g := g) (by rw [e]; rfl) (i * 6 + j) x (lcs_at hq hx)
  rw [Addr.add_lit] at this
  rw [show 0 + i * 6 + j = 0 + (i * 6 + j) by omega]
  exact this
theorem RW.len (h : RW Ex w u mb sa sc ra rc S v) : ∃ a cap, v = .slice a S.under.length cap ∧ (a = none ∧ S.under = [] ∧ cap = 0 ∨ ∃ g, a = some ⟨g, 0, none⟩ ∧ S.under.length ≤ cap ∧ w.heap.size ≤ g ∧ g < u.heap.size ∧ g ≠ mb ∧ Lts u g 0 S.under) := by
 rcases h.form with ⟨e, l⟩ | ⟨g, cap, e, q⟩
 ·exact ⟨none, 0, by rw [e, l]; rfl, Or.inl ⟨rfl, l, rfl⟩⟩
 ·exact ⟨_, cap, e, Or.inr ⟨g, rfl, q⟩⟩
theorem RW.on (hb : Below u.heap.size u u') (h : RW Ex w u mb sa sc ra rc S v) : RW Ex w u' mb sa sc ra rc S v := by
 refine ⟨Row.on hb h.r, h.o.kept (row := none) ⟨hb.os, hb.tape, hb.output, hb.size, fun k hk _ => hb.block k hk⟩ ?_, h.hs, h.hr, rbel_on hb h.hw, h.ne, h.lo⟩
 cases v.ownBlock with
 | none => exact Or.inl rfl
 | some k => exact Or.inr (by simp)
theorem RW.kp (hb : Below u.heap.size u u') : Kp u u' mb v v := ⟨.of hb, fun _ h => Or.inl h⟩
theorem RW.keep (hm : u'.heap[mb]? = u.heap[mb]?) (hv : ∀ g, v.ownBlock = some g → u'.heap[g]? = u.heap[g]?) (hw' : Below w.heap.size w u') (h : RW Ex w u mb sa sc ra rc S v) : RW Ex w u' mb sa sc ra rc S v := by
 refine ⟨row_block hm h.r, ⟨h.o.1, ?_⟩, h.hs, h.hr, hw', h.ne, h.lo⟩
 rcases h.o.2 with q | ⟨g, cap, cur, e, hb, hg, q⟩
 ·exact Or.inl q
 ·exact Or.inr ⟨g, cap, cur, e, hb, (hv g (by rw [e]; rfl)).trans hg, q⟩
def six (u : World) (b : Nat) (a0 a1 a2 a3 a4 a5 : Value) : World := (((((u.setCell ⟨b, 0, none⟩ a0).setCell ⟨b, 1, none⟩ a1).setCell ⟨b, 2, none⟩ a2).setCell ⟨b, 3, none⟩ a3).setCell ⟨b, 4, none⟩ a4).setCell ⟨b, 5, none⟩ a5
theorem six_keeps {T : Nat → Prop} {u1 : World} {b : Nat} {a0 a1 a2 a3 a4 a5 : Value} (hb : T b) (h : Keeps T u u1) : Keeps T u (six u1 b a0 a1 a2 a3 a4 a5) :=
 .put hb (.put hb (.put hb (.put hb (.put hb (.put hb h)))))
theorem RW.six {b : Nat} {a0 a1 a2 a3 a4 a5 : Value} (h : RW Ex w u mb sa sc ra rc S v) (h1 : b ≠ mb) (h2 : v.ownBlock ≠ some b) (h3 : w.heap.size ≤ b) : RW Ex w (six u b a0 a1 a2 a3 a4 a5) mb sa sc ra rc S v := by
 have k : Keeps (fun k => k = b) u (Go.Proofs.YtadkgnbagmnkkakGreatDoor.six u b a0 a1 a2 a3 a4 a5) := six_keeps rfl (.refl _ _)
 refine RW.keep (k.block mb h.r.lt (fun e => h1 e.symm)) (fun g hg => k.block g (h.o.lt g hg).2 (fun e => h2 (by rw [hg, e]))) (h.hw.trans (k.below h.hw.size (fun i hi => by rw [hi]; exact h3))) h
theorem Kp.six {u1 : World} {v' : Value} {b : Nat} {a0 a1 a2 a3 a4 a5 : Value} (h : Kp u u1 mb v v') (hb : u.heap.size ≤ b) : Kp u (six u1 b a0 a1 a2 a3 a4 a5) mb v v' := by
 refine ⟨?_, h.2⟩
 have k : Keeps (fun k => k = b) u1 (Go.Proofs.YtadkgnbagmnkkakGreatDoor.six u1 b a0 a1 a2 a3 a4 a5) := six_keeps rfl (.refl _ _)
 exact ⟨k.os.trans h.1.os, k.tape.trans h.1.tape, k.output.trans h.1.output, Nat.le_trans h.1.size k.size, fun i hi hn => (k.block i (Nat.lt_of_lt_of_le hi h.1.size) (fun e => by omega)).trans (h.1.block i hi hn)⟩
theorem RW.late {W : World} {t : Int} (h : RW Ex w u mb sa sc ra rc S v) (hW : Below u.heap.size u W) : RW Ex w (W.setCell ⟨mb, 2, none⟩ (.int .i64 t)) mb sa sc ra rc { S with time := t } v ∧ Kp u (W.setCell ⟨mb, 2, none⟩ (.int .i64 t)) mb v v := by
 have k0 : Keeps (fun k => k = mb ∨ v.ownBlock = some k) u (W.setCell ⟨mb, 2, none⟩ (.int .i64 t)) := Keeps.put (Or.inl rfl) (Keeps.of hW)
 have h0 := RW.on hW h
 exact ⟨⟨Row.put 2 h0.r, ownsRow_setCell_other h0.o (a := ⟨mb, 2, none⟩) h0.ne _, h.hs, h.hr, h.hw.trans (k0.below h.hw.size (by
  rintro k (e | e)
  ·rw [e]; exact h.lo
  ·exact (h.o.lt k e).1)), h.ne, h.lo⟩, k0, fun _ h => Or.inl h⟩
theorem RW.has (h : RW Ex w u mb sa sc ra rc S v) (i : Int) : Calls Tryz.prog 73 #[.pointer (some ⟨mb, 0, none⟩), .int .i64 i] u fun o w' => o = .returned (.bool (decide (0 ≤ i ∧ i < S.n))) ∧ Below u.heap.size u w' :=
 rhas mb S.n sc sa i u h.hs.1 (h.r.c 0 _ rfl)
theorem RW.read (h : RW Ex w u mb sa sc ra rc S v) (hI : S.I) {i : Nat} (hi : i < S.n) : Calls Tryz.prog 23 #[.pointer (some ⟨mb, 0, none⟩), .int .i64 i] u fun o w' => o = .returned (.int .i64 (S.rd i)) ∧ Below u.heap.size u w' :=
 rread mb S.n sc rc sa ra S i u hI rfl hi (h.r.c 0 _ rfl) (h.r.c 1 _ rfl) (h.r.c 2 _ rfl) (h.hs.on h.hw) (h.hr.on h.hw)
theorem RW.turn {X : World} {v' : Value} {l : List Lt} {m : Nat} (h : RW Ex w u mb sa sc ra rc S v) (hX : Below u.heap.size u X) (ho : X.ownsRow w.heap.size 113 6 v' m (lcs l)) (hm : m = l.length) (hb : ∀ g, v'.ownBlock = some g → u.heap.size ≤ g) :
  RW Ex w (X.setCell ⟨mb, 3, none⟩ v') mb sa sc ra rc { S with under := l } v' ∧ Kp u (X.setCell ⟨mb, 3, none⟩ v') mb v v' := by
 subst hm
 have lt : mb < u.heap.size := h.r.lt
 have ne' : v'.ownBlock ≠ some mb := fun e => by have := hb mb e; omega
 have K : Keeps (fun k => k = mb ∨ v.ownBlock = some k) u (X.setCell ⟨mb, 3, none⟩ v') := Keeps.put (Or.inl rfl) (Keeps.of hX)
 refine ⟨⟨Row.put 3 (RW.on hX h).r, ownsRow_setCell_other ho (a := ⟨mb, 3, none⟩) ne' v', h.hs, h.hr, h.hw.trans (K.below h.hw.size ?_), ne', h.lo⟩, K, ?_⟩
 ·rintro k (e | e)
  ·rw [e]; exact h.lo
  ·exact (h.o.lt k e).1
 ·exact fun g hg => Or.inr (hb g hg)
theorem RW.more {W w1 : World} {v' : Value} {l : Lt} (h : RW Ex w u mb sa sc ra rc S v) (hW : Below u.heap.size u W) (ho : w1.ownsRow w.heap.size 113 6 v' (S.under.length + 1) (lcs S.under ++ ltc l)) (hg : W.grownBy w1 v.ownBlock) (ha : v'.ownBlock = v.ownBlock ∨ v'.ownBlock = some W.heap.size) :
  RW Ex w (w1.setCell ⟨mb, 3, none⟩ v') mb sa sc ra rc { S with under := S.under ++ [l] } v' ∧ Kp u (w1.setCell ⟨mb, 3, none⟩ v') mb v v' := by
 have hW' := RW.on hW h
 have lt : mb < u.heap.size := h.r.lt
 have sz := hW.size
 have sz1 := hg.size
 have ne' : v'.ownBlock ≠ some mb := by
  rcases ha with e | e
  ·rw [e]; exact h.ne
  ·rw [e]; intro q; injection q with q; omega
 have kg : Keeps (fun k => k = mb ∨ v.ownBlock = some k) W w1 := ⟨hg.os, hg.tape, hg.output, hg.size, fun k hk hn => hg.block k hk (fun e => hn (Or.inr e.symm))⟩
 have K : Keeps (fun k => k = mb ∨ v.ownBlock = some k) u (w1.setCell ⟨mb, 3, none⟩ v') := Keeps.put (Or.inl rfl) ((Keeps.of hW).trans kg)
 have rw1 : Row w1 mb (.slice sa S.n sc :: .slice ra S.n rc :: .int .i64 S.time :: v :: Ex) := by
  refine (Keeps.row (S := fun k => v.ownBlock = some k) ⟨hg.os, hg.tape, hg.output, hg.size, fun k hk hn => hg.block k hk (fun e => hn e.symm)⟩ h.ne hW'.r)
 refine ⟨⟨Row.put 3 rw1, ?_, h.hs, h.hr, h.hw.trans (K.below h.hw.size ?_), ne', h.lo⟩, K, ?_⟩
 ·show (w1.setCell ⟨mb, 3, none⟩ v').ownsRow w.heap.size 113 6 v' (S.under ++ [l]).length (lcs (S.under ++ [l]))
  rw [lcs_app, List.length_append]
  exact ownsRow_setCell_other (by simpa [lcs] using ho) (a := ⟨mb, 3, none⟩) ne' v'
 ·rintro k (e | e)
  ·rw [e]; exact h.lo
  ·exact (h.o.lt k e).1
 ·intro g hg
  rcases ha with e | e
  ·exact Or.inl (e.symm.trans hg)
  ·rw [e] at hg; injection hg with hg; exact Or.inr (by omega)
end
set_option maxHeartbeats 4000000
set_option maxRecDepth 100000
theorem rdo_none {Ex : List Value} (w u : World) (mb sc rc : Nat) (sa ra : Option Addr) (S : Ws) (v : Value) (x y : Int) (hR : RW Ex w u mb sa sc ra rc S v) (hI : S.I) (wh : Int) (hwh : wh < 1 ∨ 5 < wh) :
  Calls Tryz.prog 43 #[.pointer (some ⟨mb, 0, none⟩), .agg #[.int .i64 wh, .int .i64 x, .int .i64 y]] u fun o w' => o = .returned (.tuple #[.agg #[.int .i64 0, .int .i64 0, .bool false, .int .i64 0, .int .i64 0, .int .i64 0], .bool false, .int .i64 1]) ∧ Below u.heap.size u w' := by
 have HR : Hid (RW Ex w u mb sa sc ra rc S v) := hR
 obtain ⟨va, vcap, ev, hform⟩ := hR.len
 have HF : Hid _ := hform
 have EV : Hid _ := ev
 have lh := hI.un
 have t0 := hI.t0
 have t1 := hI.t1
 have HI : Hid S.I := hI
 have zb : mb < u.heap.size := hR.r.lt
 have c2 := hR.r.c 2 _ rfl
 have c3 := hR.r.c 3 _ rfl
 rw [ev] at c3
 clear hR hI hform ev
 generalize S.time = T at *
 generalize S.under.length = L at *
 have n1 : ¬ (wh = 1) := by omega
 have n2 : ¬ (wh = 2) := by omega
 have n3 : ¬ (wh = 3) := by omega
 have n4 : ¬ (wh = 4) := by omega
 have n5 : ¬ (wh = 5) := by omega
 have e1 : (wh == 1) = false := by simp; omega
 have e2 : (wh == 2) = false := by simp; omega
 have e3 : (wh == 3) = false := by simp; omega
 have e4 : (wh == 4) = false := by simp; omega
 have e5 : (wh == 5) = false := by simp; omega
 clear hwh
 go_enter Tryz.func43, Tryz.ntmps43
 go_wp2
 exact bodyPost_ret (v := .tuple #[.agg #[.int .i64 0, .int .i64 0, .bool false, .int .i64 0, .int .i64 0, .int .i64 0], .bool false, .int .i64 1]) (by simp [results, Tryz.results43, go_sem, *]) rfl ⟨rfl, (by repeat (first | with_reducible exact Below.refl _ _ | with_reducible exact B2.out | with_reducible exact B1.out | (with_reducible refine rbel_put ?_ ?_; · first | exact Nat.le_refl _ | exact Nat.le_succ _ | omega) | with_reducible refine rbel_al ?_ | with_reducible refine rbel_drn ?_ | with_reducible refine rbel_dr ?_))⟩
theorem rdo_go_a {Ex : List Value} (w u : World) (mb sc rc : Nat) (sa ra : Option Addr) (S : Ws) (v : Value) (x y : Int) (hR : RW Ex w u mb sa sc ra rc S v) (hI : S.I) (h : x < 0) :
  Calls Tryz.prog 43 #[.pointer (some ⟨mb, 0, none⟩), .agg #[.int .i64 1, .int .i64 x, .int .i64 y]] u fun o w' => o = .returned (.tuple #[.agg #[.int .i64 0, .int .i64 0, .bool false, .int .i64 0, .int .i64 0, .int .i64 0], .bool false, .int .i64 1]) ∧ Below u.heap.size u w' := by
 have HR : Hid (RW Ex w u mb sa sc ra rc S v) := hR
 obtain ⟨va, vcap, ev, hform⟩ := hR.len
 have HF : Hid _ := hform
 have EV : Hid _ := ev
 have lh := hI.un
 have t0 := hI.t0
 have t1 := hI.t1
 have HI : Hid S.I := hI
 have zb : mb < u.heap.size := hR.r.lt
 have c2 := hR.r.c 2 _ rfl
 have c3 := hR.r.c 3 _ rfl
 rw [ev] at c3
 clear hR hI hform ev
 generalize S.time = T at *
 generalize S.under.length = L at *
 have wT : IntKind.i64.wrap (1000000000 - T) = 1000000000 - T := IntWalk.i64_in _ (by omega)
 have d1 : decide (x < 0) = true := decide_eq_true h
 go_enter Tryz.func43, Tryz.ntmps43
 go_wp2
 go_quiet (fail)
 go_wp2
 exact bodyPost_ret (v := .tuple #[.agg #[.int .i64 0, .int .i64 0, .bool false, .int .i64 0, .int .i64 0, .int .i64 0], .bool false, .int .i64 1]) (by simp [results, Tryz.results43, go_sem, *]) rfl ⟨rfl, (by repeat (first | with_reducible exact Below.refl _ _ | with_reducible exact B2.out | with_reducible exact B1.out | (with_reducible refine rbel_put ?_ ?_; · first | exact Nat.le_refl _ | exact Nat.le_succ _ | omega) | with_reducible refine rbel_al ?_ | with_reducible refine rbel_drn ?_ | with_reducible refine rbel_dr ?_))⟩
theorem rdo_go_b {Ex : List Value} (w u : World) (mb sc rc : Nat) (sa ra : Option Addr) (S : Ws) (v : Value) (x y : Int) (hR : RW Ex w u mb sa sc ra rc S v) (hI : S.I) (h0 : ¬ x < 0) (h : 1000000 < x) :
  Calls Tryz.prog 43 #[.pointer (some ⟨mb, 0, none⟩), .agg #[.int .i64 1, .int .i64 x, .int .i64 y]] u fun o w' => o = .returned (.tuple #[.agg #[.int .i64 0, .int .i64 0, .bool false, .int .i64 0, .int .i64 0, .int .i64 0], .bool false, .int .i64 1]) ∧ Below u.heap.size u w' := by
 have HR : Hid (RW Ex w u mb sa sc ra rc S v) := hR
 obtain ⟨va, vcap, ev, hform⟩ := hR.len
 have HF : Hid _ := hform
 have EV : Hid _ := ev
 have lh := hI.un
 have t0 := hI.t0
 have t1 := hI.t1
 have HI : Hid S.I := hI
 have zb : mb < u.heap.size := hR.r.lt
 have c2 := hR.r.c 2 _ rfl
 have c3 := hR.r.c 3 _ rfl
 rw [ev] at c3
 clear hR hI hform ev
 generalize S.time = T at *
 generalize S.under.length = L at *
 have wT : IntKind.i64.wrap (1000000000 - T) = 1000000000 - T := IntWalk.i64_in _ (by omega)
 have d1 : decide (x < 0) = false := decide_eq_false h0
 have d2 : decide (1000000 < x) = true := decide_eq_true h
 go_enter Tryz.func43, Tryz.ntmps43
 go_wp2
 go_quiet (fail)
 go_wp2
 exact bodyPost_ret (v := .tuple #[.agg #[.int .i64 0, .int .i64 0, .bool false, .int .i64 0, .int .i64 0, .int .i64 0], .bool false, .int .i64 1]) (by simp [results, Tryz.results43, go_sem, *]) rfl ⟨rfl, (by repeat (first | with_reducible exact Below.refl _ _ | with_reducible exact B2.out | with_reducible exact B1.out | (with_reducible refine rbel_put ?_ ?_; · first | exact Nat.le_refl _ | exact Nat.le_succ _ | omega) | with_reducible refine rbel_al ?_ | with_reducible refine rbel_drn ?_ | with_reducible refine rbel_dr ?_))⟩
theorem rdo_go_c {Ex : List Value} (w u : World) (mb sc rc : Nat) (sa ra : Option Addr) (S : Ws) (v : Value) (x y : Int) (hR : RW Ex w u mb sa sc ra rc S v) (hI : S.I) (h0 : ¬ x < 0) (h1 : ¬ 1000000 < x) (h : 1000000000 - S.time < x) :
  Calls Tryz.prog 43 #[.pointer (some ⟨mb, 0, none⟩), .agg #[.int .i64 1, .int .i64 x, .int .i64 y]] u fun o w' => o = .returned (.tuple #[.agg #[.int .i64 0, .int .i64 0, .bool false, .int .i64 0, .int .i64 0, .int .i64 0], .bool false, .int .i64 1]) ∧ Below u.heap.size u w' := by
 have HR : Hid (RW Ex w u mb sa sc ra rc S v) := hR
 obtain ⟨va, vcap, ev, hform⟩ := hR.len
 have HF : Hid _ := hform
 have EV : Hid _ := ev
 have lh := hI.un
 have t0 := hI.t0
 have t1 := hI.t1
 have HI : Hid S.I := hI
 have zb : mb < u.heap.size := hR.r.lt
 have c2 := hR.r.c 2 _ rfl
 have c3 := hR.r.c 3 _ rfl
 rw [ev] at c3
 clear hR hI hform ev
 generalize S.time = T at *
 generalize S.under.length = L at *
 have wT : IntKind.i64.wrap (1000000000 - T) = 1000000000 - T := IntWalk.i64_in _ (by omega)
 have d1 : decide (x < 0) = false := decide_eq_false h0
 have d2 : decide (1000000 < x) = false := decide_eq_false h1
 have d3 : decide (1000000000 - T < x) = true := decide_eq_true h
 go_enter Tryz.func43, Tryz.ntmps43
 go_wp2
 go_quiet (fail)
 go_wp2
 exact bodyPost_ret (v := .tuple #[.agg #[.int .i64 0, .int .i64 0, .bool false, .int .i64 0, .int .i64 0, .int .i64 0], .bool false, .int .i64 1]) (by simp [results, Tryz.results43, go_sem, *]) rfl ⟨rfl, (by repeat (first | with_reducible exact Below.refl _ _ | with_reducible exact B2.out | with_reducible exact B1.out | (with_reducible refine rbel_put ?_ ?_; · first | exact Nat.le_refl _ | exact Nat.le_succ _ | omega) | with_reducible refine rbel_al ?_ | with_reducible refine rbel_drn ?_ | with_reducible refine rbel_dr ?_))⟩
theorem rdo_none_a3 {Ex : List Value} (w u : World) (mb sc rc : Nat) (sa ra : Option Addr) (S : Ws) (v : Value) (x y : Int) (hR : RW Ex w u mb sa sc ra rc S v) (hI : S.I) (h : x < 0) :
  Calls Tryz.prog 43 #[.pointer (some ⟨mb, 0, none⟩), .agg #[.int .i64 3, .int .i64 x, .int .i64 y]] u fun o w' => o = .returned (.tuple #[.agg #[.int .i64 0, .int .i64 0, .bool false, .int .i64 0, .int .i64 0, .int .i64 0], .bool false, .int .i64 5]) ∧ Below u.heap.size u w' := by
 have HR : Hid (RW Ex w u mb sa sc ra rc S v) := hR
 obtain ⟨va, vcap, ev, hform⟩ := hR.len
 have HF : Hid _ := hform
 have EV : Hid _ := ev
 have lh := hI.un
 have t0 := hI.t0
 have t1 := hI.t1
 have HI : Hid S.I := hI
 have zb : mb < u.heap.size := hR.r.lt
 have c2 := hR.r.c 2 _ rfl
 have c3 := hR.r.c 3 _ rfl
 rw [ev] at c3
 clear hR hI hform ev
 generalize S.time = T at *
 generalize S.under.length = L at *
 have d1 : decide (x < 0) = true := decide_eq_true h
 go_enter Tryz.func43, Tryz.ntmps43
 go_wp2
 go_quiet (fail)
 go_wp2
 exact bodyPost_ret (v := .tuple #[.agg #[.int .i64 0, .int .i64 0, .bool false, .int .i64 0, .int .i64 0, .int .i64 0], .bool false, .int .i64 5]) (by simp [results, Tryz.results43, go_sem, *]) rfl ⟨rfl, (by repeat (first | with_reducible exact Below.refl _ _ | with_reducible exact B2.out | with_reducible exact B1.out | (with_reducible refine rbel_put ?_ ?_; · first | exact Nat.le_refl _ | exact Nat.le_succ _ | omega) | with_reducible refine rbel_al ?_ | with_reducible refine rbel_drn ?_ | with_reducible refine rbel_dr ?_))⟩
theorem rdo_none_b3 {Ex : List Value} (w u : World) (mb sc rc : Nat) (sa ra : Option Addr) (S : Ws) (v : Value) (x y : Int) (hR : RW Ex w u mb sa sc ra rc S v) (hI : S.I) (h0 : ¬ x < 0) (h : (S.under.length : Int) ≤ x) :
  Calls Tryz.prog 43 #[.pointer (some ⟨mb, 0, none⟩), .agg #[.int .i64 3, .int .i64 x, .int .i64 y]] u fun o w' => o = .returned (.tuple #[.agg #[.int .i64 0, .int .i64 0, .bool false, .int .i64 0, .int .i64 0, .int .i64 0], .bool false, .int .i64 5]) ∧ Below u.heap.size u w' := by
 have HR : Hid (RW Ex w u mb sa sc ra rc S v) := hR
 obtain ⟨va, vcap, ev, hform⟩ := hR.len
 have HF : Hid _ := hform
 have EV : Hid _ := ev
 have lh := hI.un
 have t0 := hI.t0
 have t1 := hI.t1
 have HI : Hid S.I := hI
 have zb : mb < u.heap.size := hR.r.lt
 have c2 := hR.r.c 2 _ rfl
 have c3 := hR.r.c 3 _ rfl
 rw [ev] at c3
 clear hR hI hform ev
 generalize S.time = T at *
 generalize S.under.length = L at *
 have d1 : decide (x < 0) = false := decide_eq_false h0
 have d2 : decide ((L : Int) ≤ x) = true := decide_eq_true h
 go_enter Tryz.func43, Tryz.ntmps43
 go_wp2
 go_quiet (fail)
 go_wp2
 exact bodyPost_ret (v := .tuple #[.agg #[.int .i64 0, .int .i64 0, .bool false, .int .i64 0, .int .i64 0, .int .i64 0], .bool false, .int .i64 5]) (by simp [results, Tryz.results43, go_sem, *]) rfl ⟨rfl, (by repeat (first | with_reducible exact Below.refl _ _ | with_reducible exact B2.out | with_reducible exact B1.out | (with_reducible refine rbel_put ?_ ?_; · first | exact Nat.le_refl _ | exact Nat.le_succ _ | omega) | with_reducible refine rbel_al ?_ | with_reducible refine rbel_drn ?_ | with_reducible refine rbel_dr ?_))⟩
theorem rdo_none_a4 {Ex : List Value} (w u : World) (mb sc rc : Nat) (sa ra : Option Addr) (S : Ws) (v : Value) (x y : Int) (hR : RW Ex w u mb sa sc ra rc S v) (hI : S.I) (h : x < 0) :
  Calls Tryz.prog 43 #[.pointer (some ⟨mb, 0, none⟩), .agg #[.int .i64 4, .int .i64 x, .int .i64 y]] u fun o w' => o = .returned (.tuple #[.agg #[.int .i64 0, .int .i64 0, .bool false, .int .i64 0, .int .i64 0, .int .i64 0], .bool false, .int .i64 5]) ∧ Below u.heap.size u w' := by
 have HR : Hid (RW Ex w u mb sa sc ra rc S v) := hR
 obtain ⟨va, vcap, ev, hform⟩ := hR.len
 have HF : Hid _ := hform
 have EV : Hid _ := ev
 have lh := hI.un
 have t0 := hI.t0
 have t1 := hI.t1
 have HI : Hid S.I := hI
 have zb : mb < u.heap.size := hR.r.lt
 have c2 := hR.r.c 2 _ rfl
 have c3 := hR.r.c 3 _ rfl
 rw [ev] at c3
 clear hR hI hform ev
 generalize S.time = T at *
 generalize S.under.length = L at *
 have d1 : decide (x < 0) = true := decide_eq_true h
 go_enter Tryz.func43, Tryz.ntmps43
 go_wp2
 go_quiet (fail)
 go_wp2
 exact bodyPost_ret (v := .tuple #[.agg #[.int .i64 0, .int .i64 0, .bool false, .int .i64 0, .int .i64 0, .int .i64 0], .bool false, .int .i64 5]) (by simp [results, Tryz.results43, go_sem, *]) rfl ⟨rfl, (by repeat (first | with_reducible exact Below.refl _ _ | with_reducible exact B2.out | with_reducible exact B1.out | (with_reducible refine rbel_put ?_ ?_; · first | exact Nat.le_refl _ | exact Nat.le_succ _ | omega) | with_reducible refine rbel_al ?_ | with_reducible refine rbel_drn ?_ | with_reducible refine rbel_dr ?_))⟩
theorem rdo_none_b4 {Ex : List Value} (w u : World) (mb sc rc : Nat) (sa ra : Option Addr) (S : Ws) (v : Value) (x y : Int) (hR : RW Ex w u mb sa sc ra rc S v) (hI : S.I) (h0 : ¬ x < 0) (h : (S.under.length : Int) ≤ x) :
  Calls Tryz.prog 43 #[.pointer (some ⟨mb, 0, none⟩), .agg #[.int .i64 4, .int .i64 x, .int .i64 y]] u fun o w' => o = .returned (.tuple #[.agg #[.int .i64 0, .int .i64 0, .bool false, .int .i64 0, .int .i64 0, .int .i64 0], .bool false, .int .i64 5]) ∧ Below u.heap.size u w' := by
 have HR : Hid (RW Ex w u mb sa sc ra rc S v) := hR
 obtain ⟨va, vcap, ev, hform⟩ := hR.len
 have HF : Hid _ := hform
 have EV : Hid _ := ev
 have lh := hI.un
 have t0 := hI.t0
 have t1 := hI.t1
 have HI : Hid S.I := hI
 have zb : mb < u.heap.size := hR.r.lt
 have c2 := hR.r.c 2 _ rfl
 have c3 := hR.r.c 3 _ rfl
 rw [ev] at c3
 clear hR hI hform ev
 generalize S.time = T at *
 generalize S.under.length = L at *
 have d1 : decide (x < 0) = false := decide_eq_false h0
 have d2 : decide ((L : Int) ≤ x) = true := decide_eq_true h
 go_enter Tryz.func43, Tryz.ntmps43
 go_wp2
 go_quiet (fail)
 go_wp2
 exact bodyPost_ret (v := .tuple #[.agg #[.int .i64 0, .int .i64 0, .bool false, .int .i64 0, .int .i64 0, .int .i64 0], .bool false, .int .i64 5]) (by simp [results, Tryz.results43, go_sem, *]) rfl ⟨rfl, (by repeat (first | with_reducible exact Below.refl _ _ | with_reducible exact B2.out | with_reducible exact B1.out | (with_reducible refine rbel_put ?_ ?_; · first | exact Nat.le_refl _ | exact Nat.le_succ _ | omega) | with_reducible refine rbel_al ?_ | with_reducible refine rbel_drn ?_ | with_reducible refine rbel_dr ?_))⟩
theorem rdo_none_a5 {Ex : List Value} (w u : World) (mb sc rc : Nat) (sa ra : Option Addr) (S : Ws) (v : Value) (x y : Int) (hR : RW Ex w u mb sa sc ra rc S v) (hI : S.I) (h : x < 0) :
  Calls Tryz.prog 43 #[.pointer (some ⟨mb, 0, none⟩), .agg #[.int .i64 5, .int .i64 x, .int .i64 y]] u fun o w' => o = .returned (.tuple #[.agg #[.int .i64 0, .int .i64 0, .bool false, .int .i64 0, .int .i64 0, .int .i64 0], .bool false, .int .i64 5]) ∧ Below u.heap.size u w' := by
 have HR : Hid (RW Ex w u mb sa sc ra rc S v) := hR
 obtain ⟨va, vcap, ev, hform⟩ := hR.len
 have HF : Hid _ := hform
 have EV : Hid _ := ev
 have lh := hI.un
 have t0 := hI.t0
 have t1 := hI.t1
 have HI : Hid S.I := hI
 have zb : mb < u.heap.size := hR.r.lt
 have c2 := hR.r.c 2 _ rfl
 have c3 := hR.r.c 3 _ rfl
 rw [ev] at c3
 clear hR hI hform ev
 generalize S.time = T at *
 generalize S.under.length = L at *
 have d1 : decide (x < 0) = true := decide_eq_true h
 go_enter Tryz.func43, Tryz.ntmps43
 go_wp2
 go_quiet (fail)
 go_wp2
 exact bodyPost_ret (v := .tuple #[.agg #[.int .i64 0, .int .i64 0, .bool false, .int .i64 0, .int .i64 0, .int .i64 0], .bool false, .int .i64 5]) (by simp [results, Tryz.results43, go_sem, *]) rfl ⟨rfl, (by repeat (first | with_reducible exact Below.refl _ _ | with_reducible exact B2.out | with_reducible exact B1.out | (with_reducible refine rbel_put ?_ ?_; · first | exact Nat.le_refl _ | exact Nat.le_succ _ | omega) | with_reducible refine rbel_al ?_ | with_reducible refine rbel_drn ?_ | with_reducible refine rbel_dr ?_))⟩
theorem rdo_none_b5 {Ex : List Value} (w u : World) (mb sc rc : Nat) (sa ra : Option Addr) (S : Ws) (v : Value) (x y : Int) (hR : RW Ex w u mb sa sc ra rc S v) (hI : S.I) (h0 : ¬ x < 0) (h : (S.under.length : Int) ≤ x) :
  Calls Tryz.prog 43 #[.pointer (some ⟨mb, 0, none⟩), .agg #[.int .i64 5, .int .i64 x, .int .i64 y]] u fun o w' => o = .returned (.tuple #[.agg #[.int .i64 0, .int .i64 0, .bool false, .int .i64 0, .int .i64 0, .int .i64 0], .bool false, .int .i64 5]) ∧ Below u.heap.size u w' := by
 have HR : Hid (RW Ex w u mb sa sc ra rc S v) := hR
 obtain ⟨va, vcap, ev, hform⟩ := hR.len
 have HF : Hid _ := hform
 have EV : Hid _ := ev
 have lh := hI.un
 have t0 := hI.t0
 have t1 := hI.t1
 have HI : Hid S.I := hI
 have zb : mb < u.heap.size := hR.r.lt
 have c2 := hR.r.c 2 _ rfl
 have c3 := hR.r.c 3 _ rfl
 rw [ev] at c3
 clear hR hI hform ev
 generalize S.time = T at *
 generalize S.under.length = L at *
 have d1 : decide (x < 0) = false := decide_eq_false h0
 have d2 : decide ((L : Int) ≤ x) = true := decide_eq_true h
 go_enter Tryz.func43, Tryz.ntmps43
 go_wp2
 go_quiet (fail)
 go_wp2
 exact bodyPost_ret (v := .tuple #[.agg #[.int .i64 0, .int .i64 0, .bool false, .int .i64 0, .int .i64 0, .int .i64 0], .bool false, .int .i64 5]) (by simp [results, Tryz.results43, go_sem, *]) rfl ⟨rfl, (by repeat (first | with_reducible exact Below.refl _ _ | with_reducible exact B2.out | with_reducible exact B1.out | (with_reducible refine rbel_put ?_ ?_; · first | exact Nat.le_refl _ | exact Nat.le_succ _ | omega) | with_reducible refine rbel_al ?_ | with_reducible refine rbel_drn ?_ | with_reducible refine rbel_dr ?_))⟩
set_option maxHeartbeats 4000000
set_option maxRecDepth 100000
theorem rdo_ask_a {Ex : List Value} (w u : World) (mb sc rc : Nat) (sa ra : Option Addr) (S : Ws) (v : Value) (x y : Int) (hR : RW Ex w u mb sa sc ra rc S v) (hI : S.I) (hx : ¬ (0 ≤ x ∧ x < S.n)) (hy : ¬ (0 ≤ y ∧ y < S.n)) :
  Calls Tryz.prog 43 #[.pointer (some ⟨mb, 0, none⟩), .agg #[.int .i64 2, .int .i64 x, .int .i64 y]] u fun o w' => o = .returned (.tuple #[.agg #[.int .i64 0, .int .i64 0, .bool false, .int .i64 0, .int .i64 0, .int .i64 0], .bool false, .int .i64 1]) ∧ Below u.heap.size u w' := by
 have HR : Hid (RW Ex w u mb sa sc ra rc S v) := hR
 obtain ⟨va, vcap, ev, hform⟩ := hR.len
 have HF : Hid _ := hform
 have EV : Hid _ := ev
 have lh := hI.un
 have t0 := hI.t0
 have t1 := hI.t1
 have HI : Hid S.I := hI
 have zb : mb < u.heap.size := hR.r.lt
 have c2 := hR.r.c 2 _ rfl
 have c3 := hR.r.c 3 _ rfl
 rw [ev] at c3
 have cH := fun (i : Int) (b : Bool) (W : World) (hW : Below u.heap.size u W) (hb : decide (0 ≤ i ∧ i < S.n) = b) => hb ▸ (RW.on hW hR).has i
 have cnt : Mark 0 := .mk _
 clear hR hI hform ev
 go_enter Tryz.func43, Tryz.ntmps43
 go_wp2_with (first
  | (go_at_call 73; have cq : Mark 0 := cnt; clear cnt cq; have cnt : Mark 1 := .mk _; refine (cH x false _ (rbel_al (rbel_al (Below.refl _ _))) (decide_eq_false (by first | assumption | omega))).mono ?_; rintro o u1 ⟨rfl, hb⟩; have ra1 : Hid (Row u1 u.heap.size [.int .i64 2, .int .i64 x, .int .i64 y]) := Row.on hb (Row.al (Row.made rfl)); have rz1 : Hid (Row u1 (u.heap.size + 1) [.int .i64 0, .int .i64 0, .bool false, .int .i64 0, .int .i64 0, .int .i64 0]) := Row.on hb (Row.made (by simp)); have B1 : Hid (Below u.heap.size u u1) := rbel_on hb (rbel_al (rbel_al (Below.refl _ _))); have sy1 : u.heap.size < u1.heap.size := ra1.out.lt; have x1_2 := ra1.out.c 2 _ rfl; clear hb)
  | (go_at_call 73; have cq : Mark 1 := cnt; clear cnt cq; have cnt : Mark 2 := .mk _; refine (cH y false _ B1.out (decide_eq_false (by first | assumption | omega))).mono ?_; rintro o u2 ⟨rfl, hb⟩; have ra2 : Hid (Row u2 u.heap.size [.int .i64 2, .int .i64 x, .int .i64 y]) := Row.on hb ra1.out; have rz2 : Hid (Row u2 (u.heap.size + 1) [.int .i64 0, .int .i64 0, .bool false, .int .i64 0, .int .i64 0, .int .i64 0]) := Row.on hb rz1.out; have B2 : Hid (Below u.heap.size u u2) := rbel_on hb B1.out; have sz2 : u.heap.size + 1 < u2.heap.size := rz2.out.lt; have z2_0 := rz2.out.c 0 _ rfl; have y2_0 := rz2.out.f 0 _ rfl; have z2_1 := rz2.out.c 1 _ rfl; have y2_1 := rz2.out.f 1 _ rfl; have z2_2 := rz2.out.c 2 _ rfl; have y2_2 := rz2.out.f 2 _ rfl; have z2_3 := rz2.out.c 3 _ rfl; have y2_3 := rz2.out.f 3 _ rfl; have z2_4 := rz2.out.c 4 _ rfl; have y2_4 := rz2.out.f 4 _ rfl; have z2_5 := rz2.out.c 5 _ rfl; have y2_5 := rz2.out.f 5 _ rfl; clear hb))
 exact bodyPost_ret (v := .tuple #[.agg #[.int .i64 0, .int .i64 0, .bool false, .int .i64 0, .int .i64 0, .int .i64 0], .bool false, .int .i64 1]) (by simp [results, Tryz.results43, go_sem, *]) rfl ⟨rfl, (by repeat (first | with_reducible exact Below.refl _ _ | with_reducible exact B2.out | with_reducible exact B1.out | (with_reducible refine rbel_put ?_ ?_; · first | exact Nat.le_refl _ | exact Nat.le_succ _ | omega) | with_reducible refine rbel_al ?_ | with_reducible refine rbel_drn ?_ | with_reducible refine rbel_dr ?_))⟩
theorem rdo_ask_b {Ex : List Value} (w u : World) (mb sc rc : Nat) (sa ra : Option Addr) (S : Ws) (v : Value) (x y : Int) (hR : RW Ex w u mb sa sc ra rc S v) (hI : S.I) (hx : ¬ (0 ≤ x ∧ x < S.n)) (hy : 0 ≤ y ∧ y < S.n) :
  Calls Tryz.prog 43 #[.pointer (some ⟨mb, 0, none⟩), .agg #[.int .i64 2, .int .i64 x, .int .i64 y]] u fun o w' => o = .returned (.tuple #[.agg #[.int .i64 0, .int .i64 0, .bool false, .int .i64 0, .int .i64 0, .int .i64 0], .bool false, .int .i64 1]) ∧ Below u.heap.size u w' := by
 have HR : Hid (RW Ex w u mb sa sc ra rc S v) := hR
 obtain ⟨va, vcap, ev, hform⟩ := hR.len
 have HF : Hid _ := hform
 have EV : Hid _ := ev
 have lh := hI.un
 have t0 := hI.t0
 have t1 := hI.t1
 have HI : Hid S.I := hI
 have zb : mb < u.heap.size := hR.r.lt
 have c2 := hR.r.c 2 _ rfl
 have c3 := hR.r.c 3 _ rfl
 rw [ev] at c3
 have cH := fun (i : Int) (b : Bool) (W : World) (hW : Below u.heap.size u W) (hb : decide (0 ≤ i ∧ i < S.n) = b) => hb ▸ (RW.on hW hR).has i
 have cnt : Mark 0 := .mk _
 clear hR hI hform ev
 go_enter Tryz.func43, Tryz.ntmps43
 go_wp2_with (first
  | (go_at_call 73; have cq : Mark 0 := cnt; clear cnt cq; have cnt : Mark 1 := .mk _; refine (cH x false _ (rbel_al (rbel_al (Below.refl _ _))) (decide_eq_false (by first | assumption | omega))).mono ?_; rintro o u1 ⟨rfl, hb⟩; have ra1 : Hid (Row u1 u.heap.size [.int .i64 2, .int .i64 x, .int .i64 y]) := Row.on hb (Row.al (Row.made rfl)); have rz1 : Hid (Row u1 (u.heap.size + 1) [.int .i64 0, .int .i64 0, .bool false, .int .i64 0, .int .i64 0, .int .i64 0]) := Row.on hb (Row.made (by simp)); have B1 : Hid (Below u.heap.size u u1) := rbel_on hb (rbel_al (rbel_al (Below.refl _ _))); have sy1 : u.heap.size < u1.heap.size := ra1.out.lt; have x1_2 := ra1.out.c 2 _ rfl; clear hb)
  | (go_at_call 73; have cq : Mark 1 := cnt; clear cnt cq; have cnt : Mark 2 := .mk _; refine (cH y true _ B1.out (decide_eq_true (by first | assumption | omega))).mono ?_; rintro o u2 ⟨rfl, hb⟩; have ra2 : Hid (Row u2 u.heap.size [.int .i64 2, .int .i64 x, .int .i64 y]) := Row.on hb ra1.out; have rz2 : Hid (Row u2 (u.heap.size + 1) [.int .i64 0, .int .i64 0, .bool false, .int .i64 0, .int .i64 0, .int .i64 0]) := Row.on hb rz1.out; have B2 : Hid (Below u.heap.size u u2) := rbel_on hb B1.out; have sz2 : u.heap.size + 1 < u2.heap.size := rz2.out.lt; have z2_0 := rz2.out.c 0 _ rfl; have y2_0 := rz2.out.f 0 _ rfl; have z2_1 := rz2.out.c 1 _ rfl; have y2_1 := rz2.out.f 1 _ rfl; have z2_2 := rz2.out.c 2 _ rfl; have y2_2 := rz2.out.f 2 _ rfl; have z2_3 := rz2.out.c 3 _ rfl; have y2_3 := rz2.out.f 3 _ rfl; have z2_4 := rz2.out.c 4 _ rfl; have y2_4 := rz2.out.f 4 _ rfl; have z2_5 := rz2.out.c 5 _ rfl; have y2_5 := rz2.out.f 5 _ rfl; clear hb))
 exact bodyPost_ret (v := .tuple #[.agg #[.int .i64 0, .int .i64 0, .bool false, .int .i64 0, .int .i64 0, .int .i64 0], .bool false, .int .i64 1]) (by simp [results, Tryz.results43, go_sem, *]) rfl ⟨rfl, (by repeat (first | with_reducible exact Below.refl _ _ | with_reducible exact B2.out | with_reducible exact B1.out | (with_reducible refine rbel_put ?_ ?_; · first | exact Nat.le_refl _ | exact Nat.le_succ _ | omega) | with_reducible refine rbel_al ?_ | with_reducible refine rbel_drn ?_ | with_reducible refine rbel_dr ?_))⟩
theorem rdo_ask_c {Ex : List Value} (w u : World) (mb sc rc : Nat) (sa ra : Option Addr) (S : Ws) (v : Value) (x y : Int) (hR : RW Ex w u mb sa sc ra rc S v) (hI : S.I) (hx : 0 ≤ x ∧ x < S.n) (hy : ¬ (0 ≤ y ∧ y < S.n)) :
  Calls Tryz.prog 43 #[.pointer (some ⟨mb, 0, none⟩), .agg #[.int .i64 2, .int .i64 x, .int .i64 y]] u fun o w' => o = .returned (.tuple #[.agg #[.int .i64 0, .int .i64 0, .bool false, .int .i64 0, .int .i64 0, .int .i64 0], .bool false, .int .i64 1]) ∧ Below u.heap.size u w' := by
 have HR : Hid (RW Ex w u mb sa sc ra rc S v) := hR
 obtain ⟨va, vcap, ev, hform⟩ := hR.len
 have HF : Hid _ := hform
 have EV : Hid _ := ev
 have lh := hI.un
 have t0 := hI.t0
 have t1 := hI.t1
 have HI : Hid S.I := hI
 have zb : mb < u.heap.size := hR.r.lt
 have c2 := hR.r.c 2 _ rfl
 have c3 := hR.r.c 3 _ rfl
 rw [ev] at c3
 have cH := fun (i : Int) (b : Bool) (W : World) (hW : Below u.heap.size u W) (hb : decide (0 ≤ i ∧ i < S.n) = b) => hb ▸ (RW.on hW hR).has i
 have cnt : Mark 0 := .mk _
 clear hR hI hform ev
 go_enter Tryz.func43, Tryz.ntmps43
 go_wp2_with (first
  | (go_at_call 73; have cq : Mark 0 := cnt; clear cnt cq; have cnt : Mark 1 := .mk _; refine (cH x true _ (rbel_al (rbel_al (Below.refl _ _))) (decide_eq_true (by first | assumption | omega))).mono ?_; rintro o u1 ⟨rfl, hb⟩; have ra1 : Hid (Row u1 u.heap.size [.int .i64 2, .int .i64 x, .int .i64 y]) := Row.on hb (Row.al (Row.made rfl)); have rz1 : Hid (Row u1 (u.heap.size + 1) [.int .i64 0, .int .i64 0, .bool false, .int .i64 0, .int .i64 0, .int .i64 0]) := Row.on hb (Row.made (by simp)); have B1 : Hid (Below u.heap.size u u1) := rbel_on hb (rbel_al (rbel_al (Below.refl _ _))); have sy1 : u.heap.size < u1.heap.size := ra1.out.lt; have x1_2 := ra1.out.c 2 _ rfl; clear hb)
  | (go_at_call 73; have cq : Mark 1 := cnt; clear cnt cq; have cnt : Mark 2 := .mk _; refine (cH y false _ B1.out (decide_eq_false (by first | assumption | omega))).mono ?_; rintro o u2 ⟨rfl, hb⟩; have ra2 : Hid (Row u2 u.heap.size [.int .i64 2, .int .i64 x, .int .i64 y]) := Row.on hb ra1.out; have rz2 : Hid (Row u2 (u.heap.size + 1) [.int .i64 0, .int .i64 0, .bool false, .int .i64 0, .int .i64 0, .int .i64 0]) := Row.on hb rz1.out; have B2 : Hid (Below u.heap.size u u2) := rbel_on hb B1.out; have sz2 : u.heap.size + 1 < u2.heap.size := rz2.out.lt; have z2_0 := rz2.out.c 0 _ rfl; have y2_0 := rz2.out.f 0 _ rfl; have z2_1 := rz2.out.c 1 _ rfl; have y2_1 := rz2.out.f 1 _ rfl; have z2_2 := rz2.out.c 2 _ rfl; have y2_2 := rz2.out.f 2 _ rfl; have z2_3 := rz2.out.c 3 _ rfl; have y2_3 := rz2.out.f 3 _ rfl; have z2_4 := rz2.out.c 4 _ rfl; have y2_4 := rz2.out.f 4 _ rfl; have z2_5 := rz2.out.c 5 _ rfl; have y2_5 := rz2.out.f 5 _ rfl; clear hb))
 exact bodyPost_ret (v := .tuple #[.agg #[.int .i64 0, .int .i64 0, .bool false, .int .i64 0, .int .i64 0, .int .i64 0], .bool false, .int .i64 1]) (by simp [results, Tryz.results43, go_sem, *]) rfl ⟨rfl, (by repeat (first | with_reducible exact Below.refl _ _ | with_reducible exact B2.out | with_reducible exact B1.out | (with_reducible refine rbel_put ?_ ?_; · first | exact Nat.le_refl _ | exact Nat.le_succ _ | omega) | with_reducible refine rbel_al ?_ | with_reducible refine rbel_drn ?_ | with_reducible refine rbel_dr ?_))⟩
theorem rdo_ask_d {Ex : List Value} (w u : World) (mb sc rc : Nat) (sa ra : Option Addr) (S : Ws) (v : Value) (x : Int) (hR : RW Ex w u mb sa sc ra rc S v) (hI : S.I) (hx : 0 ≤ x ∧ x < S.n) :
  Calls Tryz.prog 43 #[.pointer (some ⟨mb, 0, none⟩), .agg #[.int .i64 2, .int .i64 x, .int .i64 x]] u fun o w' => o = .returned (.tuple #[.agg #[.int .i64 0, .int .i64 0, .bool false, .int .i64 0, .int .i64 0, .int .i64 0], .bool false, .int .i64 3]) ∧ Below u.heap.size u w' := by
 have HR : Hid (RW Ex w u mb sa sc ra rc S v) := hR
 obtain ⟨va, vcap, ev, hform⟩ := hR.len
 have HF : Hid _ := hform
 have EV : Hid _ := ev
 have lh := hI.un
 have t0 := hI.t0
 have t1 := hI.t1
 have HI : Hid S.I := hI
 have zb : mb < u.heap.size := hR.r.lt
 have c2 := hR.r.c 2 _ rfl
 have c3 := hR.r.c 3 _ rfl
 rw [ev] at c3
 have cH := fun (i : Int) (b : Bool) (W : World) (hW : Below u.heap.size u W) (hb : decide (0 ≤ i ∧ i < S.n) = b) => hb ▸ (RW.on hW hR).has i
 have cnt : Mark 0 := .mk _
 clear hR hI hform ev
 go_enter Tryz.func43, Tryz.ntmps43
 go_wp2_with (first
  | (go_at_call 73; have cq : Mark 0 := cnt; clear cnt cq; have cnt : Mark 1 := .mk _; refine (cH x true _ (rbel_al (rbel_al (Below.refl _ _))) (decide_eq_true (by first | assumption | omega))).mono ?_; rintro o u1 ⟨rfl, hb⟩; have ra1 : Hid (Row u1 u.heap.size [.int .i64 2, .int .i64 x, .int .i64 x]) := Row.on hb (Row.al (Row.made rfl)); have rz1 : Hid (Row u1 (u.heap.size + 1) [.int .i64 0, .int .i64 0, .bool false, .int .i64 0, .int .i64 0, .int .i64 0]) := Row.on hb (Row.made (by simp)); have B1 : Hid (Below u.heap.size u u1) := rbel_on hb (rbel_al (rbel_al (Below.refl _ _))); have sy1 : u.heap.size < u1.heap.size := ra1.out.lt; have x1_2 := ra1.out.c 2 _ rfl; clear hb)
  | (go_at_call 73; have cq : Mark 1 := cnt; clear cnt cq; have cnt : Mark 2 := .mk _; refine (cH x true _ B1.out (decide_eq_true (by first | assumption | omega))).mono ?_; rintro o u2 ⟨rfl, hb⟩; have ra2 : Hid (Row u2 u.heap.size [.int .i64 2, .int .i64 x, .int .i64 x]) := Row.on hb ra1.out; have rz2 : Hid (Row u2 (u.heap.size + 1) [.int .i64 0, .int .i64 0, .bool false, .int .i64 0, .int .i64 0, .int .i64 0]) := Row.on hb rz1.out; have B2 : Hid (Below u.heap.size u u2) := rbel_on hb B1.out; have sz2 : u.heap.size + 1 < u2.heap.size := rz2.out.lt; have sy2 : u.heap.size < u2.heap.size := ra2.out.lt; have x2_1 := ra2.out.c 1 _ rfl; have x2_2 := ra2.out.c 2 _ rfl; have z2_0 := rz2.out.c 0 _ rfl; have y2_0 := rz2.out.f 0 _ rfl; have z2_1 := rz2.out.c 1 _ rfl; have y2_1 := rz2.out.f 1 _ rfl; have z2_2 := rz2.out.c 2 _ rfl; have y2_2 := rz2.out.f 2 _ rfl; have z2_3 := rz2.out.c 3 _ rfl; have y2_3 := rz2.out.f 3 _ rfl; have z2_4 := rz2.out.c 4 _ rfl; have y2_4 := rz2.out.f 4 _ rfl; have z2_5 := rz2.out.c 5 _ rfl; have y2_5 := rz2.out.f 5 _ rfl; clear hb))
 exact bodyPost_ret (v := .tuple #[.agg #[.int .i64 0, .int .i64 0, .bool false, .int .i64 0, .int .i64 0, .int .i64 0], .bool false, .int .i64 3]) (by simp [results, Tryz.results43, go_sem, *]) rfl ⟨rfl, (by repeat (first | with_reducible exact Below.refl _ _ | with_reducible exact B2.out | with_reducible exact B1.out | (with_reducible refine rbel_put ?_ ?_; · first | exact Nat.le_refl _ | exact Nat.le_succ _ | omega) | with_reducible refine rbel_al ?_ | with_reducible refine rbel_drn ?_ | with_reducible refine rbel_dr ?_))⟩
theorem rdo_ask_e {Ex : List Value} (w u : World) (mb sc rc : Nat) (sa ra : Option Addr) (S : Ws) (v : Value) (x y : Int) (hR : RW Ex w u mb sa sc ra rc S v) (hI : S.I) (hx : 0 ≤ x ∧ x < S.n) (hy : 0 ≤ y ∧ y < S.n) (he : ¬ x = y) (hf : 40 ≤ S.under.length) :
  Calls Tryz.prog 43 #[.pointer (some ⟨mb, 0, none⟩), .agg #[.int .i64 2, .int .i64 x, .int .i64 y]] u fun o w' => o = .returned (.tuple #[.agg #[.int .i64 0, .int .i64 0, .bool false, .int .i64 0, .int .i64 0, .int .i64 0], .bool false, .int .i64 4]) ∧ Below u.heap.size u w' := by
 have HR : Hid (RW Ex w u mb sa sc ra rc S v) := hR
 obtain ⟨va, vcap, ev, hform⟩ := hR.len
 have HF : Hid _ := hform
 have EV : Hid _ := ev
 have lh := hI.un
 have t0 := hI.t0
 have t1 := hI.t1
 have HI : Hid S.I := hI
 have zb : mb < u.heap.size := hR.r.lt
 have c2 := hR.r.c 2 _ rfl
 have c3 := hR.r.c 3 _ rfl
 rw [ev] at c3
 have cH := fun (i : Int) (b : Bool) (W : World) (hW : Below u.heap.size u W) (hb : decide (0 ≤ i ∧ i < S.n) = b) => hb ▸ (RW.on hW hR).has i
 have cnt : Mark 0 := .mk _
 clear hR hI hform ev
 have e1 : (x == y) = false := by simp; exact he
 have d1 : (40 : Int) ≤ (S.under.length : Int) := by omega
 have d2 : decide ((40 : Int) ≤ (S.under.length : Int)) = true := decide_eq_true d1
 go_enter Tryz.func43, Tryz.ntmps43
 go_wp2_with (first
  | (go_at_call 73; have cq : Mark 0 := cnt; clear cnt cq; have cnt : Mark 1 := .mk _; refine (cH x true _ (rbel_al (rbel_al (Below.refl _ _))) (decide_eq_true (by first | assumption | omega))).mono ?_; rintro o u1 ⟨rfl, hb⟩; have ra1 : Hid (Row u1 u.heap.size [.int .i64 2, .int .i64 x, .int .i64 y]) := Row.on hb (Row.al (Row.made rfl)); have rz1 : Hid (Row u1 (u.heap.size + 1) [.int .i64 0, .int .i64 0, .bool false, .int .i64 0, .int .i64 0, .int .i64 0]) := Row.on hb (Row.made (by simp)); have B1 : Hid (Below u.heap.size u u1) := rbel_on hb (rbel_al (rbel_al (Below.refl _ _))); have sy1 : u.heap.size < u1.heap.size := ra1.out.lt; have x1_2 := ra1.out.c 2 _ rfl; clear hb)
  | (go_at_call 73; have cq : Mark 1 := cnt; clear cnt cq; have cnt : Mark 2 := .mk _; refine (cH y true _ B1.out (decide_eq_true (by first | assumption | omega))).mono ?_; rintro o u2 ⟨rfl, hb⟩; have ra2 : Hid (Row u2 u.heap.size [.int .i64 2, .int .i64 x, .int .i64 y]) := Row.on hb ra1.out; have rz2 : Hid (Row u2 (u.heap.size + 1) [.int .i64 0, .int .i64 0, .bool false, .int .i64 0, .int .i64 0, .int .i64 0]) := Row.on hb rz1.out; have B2 : Hid (Below u.heap.size u u2) := rbel_on hb B1.out; have sz2 : u.heap.size + 1 < u2.heap.size := rz2.out.lt; have sy2 : u.heap.size < u2.heap.size := ra2.out.lt; have x2_1 := ra2.out.c 1 _ rfl; have x2_2 := ra2.out.c 2 _ rfl; have mrow2 := (RW.on B2.out HR.out).r; have mc2 := mrow2.c 3 _ rfl; have zb2 := mrow2.lt; rw [EV.out] at mc2; clear mrow2; have z2_0 := rz2.out.c 0 _ rfl; have y2_0 := rz2.out.f 0 _ rfl; have z2_1 := rz2.out.c 1 _ rfl; have y2_1 := rz2.out.f 1 _ rfl; have z2_2 := rz2.out.c 2 _ rfl; have y2_2 := rz2.out.f 2 _ rfl; have z2_3 := rz2.out.c 3 _ rfl; have y2_3 := rz2.out.f 3 _ rfl; have z2_4 := rz2.out.c 4 _ rfl; have y2_4 := rz2.out.f 4 _ rfl; have z2_5 := rz2.out.c 5 _ rfl; have y2_5 := rz2.out.f 5 _ rfl; clear hb))
 exact bodyPost_ret (v := .tuple #[.agg #[.int .i64 0, .int .i64 0, .bool false, .int .i64 0, .int .i64 0, .int .i64 0], .bool false, .int .i64 4]) (by simp [results, Tryz.results43, go_sem, *]) rfl ⟨rfl, (by repeat (first | with_reducible exact Below.refl _ _ | with_reducible exact B2.out | with_reducible exact B1.out | (with_reducible refine rbel_put ?_ ?_; · first | exact Nat.le_refl _ | exact Nat.le_succ _ | omega) | with_reducible refine rbel_al ?_ | with_reducible refine rbel_drn ?_ | with_reducible refine rbel_dr ?_))⟩
set_option maxRecDepth 100000 in
set_option maxHeartbeats 4000000 in
theorem rdo_go {Ex : List Value} (w u : World) (mb sc rc : Nat) (sa ra : Option Addr) (S : Ws) (v : Value) (x y : Int) (hR : RW Ex w u mb sa sc ra rc S v) (hI : S.I) (h0 : ¬ x < 0) (h1 : ¬ 1000000 < x) (h : ¬ 1000000000 - S.time < x) :
  Calls Tryz.prog 43 #[.pointer (some ⟨mb, 0, none⟩), .agg #[.int .i64 1, .int .i64 x, .int .i64 y]] u fun o w' => ∃ v', o = .returned (.tuple #[.agg #[.int .i64 0, .int .i64 0, .bool false, .int .i64 0, .int .i64 0, .int .i64 0], .bool false, .int .i64 0]) ∧ RW Ex w w' mb sa sc ra rc { S with time := S.time + x } v' ∧ Kp u w' mb v v' := by
 have HR : Hid (RW Ex w u mb sa sc ra rc S v) := hR
 obtain ⟨va, vcap, ev, hform⟩ := hR.len
 have HF : Hid _ := hform
 have EV : Hid _ := ev
 have lh := hI.un
 have t0 := hI.t0
 have t1 := hI.t1
 have HI : Hid S.I := hI
 have zb : mb < u.heap.size := hR.r.lt
 have c2 := hR.r.c 2 _ rfl
 have c3 := hR.r.c 3 _ rfl
 rw [ev] at c3
 have f2 := hR.r.f 2 _ rfl
 clear hR hI hform ev
 generalize eT : S.time = T at *
 generalize S.under.length = L at *
 have wT : IntKind.i64.wrap (1000000000 - T) = 1000000000 - T := IntWalk.i64_in _ (by omega)
 have wx : IntKind.i64.wrap (T + x) = T + x := IntWalk.i64_in _ (by omega)
 have d1 : decide (x < 0) = false := decide_eq_false h0
 have d2 : decide (1000000 < x) = false := decide_eq_false h1
 have d3 : decide (1000000000 - T < x) = false := decide_eq_false h
 go_enter Tryz.func43, Tryz.ntmps43
 go_wp2
 go_quiet (fail)
 go_wp2
 go_region
 all_goals
  go_wp2
  obtain ⟨g1, g2⟩ := RW.late (t := T + x) HR.out (W := ((u.alloc (Obj.cells #[.int .i64 1, .int .i64 x, .int .i64 y] 70)).alloc (Obj.cells #[.int .i64 0, .int .i64 0, .bool false, .int .i64 0, .int .i64 0, .int .i64 0] 113)).drewN (nq + 1)) (rbel_drn (rbel_al (rbel_al (Below.refl _ _))))
  have lo := HR.out.hw.size
  exact bodyPost_ret (v := .tuple #[.agg #[.int .i64 0, .int .i64 0, .bool false, .int .i64 0, .int .i64 0, .int .i64 0], .bool false, .int .i64 0]) (by simp [results, Tryz.results43, go_sem, *]) rfl ⟨v, rfl, RW.six g1 (by omega) (fun e => by have := (HR.out.o.lt _ e).2; omega) (by omega), Kp.six g2 (by omega)⟩
set_option maxRecDepth 100000 in
set_option maxHeartbeats 4000000 in
theorem rdo_ask {Ex : List Value} (w u : World) (mb sc rc : Nat) (sa ra : Option Addr) (S : Ws) (v : Value) (x y : Int) (hR : RW Ex w u mb sa sc ra rc S v) (hI : S.I) (hx : 0 ≤ x ∧ x < S.n) (hy : 0 ≤ y ∧ y < S.n) (he : ¬ x = y) (hf : S.under.length < 40) :
  Calls Tryz.prog 43 #[.pointer (some ⟨mb, 0, none⟩), .agg #[.int .i64 2, .int .i64 x, .int .i64 y]] u fun o w' => ∃ v', o = .returned (.tuple #[.agg #[.int .i64 0, .int .i64 0, .bool false, .int .i64 0, .int .i64 0, .int .i64 0], .bool false, .int .i64 0]) ∧ RW Ex w w' mb sa sc ra rc { S with under := S.under ++ [⟨x, y, false, 0, 0, S.rd x.toNat⟩] } v' ∧ Kp u w' mb v v' := by
 obtain ⟨va, vcap, rfl, hform⟩ := hR.len
 have EV : Hid ((Value.slice va S.under.length vcap) = (Value.slice va S.under.length vcap)) := rfl
 have HR : Hid (RW Ex w u mb sa sc ra rc S (.slice va S.under.length vcap)) := hR
 have zb : mb < u.heap.size := hR.r.lt
 have NB : Hid (∀ k, (Value.slice va S.under.length vcap).ownBlock = some k → k < u.heap.size) := fun k hk => (hR.o.lt k hk).2
 obtain ⟨i0, hi0, hz0, hz1, hz2⟩ := info_parts infoLetter
 obtain ⟨k, rfl⟩ : ∃ k : Nat, x = k := ⟨x.toNat, by omega⟩
 have hk : k < S.n := by omega
 have cH := fun (i : Int) (b : Bool) (W : World) (hW : Below u.heap.size u W) (hb : decide (0 ≤ i ∧ i < S.n) = b) => hb ▸ (RW.on hW HR.out).has i
 have cR := fun (W : World) (hW : Below u.heap.size u W) => (RW.on hW HR.out).read hI hk
 have ek : (k : Int).toNat = k := by omega
 rw [ek]
 have e1 : ((k : Int) == y) = false := by simp; exact he
 have d1 : ¬ ((40 : Int) ≤ (S.under.length : Int)) := by omega
 have d2 : decide ((40 : Int) ≤ (S.under.length : Int)) = false := decide_eq_false d1
 have cnt : Mark 0 := .mk _
 have hwsz := hR.hw.size
 clear hR hI hform ek hk
 generalize et : S.rd k = t at *
 go_enter Tryz.func43, Tryz.ntmps43
 go_wp2_with (first
  | (go_at_call 73; have cq : Mark 0 := cnt; clear cnt cq; have cnt : Mark 1 := .mk _; refine (cH (k : Int) true _ (rbel_al (rbel_al (Below.refl _ _))) (decide_eq_true (by first | assumption | omega))).mono ?_; rintro o u1 ⟨rfl, hb⟩; have ra1 : Hid (Row u1 u.heap.size [.int .i64 2, .int .i64 (k : Int), .int .i64 y]) := Row.on hb (Row.al (Row.made rfl)); have rz1 : Hid (Row u1 (u.heap.size + 1) [.int .i64 0, .int .i64 0, .bool false, .int .i64 0, .int .i64 0, .int .i64 0]) := Row.on hb (Row.made (by simp)); have B1 : Hid (Below u.heap.size u u1) := rbel_on hb (rbel_al (rbel_al (Below.refl _ _))); have sy1 : u.heap.size < u1.heap.size := ra1.out.lt; have x1_2 := ra1.out.c 2 _ rfl; clear hb)
  | (go_at_call 73; have cq : Mark 1 := cnt; clear cnt cq; have cnt : Mark 2 := .mk _; refine (cH y true _ B1.out (decide_eq_true (by first | assumption | omega))).mono ?_; rintro o u2 ⟨rfl, hb⟩; have ra2 : Hid (Row u2 u.heap.size [.int .i64 2, .int .i64 (k : Int), .int .i64 y]) := Row.on hb ra1.out; have rz2 : Hid (Row u2 (u.heap.size + 1) [.int .i64 0, .int .i64 0, .bool false, .int .i64 0, .int .i64 0, .int .i64 0]) := Row.on hb rz1.out; have B2 : Hid (Below u.heap.size u u2) := rbel_on hb B1.out; have sy2 : u.heap.size < u2.heap.size := ra2.out.lt; have x2_1 := ra2.out.c 1 _ rfl; have x2_2 := ra2.out.c 2 _ rfl; have mrow2 := (RW.on B2.out HR.out).r; have mc2 := mrow2.c 3 _ rfl; have zb2 := mrow2.lt; clear mrow2; clear hb)
  | (go_at_call 23; refine (cR _ B2.out).mono ?_; rintro o u3 ⟨rfl, hb⟩; have ra3 : Hid (Row u3 u.heap.size [.int .i64 2, .int .i64 (k : Int), .int .i64 y]) := Row.on hb ra2.out; have rz3 : Hid (Row u3 (u.heap.size + 1) [.int .i64 0, .int .i64 0, .bool false, .int .i64 0, .int .i64 0, .int .i64 0]) := Row.on hb rz2.out; have B3 : Hid (Below u.heap.size u u3) := rbel_on hb B2.out; have sy3 : u.heap.size < u3.heap.size := ra3.out.lt; have x3_1 := ra3.out.c 1 _ rfl; have x3_2 := ra3.out.c 2 _ rfl; have mrow3 := (RW.on B3.out HR.out).r; have mc3 := mrow3.c 3 _ rfl; have zb3 := mrow3.lt; clear mrow3; have HW3 : Hid (RW Ex w u3 mb sa sc ra rc S (.slice va S.under.length vcap)) := RW.on B3.out HR.out; clear hb))
 go_region_law (refine step_append_at rfl (.tmp 84) (.tmp 91) 57 rfl w.heap.size 113 i0 (.agg #[.int .i64 0, .int .i64 0, .bool false, .int .i64 0, .int .i64 0, .int .i64 0]) 6 48 Tryz.underlying57 hi0 hz0 hz1 hz2 rfl (by decide) (.slice va S.under.length vcap) S.under.length _ (by simp [Act.eval, Act.put]) (HW3.out.o.alloc _) ⟨u3.heap.size, 0, none⟩ 1 1 [.int .i64 (k : Int), .int .i64 y, .bool false, .int .i64 0, .int .i64 0, .int .i64 t] (by simp [Act.eval, Act.put]) rfl (fun j q hj => by rw [Addr.add_lit]; exact (Row.made (W := u3) (vs := [.int .i64 (k : Int), .int .i64 y, .bool false, .int .i64 0, .int .i64 0, .int .i64 t]) rfl).c _ _ (by simpa using hj)) (ltc_one ⟨k, y, false, 0, 0, t⟩) (by unfold maxLen; omega) (by omega) (by simp; omega) ?_; intro v' w1 hown1 hgrow1 hat1; obtain ⟨va', vc', rfl⟩ := own_slice hown1; have lz3 : u.heap.size + 1 < u3.heap.size := rz3.out.lt; have mr1 : Row w1 mb (.slice sa S.n sc :: .slice ra S.n rc :: .int .i64 S.time :: .slice va S.under.length vcap :: Ex) := (by first | exact row_grown hgrow1 (by simp; omega) HW3.out.ne (Row.al HW3.out.r) | exact row_grown hgrow1 (by simp; omega) HW3.out.ne (Row.dr (Row.al HW3.out.r))); have rz1 : Row w1 (u.heap.size + 1) [.int .i64 0, .int .i64 0, .bool false, .int .i64 0, .int .i64 0, .int .i64 0] := (by first | exact row_grown hgrow1 (by simp; omega) (fun e => by have := NB.out _ e; omega) (Row.al rz3.out) | exact row_grown hgrow1 (by simp; omega) (fun e => by have := NB.out _ e; omega) (Row.dr (Row.al rz3.out))); have m3 := mr1.c 3 _ rfl; have g3 := mr1.f 3 _ rfl; have HO1 : Hid _ := hown1; have HG1 : Hid _ := hgrow1; have HA1 : Hid _ := hat1; have RZ1 : Hid _ := rz1; have lw1 := mr1.lt; clear mr1 rz1 hown1 hgrow1 hat1)
 all_goals
  obtain ⟨g1, g2⟩ : RW Ex w (w1.setCell ⟨mb, 3, none⟩ (.slice va' (S.under.length + 1) vc')) mb sa sc ra rc { S with under := S.under ++ [⟨k, y, false, 0, 0, t⟩] } (.slice va' (S.under.length + 1) vc') ∧ Kp u (w1.setCell ⟨mb, 3, none⟩ (.slice va' (S.under.length + 1) vc')) mb (.slice va S.under.length vcap) (.slice va' (S.under.length + 1) vc') := RW.more HR.out (by first | exact rbel_al B3.out | exact rbel_dr (rbel_al B3.out) | exact rbel_al (rbel_dr B3.out)) HO1.out HG1.out HA1.out
  have lz3 : u.heap.size + 1 < u3.heap.size := rz3.out.lt
  have NE : (Value.slice va' (S.under.length + 1) vc').ownBlock ≠ some (u.heap.size + 1) := by
   intro q
   rcases HA1.out with e | e
   ·have := NB.out _ (e.symm.trans q); omega
   ·rw [q] at e; injection e with e; first | (simp at e; omega) | omega
  have RZ2 : Hid (Row (w1.setCell ⟨mb, 3, none⟩ (.slice va' (S.under.length + 1) vc')) (u.heap.size + 1) [.int .i64 0, .int .i64 0, .bool false, .int .i64 0, .int .i64 0, .int .i64 0]) := Row.far (by omega) RZ1.out
  have G1 : Hid _ := RW.six (a0 := .int .i64 0) (a1 := .int .i64 0) (a2 := .bool false) (a3 := .int .i64 0) (a4 := .int .i64 0) (a5 := .int .i64 0) g1 (show u.heap.size + 1 ≠ mb by omega) NE (by omega)
  have G2 : Hid _ := Kp.six (b := u.heap.size + 1) (a0 := .int .i64 0) (a1 := .int .i64 0) (a2 := .bool false) (a3 := .int .i64 0) (a4 := .int .i64 0) (a5 := .int .i64 0) g2 (by omega)
  clear g1 g2 NE HO1 HG1 HA1 RZ1 m3 g3 HW3 rz3 ra3 B3 x3_1 x3_2 mc3
  generalize (w1.setCell ⟨mb, 3, none⟩ (.slice va' (S.under.length + 1) vc')) = w2 at *
  have sz : u.heap.size + 1 < w2.heap.size := RZ2.out.lt
  have z0 := RZ2.out.c 0 _ rfl
  have q0 := RZ2.out.f 0 _ rfl
  have z1 := RZ2.out.c 1 _ rfl
  have q1 := RZ2.out.f 1 _ rfl
  have z2 := RZ2.out.c 2 _ rfl
  have q2 := RZ2.out.f 2 _ rfl
  have z3 := RZ2.out.c 3 _ rfl
  have q3 := RZ2.out.f 3 _ rfl
  have z4 := RZ2.out.c 4 _ rfl
  have q4 := RZ2.out.f 4 _ rfl
  have z5 := RZ2.out.c 5 _ rfl
  have q5 := RZ2.out.f 5 _ rfl
  go_wp2
  exact bodyPost_ret (v := .tuple #[.agg #[.int .i64 0, .int .i64 0, .bool false, .int .i64 0, .int .i64 0, .int .i64 0], .bool false, .int .i64 0]) (by simp [results, Tryz.results43, go_sem, *]) rfl ⟨_, rfl, G1.out, G2.out⟩
theorem six_bel {u W : World} {b : Nat} {a0 a1 a2 a3 a4 a5 : Value} (hb : u.heap.size ≤ b) (h : Below u.heap.size u W) : Below u.heap.size u (six W b a0 a1 a2 a3 a4 a5) :=
 rbel_put hb (rbel_put hb (rbel_put hb (rbel_put hb (rbel_put hb (rbel_put hb h)))))
set_option maxRecDepth 100000 in
set_option maxHeartbeats 4000000 in
theorem rdo_repeat {Ex : List Value} (w u : World) (mb sc rc : Nat) (sa ra : Option Addr) (S : Ws) (v : Value) (x y : Int) (hR : RW Ex w u mb sa sc ra rc S v) (hI : S.I) (l : Lt) (k : Nat) (hk : S.under[k]? = some l) (ex : x = k) :
  Calls Tryz.prog 43 #[.pointer (some ⟨mb, 0, none⟩), .agg #[.int .i64 5, .int .i64 x, .int .i64 y]] u fun o w' => ∃ v', o = .returned (.tuple #[.agg #[.int .i64 l.frm, .int .i64 l.to, .bool l.ans, .int .i64 l.t1, .int .i64 l.t2, .int .i64 l.t], .bool true, .int .i64 0]) ∧ RW Ex w w' mb sa sc ra rc S v' ∧ Kp u w' mb v v' := by
 obtain ⟨va, vcap, rfl, hform⟩ := hR.len
 have kl : k < S.under.length := by
  rcases Nat.lt_or_ge k S.under.length with h | h
  ·exact h
  ·rw [List.getElem?_eq_none h] at hk; cases hk
 obtain ⟨g, rfl, gc, gl, gu, gm, gL⟩ := hform.resolve_left (fun h => by rw [h.2.1] at kl; exact absurd kl (by simp))
 have HR : Hid (RW Ex w u mb sa sc ra rc S (.slice (some ⟨g, 0, none⟩) S.under.length vcap)) := hR
 have HL : Hid (Lts u g 0 S.under) := gL
 have c3 := hR.r.c 3 _ rfl
 have f3 := hR.r.f 3 _ rfl
 have zb : mb < u.heap.size := hR.r.lt
 have lh := hI.un
 have LL := gL k l hk
 obtain ⟨l1, l2, l3, l4, l5, l6⟩ := l
 have a0 : u.cell? ⟨g, k * 6, none⟩ = some (.int .i64 l1) := by have := LL 0 _ rfl; simpa using this
 have a1 : u.cell? ⟨g, k * 6 + 1, none⟩ = some (.int .i64 l2) := by have := LL 1 _ rfl; simpa using this
 have a2 : u.cell? ⟨g, k * 6 + 2, none⟩ = some (.bool l3) := by have := LL 2 _ rfl; simpa using this
 have a3 : u.cell? ⟨g, k * 6 + 3, none⟩ = some (.int .i64 l4) := by have := LL 3 _ rfl; simpa using this
 have a4 : u.cell? ⟨g, k * 6 + 4, none⟩ = some (.int .i64 l5) := by have := LL 4 _ rfl; simpa using this
 have a5 : u.cell? ⟨g, k * 6 + 5, none⟩ = some (.int .i64 l6) := by have := LL 5 _ rfl; simpa using this
 subst ex
 have d1 : decide ((k : Int) < 0) = false := decide_eq_false (by omega)
 have d2 : decide ((S.under.length : Int) ≤ (k : Int)) = false := decide_eq_false (by omega)
 have d3 : (k : Int) < (S.under.length : Int) := by omega
 have hwsz := hR.hw.size
 clear hR hI gL LL
 clear hk
 go_enter Tryz.func43, Tryz.ntmps43
 go_wp2
 go_quiet (fail)
 go_wp2
 have BW : Hid (Below u.heap.size u (((u.alloc (Obj.cells #[.int .i64 5, .int .i64 (k : Int), .int .i64 y] 70)).alloc (Obj.cells #[.int .i64 0, .int .i64 0, .bool false, .int .i64 0, .int .i64 0, .int .i64 0] 113)).drewN nq)) := rbel_drn (rbel_al (rbel_al (Below.refl _ _)))
 have RA : Hid (Row (((u.alloc (Obj.cells #[.int .i64 5, .int .i64 (k : Int), .int .i64 y] 70)).alloc (Obj.cells #[.int .i64 0, .int .i64 0, .bool false, .int .i64 0, .int .i64 0, .int .i64 0] 113)).drewN nq) u.heap.size [.int .i64 5, .int .i64 (k : Int), .int .i64 y]) := Row.drn (Row.al (Row.made rfl))
 have RZ : Hid (Row (((u.alloc (Obj.cells #[.int .i64 5, .int .i64 (k : Int), .int .i64 y] 70)).alloc (Obj.cells #[.int .i64 0, .int .i64 0, .bool false, .int .i64 0, .int .i64 0, .int .i64 0] 113)).drewN nq) (u.heap.size + 1) [.int .i64 0, .int .i64 0, .bool false, .int .i64 0, .int .i64 0, .int .i64 0]) := Row.drn (Row.made (by simp))
 generalize ((u.alloc (Obj.cells #[.int .i64 5, .int .i64 (k : Int), .int .i64 y] 70)).alloc (Obj.cells #[.int .i64 0, .int .i64 0, .bool false, .int .i64 0, .int .i64 0, .int .i64 0] 113)).drewN nq = W at *
 have HW : Hid (RW Ex w W mb sa sc ra rc S (.slice (some ⟨g, 0, none⟩) S.under.length vcap)) := RW.on BW.out HR.out
 have sw : u.heap.size + 1 < W.heap.size := RZ.out.lt
 have sw2 : u.heap.size < W.heap.size := by omega
 have gw : g < W.heap.size := by omega
 have mw : mb < W.heap.size := by omega
 have e3 := HW.out.r.c 3 _ rfl
 have h3 := HW.out.r.f 3 _ rfl
 have r0 := RA.out.c 0 _ rfl
 have r1 := RA.out.c 1 _ rfl
 have b0 := (BW.out.cell (p := ⟨g, k * 6, none⟩) gu).trans a0
 have b1 := (BW.out.cell (p := ⟨g, k * 6 + 1, none⟩) gu).trans a1
 have b2 := (BW.out.cell (p := ⟨g, k * 6 + 2, none⟩) gu).trans a2
 have b3 := (BW.out.cell (p := ⟨g, k * 6 + 3, none⟩) gu).trans a3
 have b4 := (BW.out.cell (p := ⟨g, k * 6 + 4, none⟩) gu).trans a4
 have b5 := (BW.out.cell (p := ⟨g, k * 6 + 5, none⟩) gu).trans a5
 have z0 := RZ.out.c 0 _ rfl
 have y0 := RZ.out.f 0 _ rfl
 have z1 := RZ.out.c 1 _ rfl
 have y1 := RZ.out.f 1 _ rfl
 have z2 := RZ.out.c 2 _ rfl
 have y2 := RZ.out.f 2 _ rfl
 have z3 := RZ.out.c 3 _ rfl
 have y3 := RZ.out.f 3 _ rfl
 have z4 := RZ.out.c 4 _ rfl
 have y4 := RZ.out.f 4 _ rfl
 have z5 := RZ.out.c 5 _ rfl
 have y5 := RZ.out.f 5 _ rfl
 clear a0 a1 a2 a3 a4 a5 c3 f3
 go_region
 all_goals
  go_wp2
  exact bodyPost_ret (v := .tuple #[.agg #[.int .i64 l1, .int .i64 l2, .bool l3, .int .i64 l4, .int .i64 l5, .int .i64 l6], .bool true, .int .i64 0]) (by simp [results, Tryz.results43, go_sem, *]) rfl ⟨_, rfl, RW.on (rbel_dr (rbel_al (six_bel (by omega) BW.out))) HR.out, RW.kp (rbel_dr (rbel_al (six_bel (by omega) BW.out)))⟩
set_option maxRecDepth 100000 in
set_option maxHeartbeats 4000000 in
theorem rdo_deliver {Ex : List Value} (w u : World) (mb sc rc : Nat) (sa ra : Option Addr) (S : Ws) (v : Value) (x y : Int) (hR : RW Ex w u mb sa sc ra rc S v) (hI : S.I) (l : Lt) (k : Nat) (hk : S.under[k]? = some l) (ex : x = k) :
  Calls Tryz.prog 43 #[.pointer (some ⟨mb, 0, none⟩), .agg #[.int .i64 3, .int .i64 x, .int .i64 y]] u fun o w' => ∃ v', o = .returned (.tuple #[.agg #[.int .i64 l.frm, .int .i64 l.to, .bool l.ans, .int .i64 l.t1, .int .i64 l.t2, .int .i64 l.t], .bool true, .int .i64 0]) ∧ RW Ex w w' mb sa sc ra rc { S with under := S.under.eraseIdx k } v' ∧ Kp u w' mb v v' := by
 obtain ⟨va, vcap, rfl, hform⟩ := hR.len
 have kl : k < S.under.length := by
  rcases Nat.lt_or_ge k S.under.length with h | h
  ·exact h
  ·rw [List.getElem?_eq_none h] at hk; cases hk
 obtain ⟨g, rfl, gc, gl, gu, gm, gL⟩ := hform.resolve_left (fun h => by rw [h.2.1] at kl; exact absurd kl (by simp))
 have HR : Hid (RW Ex w u mb sa sc ra rc S (.slice (some ⟨g, 0, none⟩) S.under.length vcap)) := hR
 have HL : Hid (Lts u g 0 S.under) := gL
 have c3 := hR.r.c 3 _ rfl
 have f3 := hR.r.f 3 _ rfl
 have zb : mb < u.heap.size := hR.r.lt
 have lh := hI.un
 have LL := gL k l hk
 obtain ⟨l1, l2, l3, l4, l5, l6⟩ := l
 have a0 : u.cell? ⟨g, k * 6, none⟩ = some (.int .i64 l1) := by have := LL 0 _ rfl; simpa using this
 have a1 : u.cell? ⟨g, k * 6 + 1, none⟩ = some (.int .i64 l2) := by have := LL 1 _ rfl; simpa using this
 have a2 : u.cell? ⟨g, k * 6 + 2, none⟩ = some (.bool l3) := by have := LL 2 _ rfl; simpa using this
 have a3 : u.cell? ⟨g, k * 6 + 3, none⟩ = some (.int .i64 l4) := by have := LL 3 _ rfl; simpa using this
 have a4 : u.cell? ⟨g, k * 6 + 4, none⟩ = some (.int .i64 l5) := by have := LL 4 _ rfl; simpa using this
 have a5 : u.cell? ⟨g, k * 6 + 5, none⟩ = some (.int .i64 l6) := by have := LL 5 _ rfl; simpa using this
 subst ex
 have d1 : decide ((k : Int) < 0) = false := decide_eq_false (by omega)
 have d2 : decide ((S.under.length : Int) ≤ (k : Int)) = false := decide_eq_false (by omega)
 have d3 : (k : Int) < (S.under.length : Int) := by omega
 have hwsz := hR.hw.size
 clear hR hI gL LL
 obtain ⟨i0, hi0, hz0, hz1, hz2⟩ := info_parts infoLetter
 have HK : Hid (S.under[k]? = some ⟨l1, l2, l3, l4, l5, l6⟩) := hk
 have wk : IntKind.i64.wrap ((k : Int) + 1) = (k : Int) + 1 := IntWalk.i64_in _ (by omega)
 clear hk hform
 go_enter Tryz.func43, Tryz.ntmps43
 go_wp2
 go_quiet (fail)
 go_wp2
 have BW : Hid (Below u.heap.size u (((u.alloc (Obj.cells #[.int .i64 3, .int .i64 (k : Int), .int .i64 y] 70)).alloc (Obj.cells #[.int .i64 0, .int .i64 0, .bool false, .int .i64 0, .int .i64 0, .int .i64 0] 113)).drewN nq)) := rbel_drn (rbel_al (rbel_al (Below.refl _ _)))
 have RA : Hid (Row (((u.alloc (Obj.cells #[.int .i64 3, .int .i64 (k : Int), .int .i64 y] 70)).alloc (Obj.cells #[.int .i64 0, .int .i64 0, .bool false, .int .i64 0, .int .i64 0, .int .i64 0] 113)).drewN nq) u.heap.size [.int .i64 3, .int .i64 (k : Int), .int .i64 y]) := Row.drn (Row.al (Row.made rfl))
 have RZ : Hid (Row (((u.alloc (Obj.cells #[.int .i64 3, .int .i64 (k : Int), .int .i64 y] 70)).alloc (Obj.cells #[.int .i64 0, .int .i64 0, .bool false, .int .i64 0, .int .i64 0, .int .i64 0] 113)).drewN nq) (u.heap.size + 1) [.int .i64 0, .int .i64 0, .bool false, .int .i64 0, .int .i64 0, .int .i64 0]) := Row.drn (Row.made (by simp))
 generalize ((u.alloc (Obj.cells #[.int .i64 3, .int .i64 (k : Int), .int .i64 y] 70)).alloc (Obj.cells #[.int .i64 0, .int .i64 0, .bool false, .int .i64 0, .int .i64 0, .int .i64 0] 113)).drewN nq = W at *
 have HW : Hid (RW Ex w W mb sa sc ra rc S (.slice (some ⟨g, 0, none⟩) S.under.length vcap)) := RW.on BW.out HR.out
 have sw : u.heap.size + 1 < W.heap.size := RZ.out.lt
 have sw2 : u.heap.size < W.heap.size := by omega
 have gw : g < W.heap.size := by omega
 have mw : mb < W.heap.size := by omega
 have e3 := HW.out.r.c 3 _ rfl
 have h3 := HW.out.r.f 3 _ rfl
 have r0 := RA.out.c 0 _ rfl
 have r1 := RA.out.c 1 _ rfl
 have b0 := (BW.out.cell (p := ⟨g, k * 6, none⟩) gu).trans a0
 have b1 := (BW.out.cell (p := ⟨g, k * 6 + 1, none⟩) gu).trans a1
 have b2 := (BW.out.cell (p := ⟨g, k * 6 + 2, none⟩) gu).trans a2
 have b3 := (BW.out.cell (p := ⟨g, k * 6 + 3, none⟩) gu).trans a3
 have b4 := (BW.out.cell (p := ⟨g, k * 6 + 4, none⟩) gu).trans a4
 have b5 := (BW.out.cell (p := ⟨g, k * 6 + 5, none⟩) gu).trans a5
 have z0 := RZ.out.c 0 _ rfl
 have y0 := RZ.out.f 0 _ rfl
 have z1 := RZ.out.c 1 _ rfl
 have y1 := RZ.out.f 1 _ rfl
 have z2 := RZ.out.c 2 _ rfl
 have y2 := RZ.out.f 2 _ rfl
 have z3 := RZ.out.c 3 _ rfl
 have y3 := RZ.out.f 3 _ rfl
 have z4 := RZ.out.c 4 _ rfl
 have y4 := RZ.out.f 4 _ rfl
 have z5 := RZ.out.c 5 _ rfl
 have y5 := RZ.out.f 5 _ rfl
 clear a0 a1 a2 a3 a4 a5 c3 f3
 go_region
 have BX : Hid (Below u.heap.size u ((W.alloc (Obj.cells #[.int .i64 l1, .int .i64 l2, .bool l3, .int .i64 l4, .int .i64 l5, .int .i64 l6] 113)).drew)) := rbel_dr (rbel_al BW.out)
 have RAX : Hid (Row ((W.alloc (Obj.cells #[.int .i64 l1, .int .i64 l2, .bool l3, .int .i64 l4, .int .i64 l5, .int .i64 l6] 113)).drew) u.heap.size [.int .i64 3, .int .i64 (k : Int), .int .i64 y]) := Row.dr (Row.al RA.out)
 have RZX : Hid (Row ((W.alloc (Obj.cells #[.int .i64 l1, .int .i64 l2, .bool l3, .int .i64 l4, .int .i64 l5, .int .i64 l6] 113)).drew) (u.heap.size + 1) [.int .i64 0, .int .i64 0, .bool false, .int .i64 0, .int .i64 0, .int .i64 0]) := Row.dr (Row.al RZ.out)
 have RLX : Hid (Row ((W.alloc (Obj.cells #[.int .i64 l1, .int .i64 l2, .bool l3, .int .i64 l4, .int .i64 l5, .int .i64 l6] 113)).drew) W.heap.size [.int .i64 l1, .int .i64 l2, .bool l3, .int .i64 l4, .int .i64 l5, .int .i64 l6]) := Row.dr (Row.made rfl)
 clear r0 r1 b0 b1 b2 b3 b4 b5 z0 z1 z2 z3 z4 z5 y0 y1 y2 y3 y4 y5 e3 h3 HW RA RZ
 generalize ((W.alloc (Obj.cells #[.int .i64 l1, .int .i64 l2, .bool l3, .int .i64 l4, .int .i64 l5, .int .i64 l6] 113)).drew) = X at *
 have HX : Hid (RW Ex w X mb sa sc ra rc S (.slice (some ⟨g, 0, none⟩) S.under.length vcap)) := RW.on BX.out HR.out
 have sx : W.heap.size < X.heap.size := RLX.out.lt
 have sx1 : u.heap.size + 1 < X.heap.size := by omega
 have sx2 : u.heap.size < X.heap.size := by omega
 have mx : mb < X.heap.size := by omega
 have gx : g < X.heap.size := by omega
 have r0 := RAX.out.c 0 _ rfl
 have r1 := RAX.out.c 1 _ rfl
 have e3 := HX.out.r.c 3 _ rfl
 have k5 : (k : Int) ≤ (vcap : Int) := by omega
 have k6 : (k : Int) + 1 ≤ (S.under.length : Int) := by omega
 have k7 : (S.under.length : Int) ≤ (vcap : Int) := by omega
 have k8 : ¬ ((k : Int) < 0) := by omega
 go_wp2
 have NC : Hid (∀ j q, (lcs (S.under.take k))[j]? = some q → X.cell? ((⟨g, 0, none⟩ : Addr).add j) = some q) := fun j q hj => HX.out.o.cells rfl j q (by
  have e : lcs S.under = lcs (S.under.take k) ++ lcs (S.under.drop k) := by rw [← lcs_app, List.take_append_drop]
  rw [e, List.getElem?_append_left (by rcases Nat.lt_or_ge j (lcs (S.under.take k)).length with h | h; exact h; rw [List.getElem?_eq_none h] at hj; cases hj)]
  exact hj)
 have NL : Hid ((lcs (S.under.take k)).length = k * 6) := by show _ = _; rw [lcs_len, List.length_take]; congr 1; omega
 go_region_law (refine step_append_at rfl (.tmp 125) (.tmp 132) 57 rfl w.heap.size 113 i0 (.agg #[.int .i64 0, .int .i64 0, .bool false, .int .i64 0, .int .i64 0, .int .i64 0]) 6 48 Tryz.underlying57 hi0 hz0 hz1 hz2 rfl (by decide) (.slice none 0 0) 0 [] (by simp [Act.eval, Act.put]) (World.ownsRow_nil _ _ _ _) ⟨g, 0, none⟩ k vcap (lcs (S.under.take k)) (by simp [Act.eval, Act.put]) NL.out NC.out (lcs_one _) (by unfold maxLen; omega) (by omega) (by first | (simp; omega) | omega) ?_; intro v1 X1 hown1 hgrow1 hat1; rw [Nat.zero_add, List.nil_append] at hown1; obtain ⟨va1, vc1, rfl⟩ := own_slice hown1; have HO1 : Hid _ := hown1; have HG1 : Hid _ := hgrow1; have HA1 : Hid _ := hat1; clear hown1 hgrow1 hat1)
 all_goals
  have BX1 : Hid (Below u.heap.size u X1) := by first | exact (rbel_dr BX.out).grown HG1.out (by simp; omega) (fun j hj => by cases hj) | exact BX.out.grown HG1.out (by simp; omega) (fun j hj => by cases hj)
  have xs1 : X.heap.size ≤ X1.heap.size := by first | exact HG1.out.size
  have KB : ∀ b, b < X.heap.size → X1.heap[b]? = X.heap[b]? := fun b hb => HG1.out.block b hb (fun e => by cases e)
  have HX1 : Hid (RW Ex w X1 mb sa sc ra rc S (.slice (some ⟨g, 0, none⟩) S.under.length vcap)) := RW.on BX1.out HR.out
  have RA1 : Hid (Row X1 u.heap.size [.int .i64 3, .int .i64 (k : Int), .int .i64 y]) := row_block (KB _ sx2) RAX.out
  have RZ1 : Hid (Row X1 (u.heap.size + 1) [.int .i64 0, .int .i64 0, .bool false, .int .i64 0, .int .i64 0, .int .i64 0]) := row_block (KB _ sx1) RZX.out
  have RL1 : Hid (Row X1 W.heap.size [.int .i64 l1, .int .i64 l2, .bool l3, .int .i64 l4, .int .i64 l5, .int .i64 l6]) := row_block (KB _ sx) RLX.out
  have OB : Hid (∀ j, (Value.slice va1 k vc1).ownBlock = some j → X.heap.size ≤ j) := fun j hj => by
   rcases HA1.out with e | e
   ·rw [hj] at e; cases e
   ·rw [hj] at e; injection e with e; rw [e]; exact Nat.le_refl _
  have NC2 : Hid (∀ j q, (lcs (S.under.drop (k + 1)))[j]? = some q → X1.cell? ((⟨g, (k + 1) * 6, none⟩ : Addr).add j) = some q) := fun j q hj => by
   have e : lcs S.under = lcs (S.under.take (k + 1)) ++ lcs (S.under.drop (k + 1)) := by rw [← lcs_app, List.take_append_drop]
   have l : (lcs (S.under.take (k + 1))).length = (k + 1) * 6 := by rw [lcs_len, List.length_take]; congr 1; omega
   have := HX1.out.o.cells (g := g) rfl ((k + 1) * 6 + j) q (by rw [e, List.getElem?_append_right (by omega), l, Nat.add_sub_cancel_left]; exact hj)
   rw [Addr.add_lit] at this ⊢
   rw [Nat.zero_add] at this
   exact this
  have NL2 : Hid ((lcs (S.under.drop (k + 1))).length = (S.under.length - (k + 1)) * 6) := by show _ = _; rw [lcs_len, List.length_drop]
  have ND : Hid (vcap = k + 1 → lcs (S.under.drop (k + 1)) = []) := fun e => by rw [List.drop_eq_nil_of_le (by omega)]; rfl
  clear r0 r1 e3
  have w0 := RA1.out.c 0 _ rfl
  have w1 := RA1.out.c 1 _ rfl
  have w3 := HX1.out.r.c 3 _ rfl
  have m1 : mb < X1.heap.size := by omega
  have n1 : u.heap.size < X1.heap.size := by omega
  have n2 : u.heap.size + 1 < X1.heap.size := by omega
  have k9 : ¬ ((k : Int) + 1 < 0) := by omega
  have BXB : Hid (∀ W', Below u.heap.size u W' → X1.heap.size ≤ W'.heap.size → True) := fun _ _ _ => trivial
  clear HG1 HA1 NC NL HX RAX RZX RLX BX KB
  go_wp2
  by_cases hc : vcap = k + 1
  ·go_region_law (refine step_append_at rfl (.tmp 135) (.tmp 143) 57 rfl w.heap.size 113 i0 (.agg #[.int .i64 0, .int .i64 0, .bool false, .int .i64 0, .int .i64 0, .int .i64 0]) 6 48 Tryz.underlying57 hi0 hz0 hz1 hz2 rfl (by decide) (.slice va1 k vc1) k (lcs (S.under.take k)) (by simp [Act.eval, Act.put]) HO1.out ⟨g, 0, none⟩ (S.under.length - (k + 1)) (vcap - (k + 1)) (lcs (S.under.drop (k + 1))) (by simp [Act.eval, Act.put, hc]) NL2.out (fun j q hj => by rw [ND.out hc] at hj; cases hj) (lcs_one _) (by unfold maxLen; omega) (by omega) (by first | (simp; omega) | omega) ?_; intro v2 X2 hown2 hgrow2 hat2; obtain ⟨va2, vc2, rfl⟩ := own_slice hown2; have mr2 : Row X2 mb (.slice sa S.n sc :: .slice ra S.n rc :: .int .i64 S.time :: .slice (some ⟨g, 0, none⟩) S.under.length vcap :: Ex) := (by first | exact row_grown hgrow2 (by simp; omega) (fun e => by have := OB.out _ e; omega) HX1.out.r | exact row_grown hgrow2 (by simp; omega) (fun e => by have := OB.out _ e; omega) (Row.dr HX1.out.r)); have m3 := mr2.c 3 _ rfl; have q3 := mr2.f 3 _ rfl; have HO2 : Hid _ := hown2; have HG2 : Hid _ := hgrow2; have HA2 : Hid _ := hat2; have lw2 := mr2.lt; clear mr2 hown2 hgrow2 hat2)
   all_goals
    have OB2 : ∀ j, (Value.slice va2 (k + (S.under.length - (k + 1))) vc2).ownBlock = some j → X.heap.size ≤ j := by
     intro j hj
     rcases HA2.out with e | e
     ·exact OB.out j (e.symm.trans hj)
     ·rw [hj] at e; injection e with e; rw [e]; exact xs1
    have BX2 : Below u.heap.size u X2 := by first | exact (rbel_dr BX1.out).grown HG2.out (by simp; omega) (fun j hj => by have := OB.out j hj; omega) | exact BX1.out.grown HG2.out (by simp; omega) (fun j hj => by have := OB.out j hj; omega)
    have LE : lcs (S.under.take k) ++ lcs (S.under.drop (k + 1)) = lcs (S.under.eraseIdx k) := by rw [← lcs_app, List.eraseIdx_eq_take_drop_succ]
    have LN : k + (S.under.length - (k + 1)) = (S.under.eraseIdx k).length := by rw [List.length_eraseIdx_of_lt kl]; omega
    have HO3 : X2.ownsRow w.heap.size 113 6 (Value.slice va2 (k + (S.under.length - (k + 1))) vc2) (k + (S.under.length - (k + 1))) (lcs (S.under.eraseIdx k)) := by rw [← LE]; exact HO2.out
    obtain ⟨g1, g2⟩ := RW.turn HR.out BX2 HO3 LN (fun j hj => by have := OB2 j hj; omega)
    have KB2 : ∀ b, b < X.heap.size → X2.heap[b]? = X1.heap[b]? := fun b hb => HG2.out.block b (by first | (simp; omega) | omega) (fun e => by have := OB.out b e.symm; omega)
    have RA2 : Hid (Row (X2.setCell ⟨mb, 3, none⟩ (Value.slice va2 (k + (S.under.length - (k + 1))) vc2)) u.heap.size [.int .i64 3, .int .i64 (k : Int), .int .i64 y]) := Row.far (by omega) (row_block (KB2 _ sx2) RA1.out)
    have RZ2 : Hid (Row (X2.setCell ⟨mb, 3, none⟩ (Value.slice va2 (k + (S.under.length - (k + 1))) vc2)) (u.heap.size + 1) [.int .i64 0, .int .i64 0, .bool false, .int .i64 0, .int .i64 0, .int .i64 0]) := Row.far (by omega) (row_block (KB2 _ sx1) RZ1.out)
    have RL2 : Hid (Row (X2.setCell ⟨mb, 3, none⟩ (Value.slice va2 (k + (S.under.length - (k + 1))) vc2)) W.heap.size [.int .i64 l1, .int .i64 l2, .bool l3, .int .i64 l4, .int .i64 l5, .int .i64 l6]) := Row.far (by omega) (row_block (KB2 _ sx) RL1.out)
    have G1 : Hid _ := RW.six (a0 := .int .i64 l1) (a1 := .int .i64 l2) (a2 := .bool l3) (a3 := .int .i64 l4) (a4 := .int .i64 l5) (a5 := .int .i64 l6) g1 (show u.heap.size + 1 ≠ mb by omega) (fun e => by have := OB2 _ e; omega) (by omega)
    have G2 : Hid _ := Kp.six (b := u.heap.size + 1) (a0 := .int .i64 l1) (a1 := .int .i64 l2) (a2 := .bool l3) (a3 := .int .i64 l4) (a4 := .int .i64 l5) (a5 := .int .i64 l6) g2 (by omega)
    clear g1 g2 OB2 BX2 LE LN HO3 KB2 HO2 HG2 HA2 m3 q3 lw2 w0 w1 w3 RA1 RZ1 RL1 HX1 BX1 HO1 OB NC2 NL2 ND
    generalize (X2.setCell ⟨mb, 3, none⟩ (Value.slice va2 (k + (S.under.length - (k + 1))) vc2)) = Y at *
    have t1 : W.heap.size < Y.heap.size := RL2.out.lt
    have t2 : u.heap.size + 1 < Y.heap.size := by omega
    have t3 : u.heap.size < Y.heap.size := by omega
    have w0 := RA2.out.c 0 _ rfl
    have z0 := RZ2.out.c 0 _ rfl
    have y0 := RZ2.out.f 0 _ rfl
    have l0_ := RL2.out.c 0 _ rfl
    have z1 := RZ2.out.c 1 _ rfl
    have y1 := RZ2.out.f 1 _ rfl
    have l1_ := RL2.out.c 1 _ rfl
    have z2 := RZ2.out.c 2 _ rfl
    have y2 := RZ2.out.f 2 _ rfl
    have l2_ := RL2.out.c 2 _ rfl
    have z3 := RZ2.out.c 3 _ rfl
    have y3 := RZ2.out.f 3 _ rfl
    have l3_ := RL2.out.c 3 _ rfl
    have z4 := RZ2.out.c 4 _ rfl
    have y4 := RZ2.out.f 4 _ rfl
    have l4_ := RL2.out.c 4 _ rfl
    have z5 := RZ2.out.c 5 _ rfl
    have y5 := RZ2.out.f 5 _ rfl
    have l5_ := RL2.out.c 5 _ rfl
    go_wp2
    exact bodyPost_ret (v := .tuple #[.agg #[.int .i64 l1, .int .i64 l2, .bool l3, .int .i64 l4, .int .i64 l5, .int .i64 l6], .bool true, .int .i64 0]) (by simp [results, Tryz.results43, go_sem, *]) rfl ⟨_, rfl, G1.out, G2.out⟩
  ·go_region_law (refine step_append_at rfl (.tmp 135) (.tmp 143) 57 rfl w.heap.size 113 i0 (.agg #[.int .i64 0, .int .i64 0, .bool false, .int .i64 0, .int .i64 0, .int .i64 0]) 6 48 Tryz.underlying57 hi0 hz0 hz1 hz2 rfl (by decide) (.slice va1 k vc1) k (lcs (S.under.take k)) (by simp [Act.eval, Act.put]) HO1.out ⟨g, (k + 1) * 6, none⟩ (S.under.length - (k + 1)) (vcap - (k + 1)) (lcs (S.under.drop (k + 1))) (by simp [Act.eval, Act.put, hc]) NL2.out NC2.out (lcs_one _) (by unfold maxLen; omega) (by omega) (by first | (simp; omega) | omega) ?_; intro v2 X2 hown2 hgrow2 hat2; obtain ⟨va2, vc2, rfl⟩ := own_slice hown2; have mr2 : Row X2 mb (.slice sa S.n sc :: .slice ra S.n rc :: .int .i64 S.time :: .slice (some ⟨g, 0, none⟩) S.under.length vcap :: Ex) := (by first | exact row_grown hgrow2 (by simp; omega) (fun e => by have := OB.out _ e; omega) HX1.out.r | exact row_grown hgrow2 (by simp; omega) (fun e => by have := OB.out _ e; omega) (Row.dr HX1.out.r)); have m3 := mr2.c 3 _ rfl; have q3 := mr2.f 3 _ rfl; have HO2 : Hid _ := hown2; have HG2 : Hid _ := hgrow2; have HA2 : Hid _ := hat2; have lw2 := mr2.lt; clear mr2 hown2 hgrow2 hat2)
   all_goals
    have OB2 : ∀ j, (Value.slice va2 (k + (S.under.length - (k + 1))) vc2).ownBlock = some j → X.heap.size ≤ j := by
     intro j hj
     rcases HA2.out with e | e
     ·exact OB.out j (e.symm.trans hj)
     ·rw [hj] at e; injection e with e; rw [e]; exact xs1
    have BX2 : Below u.heap.size u X2 := by first | exact (rbel_dr BX1.out).grown HG2.out (by simp; omega) (fun j hj => by have := OB.out j hj; omega) | exact BX1.out.grown HG2.out (by simp; omega) (fun j hj => by have := OB.out j hj; omega)
    have LE : lcs (S.under.take k) ++ lcs (S.under.drop (k + 1)) = lcs (S.under.eraseIdx k) := by rw [← lcs_app, List.eraseIdx_eq_take_drop_succ]
    have LN : k + (S.under.length - (k + 1)) = (S.under.eraseIdx k).length := by rw [List.length_eraseIdx_of_lt kl]; omega
    have HO3 : X2.ownsRow w.heap.size 113 6 (Value.slice va2 (k + (S.under.length - (k + 1))) vc2) (k + (S.under.length - (k + 1))) (lcs (S.under.eraseIdx k)) := by rw [← LE]; exact HO2.out
    obtain ⟨g1, g2⟩ := RW.turn HR.out BX2 HO3 LN (fun j hj => by have := OB2 j hj; omega)
    have KB2 : ∀ b, b < X.heap.size → X2.heap[b]? = X1.heap[b]? := fun b hb => HG2.out.block b (by first | (simp; omega) | omega) (fun e => by have := OB.out b e.symm; omega)
    have RA2 : Hid (Row (X2.setCell ⟨mb, 3, none⟩ (Value.slice va2 (k + (S.under.length - (k + 1))) vc2)) u.heap.size [.int .i64 3, .int .i64 (k : Int), .int .i64 y]) := Row.far (by omega) (row_block (KB2 _ sx2) RA1.out)
    have RZ2 : Hid (Row (X2.setCell ⟨mb, 3, none⟩ (Value.slice va2 (k + (S.under.length - (k + 1))) vc2)) (u.heap.size + 1) [.int .i64 0, .int .i64 0, .bool false, .int .i64 0, .int .i64 0, .int .i64 0]) := Row.far (by omega) (row_block (KB2 _ sx1) RZ1.out)
    have RL2 : Hid (Row (X2.setCell ⟨mb, 3, none⟩ (Value.slice va2 (k + (S.under.length - (k + 1))) vc2)) W.heap.size [.int .i64 l1, .int .i64 l2, .bool l3, .int .i64 l4, .int .i64 l5, .int .i64 l6]) := Row.far (by omega) (row_block (KB2 _ sx) RL1.out)
    have G1 : Hid _ := RW.six (a0 := .int .i64 l1) (a1 := .int .i64 l2) (a2 := .bool l3) (a3 := .int .i64 l4) (a4 := .int .i64 l5) (a5 := .int .i64 l6) g1 (show u.heap.size + 1 ≠ mb by omega) (fun e => by have := OB2 _ e; omega) (by omega)
    have G2 : Hid _ := Kp.six (b := u.heap.size + 1) (a0 := .int .i64 l1) (a1 := .int .i64 l2) (a2 := .bool l3) (a3 := .int .i64 l4) (a4 := .int .i64 l5) (a5 := .int .i64 l6) g2 (by omega)
    clear g1 g2 OB2 BX2 LE LN HO3 KB2 HO2 HG2 HA2 m3 q3 lw2 w0 w1 w3 RA1 RZ1 RL1 HX1 BX1 HO1 OB NC2 NL2 ND
    generalize (X2.setCell ⟨mb, 3, none⟩ (Value.slice va2 (k + (S.under.length - (k + 1))) vc2)) = Y at *
    have t1 : W.heap.size < Y.heap.size := RL2.out.lt
    have t2 : u.heap.size + 1 < Y.heap.size := by omega
    have t3 : u.heap.size < Y.heap.size := by omega
    have w0 := RA2.out.c 0 _ rfl
    have z0 := RZ2.out.c 0 _ rfl
    have y0 := RZ2.out.f 0 _ rfl
    have l0_ := RL2.out.c 0 _ rfl
    have z1 := RZ2.out.c 1 _ rfl
    have y1 := RZ2.out.f 1 _ rfl
    have l1_ := RL2.out.c 1 _ rfl
    have z2 := RZ2.out.c 2 _ rfl
    have y2 := RZ2.out.f 2 _ rfl
    have l2_ := RL2.out.c 2 _ rfl
    have z3 := RZ2.out.c 3 _ rfl
    have y3 := RZ2.out.f 3 _ rfl
    have l3_ := RL2.out.c 3 _ rfl
    have z4 := RZ2.out.c 4 _ rfl
    have y4 := RZ2.out.f 4 _ rfl
    have l4_ := RL2.out.c 4 _ rfl
    have z5 := RZ2.out.c 5 _ rfl
    have y5 := RZ2.out.f 5 _ rfl
    have l5_ := RL2.out.c 5 _ rfl
    go_wp2
    exact bodyPost_ret (v := .tuple #[.agg #[.int .i64 l1, .int .i64 l2, .bool l3, .int .i64 l4, .int .i64 l5, .int .i64 l6], .bool true, .int .i64 0]) (by simp [results, Tryz.results43, go_sem, *]) rfl ⟨_, rfl, G1.out, G2.out⟩
set_option maxRecDepth 100000 in
set_option maxHeartbeats 4000000 in
theorem rdo_lose {Ex : List Value} (w u : World) (mb sc rc : Nat) (sa ra : Option Addr) (S : Ws) (v : Value) (x y : Int) (hR : RW Ex w u mb sa sc ra rc S v) (hI : S.I) (l : Lt) (k : Nat) (hk : S.under[k]? = some l) (ex : x = k) :
  Calls Tryz.prog 43 #[.pointer (some ⟨mb, 0, none⟩), .agg #[.int .i64 4, .int .i64 x, .int .i64 y]] u fun o w' => ∃ v', o = .returned (.tuple #[.agg #[.int .i64 0, .int .i64 0, .bool false, .int .i64 0, .int .i64 0, .int .i64 0], .bool false, .int .i64 0]) ∧ RW Ex w w' mb sa sc ra rc { S with under := S.under.eraseIdx k } v' ∧ Kp u w' mb v v' := by
 obtain ⟨va, vcap, rfl, hform⟩ := hR.len
 have kl : k < S.under.length := by
  rcases Nat.lt_or_ge k S.under.length with h | h
  ·exact h
  ·rw [List.getElem?_eq_none h] at hk; cases hk
 obtain ⟨g, rfl, gc, gl, gu, gm, gL⟩ := hform.resolve_left (fun h => by rw [h.2.1] at kl; exact absurd kl (by simp))
 have HR : Hid (RW Ex w u mb sa sc ra rc S (.slice (some ⟨g, 0, none⟩) S.under.length vcap)) := hR
 have HL : Hid (Lts u g 0 S.under) := gL
 have c3 := hR.r.c 3 _ rfl
 have f3 := hR.r.f 3 _ rfl
 have zb : mb < u.heap.size := hR.r.lt
 have lh := hI.un
 have LL := gL k l hk
 obtain ⟨l1, l2, l3, l4, l5, l6⟩ := l
 have a0 : u.cell? ⟨g, k * 6, none⟩ = some (.int .i64 l1) := by have := LL 0 _ rfl; simpa using this
 have a1 : u.cell? ⟨g, k * 6 + 1, none⟩ = some (.int .i64 l2) := by have := LL 1 _ rfl; simpa using this
 have a2 : u.cell? ⟨g, k * 6 + 2, none⟩ = some (.bool l3) := by have := LL 2 _ rfl; simpa using this
 have a3 : u.cell? ⟨g, k * 6 + 3, none⟩ = some (.int .i64 l4) := by have := LL 3 _ rfl; simpa using this
 have a4 : u.cell? ⟨g, k * 6 + 4, none⟩ = some (.int .i64 l5) := by have := LL 4 _ rfl; simpa using this
 have a5 : u.cell? ⟨g, k * 6 + 5, none⟩ = some (.int .i64 l6) := by have := LL 5 _ rfl; simpa using this
 subst ex
 have d1 : decide ((k : Int) < 0) = false := decide_eq_false (by omega)
 have d2 : decide ((S.under.length : Int) ≤ (k : Int)) = false := decide_eq_false (by omega)
 have d3 : (k : Int) < (S.under.length : Int) := by omega
 have hwsz := hR.hw.size
 clear hR hI gL LL
 obtain ⟨i0, hi0, hz0, hz1, hz2⟩ := info_parts infoLetter
 have HK : Hid (S.under[k]? = some ⟨l1, l2, l3, l4, l5, l6⟩) := hk
 have wk : IntKind.i64.wrap ((k : Int) + 1) = (k : Int) + 1 := IntWalk.i64_in _ (by omega)
 clear hk hform
 go_enter Tryz.func43, Tryz.ntmps43
 go_wp2
 go_quiet (fail)
 go_wp2
 have BW : Hid (Below u.heap.size u (((u.alloc (Obj.cells #[.int .i64 4, .int .i64 (k : Int), .int .i64 y] 70)).alloc (Obj.cells #[.int .i64 0, .int .i64 0, .bool false, .int .i64 0, .int .i64 0, .int .i64 0] 113)).drewN nq)) := rbel_drn (rbel_al (rbel_al (Below.refl _ _)))
 have RA : Hid (Row (((u.alloc (Obj.cells #[.int .i64 4, .int .i64 (k : Int), .int .i64 y] 70)).alloc (Obj.cells #[.int .i64 0, .int .i64 0, .bool false, .int .i64 0, .int .i64 0, .int .i64 0] 113)).drewN nq) u.heap.size [.int .i64 4, .int .i64 (k : Int), .int .i64 y]) := Row.drn (Row.al (Row.made rfl))
 have RZ : Hid (Row (((u.alloc (Obj.cells #[.int .i64 4, .int .i64 (k : Int), .int .i64 y] 70)).alloc (Obj.cells #[.int .i64 0, .int .i64 0, .bool false, .int .i64 0, .int .i64 0, .int .i64 0] 113)).drewN nq) (u.heap.size + 1) [.int .i64 0, .int .i64 0, .bool false, .int .i64 0, .int .i64 0, .int .i64 0]) := Row.drn (Row.made (by simp))
 generalize ((u.alloc (Obj.cells #[.int .i64 4, .int .i64 (k : Int), .int .i64 y] 70)).alloc (Obj.cells #[.int .i64 0, .int .i64 0, .bool false, .int .i64 0, .int .i64 0, .int .i64 0] 113)).drewN nq = W at *
 have HW : Hid (RW Ex w W mb sa sc ra rc S (.slice (some ⟨g, 0, none⟩) S.under.length vcap)) := RW.on BW.out HR.out
 have sw : u.heap.size + 1 < W.heap.size := RZ.out.lt
 have sw2 : u.heap.size < W.heap.size := by omega
 have gw : g < W.heap.size := by omega
 have mw : mb < W.heap.size := by omega
 have e3 := HW.out.r.c 3 _ rfl
 have h3 := HW.out.r.f 3 _ rfl
 have r0 := RA.out.c 0 _ rfl
 have r1 := RA.out.c 1 _ rfl
 have b0 := (BW.out.cell (p := ⟨g, k * 6, none⟩) gu).trans a0
 have b1 := (BW.out.cell (p := ⟨g, k * 6 + 1, none⟩) gu).trans a1
 have b2 := (BW.out.cell (p := ⟨g, k * 6 + 2, none⟩) gu).trans a2
 have b3 := (BW.out.cell (p := ⟨g, k * 6 + 3, none⟩) gu).trans a3
 have b4 := (BW.out.cell (p := ⟨g, k * 6 + 4, none⟩) gu).trans a4
 have b5 := (BW.out.cell (p := ⟨g, k * 6 + 5, none⟩) gu).trans a5
 have z0 := RZ.out.c 0 _ rfl
 have y0 := RZ.out.f 0 _ rfl
 have z1 := RZ.out.c 1 _ rfl
 have y1 := RZ.out.f 1 _ rfl
 have z2 := RZ.out.c 2 _ rfl
 have y2 := RZ.out.f 2 _ rfl
 have z3 := RZ.out.c 3 _ rfl
 have y3 := RZ.out.f 3 _ rfl
 have z4 := RZ.out.c 4 _ rfl
 have y4 := RZ.out.f 4 _ rfl
 have z5 := RZ.out.c 5 _ rfl
 have y5 := RZ.out.f 5 _ rfl
 clear a0 a1 a2 a3 a4 a5 c3 f3
 go_region
 have BX : Hid (Below u.heap.size u ((W.alloc (Obj.cells #[.int .i64 l1, .int .i64 l2, .bool l3, .int .i64 l4, .int .i64 l5, .int .i64 l6] 113)).drew)) := rbel_dr (rbel_al BW.out)
 have RAX : Hid (Row ((W.alloc (Obj.cells #[.int .i64 l1, .int .i64 l2, .bool l3, .int .i64 l4, .int .i64 l5, .int .i64 l6] 113)).drew) u.heap.size [.int .i64 4, .int .i64 (k : Int), .int .i64 y]) := Row.dr (Row.al RA.out)
 have RZX : Hid (Row ((W.alloc (Obj.cells #[.int .i64 l1, .int .i64 l2, .bool l3, .int .i64 l4, .int .i64 l5, .int .i64 l6] 113)).drew) (u.heap.size + 1) [.int .i64 0, .int .i64 0, .bool false, .int .i64 0, .int .i64 0, .int .i64 0]) := Row.dr (Row.al RZ.out)
 have RLX : Hid (Row ((W.alloc (Obj.cells #[.int .i64 l1, .int .i64 l2, .bool l3, .int .i64 l4, .int .i64 l5, .int .i64 l6] 113)).drew) W.heap.size [.int .i64 l1, .int .i64 l2, .bool l3, .int .i64 l4, .int .i64 l5, .int .i64 l6]) := Row.dr (Row.made rfl)
 clear r0 r1 b0 b1 b2 b3 b4 b5 z0 z1 z2 z3 z4 z5 y0 y1 y2 y3 y4 y5 e3 h3 HW RA RZ
 generalize ((W.alloc (Obj.cells #[.int .i64 l1, .int .i64 l2, .bool l3, .int .i64 l4, .int .i64 l5, .int .i64 l6] 113)).drew) = X at *
 have HX : Hid (RW Ex w X mb sa sc ra rc S (.slice (some ⟨g, 0, none⟩) S.under.length vcap)) := RW.on BX.out HR.out
 have sx : W.heap.size < X.heap.size := RLX.out.lt
 have sx1 : u.heap.size + 1 < X.heap.size := by omega
 have sx2 : u.heap.size < X.heap.size := by omega
 have mx : mb < X.heap.size := by omega
 have gx : g < X.heap.size := by omega
 have r0 := RAX.out.c 0 _ rfl
 have r1 := RAX.out.c 1 _ rfl
 have e3 := HX.out.r.c 3 _ rfl
 have k5 : (k : Int) ≤ (vcap : Int) := by omega
 have k6 : (k : Int) + 1 ≤ (S.under.length : Int) := by omega
 have k7 : (S.under.length : Int) ≤ (vcap : Int) := by omega
 have k8 : ¬ ((k : Int) < 0) := by omega
 go_wp2
 have NC : Hid (∀ j q, (lcs (S.under.take k))[j]? = some q → X.cell? ((⟨g, 0, none⟩ : Addr).add j) = some q) := fun j q hj => HX.out.o.cells rfl j q (by
  have e : lcs S.under = lcs (S.under.take k) ++ lcs (S.under.drop k) := by rw [← lcs_app, List.take_append_drop]
  rw [e, List.getElem?_append_left (by rcases Nat.lt_or_ge j (lcs (S.under.take k)).length with h | h; exact h; rw [List.getElem?_eq_none h] at hj; cases hj)]
  exact hj)
 have NL : Hid ((lcs (S.under.take k)).length = k * 6) := by show _ = _; rw [lcs_len, List.length_take]; congr 1; omega
 go_region_law (refine step_append_at rfl (.tmp 125) (.tmp 132) 57 rfl w.heap.size 113 i0 (.agg #[.int .i64 0, .int .i64 0, .bool false, .int .i64 0, .int .i64 0, .int .i64 0]) 6 48 Tryz.underlying57 hi0 hz0 hz1 hz2 rfl (by decide) (.slice none 0 0) 0 [] (by simp [Act.eval, Act.put]) (World.ownsRow_nil _ _ _ _) ⟨g, 0, none⟩ k vcap (lcs (S.under.take k)) (by simp [Act.eval, Act.put]) NL.out NC.out (lcs_one _) (by unfold maxLen; omega) (by omega) (by first | (simp; omega) | omega) ?_; intro v1 X1 hown1 hgrow1 hat1; rw [Nat.zero_add, List.nil_append] at hown1; obtain ⟨va1, vc1, rfl⟩ := own_slice hown1; have HO1 : Hid _ := hown1; have HG1 : Hid _ := hgrow1; have HA1 : Hid _ := hat1; clear hown1 hgrow1 hat1)
 all_goals
  have BX1 : Hid (Below u.heap.size u X1) := by first | exact (rbel_dr BX.out).grown HG1.out (by simp; omega) (fun j hj => by cases hj) | exact BX.out.grown HG1.out (by simp; omega) (fun j hj => by cases hj)
  have xs1 : X.heap.size ≤ X1.heap.size := by first | exact HG1.out.size
  have KB : ∀ b, b < X.heap.size → X1.heap[b]? = X.heap[b]? := fun b hb => HG1.out.block b hb (fun e => by cases e)
  have HX1 : Hid (RW Ex w X1 mb sa sc ra rc S (.slice (some ⟨g, 0, none⟩) S.under.length vcap)) := RW.on BX1.out HR.out
  have RA1 : Hid (Row X1 u.heap.size [.int .i64 4, .int .i64 (k : Int), .int .i64 y]) := row_block (KB _ sx2) RAX.out
  have RZ1 : Hid (Row X1 (u.heap.size + 1) [.int .i64 0, .int .i64 0, .bool false, .int .i64 0, .int .i64 0, .int .i64 0]) := row_block (KB _ sx1) RZX.out
  have RL1 : Hid (Row X1 W.heap.size [.int .i64 l1, .int .i64 l2, .bool l3, .int .i64 l4, .int .i64 l5, .int .i64 l6]) := row_block (KB _ sx) RLX.out
  have OB : Hid (∀ j, (Value.slice va1 k vc1).ownBlock = some j → X.heap.size ≤ j) := fun j hj => by
   rcases HA1.out with e | e
   ·rw [hj] at e; cases e
   ·rw [hj] at e; injection e with e; rw [e]; exact Nat.le_refl _
  have NC2 : Hid (∀ j q, (lcs (S.under.drop (k + 1)))[j]? = some q → X1.cell? ((⟨g, (k + 1) * 6, none⟩ : Addr).add j) = some q) := fun j q hj => by
   have e : lcs S.under = lcs (S.under.take (k + 1)) ++ lcs (S.under.drop (k + 1)) := by rw [← lcs_app, List.take_append_drop]
   have l : (lcs (S.under.take (k + 1))).length = (k + 1) * 6 := by rw [lcs_len, List.length_take]; congr 1; omega
   have := HX1.out.o.cells (g := g) rfl ((k + 1) * 6 + j) q (by rw [e, List.getElem?_append_right (by omega), l, Nat.add_sub_cancel_left]; exact hj)
   rw [Addr.add_lit] at this ⊢
   rw [Nat.zero_add] at this
   exact this
  have NL2 : Hid ((lcs (S.under.drop (k + 1))).length = (S.under.length - (k + 1)) * 6) := by show _ = _; rw [lcs_len, List.length_drop]
  have ND : Hid (vcap = k + 1 → lcs (S.under.drop (k + 1)) = []) := fun e => by rw [List.drop_eq_nil_of_le (by omega)]; rfl
  clear r0 r1 e3
  have w0 := RA1.out.c 0 _ rfl
  have w1 := RA1.out.c 1 _ rfl
  have w3 := HX1.out.r.c 3 _ rfl
  have m1 : mb < X1.heap.size := by omega
  have n1 : u.heap.size < X1.heap.size := by omega
  have n2 : u.heap.size + 1 < X1.heap.size := by omega
  have k9 : ¬ ((k : Int) + 1 < 0) := by omega
  have BXB : Hid (∀ W', Below u.heap.size u W' → X1.heap.size ≤ W'.heap.size → True) := fun _ _ _ => trivial
  clear HG1 HA1 NC NL HX RAX RZX RLX BX KB
  go_wp2
  by_cases hc : vcap = k + 1
  ·go_region_law (refine step_append_at rfl (.tmp 135) (.tmp 143) 57 rfl w.heap.size 113 i0 (.agg #[.int .i64 0, .int .i64 0, .bool false, .int .i64 0, .int .i64 0, .int .i64 0]) 6 48 Tryz.underlying57 hi0 hz0 hz1 hz2 rfl (by decide) (.slice va1 k vc1) k (lcs (S.under.take k)) (by simp [Act.eval, Act.put]) HO1.out ⟨g, 0, none⟩ (S.under.length - (k + 1)) (vcap - (k + 1)) (lcs (S.under.drop (k + 1))) (by simp [Act.eval, Act.put, hc]) NL2.out (fun j q hj => by rw [ND.out hc] at hj; cases hj) (lcs_one _) (by unfold maxLen; omega) (by omega) (by first | (simp; omega) | omega) ?_; intro v2 X2 hown2 hgrow2 hat2; obtain ⟨va2, vc2, rfl⟩ := own_slice hown2; have mr2 : Row X2 mb (.slice sa S.n sc :: .slice ra S.n rc :: .int .i64 S.time :: .slice (some ⟨g, 0, none⟩) S.under.length vcap :: Ex) := (by first | exact row_grown hgrow2 (by simp; omega) (fun e => by have := OB.out _ e; omega) HX1.out.r | exact row_grown hgrow2 (by simp; omega) (fun e => by have := OB.out _ e; omega) (Row.dr HX1.out.r)); have m3 := mr2.c 3 _ rfl; have q3 := mr2.f 3 _ rfl; have HO2 : Hid _ := hown2; have HG2 : Hid _ := hgrow2; have HA2 : Hid _ := hat2; have lw2 := mr2.lt; clear mr2 hown2 hgrow2 hat2)
   all_goals
    have OB2 : ∀ j, (Value.slice va2 (k + (S.under.length - (k + 1))) vc2).ownBlock = some j → X.heap.size ≤ j := by
     intro j hj
     rcases HA2.out with e | e
     ·exact OB.out j (e.symm.trans hj)
     ·rw [hj] at e; injection e with e; rw [e]; exact xs1
    have BX2 : Below u.heap.size u X2 := by first | exact (rbel_dr BX1.out).grown HG2.out (by simp; omega) (fun j hj => by have := OB.out j hj; omega) | exact BX1.out.grown HG2.out (by simp; omega) (fun j hj => by have := OB.out j hj; omega)
    have LE : lcs (S.under.take k) ++ lcs (S.under.drop (k + 1)) = lcs (S.under.eraseIdx k) := by rw [← lcs_app, List.eraseIdx_eq_take_drop_succ]
    have LN : k + (S.under.length - (k + 1)) = (S.under.eraseIdx k).length := by rw [List.length_eraseIdx_of_lt kl]; omega
    have HO3 : X2.ownsRow w.heap.size 113 6 (Value.slice va2 (k + (S.under.length - (k + 1))) vc2) (k + (S.under.length - (k + 1))) (lcs (S.under.eraseIdx k)) := by rw [← LE]; exact HO2.out
    obtain ⟨g1, g2⟩ := RW.turn HR.out BX2 HO3 LN (fun j hj => by have := OB2 j hj; omega)
    have KB2 : ∀ b, b < X.heap.size → X2.heap[b]? = X1.heap[b]? := fun b hb => HG2.out.block b (by first | (simp; omega) | omega) (fun e => by have := OB.out b e.symm; omega)
    have RA2 : Hid (Row (X2.setCell ⟨mb, 3, none⟩ (Value.slice va2 (k + (S.under.length - (k + 1))) vc2)) u.heap.size [.int .i64 4, .int .i64 (k : Int), .int .i64 y]) := Row.far (by omega) (row_block (KB2 _ sx2) RA1.out)
    have RZ2 : Hid (Row (X2.setCell ⟨mb, 3, none⟩ (Value.slice va2 (k + (S.under.length - (k + 1))) vc2)) (u.heap.size + 1) [.int .i64 0, .int .i64 0, .bool false, .int .i64 0, .int .i64 0, .int .i64 0]) := Row.far (by omega) (row_block (KB2 _ sx1) RZ1.out)
    have RL2 : Hid (Row (X2.setCell ⟨mb, 3, none⟩ (Value.slice va2 (k + (S.under.length - (k + 1))) vc2)) W.heap.size [.int .i64 l1, .int .i64 l2, .bool l3, .int .i64 l4, .int .i64 l5, .int .i64 l6]) := Row.far (by omega) (row_block (KB2 _ sx) RL1.out)
    have G1 : Hid _ := RW.six (a0 := .int .i64 0) (a1 := .int .i64 0) (a2 := .bool false) (a3 := .int .i64 0) (a4 := .int .i64 0) (a5 := .int .i64 0) g1 (show u.heap.size + 1 ≠ mb by omega) (fun e => by have := OB2 _ e; omega) (by omega)
    have G2 : Hid _ := Kp.six (b := u.heap.size + 1) (a0 := .int .i64 0) (a1 := .int .i64 0) (a2 := .bool false) (a3 := .int .i64 0) (a4 := .int .i64 0) (a5 := .int .i64 0) g2 (by omega)
    clear g1 g2 OB2 BX2 LE LN HO3 KB2 HO2 HG2 HA2 m3 q3 lw2 w0 w1 w3 RA1 RZ1 RL1 HX1 BX1 HO1 OB NC2 NL2 ND
    generalize (X2.setCell ⟨mb, 3, none⟩ (Value.slice va2 (k + (S.under.length - (k + 1))) vc2)) = Y at *
    have t1 : W.heap.size < Y.heap.size := RL2.out.lt
    have t2 : u.heap.size + 1 < Y.heap.size := by omega
    have t3 : u.heap.size < Y.heap.size := by omega
    have w0 := RA2.out.c 0 _ rfl
    have z0 := RZ2.out.c 0 _ rfl
    have y0 := RZ2.out.f 0 _ rfl
    have l0_ := RL2.out.c 0 _ rfl
    have z1 := RZ2.out.c 1 _ rfl
    have y1 := RZ2.out.f 1 _ rfl
    have l1_ := RL2.out.c 1 _ rfl
    have z2 := RZ2.out.c 2 _ rfl
    have y2 := RZ2.out.f 2 _ rfl
    have l2_ := RL2.out.c 2 _ rfl
    have z3 := RZ2.out.c 3 _ rfl
    have y3 := RZ2.out.f 3 _ rfl
    have l3_ := RL2.out.c 3 _ rfl
    have z4 := RZ2.out.c 4 _ rfl
    have y4 := RZ2.out.f 4 _ rfl
    have l4_ := RL2.out.c 4 _ rfl
    have z5 := RZ2.out.c 5 _ rfl
    have y5 := RZ2.out.f 5 _ rfl
    have l5_ := RL2.out.c 5 _ rfl
    go_wp2
    exact bodyPost_ret (v := .tuple #[.agg #[.int .i64 0, .int .i64 0, .bool false, .int .i64 0, .int .i64 0, .int .i64 0], .bool false, .int .i64 0]) (by simp [results, Tryz.results43, go_sem, *]) rfl ⟨_, rfl, G1.out, G2.out⟩
  ·go_region_law (refine step_append_at rfl (.tmp 135) (.tmp 143) 57 rfl w.heap.size 113 i0 (.agg #[.int .i64 0, .int .i64 0, .bool false, .int .i64 0, .int .i64 0, .int .i64 0]) 6 48 Tryz.underlying57 hi0 hz0 hz1 hz2 rfl (by decide) (.slice va1 k vc1) k (lcs (S.under.take k)) (by simp [Act.eval, Act.put]) HO1.out ⟨g, (k + 1) * 6, none⟩ (S.under.length - (k + 1)) (vcap - (k + 1)) (lcs (S.under.drop (k + 1))) (by simp [Act.eval, Act.put, hc]) NL2.out NC2.out (lcs_one _) (by unfold maxLen; omega) (by omega) (by first | (simp; omega) | omega) ?_; intro v2 X2 hown2 hgrow2 hat2; obtain ⟨va2, vc2, rfl⟩ := own_slice hown2; have mr2 : Row X2 mb (.slice sa S.n sc :: .slice ra S.n rc :: .int .i64 S.time :: .slice (some ⟨g, 0, none⟩) S.under.length vcap :: Ex) := (by first | exact row_grown hgrow2 (by simp; omega) (fun e => by have := OB.out _ e; omega) HX1.out.r | exact row_grown hgrow2 (by simp; omega) (fun e => by have := OB.out _ e; omega) (Row.dr HX1.out.r)); have m3 := mr2.c 3 _ rfl; have q3 := mr2.f 3 _ rfl; have HO2 : Hid _ := hown2; have HG2 : Hid _ := hgrow2; have HA2 : Hid _ := hat2; have lw2 := mr2.lt; clear mr2 hown2 hgrow2 hat2)
   all_goals
    have OB2 : ∀ j, (Value.slice va2 (k + (S.under.length - (k + 1))) vc2).ownBlock = some j → X.heap.size ≤ j := by
     intro j hj
     rcases HA2.out with e | e
     ·exact OB.out j (e.symm.trans hj)
     ·rw [hj] at e; injection e with e; rw [e]; exact xs1
    have BX2 : Below u.heap.size u X2 := by first | exact (rbel_dr BX1.out).grown HG2.out (by simp; omega) (fun j hj => by have := OB.out j hj; omega) | exact BX1.out.grown HG2.out (by simp; omega) (fun j hj => by have := OB.out j hj; omega)
    have LE : lcs (S.under.take k) ++ lcs (S.under.drop (k + 1)) = lcs (S.under.eraseIdx k) := by rw [← lcs_app, List.eraseIdx_eq_take_drop_succ]
    have LN : k + (S.under.length - (k + 1)) = (S.under.eraseIdx k).length := by rw [List.length_eraseIdx_of_lt kl]; omega
    have HO3 : X2.ownsRow w.heap.size 113 6 (Value.slice va2 (k + (S.under.length - (k + 1))) vc2) (k + (S.under.length - (k + 1))) (lcs (S.under.eraseIdx k)) := by rw [← LE]; exact HO2.out
    obtain ⟨g1, g2⟩ := RW.turn HR.out BX2 HO3 LN (fun j hj => by have := OB2 j hj; omega)
    have KB2 : ∀ b, b < X.heap.size → X2.heap[b]? = X1.heap[b]? := fun b hb => HG2.out.block b (by first | (simp; omega) | omega) (fun e => by have := OB.out b e.symm; omega)
    have RA2 : Hid (Row (X2.setCell ⟨mb, 3, none⟩ (Value.slice va2 (k + (S.under.length - (k + 1))) vc2)) u.heap.size [.int .i64 4, .int .i64 (k : Int), .int .i64 y]) := Row.far (by omega) (row_block (KB2 _ sx2) RA1.out)
    have RZ2 : Hid (Row (X2.setCell ⟨mb, 3, none⟩ (Value.slice va2 (k + (S.under.length - (k + 1))) vc2)) (u.heap.size + 1) [.int .i64 0, .int .i64 0, .bool false, .int .i64 0, .int .i64 0, .int .i64 0]) := Row.far (by omega) (row_block (KB2 _ sx1) RZ1.out)
    have RL2 : Hid (Row (X2.setCell ⟨mb, 3, none⟩ (Value.slice va2 (k + (S.under.length - (k + 1))) vc2)) W.heap.size [.int .i64 l1, .int .i64 l2, .bool l3, .int .i64 l4, .int .i64 l5, .int .i64 l6]) := Row.far (by omega) (row_block (KB2 _ sx) RL1.out)
    have G1 : Hid _ := RW.six (a0 := .int .i64 0) (a1 := .int .i64 0) (a2 := .bool false) (a3 := .int .i64 0) (a4 := .int .i64 0) (a5 := .int .i64 0) g1 (show u.heap.size + 1 ≠ mb by omega) (fun e => by have := OB2 _ e; omega) (by omega)
    have G2 : Hid _ := Kp.six (b := u.heap.size + 1) (a0 := .int .i64 0) (a1 := .int .i64 0) (a2 := .bool false) (a3 := .int .i64 0) (a4 := .int .i64 0) (a5 := .int .i64 0) g2 (by omega)
    clear g1 g2 OB2 BX2 LE LN HO3 KB2 HO2 HG2 HA2 m3 q3 lw2 w0 w1 w3 RA1 RZ1 RL1 HX1 BX1 HO1 OB NC2 NL2 ND
    generalize (X2.setCell ⟨mb, 3, none⟩ (Value.slice va2 (k + (S.under.length - (k + 1))) vc2)) = Y at *
    have t1 : W.heap.size < Y.heap.size := RL2.out.lt
    have t2 : u.heap.size + 1 < Y.heap.size := by omega
    have t3 : u.heap.size < Y.heap.size := by omega
    have w0 := RA2.out.c 0 _ rfl
    have z0 := RZ2.out.c 0 _ rfl
    have y0 := RZ2.out.f 0 _ rfl
    have l0_ := RL2.out.c 0 _ rfl
    have z1 := RZ2.out.c 1 _ rfl
    have y1 := RZ2.out.f 1 _ rfl
    have l1_ := RL2.out.c 1 _ rfl
    have z2 := RZ2.out.c 2 _ rfl
    have y2 := RZ2.out.f 2 _ rfl
    have l2_ := RL2.out.c 2 _ rfl
    have z3 := RZ2.out.c 3 _ rfl
    have y3 := RZ2.out.f 3 _ rfl
    have l3_ := RL2.out.c 3 _ rfl
    have z4 := RZ2.out.c 4 _ rfl
    have y4 := RZ2.out.f 4 _ rfl
    have l4_ := RL2.out.c 4 _ rfl
    have z5 := RZ2.out.c 5 _ rfl
    have y5 := RZ2.out.f 5 _ rfl
    have l5_ := RL2.out.c 5 _ rfl
    go_wp2
    exact bodyPost_ret (v := .tuple #[.agg #[.int .i64 0, .int .i64 0, .bool false, .int .i64 0, .int .i64 0, .int .i64 0], .bool false, .int .i64 0]) (by simp [results, Tryz.results43, go_sem, *]) rfl ⟨_, rfl, G1.out, G2.out⟩
end Go.Proofs.YtadkgnbagmnkkakGreatDoor
namespace Go.Proofs.YtadkgnbagmnkkakGreatDoor
open Go.ChangeShapes Go.WideShapes Go.ChangeAt Go.RowKit Go.Joins
set_option linter.unusedVariables false

def lt0 : Lt := ⟨0, 0, false, 0, 0, 0⟩
theorem rdo_any {Ex : List Value} (w u : World) (mb sc rc : Nat) (sa ra : Option Addr) (S : Ws) (v : Value) (wh x y : Int) (hR : RW Ex w u mb sa sc ra rc S v) (hI : S.I) :
  Calls Tryz.prog 43 #[.pointer (some ⟨mb, 0, none⟩), .agg #[.int .i64 wh, .int .i64 x, .int .i64 y]] u fun o w' => ∃ v' S' r e, DoR S wh x y S' r e ∧ o = .returned (.tuple #[ltv (r.getD lt0), .bool r.isSome, .int .i64 e]) ∧ RW Ex w w' mb sa sc ra rc S' v' ∧ Kp u w' mb v v' := by
 by_cases w0 : wh < 1 ∨ 5 < wh
 ·exact (rdo_none w u mb sc rc sa ra S v x y hR hI wh w0).mono fun _ _ ⟨he, hb⟩ => ⟨v, S, none, 1, Or.inr (Or.inr (Or.inr (Or.inr (Or.inr (Or.inr (Or.inr (Or.inr (Or.inr (Or.inr (⟨w0, rfl, rfl, rfl⟩)))))))))), he, hR.on hb, RW.kp hb⟩
 by_cases w1 : wh = 1
 ·subst w1
  by_cases a : x < 0
  ·exact (rdo_go_a w u mb sc rc sa ra S v x y hR hI a).mono fun _ _ ⟨he, hb⟩ => ⟨v, S, none, 1, Or.inl ⟨rfl, by omega, rfl, rfl, rfl⟩, he, hR.on hb, RW.kp hb⟩
  ·by_cases b : 1000000 < x
   ·exact (rdo_go_b w u mb sc rc sa ra S v x y hR hI a b).mono fun _ _ ⟨he, hb⟩ => ⟨v, S, none, 1, Or.inl ⟨rfl, by omega, rfl, rfl, rfl⟩, he, hR.on hb, RW.kp hb⟩
   ·by_cases c : 1000000000 - S.time < x
    ·exact (rdo_go_c w u mb sc rc sa ra S v x y hR hI a b c).mono fun _ _ ⟨he, hb⟩ => ⟨v, S, none, 1, Or.inl ⟨rfl, by omega, rfl, rfl, rfl⟩, he, hR.on hb, RW.kp hb⟩
    ·exact (rdo_go w u mb sc rc sa ra S v x y hR hI a b c).mono fun _ _ ⟨v', he, h1, h2⟩ => ⟨v', _, none, 0, Or.inr (Or.inl ⟨rfl, by omega, rfl, rfl, rfl⟩), he, h1, h2⟩
 by_cases w2 : wh = 2
 ·subst w2
  by_cases hx : 0 ≤ x ∧ x < S.n
  ·by_cases hy : 0 ≤ y ∧ y < S.n
   ·by_cases e : x = y
    ·subst e
     exact (rdo_ask_d w u mb sc rc sa ra S v x hR hI hx).mono fun _ _ ⟨he, hb⟩ => ⟨v, S, none, 3, Or.inr (Or.inr (Or.inr (Or.inl ⟨rfl, ⟨hx, hy⟩, rfl, rfl, rfl, rfl⟩))), he, hR.on hb, RW.kp hb⟩
    ·by_cases hf : S.under.length < 40
     ·exact (rdo_ask w u mb sc rc sa ra S v x y hR hI hx hy e hf).mono fun _ _ ⟨v', he, h1, h2⟩ => ⟨v', _, none, 0, Or.inr (Or.inr (Or.inr (Or.inr (Or.inr (Or.inl ⟨rfl, ⟨hx, hy⟩, e, hf, rfl, rfl, rfl⟩))))), he, h1, h2⟩
     ·exact (rdo_ask_e w u mb sc rc sa ra S v x y hR hI hx hy e (by omega)).mono fun _ _ ⟨he, hb⟩ => ⟨v, S, none, 4, Or.inr (Or.inr (Or.inr (Or.inr (Or.inl ⟨rfl, ⟨hx, hy⟩, e, by omega, rfl, rfl, rfl⟩)))), he, hR.on hb, RW.kp hb⟩
   ·exact (rdo_ask_c w u mb sc rc sa ra S v x y hR hI hx hy).mono fun _ _ ⟨he, hb⟩ => ⟨v, S, none, 1, Or.inr (Or.inr (Or.inl ⟨rfl, fun q => hy q.2, rfl, rfl, rfl⟩)), he, hR.on hb, RW.kp hb⟩
  ·by_cases hy : 0 ≤ y ∧ y < S.n
   ·exact (rdo_ask_b w u mb sc rc sa ra S v x y hR hI hx hy).mono fun _ _ ⟨he, hb⟩ => ⟨v, S, none, 1, Or.inr (Or.inr (Or.inl ⟨rfl, fun q => hx q.1, rfl, rfl, rfl⟩)), he, hR.on hb, RW.kp hb⟩
   ·exact (rdo_ask_a w u mb sc rc sa ra S v x y hR hI hx hy).mono fun _ _ ⟨he, hb⟩ => ⟨v, S, none, 1, Or.inr (Or.inr (Or.inl ⟨rfl, fun q => hx q.1, rfl, rfl, rfl⟩)), he, hR.on hb, RW.kp hb⟩
 have w3 : wh = 3 ∨ wh = 4 ∨ wh = 5 := by omega
 clear w0 w1 w2
 by_cases a : x < 0
 ·rcases w3 with rfl | rfl | rfl
  ·exact (rdo_none_a3 w u mb sc rc sa ra S v x y hR hI a).mono fun _ _ ⟨he, hb⟩ => ⟨v, S, none, 5, Or.inr (Or.inr (Or.inr (Or.inr (Or.inr (Or.inr (Or.inl ⟨by omega, by omega, rfl, rfl, rfl⟩)))))), he, hR.on hb, RW.kp hb⟩
  ·exact (rdo_none_a4 w u mb sc rc sa ra S v x y hR hI a).mono fun _ _ ⟨he, hb⟩ => ⟨v, S, none, 5, Or.inr (Or.inr (Or.inr (Or.inr (Or.inr (Or.inr (Or.inl ⟨by omega, by omega, rfl, rfl, rfl⟩)))))), he, hR.on hb, RW.kp hb⟩
  ·exact (rdo_none_a5 w u mb sc rc sa ra S v x y hR hI a).mono fun _ _ ⟨he, hb⟩ => ⟨v, S, none, 5, Or.inr (Or.inr (Or.inr (Or.inr (Or.inr (Or.inr (Or.inl ⟨by omega, by omega, rfl, rfl, rfl⟩)))))), he, hR.on hb, RW.kp hb⟩
 by_cases b : (S.under.length : Int) ≤ x
 ·rcases w3 with rfl | rfl | rfl
  ·exact (rdo_none_b3 w u mb sc rc sa ra S v x y hR hI a b).mono fun _ _ ⟨he, hb⟩ => ⟨v, S, none, 5, Or.inr (Or.inr (Or.inr (Or.inr (Or.inr (Or.inr (Or.inl ⟨by omega, by omega, rfl, rfl, rfl⟩)))))), he, hR.on hb, RW.kp hb⟩
  ·exact (rdo_none_b4 w u mb sc rc sa ra S v x y hR hI a b).mono fun _ _ ⟨he, hb⟩ => ⟨v, S, none, 5, Or.inr (Or.inr (Or.inr (Or.inr (Or.inr (Or.inr (Or.inl ⟨by omega, by omega, rfl, rfl, rfl⟩)))))), he, hR.on hb, RW.kp hb⟩
  ·exact (rdo_none_b5 w u mb sc rc sa ra S v x y hR hI a b).mono fun _ _ ⟨he, hb⟩ => ⟨v, S, none, 5, Or.inr (Or.inr (Or.inr (Or.inr (Or.inr (Or.inr (Or.inl ⟨by omega, by omega, rfl, rfl, rfl⟩)))))), he, hR.on hb, RW.kp hb⟩
 obtain ⟨k, rfl⟩ : ∃ k : Nat, x = k := ⟨x.toNat, by omega⟩
 obtain ⟨l, hl⟩ : ∃ l, S.under[k]? = some l := ⟨S.under[k]'(by omega), List.getElem?_eq_getElem (by omega)⟩
 rcases w3 with rfl | rfl | rfl
 ·exact (rdo_deliver w u mb sc rc sa ra S v k y hR hI l k hl rfl).mono fun _ _ ⟨v', he, h1, h2⟩ => ⟨v', _, some l, 0, Or.inr (Or.inr (Or.inr (Or.inr (Or.inr (Or.inr (Or.inr (Or.inl ⟨rfl, ⟨by omega, by omega⟩, rfl, hl.symm, rfl⟩))))))), he, h1, h2⟩
 ·exact (rdo_lose w u mb sc rc sa ra S v k y hR hI l k hl rfl).mono fun _ _ ⟨v', he, h1, h2⟩ => ⟨v', _, none, 0, Or.inr (Or.inr (Or.inr (Or.inr (Or.inr (Or.inr (Or.inr (Or.inr (Or.inl ⟨rfl, ⟨by omega, by omega⟩, rfl, rfl, rfl⟩)))))))), he, h1, h2⟩
 ·exact (rdo_repeat w u mb sc rc sa ra S v k y hR hI l k hl rfl).mono fun _ _ ⟨v', he, h1, h2⟩ => ⟨v', _, some l, 0, Or.inr (Or.inr (Or.inr (Or.inr (Or.inr (Or.inr (Or.inr (Or.inr (Or.inr (Or.inl ⟨rfl, ⟨by omega, by omega⟩, rfl, hl.symm, rfl⟩))))))))), he, h1, h2⟩
end Go.Proofs.YtadkgnbagmnkkakGreatDoor
namespace Go.Proofs.YtadkgnbagmnkkakGreatDoor
open Go.ChangeShapes Go.WideShapes Go.ChangeAt Go.RowKit Go.Joins
set_option linter.unusedVariables false
set_option linter.unusedSimpArgs false

set_option maxHeartbeats 4000000
set_option maxRecDepth 100000
theorem ran_ans {Ex : List Value} (w u : World) (mb sc rc : Nat) (sa ra : Option Addr) (S : Ws) (v : Value) (x y t1 t2 t : Int) (hR : RW Ex w u mb sa sc ra rc S v) (hI : S.I)  :
  Calls Tryz.prog 45 #[.pointer (some ⟨mb, 0, none⟩), .agg #[.int .i64 x, .int .i64 y, .bool true, .int .i64 t1, .int .i64 t2, .int .i64 t]] u fun o w' => o = .returned (.int .i64 3) ∧ Below u.heap.size u w' := by
 go_enter Tryz.func45, Tryz.ntmps45
 go_wp2
 go_ret
 exact ⟨rfl, rbel_al (Below.refl _ _)⟩
theorem ran_a {Ex : List Value} (w u : World) (mb sc rc : Nat) (sa ra : Option Addr) (S : Ws) (v : Value) (x y t1 t2 t : Int) (hR : RW Ex w u mb sa sc ra rc S v) (hI : S.I) (hx : ¬ (0 ≤ x ∧ x < S.n)) (hy : ¬ (0 ≤ y ∧ y < S.n)) :
  Calls Tryz.prog 45 #[.pointer (some ⟨mb, 0, none⟩), .agg #[.int .i64 x, .int .i64 y, .bool false, .int .i64 t1, .int .i64 t2, .int .i64 t]] u fun o w' => o = .returned (.int .i64 1) ∧ Below u.heap.size u w' := by
 obtain ⟨va, vcap, rfl, hform⟩ := hR.len
 have HR : Hid (RW Ex w u mb sa sc ra rc S (.slice va S.under.length vcap)) := hR
 have zb : mb < u.heap.size := hR.r.lt
 have cH := fun (i : Int) (b : Bool) (W : World) (hW : Below u.heap.size u W) (hb : decide (0 ≤ i ∧ i < S.n) = b) => hb ▸ (RW.on hW HR.out).has i
 have cnt : Mark 0 := .mk _
 have hwsz := hR.hw.size
 clear hR hI hform
 go_enter Tryz.func45, Tryz.ntmps45
 go_wp2_with (first
  | (go_at_call 73; have cq : Mark 0 := cnt; clear cnt cq; have cnt : Mark 1 := .mk _; refine (cH x false _ (rbel_al (Below.refl _ _)) (decide_eq_false (by first | assumption | omega))).mono ?_; rintro o u1 ⟨rfl, hb⟩; have ra1 : Hid (Row u1 u.heap.size [.int .i64 x, .int .i64 y, .bool false, .int .i64 t1, .int .i64 t2, .int .i64 t]) := Row.on hb (Row.made rfl); have B1 : Hid (Below u.heap.size u u1) := rbel_on hb (rbel_al (Below.refl _ _)); have sy1 : u.heap.size < u1.heap.size := ra1.out.lt; have x1_1 := ra1.out.c 1 _ rfl; clear hb)
  | (go_at_call 73; have cq : Mark 1 := cnt; clear cnt cq; have cnt : Mark 2 := .mk _; refine (cH y false _ B1.out (decide_eq_false (by first | assumption | omega))).mono ?_; rintro o u2 ⟨rfl, hb⟩; have ra2 : Hid (Row u2 u.heap.size [.int .i64 x, .int .i64 y, .bool false, .int .i64 t1, .int .i64 t2, .int .i64 t]) := Row.on hb ra1.out; have B2 : Hid (Below u.heap.size u u2) := rbel_on hb B1.out; have sy2 : u.heap.size < u2.heap.size := ra2.out.lt; clear hb))
 go_ret
 exact ⟨rfl, B2.out⟩
theorem ran_b {Ex : List Value} (w u : World) (mb sc rc : Nat) (sa ra : Option Addr) (S : Ws) (v : Value) (x y t1 t2 t : Int) (hR : RW Ex w u mb sa sc ra rc S v) (hI : S.I) (hx : ¬ (0 ≤ x ∧ x < S.n)) (hy : 0 ≤ y ∧ y < S.n) :
  Calls Tryz.prog 45 #[.pointer (some ⟨mb, 0, none⟩), .agg #[.int .i64 x, .int .i64 y, .bool false, .int .i64 t1, .int .i64 t2, .int .i64 t]] u fun o w' => o = .returned (.int .i64 1) ∧ Below u.heap.size u w' := by
 obtain ⟨va, vcap, rfl, hform⟩ := hR.len
 have HR : Hid (RW Ex w u mb sa sc ra rc S (.slice va S.under.length vcap)) := hR
 have zb : mb < u.heap.size := hR.r.lt
 have cH := fun (i : Int) (b : Bool) (W : World) (hW : Below u.heap.size u W) (hb : decide (0 ≤ i ∧ i < S.n) = b) => hb ▸ (RW.on hW HR.out).has i
 have cnt : Mark 0 := .mk _
 have hwsz := hR.hw.size
 clear hR hI hform
 go_enter Tryz.func45, Tryz.ntmps45
 go_wp2_with (first
  | (go_at_call 73; have cq : Mark 0 := cnt; clear cnt cq; have cnt : Mark 1 := .mk _; refine (cH x false _ (rbel_al (Below.refl _ _)) (decide_eq_false (by first | assumption | omega))).mono ?_; rintro o u1 ⟨rfl, hb⟩; have ra1 : Hid (Row u1 u.heap.size [.int .i64 x, .int .i64 y, .bool false, .int .i64 t1, .int .i64 t2, .int .i64 t]) := Row.on hb (Row.made rfl); have B1 : Hid (Below u.heap.size u u1) := rbel_on hb (rbel_al (Below.refl _ _)); have sy1 : u.heap.size < u1.heap.size := ra1.out.lt; have x1_1 := ra1.out.c 1 _ rfl; clear hb)
  | (go_at_call 73; have cq : Mark 1 := cnt; clear cnt cq; have cnt : Mark 2 := .mk _; refine (cH y true _ B1.out (decide_eq_true (by first | assumption | omega))).mono ?_; rintro o u2 ⟨rfl, hb⟩; have ra2 : Hid (Row u2 u.heap.size [.int .i64 x, .int .i64 y, .bool false, .int .i64 t1, .int .i64 t2, .int .i64 t]) := Row.on hb ra1.out; have B2 : Hid (Below u.heap.size u u2) := rbel_on hb B1.out; have sy2 : u.heap.size < u2.heap.size := ra2.out.lt; clear hb))
 go_ret
 exact ⟨rfl, B2.out⟩
theorem ran_c {Ex : List Value} (w u : World) (mb sc rc : Nat) (sa ra : Option Addr) (S : Ws) (v : Value) (x y t1 t2 t : Int) (hR : RW Ex w u mb sa sc ra rc S v) (hI : S.I) (hx : 0 ≤ x ∧ x < S.n) (hy : ¬ (0 ≤ y ∧ y < S.n)) :
  Calls Tryz.prog 45 #[.pointer (some ⟨mb, 0, none⟩), .agg #[.int .i64 x, .int .i64 y, .bool false, .int .i64 t1, .int .i64 t2, .int .i64 t]] u fun o w' => o = .returned (.int .i64 1) ∧ Below u.heap.size u w' := by
 obtain ⟨va, vcap, rfl, hform⟩ := hR.len
 have HR : Hid (RW Ex w u mb sa sc ra rc S (.slice va S.under.length vcap)) := hR
 have zb : mb < u.heap.size := hR.r.lt
 have cH := fun (i : Int) (b : Bool) (W : World) (hW : Below u.heap.size u W) (hb : decide (0 ≤ i ∧ i < S.n) = b) => hb ▸ (RW.on hW HR.out).has i
 have cnt : Mark 0 := .mk _
 have hwsz := hR.hw.size
 clear hR hI hform
 go_enter Tryz.func45, Tryz.ntmps45
 go_wp2_with (first
  | (go_at_call 73; have cq : Mark 0 := cnt; clear cnt cq; have cnt : Mark 1 := .mk _; refine (cH x true _ (rbel_al (Below.refl _ _)) (decide_eq_true (by first | assumption | omega))).mono ?_; rintro o u1 ⟨rfl, hb⟩; have ra1 : Hid (Row u1 u.heap.size [.int .i64 x, .int .i64 y, .bool false, .int .i64 t1, .int .i64 t2, .int .i64 t]) := Row.on hb (Row.made rfl); have B1 : Hid (Below u.heap.size u u1) := rbel_on hb (rbel_al (Below.refl _ _)); have sy1 : u.heap.size < u1.heap.size := ra1.out.lt; have x1_1 := ra1.out.c 1 _ rfl; clear hb)
  | (go_at_call 73; have cq : Mark 1 := cnt; clear cnt cq; have cnt : Mark 2 := .mk _; refine (cH y false _ B1.out (decide_eq_false (by first | assumption | omega))).mono ?_; rintro o u2 ⟨rfl, hb⟩; have ra2 : Hid (Row u2 u.heap.size [.int .i64 x, .int .i64 y, .bool false, .int .i64 t1, .int .i64 t2, .int .i64 t]) := Row.on hb ra1.out; have B2 : Hid (Below u.heap.size u u2) := rbel_on hb B1.out; have sy2 : u.heap.size < u2.heap.size := ra2.out.lt; clear hb))
 go_ret
 exact ⟨rfl, B2.out⟩
theorem ran_d {Ex : List Value} (w u : World) (mb sc rc : Nat) (sa ra : Option Addr) (S : Ws) (v : Value) (x y t1 t2 t : Int) (hR : RW Ex w u mb sa sc ra rc S v) (hI : S.I) (hx : 0 ≤ x ∧ x < S.n) (hy : 0 ≤ y ∧ y < S.n) (hf : 40 ≤ S.under.length) :
  Calls Tryz.prog 45 #[.pointer (some ⟨mb, 0, none⟩), .agg #[.int .i64 x, .int .i64 y, .bool false, .int .i64 t1, .int .i64 t2, .int .i64 t]] u fun o w' => o = .returned (.int .i64 4) ∧ Below u.heap.size u w' := by
 obtain ⟨va, vcap, rfl, hform⟩ := hR.len
 have HR : Hid (RW Ex w u mb sa sc ra rc S (.slice va S.under.length vcap)) := hR
 have zb : mb < u.heap.size := hR.r.lt
 have cH := fun (i : Int) (b : Bool) (W : World) (hW : Below u.heap.size u W) (hb : decide (0 ≤ i ∧ i < S.n) = b) => hb ▸ (RW.on hW HR.out).has i
 have cnt : Mark 0 := .mk _
 have hwsz := hR.hw.size
 clear hR hI hform
 have d1 : (40 : Int) ≤ (S.under.length : Int) := by omega
 have d2 : decide ((40 : Int) ≤ (S.under.length : Int)) = true := decide_eq_true d1
 go_enter Tryz.func45, Tryz.ntmps45
 go_wp2_with (first
  | (go_at_call 73; have cq : Mark 0 := cnt; clear cnt cq; have cnt : Mark 1 := .mk _; refine (cH x true _ (rbel_al (Below.refl _ _)) (decide_eq_true (by first | assumption | omega))).mono ?_; rintro o u1 ⟨rfl, hb⟩; have ra1 : Hid (Row u1 u.heap.size [.int .i64 x, .int .i64 y, .bool false, .int .i64 t1, .int .i64 t2, .int .i64 t]) := Row.on hb (Row.made rfl); have B1 : Hid (Below u.heap.size u u1) := rbel_on hb (rbel_al (Below.refl _ _)); have sy1 : u.heap.size < u1.heap.size := ra1.out.lt; have x1_1 := ra1.out.c 1 _ rfl; clear hb)
  | (go_at_call 73; have cq : Mark 1 := cnt; clear cnt cq; have cnt : Mark 2 := .mk _; refine (cH y true _ B1.out (decide_eq_true (by first | assumption | omega))).mono ?_; rintro o u2 ⟨rfl, hb⟩; have ra2 : Hid (Row u2 u.heap.size [.int .i64 x, .int .i64 y, .bool false, .int .i64 t1, .int .i64 t2, .int .i64 t]) := Row.on hb ra1.out; have B2 : Hid (Below u.heap.size u u2) := rbel_on hb B1.out; have sy2 : u.heap.size < u2.heap.size := ra2.out.lt; have mrow2 := (RW.on B2.out HR.out).r; have mc2 := mrow2.c 3 _ rfl; have zb2 := mrow2.lt; clear mrow2; clear hb))
 go_ret
 exact ⟨rfl, B2.out⟩
theorem ran_ok {Ex : List Value} (w u : World) (mb sc rc : Nat) (sa ra : Option Addr) (S : Ws) (v : Value) (x y t1 t2 t : Int) (hR : RW Ex w u mb sa sc ra rc S v) (hI : S.I) (hx : 0 ≤ x ∧ x < S.n) (hy : 0 ≤ y ∧ y < S.n) (hf : S.under.length < 40) :
  Calls Tryz.prog 45 #[.pointer (some ⟨mb, 0, none⟩), .agg #[.int .i64 x, .int .i64 y, .bool false, .int .i64 t1, .int .i64 t2, .int .i64 t]] u fun o w' => ∃ v', o = .returned (.int .i64 0) ∧ RW Ex w w' mb sa sc ra rc { S with under := S.under ++ [⟨y, x, true, t, S.rd y.toNat, S.rd y.toNat⟩] } v' ∧ Kp u w' mb v v' := by
 obtain ⟨va, vcap, rfl, hform⟩ := hR.len
 have HR : Hid (RW Ex w u mb sa sc ra rc S (.slice va S.under.length vcap)) := hR
 have zb : mb < u.heap.size := hR.r.lt
 have cH := fun (i : Int) (b : Bool) (W : World) (hW : Below u.heap.size u W) (hb : decide (0 ≤ i ∧ i < S.n) = b) => hb ▸ (RW.on hW HR.out).has i
 have cnt : Mark 0 := .mk _
 have hwsz := hR.hw.size
 have NB : Hid (∀ k, (Value.slice va S.under.length vcap).ownBlock = some k → k < u.heap.size) := fun k hk => (hR.o.lt k hk).2
 obtain ⟨i0, hi0, hz0, hz1, hz2⟩ := info_parts infoLetter
 obtain ⟨k, rfl⟩ : ∃ k : Nat, y = k := ⟨y.toNat, by omega⟩
 have hk : k < S.n := by omega
 have cR := fun (W : World) (hW : Below u.heap.size u W) => (RW.on hW HR.out).read hI hk
 have ek : (k : Int).toNat = k := by omega
 rw [ek]
 have d1 : ¬ ((40 : Int) ≤ (S.under.length : Int)) := by omega
 have d2 : decide ((40 : Int) ≤ (S.under.length : Int)) = false := decide_eq_false d1
 clear hR hI hform ek hk
 generalize et : S.rd k = q at *
 go_enter Tryz.func45, Tryz.ntmps45
 go_wp2_with (first
  | (go_at_call 73; have cq : Mark 0 := cnt; clear cnt cq; have cnt : Mark 1 := .mk _; refine (cH x true _ (rbel_al (Below.refl _ _)) (decide_eq_true (by first | assumption | omega))).mono ?_; rintro o u1 ⟨rfl, hb⟩; have ra1 : Hid (Row u1 u.heap.size [.int .i64 x, .int .i64 (k : Int), .bool false, .int .i64 t1, .int .i64 t2, .int .i64 t]) := Row.on hb (Row.made rfl); have B1 : Hid (Below u.heap.size u u1) := rbel_on hb (rbel_al (Below.refl _ _)); have sy1 : u.heap.size < u1.heap.size := ra1.out.lt; have x1_1 := ra1.out.c 1 _ rfl; clear hb)
  | (go_at_call 73; have cq : Mark 1 := cnt; clear cnt cq; have cnt : Mark 2 := .mk _; refine (cH (k : Int) true _ B1.out (decide_eq_true (by first | assumption | omega))).mono ?_; rintro o u2 ⟨rfl, hb⟩; have ra2 : Hid (Row u2 u.heap.size [.int .i64 x, .int .i64 (k : Int), .bool false, .int .i64 t1, .int .i64 t2, .int .i64 t]) := Row.on hb ra1.out; have B2 : Hid (Below u.heap.size u u2) := rbel_on hb B1.out; have sy2 : u.heap.size < u2.heap.size := ra2.out.lt; have x2_1 := ra2.out.c 1 _ rfl; have mrow2 := (RW.on B2.out HR.out).r; have mc2 := mrow2.c 3 _ rfl; have zb2 := mrow2.lt; clear mrow2; clear hb)
  | (go_at_call 23; refine (cR _ B2.out).mono ?_; rintro o u3 ⟨rfl, hb⟩; have ra3 : Hid (Row u3 u.heap.size [.int .i64 x, .int .i64 (k : Int), .bool false, .int .i64 t1, .int .i64 t2, .int .i64 t]) := Row.on hb ra2.out; have B3 : Hid (Below u.heap.size u u3) := rbel_on hb B2.out; have sy3 : u.heap.size < u3.heap.size := ra3.out.lt; have x3_0 := ra3.out.c 0 _ rfl; have x3_1 := ra3.out.c 1 _ rfl; have x3_5 := ra3.out.c 5 _ rfl; have mrow3 := (RW.on B3.out HR.out).r; have mc3 := mrow3.c 3 _ rfl; have zb3 := mrow3.lt; clear mrow3; have HW3 : Hid (RW Ex w u3 mb sa sc ra rc S (.slice va S.under.length vcap)) := RW.on B3.out HR.out; clear hb))
 go_region_law (refine step_append_at rfl (.tmp 38) (.tmp 48) 57 rfl w.heap.size 113 i0 (.agg #[.int .i64 0, .int .i64 0, .bool false, .int .i64 0, .int .i64 0, .int .i64 0]) 6 48 Tryz.underlying57 hi0 hz0 hz1 hz2 rfl (by decide) (.slice va S.under.length vcap) S.under.length _ (by simp [Act.eval, Act.put]) (HW3.out.o.alloc _) ⟨u3.heap.size, 0, none⟩ 1 1 [.int .i64 (k : Int), .int .i64 x, .bool true, .int .i64 t, .int .i64 q, .int .i64 q] (by simp [Act.eval, Act.put]) rfl (fun j qq hj => by rw [Addr.add_lit]; exact (Row.made (W := u3) (vs := [.int .i64 (k : Int), .int .i64 x, .bool true, .int .i64 t, .int .i64 q, .int .i64 q]) rfl).c _ _ (by simpa using hj)) (ltc_one ⟨k, x, true, t, q, q⟩) (by unfold maxLen; omega) (by omega) (by simp; omega) ?_; intro v' w1 hown1 hgrow1 hat1; obtain ⟨va', vc', rfl⟩ := own_slice hown1; have mr1 : Row w1 mb (.slice sa S.n sc :: .slice ra S.n rc :: .int .i64 S.time :: .slice va S.under.length vcap :: Ex) := (by first | exact row_grown hgrow1 (by simp; omega) HW3.out.ne (Row.al HW3.out.r) | exact row_grown hgrow1 (by simp; omega) HW3.out.ne (Row.dr (Row.al HW3.out.r))); have m3 := mr1.c 3 _ rfl; have g3 := mr1.f 3 _ rfl; have HO1 : Hid _ := hown1; have HG1 : Hid _ := hgrow1; have HA1 : Hid _ := hat1; have lw1 := mr1.lt; clear mr1 hown1 hgrow1 hat1)
 all_goals
  obtain ⟨g1, g2⟩ : RW Ex w (w1.setCell ⟨mb, 3, none⟩ (.slice va' (S.under.length + 1) vc')) mb sa sc ra rc { S with under := S.under ++ [⟨k, x, true, t, q, q⟩] } (.slice va' (S.under.length + 1) vc') ∧ Kp u (w1.setCell ⟨mb, 3, none⟩ (.slice va' (S.under.length + 1) vc')) mb (.slice va S.under.length vcap) (.slice va' (S.under.length + 1) vc') := RW.more HR.out (by first | exact rbel_al B3.out | exact rbel_dr (rbel_al B3.out) | exact rbel_al (rbel_dr B3.out)) HO1.out HG1.out HA1.out
  have G1 : Hid _ := g1
  have G2 : Hid _ := g2
  clear g1 g2
  go_wp2
  go_ret
  exact ⟨_, rfl, G1.out, G2.out⟩
end Go.Proofs.YtadkgnbagmnkkakGreatDoor
namespace Go.Proofs.YtadkgnbagmnkkakGreatDoor
open Go.ChangeShapes Go.WideShapes Go.ChangeAt Go.RowKit Go.Joins
set_option linter.unusedVariables false

theorem ran_any {Ex : List Value} (w u : World) (mb sc rc : Nat) (sa ra : Option Addr) (S : Ws) (v : Value) (l : Lt) (hR : RW Ex w u mb sa sc ra rc S v) (hI : S.I) :
  Calls Tryz.prog 45 #[.pointer (some ⟨mb, 0, none⟩), ltv l] u fun o w' => ∃ v' S' e, AnR S l S' e ∧ o = .returned (.int .i64 e) ∧ RW Ex w w' mb sa sc ra rc S' v' ∧ Kp u w' mb v v' := by
 obtain ⟨x, y, an, t1, t2, t⟩ := l
 cases an with
 | true => exact (ran_ans w u mb sc rc sa ra S v x y t1 t2 t hR hI).mono fun _ _ ⟨he, hb⟩ => ⟨v, S, 3, Or.inl ⟨rfl, rfl, rfl⟩, he, hR.on hb, RW.kp hb⟩
 | false =>
  have no : ¬ (S.hs x ∧ S.hs y) → ∀ {o : Ending} {w' : World}, o = .returned (.int .i64 1) ∧ Below u.heap.size u w' → ∃ v' S' e, AnR S ⟨x, y, false, t1, t2, t⟩ S' e ∧ o = .returned (.int .i64 e) ∧ RW Ex w w' mb sa sc ra rc S' v' ∧ Kp u w' mb v v' := fun h o w' ⟨he, hb⟩ => ⟨v, S, 1, Or.inr (Or.inl ⟨rfl, h, rfl, rfl⟩), he, hR.on hb, RW.kp hb⟩
  by_cases hx : 0 ≤ x ∧ x < S.n
  ·by_cases hy : 0 ≤ y ∧ y < S.n
   ·by_cases hf : S.under.length < 40
    ·exact (ran_ok w u mb sc rc sa ra S v x y t1 t2 t hR hI hx hy hf).mono fun _ _ ⟨v', he, h1, h2⟩ => ⟨v', _, 0, Or.inr (Or.inr (Or.inr ⟨rfl, ⟨hx, hy⟩, hf, rfl, rfl⟩)), he, h1, h2⟩
    ·exact (ran_d w u mb sc rc sa ra S v x y t1 t2 t hR hI hx hy (by omega)).mono fun _ _ ⟨he, hb⟩ => ⟨v, S, 4, Or.inr (Or.inr (Or.inl ⟨rfl, ⟨hx, hy⟩, by omega, rfl, rfl⟩)), he, hR.on hb, RW.kp hb⟩
   ·exact (ran_c w u mb sc rc sa ra S v x y t1 t2 t hR hI hx hy).mono fun _ _ h => no (fun q => hy q.2) h
  ·by_cases hy : 0 ≤ y ∧ y < S.n
   ·exact (ran_b w u mb sc rc sa ra S v x y t1 t2 t hR hI hx hy).mono fun _ _ h => no (fun q => hx q.1) h
   ·exact (ran_a w u mb sc rc sa ra S v x y t1 t2 t hR hI hx hy).mono fun _ _ h => no (fun q => hx q.1) h
theorem anR_uniq {S S1 S2 : Ws} {l : Lt} {e1 e2 : Int} (h : AnR S l S1 e1) (h' : AnR S l S2 e2) : S1 = S2 ∧ e1 = e2 := by
 rcases h with ⟨a, rfl, rfl⟩ | ⟨a, b, rfl, rfl⟩ | ⟨a, b, c, rfl, rfl⟩ | ⟨a, b, c, rfl, rfl⟩ <;> rcases h' with ⟨a', rfl, rfl⟩ | ⟨a', b', rfl, rfl⟩ | ⟨a', b', c', rfl, rfl⟩ | ⟨a', b', c', rfl, rfl⟩ <;> first | exact ⟨rfl, rfl⟩ | exact absurd b b' | exact absurd b' b | (exfalso; omega) | (rw [a] at a'; exact absurd a' (by decide))
theorem ran_at {Ex : List Value} {w u : World} {mb sc rc : Nat} {sa ra : Option Addr} {S S' : Ws} {v : Value} {l : Lt} {e : Int} (hR : RW Ex w u mb sa sc ra rc S v) (hI : S.I) (h : AnR S l S' e) :
  Calls Tryz.prog 45 #[.pointer (some ⟨mb, 0, none⟩), ltv l] u fun o w' => ∃ v', o = .returned (.int .i64 e) ∧ RW Ex w w' mb sa sc ra rc S' v' ∧ Kp u w' mb v v' :=
 (ran_any w u mb sc rc sa ra S v l hR hI).mono fun _ _ ⟨v', S2, e2, h2, he, h3, h4⟩ => by
  obtain ⟨rfl, rfl⟩ := anR_uniq h h2
  exact ⟨v', he, h3, h4⟩
end Go.Proofs.YtadkgnbagmnkkakGreatDoor
