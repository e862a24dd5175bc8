/- What package world answers: which clocks there are, what they show, and how time goes on. What package world answers: sent. What package world answers: letters that come. What package world answers: Do. What package world answers: Answer. What package world answers: New. -/
import Derived.Test.YtadkgnbagmnkkakGreatDoorNm12
import Derived.BigQuiet
import Derived.Deep.QuietTactic
import Derived.Deep.RegionWith
import Derived.Deep.CutRange
import Derived.Deep.CutBlock
import Derived.IntWalk
import Derived.Deep.RegionLaw
import Derived.Laws.AppendOwnNone
import Derived.Maps.AppendAt
import Derived.BigRegion
import Derived.Laws.OwnMore
namespace Go.Proofs.YtadkgnbagmnkkakGreatDoor
open Go.ChangeShapes Go.WideShapes Go.ChangeAt Go.RowKit Go.Joins
set_option linter.unusedVariables false
set_option linter.unusedSimpArgs false

section
variable {u : World} {mb cb cc : Nat} {S : Ws} {v : Value}
set_option maxRecDepth 100000 in
set_option maxHeartbeats 4000000 in
theorem iscl (h : PW u mb cb cc S v) (hI : S.I) (i : Int) (b : Bool) (hb : b = decide (0 ≤ i ∧ i < (S.n : Int))) :
  Calls Tryz.prog 150 #[.pointer (some ⟨mb, 0, none⟩), .int .i64 i] u fun o w' => o = .returned (.bool b) ∧ w' = u := by
 have c0 := h.r.c 0 _ rfl
 have l0 := h.r.lt
 have n6 := hI.n6
 clear h hI
 subst hb
 generalize S.n = n at *
 by_cases h : 0 ≤ i
 ·by_cases h2 : i < n
  ·rw [show decide (0 ≤ i ∧ i < (n : Int)) = true from decide_eq_true ⟨h, h2⟩]
   have d1 : decide (i < (n : Int)) = true := decide_eq_true h2
   go_enter Tryz.func150, Tryz.ntmps150
   go_wp2
   go_ret
   exact ⟨rfl, rfl⟩
  ·rw [show decide (0 ≤ i ∧ i < (n : Int)) = false from decide_eq_false (fun q => h2 q.2)]
   have d1 : decide (i < (n : Int)) = false := decide_eq_false h2
   go_enter Tryz.func150, Tryz.ntmps150
   go_wp2
   go_ret
   exact ⟨rfl, rfl⟩
 ·rw [show decide (0 ≤ i ∧ i < (n : Int)) = false from decide_eq_false (fun q => h q.1)]
  have d1 : decide (0 ≤ i) = false := decide_eq_false h
  go_enter Tryz.func150, Tryz.ntmps150
  go_wp2
  go_ret
  exact ⟨rfl, rfl⟩
set_option maxRecDepth 100000 in
set_option maxHeartbeats 8000000 in
theorem shown (h : PW u mb cb cc S v) (hI : S.I) (i : Nat) (hi : i < S.n) :
  Calls Tryz.prog 151 #[.pointer (some ⟨mb, 0, none⟩), .int .i64 i] u fun o w' => o = .returned (.int .i64 (S.rd i)) ∧ Below u.heap.size u w' := by
 have c0 := h.r.c 0 _ rfl
 have c1 := h.r.c 1 _ rfl
 have l0 := h.r.lt
 have l1 := h.kl
 obtain ⟨x1, x2⟩ := h.k i hi
 obtain ⟨s1, s2⟩ := hI.st i hi
 obtain ⟨a1, a2⟩ := hI.ra i hi
 have t0 := hI.t0
 have t1 := hI.t1
 have n6 := hI.n6
 have hl : (i : Int) < (S.n : Int) := by omega
 have e : S.rd i = S.starts i + (S.time * (1000000 + S.rates i)).tdiv 1000000 := by
  have p0 : 0 ≤ S.time * (1000000 + S.rates i) := Int.mul_nonneg t0 (by omega)
  have p1 : S.time * (1000000 + S.rates i) = S.time * S.rates i + S.time * 1000000 := by grind
  rw [Int.tdiv_eq_ediv_of_nonneg p0, p1, Int.add_mul_ediv_right _ _ (by decide)]
  unfold Ws.rd
  omega
 obtain ⟨r1, r2, r3, r4, r5, r6⟩ := Ws.rd_in hI hi
 rw [e] at r5 r6 ⊢
 clear e r1 r2 hI h
 generalize S.time = T at *
 generalize S.rates i = rr at *
 generalize S.starts i = st at *
 generalize S.n = n at *
 have w1 : IntKind.i64.wrap (1000000 + rr) = 1000000 + rr := IntWalk.i64_in _ (by omega)
 have p1 : T * (1000000 + rr) = T * rr + T * 1000000 := by grind
 have w2 : IntKind.i64.wrap (T * (1000000 + rr)) = T * (1000000 + rr) := IntWalk.i64_in _ (by omega)
 obtain ⟨q, hq⟩ : ∃ q, (T * (1000000 + rr)).tdiv 1000000 = q := ⟨_, rfl⟩
 rw [hq] at r5 r6 ⊢
 have w3 : IntKind.i64.wrap ((T * (1000000 + rr)).tdiv 1000000) = q := by rw [hq]; exact IntWalk.i64_in _ (by omega)
 have w4 : IntKind.i64.wrap (st + q) = st + q := IntWalk.i64_in _ (by omega)
 have w5 : IntKind.i64.wrap q = q := IntWalk.i64_in _ (by omega)
 clear p1 r3 r4
 go_enter Tryz.func151, Tryz.ntmps151
 go_wp2
 go_quiet (fail)
 go_wp2
 go_ret
 exact ⟨by simp [*], rbel_drn (rbel_al (Below.refl _ _))⟩
set_option maxRecDepth 100000 in
set_option maxHeartbeats 4000000 in
theorem wread_any (h : PW u mb cb cc S v) (hI : S.I) (i : Int) :
  Calls Tryz.prog 121 #[.pointer (some ⟨mb, 0, none⟩), .int .i64 i] u fun o w' => ((S.hs i ∧ o = .returned (.tuple #[.int .i64 (S.rd i.toNat), errc 0])) ∨ (¬ S.hs i ∧ o = .returned (.tuple #[.int .i64 0, errc 1]))) ∧ Below u.heap.size u w' := by
 rw [errc_zero, errc_not (e := 1) (by decide)]
 by_cases hh : S.hs i
 ·have c1 := iscl h hI i true (decide_eq_true (p := 0 ≤ i ∧ i < (S.n : Int)) hh).symm
  obtain ⟨k, rfl⟩ : ∃ k : Nat, i = k := ⟨i.toNat, by have := hh.1; omega⟩
  have c2 := shown h hI k (by have := hh.2; omega)
  rw [show (k : Int).toNat = k by omega]
  have HH : Hid (S.hs k) := hh
  clear h hI hh
  generalize S.rd k = t at *
  go_enter Tryz.func121, Tryz.ntmps121
  go_wp2_with (first | (go_at_call 150; refine c1.mono ?_; rintro o u1 ⟨rfl, hu⟩; rw [hu]; clear hu) | (go_at_call 151; refine c2.mono ?_; rintro o u2 ⟨rfl, hb⟩; have HB : Hid (Below u.heap.size u u2) := hb; clear hb))
  go_ret2
  exact ⟨Or.inl ⟨HH.out, rfl⟩, HB.out⟩
 ·have c1 := iscl h hI i false (decide_eq_false (p := 0 ≤ i ∧ i < (S.n : Int)) hh).symm
  have HH : Hid (¬ S.hs i) := hh
  clear h hI hh
  go_enter Tryz.func121, Tryz.ntmps121
  go_wp2_with (go_at_call 150; refine c1.mono ?_; rintro o u1 ⟨rfl, hu⟩; rw [hu]; clear hu)
  go_ret2
  exact ⟨Or.inr ⟨HH.out, rfl⟩, Below.refl _ _⟩
set_option maxRecDepth 100000 in
set_option maxHeartbeats 4000000 in
theorem goon_bad (h : PW u mb cb cc S v) (hI : S.I) (a : Int) (hb : a < 0 ∨ 1000000 < a ∨ 1000000000 < S.time + a) :
  Calls Tryz.prog 144 #[.pointer (some ⟨mb, 0, none⟩), .int .i64 a] u fun o w' => o = .returned (errc 1) ∧ w' = u := by
 have c1 := h.r.c 1 _ rfl
 have l0 := h.r.lt
 have t0 := hI.t0
 have t1 := hI.t1
 clear h hI
 rw [errc_not (e := 1) (by decide)]
 generalize S.time = T at *
 have hc : a < 0 ∨ (¬ a < 0 ∧ 1000000 < a) ∨ (¬ a < 0 ∧ ¬ 1000000 < a ∧ 1000000000 < T + a) := by omega
 rcases hc with d1 | ⟨d1, d2⟩ | ⟨d1, d2, d3⟩
 ·have e1 : decide (a < 0) = true := decide_eq_true d1
  clear hb
  go_enter Tryz.func144, Tryz.ntmps144
  go_wp2
  go_ret
  exact ⟨rfl, rfl⟩
 ·have e1 : decide (a < 0) = false := decide_eq_false d1
  have e2 : decide (1000000 < a) = true := decide_eq_true d2
  clear hb
  go_enter Tryz.func144, Tryz.ntmps144
  go_wp2
  go_ret
  exact ⟨rfl, rfl⟩
 ·have e1 : decide (a < 0) = false := decide_eq_false d1
  have e2 : decide (1000000 < a) = false := decide_eq_false d2
  have e3 : decide (1000000000 < T + a) = true := decide_eq_true d3
  have wr : IntKind.i64.wrap (T + a) = T + a := IntWalk.i64_in _ (by omega)
  clear hb
  go_enter Tryz.func144, Tryz.ntmps144
  go_wp2
  go_ret
  exact ⟨rfl, rfl⟩
set_option maxRecDepth 100000 in
set_option maxHeartbeats 4000000 in
theorem goon_ok (h : PW u mb cb cc S v) (hI : S.I) (a : Int) (hb : 0 ≤ a ∧ a ≤ 1000000 ∧ S.time + a ≤ 1000000000) :
  Calls Tryz.prog 144 #[.pointer (some ⟨mb, 0, none⟩), .int .i64 a] u fun o w' => o = .returned (errc 0) ∧ PW w' mb cb cc { S with time := S.time + a } v ∧ KpW u w' mb cb v v := by
 have HL : Hid (PW (u.setCell ⟨mb, 1, none⟩ (.int .i64 (S.time + a))) mb cb cc { S with time := S.time + a } v ∧ KpW u (u.setCell ⟨mb, 1, none⟩ (.int .i64 (S.time + a))) mb cb v v) := h.late (Below.refl _ _)
 have c1 := h.r.c 1 _ rfl
 have f1 := h.r.f 1 _ rfl
 have l0 := h.r.lt
 have t0 := hI.t0
 have t1 := hI.t1
 clear h hI
 rw [errc_zero]
 generalize S.time = T at *
 have e1 : decide (a < 0) = false := decide_eq_false (by omega)
 have e2 : decide (1000000 < a) = false := decide_eq_false (by omega)
 have e3 : decide (1000000000 < T + a) = false := decide_eq_false (by omega)
 have d1 : ¬ a < 0 := by omega
 have d2 : ¬ 1000000 < a := by omega
 have d3 : ¬ 1000000000 < T + a := by omega
 have wr : IntKind.i64.wrap (T + a) = T + a := IntWalk.i64_in _ (by omega)
 clear hb
 go_enter Tryz.func144, Tryz.ntmps144
 go_wp2
 go_ret
 exact ⟨rfl, HL.out.1, HL.out.2⟩
end
section
variable {u : World} {mb cb cc : Nat} {S : Ws} {v : Value}
theorem KpW.from {W w' : World} {v' : Value} (h : KpW W w' mb cb v v') (hW : Below u.heap.size u W) : KpW u w' mb cb v v' :=
 ⟨(Keeps.of hW).trans h.1, fun g hg => (h.2 g hg).imp id (fun q => Nat.le_trans hW.size q)⟩
theorem PW.more {W w1 : World} {v' : Value} {l : Lt} (h : PW u mb cb cc S v) (hW : Below u.heap.size u W) (ho : w1.ownsRow 0 113 6 v' (S.under.length + 1) (lcs S.under ++ ltc l)) (hg : W.grownBy w1 v.ownBlock) (ha : v'.ownBlock = v.ownBlock ∨ v'.ownBlock = some W.heap.size) :
  PW (w1.setCell ⟨mb, 2, none⟩ v') mb cb cc { S with under := S.under ++ [l] } v' ∧ KpW u (w1.setCell ⟨mb, 2, none⟩ v') mb cb v v' := by
 have kg : Keeps (fun k => v.ownBlock = some k) W w1 := ⟨hg.os, hg.tape, hg.output, hg.size, fun k hk hn => hg.block k hk (fun e => hn e.symm)⟩
 refine PW.turn h ((Keeps.of hW).trans kg) (m := S.under.length + 1) (l := S.under ++ [l]) ?_ (by simp) (fun g hg => ?_)
 ·rw [lcs_app]
  simpa [lcs] using ho
 ·rcases ha with e | e
  ·exact Or.inl (e.symm.trans hg)
  ·rw [e] at hg; injection hg with hg; exact Or.inr (by have := hW.size; omega)
set_option maxRecDepth 100000 in
set_option maxHeartbeats 8000000 in
theorem send_full (h : PW u mb cb cc S v) (hI : S.I) (hl : 40 ≤ S.under.length) (l : Lt) :
  Calls Tryz.prog 176 #[.pointer (some ⟨mb, 0, none⟩), ltv l] u fun o w' => o = .returned (errc 4) ∧ Below u.heap.size u w' := by
 obtain ⟨va, vcap, rfl, hform⟩ := h.len
 have c2 := h.r.c 2 _ rfl
 have l0 := h.r.lt
 have lu := hI.un
 have d1 : (40 : Int) ≤ (S.under.length : Int) := by omega
 rw [errc_not (e := 4) (by decide)]
 obtain ⟨l1, l2, l3, l4, l5, l6⟩ := l
 unfold ltv
 clear h hI hform
 go_enter Tryz.func176, Tryz.ntmps176
 go_wp2
 go_ret
 exact ⟨rfl, rbel_al (Below.refl _ _)⟩
set_option maxRecDepth 100000 in
set_option maxHeartbeats 8000000 in
theorem send_ok (h : PW u mb cb cc S v) (hI : S.I) (hl : S.under.length < 40) (l : Lt) :
  Calls Tryz.prog 176 #[.pointer (some ⟨mb, 0, none⟩), ltv l] u fun o w' => ∃ v', o = .returned (errc 0) ∧ PW w' mb cb cc { S with under := S.under ++ [l] } v' ∧ KpW u w' mb cb v v' := by
 obtain ⟨va, vcap, rfl, hform⟩ := h.len
 obtain ⟨i0, hi0, hz0, hz1, hz2⟩ := info_parts infoLetter
 have HP : Hid (PW u mb cb cc S (.slice va S.under.length vcap)) := h
 have d1 : ¬ ((40 : Int) ≤ (S.under.length : Int)) := by omega
 have d2 : decide ((40 : Int) ≤ (S.under.length : Int)) = false := decide_eq_false d1
 rw [errc_zero]
 obtain ⟨l1, l2, l3, l4, l5, l6⟩ := l
 unfold ltv
 have l0 := h.r.lt
 have c2 := h.r.c 2 _ rfl
 clear h hI hform
 go_enter Tryz.func176, Tryz.ntmps176
 go_wp2
 have BW : Hid (Below u.heap.size u (u.alloc (Obj.cells #[.int .i64 l1, .int .i64 l2, .bool l3, .int .i64 l4, .int .i64 l5, .int .i64 l6] 113))) := rbel_al (Below.refl _ _)
 have RB : Hid (Row (u.alloc (Obj.cells #[.int .i64 l1, .int .i64 l2, .bool l3, .int .i64 l4, .int .i64 l5, .int .i64 l6] 113)) u.heap.size [.int .i64 l1, .int .i64 l2, .bool l3, .int .i64 l4, .int .i64 l5, .int .i64 l6]) := Row.made rfl
 generalize u.alloc (Obj.cells #[.int .i64 l1, .int .i64 l2, .bool l3, .int .i64 l4, .int .i64 l5, .int .i64 l6] 113) = W at *
 have HW : Hid (PW W mb cb cc S (.slice va S.under.length vcap)) := PW.on BW.out HP.out
 have sw : u.heap.size < W.heap.size := RB.out.lt
 have mw : mb < W.heap.size := by omega
 clear c2
 have e2 := HW.out.r.c 2 _ rfl
 have g2 := HW.out.r.f 2 _ rfl
 have z0 := RB.out.c 0 _ rfl
 have z1 := RB.out.c 1 _ rfl
 have z2 := RB.out.c 2 _ rfl
 have z3 := RB.out.c 3 _ rfl
 have z4 := RB.out.c 4 _ rfl
 have z5 := RB.out.c 5 _ rfl
 go_region_law (refine step_append_at rfl (.tmp 16) (.tmp 18) 57 rfl 0 113 i0 (.agg #[.int .i64 0, .int .i64 0, .bool false, .int .i64 0, .int .i64 0, .int .i64 0]) 6 48 Tryz.underlying57 hi0 hz0 hz1 hz2 rfl (by decide) (.slice va S.under.length vcap) S.under.length _ (by simp [Act.eval, Act.put]) (HW.out.o.alloc _) ⟨W.heap.size, 0, none⟩ 1 1 [.int .i64 l1, .int .i64 l2, .bool l3, .int .i64 l4, .int .i64 l5, .int .i64 l6] (by simp [Act.eval, Act.put]) rfl (fun j q hj => by rw [Addr.add_lit]; exact (Row.made (W := W) (vs := [.int .i64 l1, .int .i64 l2, .bool l3, .int .i64 l4, .int .i64 l5, .int .i64 l6]) rfl).c _ _ (by simpa using hj)) (ltc_one ⟨l1, l2, l3, l4, l5, l6⟩) (by unfold maxLen; omega) (by omega) (Nat.zero_le _) ?_; intro v' w1 hown1 hgrow1 hat1; obtain ⟨va', vc', rfl⟩ := own_slice hown1; have mr1 : Row w1 mb [.slice (some ⟨cb, 0, none⟩) S.n cc, .int .i64 S.time, .slice va S.under.length vcap] := (by first | exact row_grown hgrow1 (by simp; omega) HW.out.ne (Row.al HW.out.r) | exact row_grown hgrow1 (by simp; omega) HW.out.ne (Row.dr (Row.al HW.out.r))); have m2 := mr1.c 2 _ rfl; have q2 := mr1.f 2 _ rfl; have lw1 := mr1.lt; have HO1 : Hid _ := hown1; have HG1 : Hid _ := hgrow1; have HA1 : Hid _ := hat1; clear mr1 hown1 hgrow1 hat1)
 all_goals
  have G : Hid (PW (w1.setCell ⟨mb, 2, none⟩ (.slice va' (S.under.length + 1) vc')) mb cb cc { S with under := S.under ++ [⟨l1, l2, l3, l4, l5, l6⟩] } (.slice va' (S.under.length + 1) vc') ∧ KpW u (w1.setCell ⟨mb, 2, none⟩ (.slice va' (S.under.length + 1) vc')) mb cb (.slice va S.under.length vcap) (.slice va' (S.under.length + 1) vc')) := PW.more HP.out (by first | exact rbel_al BW.out | exact rbel_dr (rbel_al BW.out) | exact rbel_al (rbel_dr BW.out)) HO1.out HG1.out HA1.out
  clear HO1 HG1 HA1
  go_wp2
  go_ret
  exact ⟨_, rfl, G.out.1, G.out.2⟩
set_option maxRecDepth 100000 in
set_option maxHeartbeats 8000000 in
theorem wask_none1 (h : PW u mb cb cc S v) (hI : S.I) (a b : Int) (ha : ¬ S.hs a) :
  Calls Tryz.prog 145 #[.pointer (some ⟨mb, 0, none⟩), .int .i64 a, .int .i64 b] u fun o w' => o = .returned (errc 1) ∧ w' = u := by
 rw [errc_not (e := 1) (by decide)]
 have c1 := iscl h hI a false (decide_eq_false (p := 0 ≤ a ∧ a < (S.n : Int)) ha).symm
 clear h hI ha
 go_enter Tryz.func145, Tryz.ntmps145
 go_wp2_with (first | (go_at_call 150; refine c1.mono ?_; rintro o w0 ⟨rfl, hu⟩; rw [hu]; clear hu))
 go_ret
 exact ⟨rfl, rfl⟩
set_option maxRecDepth 100000 in
set_option maxHeartbeats 8000000 in
theorem wask_none2 (h : PW u mb cb cc S v) (hI : S.I) (a b : Int) (ha : S.hs a) (hb : ¬ S.hs b) :
  Calls Tryz.prog 145 #[.pointer (some ⟨mb, 0, none⟩), .int .i64 a, .int .i64 b] u fun o w' => o = .returned (errc 1) ∧ w' = u := by
 rw [errc_not (e := 1) (by decide)]
 have c1 := iscl h hI a true (decide_eq_true (p := 0 ≤ a ∧ a < (S.n : Int)) ha).symm
 have c2 := iscl h hI b false (decide_eq_false (p := 0 ≤ b ∧ b < (S.n : Int)) hb).symm
 have cnt : Mark 0 := .mk _
 clear h hI ha hb
 go_enter Tryz.func145, Tryz.ntmps145
 go_wp2_with (first | (go_at_call 150; (first | (have cm : Mark 0 := cnt; clear cm cnt; have cnt : Mark 1 := .mk _; refine c1.mono ?_) | refine c2.mono ?_); rintro o w0 ⟨rfl, hu⟩; rw [hu]; clear hu))
 go_ret
 exact ⟨rfl, rfl⟩
set_option maxRecDepth 100000 in
set_option maxHeartbeats 8000000 in
theorem wask_self (h : PW u mb cb cc S v) (hI : S.I) (a b : Int) (ha : S.hs a) (hb : S.hs b) (e : a = b) :
  Calls Tryz.prog 145 #[.pointer (some ⟨mb, 0, none⟩), .int .i64 a, .int .i64 b] u fun o w' => o = .returned (errc 3) ∧ w' = u := by
 rw [errc_not (e := 3) (by decide)]
 have c1 := iscl h hI a true (decide_eq_true (p := 0 ≤ a ∧ a < (S.n : Int)) ha).symm
 have c2 := iscl h hI b true (decide_eq_true (p := 0 ≤ b ∧ b < (S.n : Int)) hb).symm
 have cnt : Mark 0 := .mk _
 clear h hI ha hb
 subst e
 have e1 : (a == a) = true := by simp
 go_enter Tryz.func145, Tryz.ntmps145
 go_wp2_with (first | (go_at_call 150; (first | (have cm : Mark 0 := cnt; clear cm cnt; have cnt : Mark 1 := .mk _; refine c1.mono ?_) | refine c2.mono ?_); rintro o w0 ⟨rfl, hu⟩; rw [hu]; clear hu))
 go_ret
 exact ⟨rfl, rfl⟩
set_option maxRecDepth 100000 in
set_option maxHeartbeats 8000000 in
theorem wask_full (h : PW u mb cb cc S v) (hI : S.I) (a b : Int) (ha : S.hs a) (hb : S.hs b) (e : a ≠ b) (hl : 40 ≤ S.under.length) :
  Calls Tryz.prog 145 #[.pointer (some ⟨mb, 0, none⟩), .int .i64 a, .int .i64 b] u fun o w' => o = .returned (errc 4) ∧ Below u.heap.size u w' := by
 have c1 := iscl h hI a true (decide_eq_true (p := 0 ≤ a ∧ a < (S.n : Int)) ha).symm
 have c2 := iscl h hI b true (decide_eq_true (p := 0 ≤ b ∧ b < (S.n : Int)) hb).symm
 have cnt : Mark 0 := .mk _
 obtain ⟨k, rfl⟩ : ∃ k : Nat, a = k := ⟨a.toNat, by have := ha.1; omega⟩
 have c3 := shown h hI k (by have := ha.2; omega)
 skip
 have e1 : ((k : Int) == b) = false := by simpa using e
 have HS : Hid (∀ W, Below u.heap.size u W → Calls Tryz.prog 176 #[.pointer (some ⟨mb, 0, none⟩), .agg #[.int .i64 (k : Int), .int .i64 b, .bool false, .int .i64 0, .int .i64 0, .int .i64 (S.rd k)]] W fun o w' => o = .returned (errc 4) ∧ Below W.heap.size W w') := fun W hW => send_full (h.on hW) hI hl ⟨k, b, false, 0, 0, S.rd k⟩
 clear h hI ha hb hl
 generalize S.rd k = t at *
 go_enter Tryz.func145, Tryz.ntmps145
 go_wp2_with (first | (go_at_call 150; (first | (have cm : Mark 0 := cnt; clear cm cnt; have cnt : Mark 1 := .mk _; refine c1.mono ?_) | refine c2.mono ?_); rintro o w0 ⟨rfl, hu⟩; rw [hu]; clear hu) | (go_at_call 151; refine c3.mono ?_; rintro o u1 ⟨rfl, hb⟩; have HB : Hid (Below u.heap.size u u1) := hb; clear hb) | (go_at_call 176; refine (HS.out _ HB.out).mono ?_; rintro o u2 ⟨rfl, hb⟩; have HB2 : Hid (Below u.heap.size u u2) := rbel_on hb HB.out; clear hb))
 go_ret
 exact ⟨rfl, HB2.out⟩
set_option maxRecDepth 100000 in
set_option maxHeartbeats 8000000 in
theorem wask_ok (h : PW u mb cb cc S v) (hI : S.I) (a b : Int) (ha : S.hs a) (hb : S.hs b) (e : a ≠ b) (hl : S.under.length < 40) :
  Calls Tryz.prog 145 #[.pointer (some ⟨mb, 0, none⟩), .int .i64 a, .int .i64 b] u fun o w' => ∃ v', o = .returned (errc 0) ∧ PW w' mb cb cc { S with under := S.under ++ [⟨a, b, false, 0, 0, S.rd a.toNat⟩] } v' ∧ KpW u w' mb cb v v' := by
 have c1 := iscl h hI a true (decide_eq_true (p := 0 ≤ a ∧ a < (S.n : Int)) ha).symm
 have c2 := iscl h hI b true (decide_eq_true (p := 0 ≤ b ∧ b < (S.n : Int)) hb).symm
 have cnt : Mark 0 := .mk _
 obtain ⟨k, rfl⟩ : ∃ k : Nat, a = k := ⟨a.toNat, by have := ha.1; omega⟩
 have c3 := shown h hI k (by have := ha.2; omega)
 rw [show (k : Int).toNat = k by omega]
 have e1 : ((k : Int) == b) = false := by simpa using e
 have HS : Hid (∀ W, Below u.heap.size u W → Calls Tryz.prog 176 #[.pointer (some ⟨mb, 0, none⟩), .agg #[.int .i64 (k : Int), .int .i64 b, .bool false, .int .i64 0, .int .i64 0, .int .i64 (S.rd k)]] W fun o w' => ∃ v', o = .returned (errc 0) ∧ PW w' mb cb cc { S with under := S.under ++ [⟨k, b, false, 0, 0, S.rd k⟩] } v' ∧ KpW u w' mb cb v v') := fun W hW => (send_ok (h.on hW) hI hl ⟨k, b, false, 0, 0, S.rd k⟩).mono (by
  rintro o w' ⟨v', rfl, g1, g2⟩
  exact ⟨v', rfl, g1, g2.from hW⟩)
 clear h hI ha hb hl
 generalize S.rd k = t at *
 go_enter Tryz.func145, Tryz.ntmps145
 go_wp2_with (first | (go_at_call 150; (first | (have cm : Mark 0 := cnt; clear cm cnt; have cnt : Mark 1 := .mk _; refine c1.mono ?_) | refine c2.mono ?_); rintro o w0 ⟨rfl, hu⟩; rw [hu]; clear hu) | (go_at_call 151; refine c3.mono ?_; rintro o u1 ⟨rfl, hb⟩; have HB : Hid (Below u.heap.size u u1) := hb; clear hb) | (go_at_call 176; refine (HS.out _ HB.out).mono ?_; rintro o u2 ⟨v', rfl, g1, g2⟩; have G1 : Hid _ := g1; have G2 : Hid (KpW u u2 mb cb v v') := g2; clear g1 g2))
 go_ret
 exact ⟨v', rfl, G1.out, G2.out⟩
end
theorem step_append_fits {P : Program} {ops : Array Oper} {o : Oper} {a : Act} {w : World} {K : Act → World → Prop} {Q : Exit → Act → World → Prop} {E : Prop}
  (hg : o.guard = none) (s x : Operand) (t : TypeId) (hop : o.op = Op.call { callee := Callee.builtin Builtin.append, args := #[s, x], argTypes := #[t, t] })
  (base : Nat) (e : TypeId) (i : TypeInfo) (size : Nat) (h1 : P.underlying t = some (.slice e)) (h2 : P.info? e = some i) (h4 : i.size = size)
  (g n cap : Nat) (xs : List Value) (hs : a.eval s = .slice (some ⟨g, 0, none⟩) n cap) (hown : w.ownsRow base e size (.slice (some ⟨g, 0, none⟩) n cap) n xs)
  (ad : Addr) (m c tot : Nat) (news : List Value) (hx : a.eval x = .slice (some ad) m c) (hn : news.length = m * size) (hc : ∀ j u, news[j]? = some u → w.cell? (ad.add j) = some u) (h1c : ∀ u ∈ news, u.oneCell' = true)
  (ht : n + m = tot) (hroom : tot ≤ cap)
  (hK : ∀ w', w'.ownsRow base e size (.slice (some ⟨g, 0, none⟩) tot cap) tot (xs ++ news) → w.grownBy w' (some g) → K (a.put o.dst (.slice (some ⟨g, 0, none⟩) tot cap)) w') :
  if Region.wanted o (yielded ops a.tmps) = true then Oper.wp P o a w K Q else E := by
 have hw : Region.wanted o (yielded ops a.tmps) = true := by simp [Region.wanted, hg]
 rw [if_pos hw]
 subst ht
 obtain ⟨w', hr, g1, g2⟩ := run_append_fits (P := P) w base t o.type e i size h1 h2 h4 g n cap xs hown ad m c news hn hc h1c hroom
 unfold Oper.wp execOp
 simp only [hop, resolve, invoke, builtin, Sem.run_bind, Sem.run_pure, Result.andThen_ok, List.map_toArray, List.map_cons, List.map_nil, hs, hx, hr]
 exact hK w' g1 g2
theorem own_lessW {w : World} {base size g n m cap : Nat} {e : TypeId} {xs : List Value} (h : w.ownsRow base e size (.slice (some ⟨g, 0, none⟩) n cap) n xs) (hm : m ≤ n) : w.ownsRow base e size (.slice (some ⟨g, 0, none⟩) m cap) m (xs.take (m * size)) := by
 rcases h.2 with ⟨h', _⟩ | ⟨g', cap', cur, h', hb, hg, hnc, hcm, hcs, htake⟩
 ·simp at h'
 ·simp only [Value.slice.injEq, Option.some.injEq, Addr.mk.injEq, and_true, true_and] at h'
  obtain ⟨rfl, rfl⟩ := h'
  have le : m * size ≤ n * size := Nat.mul_le_mul_right _ hm
  refine ⟨by rw [List.length_take, h.1]; omega, Or.inr ⟨g, cap, cur, rfl, hb, hg, Nat.le_trans hm hnc, hcm, hcs, ?_⟩⟩
  rw [← htake, List.take_take, Nat.min_eq_left le]
theorem own_clear {P : Program} {w : World} {g N cap : Nat} {t e : TypeId} {xs : List Value} (ht : P.underlying t = some (.slice e)) (hv : ∀ w, (zeroValue e).run P w = .ok (.agg #[.int .i64 0, .int .i64 0, .bool false, .int .i64 0, .int .i64 0, .int .i64 0]) w) (h : w.ownsRow 0 e 6 (.slice (some ⟨g, 0, none⟩) N cap) N xs) (hc : N < cap) :
  ∃ w', (∀ c ty, (Builtin.clear_ #[t] ty #[.slice (some ⟨g, N * 6, none⟩) 1 c]).run P w = .ok (.tuple #[]) w') ∧ w'.ownsRow 0 e 6 (.slice (some ⟨g, 0, none⟩) N cap) N xs ∧ w.grownBy w' (some g) := by
 rcases h.2 with ⟨h', _⟩ | ⟨g', cap', cur, h', hb, hg, hnc, hcm, hcs, htake⟩
 ·simp at h'
 ·simp only [Value.slice.injEq, Option.some.injEq, Addr.mk.injEq, and_true, true_and] at h'
  obtain ⟨rfl, rfl⟩ := h'
  have hzc : (Builtin.zeroCells (.agg #[.int .i64 0, .int .i64 0, .bool false, .int .i64 0, .int .i64 0, .int .i64 0] : Value).cells 1).toList = [.int .i64 0, .int .i64 0, .bool false, .int .i64 0, .int .i64 0, .int .i64 0] := by first | rfl | kernel_rfl | simp [Builtin.zeroCells, Value.cells]
  have hst := run_storeCells_at P g (N * 6) e [.int .i64 0, .int .i64 0, .bool false, .int .i64 0, .int .i64 0, .int .i64 0] 0 cur w hg (by simp; omega) (ltc_one ⟨0, 0, false, 0, 0, 0⟩)
  simp only [Nat.add_zero] at hst
  refine ⟨w.setRow g (cur.toList.take (N * 6) ++ ([.int .i64 0, .int .i64 0, .bool false, .int .i64 0, .int .i64 0, .int .i64 0] : List Value) ++ cur.toList.drop (N * 6 + ([.int .i64 0, .int .i64 0, .bool false, .int .i64 0, .int .i64 0, .int .i64 0] : List Value).length)).toArray, fun c ty => ?_, ⟨h.1, Or.inr ⟨g, cap, _, rfl, hb, setRow_heap w g cur _ e _ hg, hnc, hcm, ?_, ?_⟩⟩, ⟨rfl, rfl, rfl, by simp, fun k _ hk => setRow_other w g k _ (fun e => hk (by simp [e]))⟩⟩
  ·simp [Builtin.clear_, run_underlying ht, hv, hzc, hst]
   done
  ·simp only [List.size_toArray, List.length_append, List.length_take, List.length_drop, Array.length_toList]
   simp
   omega
  ·have l : (cur.toList.take (N * 6)).length = N * 6 := by rw [List.length_take, Array.length_toList]; omega
   rw [List.append_assoc]
   exact (List.take_left' l).trans htake
theorem zeroLetter : ∀ w, (zeroValue 113).run Tryz.prog w = .ok (.agg #[.int .i64 0, .int .i64 0, .bool false, .int .i64 0, .int .i64 0, .int .i64 0]) w := Tryz.zeroValue113
set_option maxRecDepth 100000 in
set_option maxHeartbeats 8000000 in
theorem del_any (g N cap k : Nat) (L : List Lt) (hL : L.length = N + 1) (hk : k ≤ N) (hN : N ≤ 100) (u : World) (ho : u.ownsRow 0 113 6 (.slice (some ⟨g, 0, none⟩) (N + 1) cap) (N + 1) (lcs L)) :
  Calls Tryz.prog 177 #[.slice (some ⟨g, 0, none⟩) ((N + 1 : Nat) : Int).toNat cap, .int .i64 k, .int .i64 ((k : Int) + 1)] u fun o w' => o = .returned (.slice (some ⟨g, 0, none⟩) N cap) ∧ w'.ownsRow 0 113 6 (.slice (some ⟨g, 0, none⟩) N cap) N (lcs (L.eraseIdx k)) ∧ Keeps (fun j => j = g) u w' := by
 obtain ⟨i0, hi0, hz0, hz1, hz2⟩ := info_parts infoLetter
 have hcap : N + 1 ≤ cap ∧ cap ≤ 9223372036854775807 ∧ g < u.heap.size := by
  rcases ho.2 with ⟨h', _⟩ | ⟨g', cap', cur, h', hb, hg, hnc, hcm, hcs, htake⟩
  ·simp at h'
  ·simp only [Value.slice.injEq, Option.some.injEq, Addr.mk.injEq, and_true, true_and] at h'
   obtain ⟨rfl, rfl⟩ := h'
   exact ⟨hnc, by unfold maxLen at hcm; omega, (ho.lt g rfl).2⟩
 obtain ⟨hc1, hc2, gl⟩ := hcap
 have e1 : lcs L = lcs (L.take (k + 1)) ++ lcs (L.drop (k + 1)) := by rw [← lcs_app, List.take_append_drop]
 have e0 : lcs L = lcs (L.take k) ++ lcs (L.drop k) := by rw [← lcs_app, List.take_append_drop]
 have ll : (lcs (L.take (k + 1))).length = (k + 1) * 6 := by rw [lcs_len, List.length_take]; congr 1; omega
 have lk : (lcs (L.take k)).length = k * 6 := by rw [lcs_len, List.length_take]; congr 1; omega
 have HO : Hid (u.ownsRow 0 113 6 (.slice (some ⟨g, 0, none⟩) k cap) k (lcs (L.take k))) := by
  have := own_lessW ho (m := k) (by omega)
  rw [e0, ← lk, List.take_left] at this
  exact this
 have NC : Hid (∀ j q, (lcs (L.drop (k + 1)))[j]? = some q → u.cell? ((⟨g, (k + 1) * 6, none⟩ : Addr).add j) = some q) := fun j q hj => by
  have := ho.cells (g := g) rfl ((k + 1) * 6 + j) q (by rw [e1, List.getElem?_append_right (by omega), ll, Nat.add_sub_cancel_left]; exact hj)
  rw [Addr.add_lit] at this ⊢
  rw [Nat.zero_add] at this
  exact this
 have NL : Hid ((lcs (L.drop (k + 1))).length = (N + 1 - (k + 1)) * 6) := by show _ = _; rw [lcs_len, List.length_drop, hL]
 have ND : Hid (cap = k + 1 → lcs (L.drop (k + 1)) = []) := fun e => by rw [List.drop_eq_nil_of_le (by omega)]; rfl
 have LE : Hid (lcs (L.take k) ++ lcs (L.drop (k + 1)) = lcs (L.eraseIdx k)) := by show _ = _; rw [← lcs_app, List.eraseIdx_eq_take_drop_succ]
 rw [Int.toNat_natCast]
 have wk : IntKind.i64.wrap ((k : Int) + 1) = (k : Int) + 1 := IntWalk.i64_in _ (by omega)
 have d1 : ((k : Int) == (k : Int) + 1) = false := by simp; omega
 have k1 : (k : Int) + 1 ≤ (N : Int) + 1 := by omega
 have k2 : (k : Int) ≤ (N : Int) + 1 := by omega
 have k3 : (k : Int) ≤ (cap : Int) := by omega
 have k4 : (k : Int) ≤ (k : Int) + 1 := by omega
 have k5 : (N : Int) + 1 ≤ (cap : Int) := by omega
 have k6 : (0 : Int) ≤ (k : Int) + 1 := by omega
 have k7 : ((k : Int) + 1).toNat = k + 1 := by omega
 have k8 : ((N : Int) + 1).toNat = N + 1 := by omega
 have k9 : (N : Int) ≤ (N : Int) + 1 := by omega
 have kA : ¬ cap = N := by omega
 have HE : Hid ((L.length = N + 1 ∧ k ≤ N ∧ N ≤ 100 ∧ N + 1 ≤ cap)) := ⟨hL, hk, hN, hc1⟩
 clear ho e1 e0 ll lk
 go_enter Tryz.func177, Tryz.ntmps177
 go_wp2
 by_cases hc : cap = k + 1
 ·subst hc
  have ek : k = N := by omega
  subst ek
  go_region_law (refine step_append_fits rfl (.tmp 22) (.tmp 25) 57 rfl 0 113 i0 6 Tryz.underlying57 hi0 hz1 g k (k + 1) (lcs (L.take k)) (by simp [Act.eval, Act.put]) HO.out ⟨g, 0, none⟩ (k + 1 - (k + 1)) (k + 1 - (k + 1)) k (lcs (L.drop (k + 1))) (by simp [Act.eval, Act.put]) NL.out (fun j q hj => by rw [ND.out rfl] at hj; cases hj) (lcs_one _) (by have := HE.out; omega) (by omega) ?_; intro w1 hown1 hgrow1; have HO1 : Hid _ := hown1; have HG1 : Hid _ := hgrow1; have gl1 : g < w1.heap.size := (hown1.lt g rfl).2; obtain ⟨w2, hcl, ho2, hg2⟩ := own_clear (P := Tryz.prog) (t := 57) (e := 113) Tryz.underlying57 zeroLetter hown1 (by have := HE.out; omega); have HO2 : Hid _ := ho2; have HG2 : Hid _ := hg2; clear hown1 hgrow1 ho2 hg2)
  all_goals
   have HR : Hid (w2.ownsRow 0 113 6 (.slice (some ⟨g, 0, none⟩) k (k + 1)) k (lcs (L.eraseIdx k)) ∧ Keeps (fun j => j = g) u w2) := by
    refine ⟨by rw [← LE.out]; exact HO2.out, ?_⟩
    have q1 : Keeps (fun j => j = g) u w1 := ⟨HG1.out.os, HG1.out.tape, HG1.out.output, HG1.out.size, fun k hk hn => HG1.out.block k hk (fun e => hn (by injection e))⟩
    have q2 : Keeps (fun j => j = g) w1 w2 := ⟨HG2.out.os, HG2.out.tape, HG2.out.output, HG2.out.size, fun k hk hn => HG2.out.block k hk (fun e => hn (by injection e))⟩
    exact q1.trans q2
   clear HO1 HG1 HO2 HG2
   go_wp2
   go_ret
   exact ⟨rfl, HR.out.1, HR.out.2⟩
 ·go_region_law (refine step_append_fits rfl (.tmp 22) (.tmp 25) 57 rfl 0 113 i0 6 Tryz.underlying57 hi0 hz1 g k cap (lcs (L.take k)) (by simp [Act.eval, Act.put]) HO.out ⟨g, (k + 1) * 6, none⟩ (N + 1 - (k + 1)) (cap - (k + 1)) N (lcs (L.drop (k + 1))) (by simp [Act.eval, Act.put, hc]) NL.out NC.out (lcs_one _) (by have := HE.out; omega) (by omega) ?_; intro w1 hown1 hgrow1; have HO1 : Hid _ := hown1; have HG1 : Hid _ := hgrow1; have gl1 : g < w1.heap.size := (hown1.lt g rfl).2; obtain ⟨w2, hcl, ho2, hg2⟩ := own_clear (P := Tryz.prog) (t := 57) (e := 113) Tryz.underlying57 zeroLetter hown1 (by have := HE.out; omega); have HO2 : Hid _ := ho2; have HG2 : Hid _ := hg2; clear hown1 hgrow1 ho2 hg2)
  all_goals
   have HR : Hid (w2.ownsRow 0 113 6 (.slice (some ⟨g, 0, none⟩) N cap) N (lcs (L.eraseIdx k)) ∧ Keeps (fun j => j = g) u w2) := by
    refine ⟨by rw [← LE.out]; exact HO2.out, ?_⟩
    have q1 : Keeps (fun j => j = g) u w1 := ⟨HG1.out.os, HG1.out.tape, HG1.out.output, HG1.out.size, fun k hk hn => HG1.out.block k hk (fun e => hn (by injection e))⟩
    have q2 : Keeps (fun j => j = g) w1 w2 := ⟨HG2.out.os, HG2.out.tape, HG2.out.output, HG2.out.size, fun k hk hn => HG2.out.block k hk (fun e => hn (by injection e))⟩
    exact q1.trans q2
   clear HO1 HG1 HO2 HG2
   go_wp2
   go_ret
   exact ⟨rfl, HR.out.1, HR.out.2⟩
section
variable {u : World} {mb cb cc : Nat} {S : Ws} {v : Value}
set_option maxRecDepth 100000 in
set_option maxHeartbeats 8000000 in
theorem letter_bad (h : PW u mb cb cc S v) (hI : S.I) (a : Int) (hb : a < 0 ∨ (S.under.length : Int) ≤ a) :
  Calls Tryz.prog 147 #[.pointer (some ⟨mb, 0, none⟩), .int .i64 a] u fun o w' => o = .returned (.tuple #[.pointer none, errc 5]) ∧ w' = u := by
 obtain ⟨va, vcap, rfl, hform⟩ := h.len
 have c2 := h.r.c 2 _ rfl
 have l0 := h.r.lt
 have lu := hI.un
 rw [errc_not (e := 5) (by decide)]
 clear h hI hform
 by_cases d : a < 0
 ·have e1 : decide (a < 0) = true := decide_eq_true d
  clear hb
  go_enter Tryz.func147, Tryz.ntmps147
  go_wp2
  go_ret2
  exact ⟨rfl, rfl⟩
 ·have e1 : decide (a < 0) = false := decide_eq_false d
  have e2 : decide ((S.under.length : Int) ≤ a) = true := decide_eq_true (by omega)
  have e3 : (S.under.length : Int) ≤ a := by omega
  clear hb
  go_enter Tryz.func147, Tryz.ntmps147
  go_wp2
  go_ret2
  exact ⟨rfl, rfl⟩
set_option maxRecDepth 100000 in
set_option maxHeartbeats 8000000 in
theorem letter_ok (h : PW u mb cb cc S v) (hI : S.I) (k : Nat) (l : Lt) (hk : S.under[k]? = some l) :
  Calls Tryz.prog 147 #[.pointer (some ⟨mb, 0, none⟩), .int .i64 k] u fun o w' => ∃ g, o = .returned (.tuple #[.pointer (some ⟨g, 0, none⟩), errc 0]) ∧ Row w' g (ltc l) ∧ u.heap.size ≤ g ∧ Below u.heap.size u w' := by
 obtain ⟨va, vcap, rfl, hform⟩ := h.len
 have kl : k < S.under.length := by
  rcases Nat.lt_or_ge k S.under.length with h | h
  ·exact h
  ·rw [List.getElem?_eq_none h] at hk; cases hk
 obtain ⟨g, rfl, gc, gm, gu, gn, gk, gL⟩ := hform.resolve_left (fun h => by rw [h.2.1] at kl; exact absurd kl (by simp))
 have c2 := h.r.c 2 _ rfl
 have l0 := h.r.lt
 have lu := hI.un
 have LL := gL k l hk
 obtain ⟨l1, l2, l3, l4, l5, l6⟩ := l
 have a0 : u.cell? ⟨g, k * 6, none⟩ = some (.int .i64 l1) := by have := LL 0 _ rfl; simpa using this
 have a1 : u.cell? ⟨g, k * 6 + 1, none⟩ = some (.int .i64 l2) := by have := LL 1 _ rfl; simpa using this
 have a2 : u.cell? ⟨g, k * 6 + 2, none⟩ = some (.bool l3) := by have := LL 2 _ rfl; simpa using this
 have a3 : u.cell? ⟨g, k * 6 + 3, none⟩ = some (.int .i64 l4) := by have := LL 3 _ rfl; simpa using this
 have a4 : u.cell? ⟨g, k * 6 + 4, none⟩ = some (.int .i64 l5) := by have := LL 4 _ rfl; simpa using this
 have a5 : u.cell? ⟨g, k * 6 + 5, none⟩ = some (.int .i64 l6) := by have := LL 5 _ rfl; simpa using this
 rw [errc_zero]
 have d1 : decide ((k : Int) < 0) = false := decide_eq_false (by omega)
 have d2 : decide ((S.under.length : Int) ≤ (k : Int)) = false := decide_eq_false (by omega)
 have d3 : (k : Int) < (S.under.length : Int) := by omega
 have d4 : ¬ ((S.under.length : Int) ≤ (k : Int)) := by omega
 clear h hI gL LL hk
 go_enter Tryz.func147, Tryz.ntmps147
 go_wp2
 go_ret2
 first | exact ⟨_, rfl, Row.made rfl, Nat.le_refl _, rbel_al (Below.refl _ _)⟩ | exact ⟨rfl, Row.made rfl, Nat.le_refl _, rbel_al (Below.refl _ _)⟩
set_option maxRecDepth 100000 in
set_option maxHeartbeats 8000000 in
theorem take_bad (h : PW u mb cb cc S v) (hI : S.I) (a : Int) (hb : a < 0 ∨ (S.under.length : Int) ≤ a) :
  Calls Tryz.prog 146 #[.pointer (some ⟨mb, 0, none⟩), .int .i64 a] u fun o w' => o = .returned (.tuple #[.pointer none, errc 5]) ∧ w' = u := by
 have cL := letter_bad h hI a hb
 rw [errc_not (e := 5) (by decide)] at cL ⊢
 clear h hI hb
 go_enter Tryz.func146, Tryz.ntmps146
 go_wp2_with (go_at_call 147; refine cL.mono ?_; rintro o w0 ⟨rfl, hu⟩; rw [hu]; clear hu)
 go_ret2
 exact ⟨rfl, rfl⟩
set_option maxRecDepth 100000 in
set_option maxHeartbeats 8000000 in
theorem take_ok (h : PW u mb cb cc S v) (hI : S.I) (k : Nat) (l : Lt) (hk : S.under[k]? = some l) :
  Calls Tryz.prog 146 #[.pointer (some ⟨mb, 0, none⟩), .int .i64 k] u fun o w' => ∃ g v', o = .returned (.tuple #[.pointer (some ⟨g, 0, none⟩), errc 0]) ∧ Row w' g (ltc l) ∧ u.heap.size ≤ g ∧ PW w' mb cb cc { S with under := S.under.eraseIdx k } v' ∧ KpW u w' mb cb v v' ∧ v'.ownBlock = v.ownBlock := by
 have cL := letter_ok h hI k l hk
 rw [errc_zero] at cL ⊢
 obtain ⟨va, vcap, rfl, hform⟩ := h.len
 have kl : k < S.under.length := by
  rcases Nat.lt_or_ge k S.under.length with h | h
  ·exact h
  ·rw [List.getElem?_eq_none h] at hk; cases hk
 obtain ⟨g, rfl, gc, gm, gu, gn, gk, gL⟩ := hform.resolve_left (fun h => by rw [h.2.1] at kl; exact absurd kl (by simp))
 have lu := hI.un
 obtain ⟨N, hN⟩ : ∃ N, S.under.length = N + 1 := ⟨S.under.length - 1, by omega⟩
 have HD : Hid (∀ W, Below u.heap.size u W → Calls Tryz.prog 177 #[.slice (some ⟨g, 0, none⟩) (N + 1) vcap, .int .i64 k, .int .i64 ((k : Int) + 1)] W fun o w' => o = .returned (.slice (some ⟨g, 0, none⟩) N vcap) ∧ w'.ownsRow 0 113 6 (.slice (some ⟨g, 0, none⟩) N vcap) N (lcs (S.under.eraseIdx k)) ∧ Keeps (fun j => j = g) W w') := fun W hW => by
  have := (PW.on hW h).o
  rw [hN] at this
  have q := del_any g N vcap k S.under hN (by omega) (by omega) W this
  rw [Int.toNat_natCast] at q
  exact q
 have HP : Hid (PW u mb cb cc S (.slice (some ⟨g, 0, none⟩) (N + 1) vcap)) := by rw [← hN]; exact h
 have wk : IntKind.i64.wrap ((k : Int) + 1) = (k : Int) + 1 := IntWalk.i64_in _ (by omega)
 rw [hN]
 have HN : Hid (S.under.length = N + 1 ∧ k < N + 1) := ⟨hN, by omega⟩
 clear h hI hform gL hk
 go_enter Tryz.func146, Tryz.ntmps146
 go_wp2_with (first | (go_at_call 147; refine cL.mono ?_; rintro o u1 ⟨gl, rfl, hr, hg, hb⟩; have HB : Hid (Below u.heap.size u u1) := hb; have HR : Hid (Row u1 gl (ltc l)) := hr; have HG : Hid (u.heap.size ≤ gl) := hg; have HP1 : Hid (PW u1 mb cb cc S (.slice (some ⟨g, 0, none⟩) (N + 1) vcap)) := PW.on hb HP.out; have c2 := HP1.out.r.c 2 _ rfl; have l1 := HP1.out.r.lt; clear hb hr hg) | (go_at_call 177; refine (HD.out _ HB.out).mono ?_; rintro o u2 ⟨rfl, ho, hK⟩; have HO : Hid _ := ho; have HK : Hid (Keeps (fun j => j = g) u1 u2) := hK; have hr2 := hK.row gn.symm HP1.out.r; have f2 := hr2.f 2 _ rfl; have m2 := hr2.c 2 _ rfl; have l2 := hr2.lt; clear ho hK hr2))
 have lg : gl < u1.heap.size := HR.out.lt
 have hm : N = (S.under.eraseIdx k).length := by rw [List.length_eraseIdx_of_lt (by have := HN.out; omega), HN.out.1]; rfl
 have KX : Keeps (fun j => (Value.slice (some ⟨g, 0, none⟩) (N + 1) vcap).ownBlock = some j) u u2 := (Keeps.of HB.out).trans ⟨HK.out.os, HK.out.tape, HK.out.output, HK.out.size, fun j hj hn => HK.out.block j hj (fun e => hn (by rw [e]; rfl))⟩
 obtain ⟨g1, g2⟩ := PW.turn HP.out KX HO.out hm (fun j hj => Or.inl hj)
 have RG : Row (u2.setCell ⟨mb, 2, none⟩ (.slice (some ⟨g, 0, none⟩) N vcap)) gl (ltc l) := Row.far (by have := HG.out; have := HP.out.r.lt; omega) (HK.out.row (fun e => by have := HG.out; omega) HR.out)
 have G : Hid (_ ∧ _ ∧ _) := ⟨g1, g2, RG⟩
 clear g1 g2 RG KX hm
 go_ret2
 first | exact ⟨gl, rfl, G.out.2.2, HG.out, _, G.out.1, G.out.2.1, rfl⟩ | exact ⟨gl, _, rfl, G.out.2.2, HG.out, G.out.1, G.out.2.1, rfl⟩
end
section
variable {u : World} {mb cb cc : Nat} {S : Ws} {v : Value}
def Gp (u w' : World) (mb cb cc : Nat) (v : Value) (S' : Ws) (v' : Value) : Prop := PW w' mb cb cc S' v' ∧ KpW u w' mb cb v v'
theorem Gp.same {w' : World} (h : PW u mb cb cc S v) (hb : Below u.heap.size u w') : Gp u w' mb cb cc v S v := ⟨h.on hb, .same hb⟩
theorem Gp.from {W w' : World} {S' : Ws} {v' : Value} (hW : Below u.heap.size u W) (h : Gp W w' mb cb cc v S' v') : Gp u w' mb cb cc v S' v' := ⟨h.1, h.2.from hW⟩
theorem goon_any (h : PW u mb cb cc S v) (hI : S.I) {a e : Int} {S' : Ws} (hD : ((a < 0 ∨ 1000000 < a ∨ 1000000000 < S.time + a) ∧ S' = S ∧ e = 1) ∨ ((0 ≤ a ∧ a ≤ 1000000 ∧ S.time + a ≤ 1000000000) ∧ S' = { S with time := S.time + a } ∧ e = 0)) (W : World) (hW : Below u.heap.size u W) :
  Calls Tryz.prog 144 #[.pointer (some ⟨mb, 0, none⟩), .int .i64 a] W fun o w' => o = .returned (errc e) ∧ ∃ v', Gp u w' mb cb cc v S' v' := by
 rcases hD with ⟨c, rfl, rfl⟩ | ⟨c, rfl, rfl⟩
 ·refine (goon_bad (h.on hW) hI a c).mono ?_
  rintro o w' ⟨rfl, rfl⟩
  exact ⟨rfl, v, .same h hW⟩
 ·refine (goon_ok (h.on hW) hI a c).mono ?_
  rintro o w' ⟨rfl, g1, g2⟩
  exact ⟨rfl, v, .from hW ⟨g1, g2⟩⟩
theorem wask_any (h : PW u mb cb cc S v) (hI : S.I) {a b e : Int} {S' : Ws} (hD : (¬ (S.hs a ∧ S.hs b) ∧ S' = S ∧ e = 1) ∨ ((S.hs a ∧ S.hs b) ∧ a = b ∧ S' = S ∧ e = 3) ∨ ((S.hs a ∧ S.hs b) ∧ a ≠ b ∧ 40 ≤ S.under.length ∧ S' = S ∧ e = 4) ∨ ((S.hs a ∧ S.hs b) ∧ a ≠ b ∧ S.under.length < 40 ∧ S' = { S with under := S.under ++ [⟨a, b, false, 0, 0, S.rd a.toNat⟩] } ∧ e = 0)) (W : World) (hW : Below u.heap.size u W) :
  Calls Tryz.prog 145 #[.pointer (some ⟨mb, 0, none⟩), .int .i64 a, .int .i64 b] W fun o w' => o = .returned (errc e) ∧ ∃ v', Gp u w' mb cb cc v S' v' := by
 rcases hD with ⟨c, rfl, rfl⟩ | ⟨c, d, rfl, rfl⟩ | ⟨c, d, l, rfl, rfl⟩ | ⟨c, d, l, rfl, rfl⟩
 ·by_cases q : S'.hs a
  ·refine (wask_none2 (h.on hW) hI a b q (fun r => c ⟨q, r⟩)).mono ?_
   rintro o w' ⟨rfl, rfl⟩
   exact ⟨rfl, v, .same h hW⟩
  ·refine (wask_none1 (h.on hW) hI a b q).mono ?_
   rintro o w' ⟨rfl, rfl⟩
   exact ⟨rfl, v, .same h hW⟩
 ·refine (wask_self (h.on hW) hI a b c.1 c.2 d).mono ?_
  rintro o w' ⟨rfl, rfl⟩
  exact ⟨rfl, v, .same h hW⟩
 ·refine (wask_full (h.on hW) hI a b c.1 c.2 d l).mono ?_
  rintro o w' ⟨rfl, hb⟩
  exact ⟨rfl, v, .same h (rbel_on hb hW)⟩
 ·refine (wask_ok (h.on hW) hI a b c.1 c.2 d l).mono ?_
  rintro o w' ⟨v', rfl, g1, g2⟩
  exact ⟨rfl, v', .from hW ⟨g1, g2⟩⟩
def Cm (u w' : World) (v' pv : Value) (r : Option Lt) : Prop := (r = none ∧ pv = .pointer none) ∨ ∃ l g, r = some l ∧ pv = .pointer (some ⟨g, 0, none⟩) ∧ Row w' g (ltc l) ∧ u.heap.size ≤ g ∧ v'.ownBlock ≠ some g
theorem take_any (h : PW u mb cb cc S v) (hI : S.I) {a e : Int} {S' : Ws} {r : Option Lt} (hD : ((a < 0 ∨ (S.under.length : Int) ≤ a) ∧ S' = S ∧ r = none ∧ e = 5) ∨ ((0 ≤ a ∧ a < S.under.length) ∧ S' = { S with under := S.under.eraseIdx a.toNat } ∧ r = S.under[a.toNat]? ∧ e = 0)) (W : World) (hW : Below u.heap.size u W) :
  Calls Tryz.prog 146 #[.pointer (some ⟨mb, 0, none⟩), .int .i64 a] W fun o w' => ∃ pv v', o = .returned (.tuple #[pv, errc e]) ∧ Gp u w' mb cb cc v S' v' ∧ Cm u w' v' pv r := by
 rcases hD with ⟨c, rfl, rfl, rfl⟩ | ⟨c, rfl, rfl, rfl⟩
 ·refine (take_bad (h.on hW) hI a c).mono ?_
  rintro o w' ⟨rfl, rfl⟩
  exact ⟨_, v, rfl, .same h hW, Or.inl ⟨rfl, rfl⟩⟩
 ·obtain ⟨k, rfl⟩ : ∃ k : Nat, a = k := ⟨a.toNat, by omega⟩
  rw [Int.toNat_natCast]
  have hk : k < S.under.length := by omega
  have e1 : S.under[k]? = some S.under[k] := List.getElem?_eq_getElem hk
  refine (take_ok (h.on hW) hI k _ e1).mono ?_
  rintro o w' ⟨g, v', rfl, hr, hg, g1, g2, g3⟩
  refine ⟨_, v', rfl, .from hW ⟨g1, g2⟩, Or.inr ⟨_, g, e1, rfl, hr, Nat.le_trans hW.size hg, fun q => ?_⟩⟩
  rw [g3] at q
  have := ((h.on hW).o.lt g q).2
  omega
theorem letter_any (h : PW u mb cb cc S v) (hI : S.I) {a e : Int} {S' : Ws} {r : Option Lt} (hD : ((a < 0 ∨ (S.under.length : Int) ≤ a) ∧ S' = S ∧ r = none ∧ e = 5) ∨ ((0 ≤ a ∧ a < S.under.length) ∧ S' = S ∧ r = S.under[a.toNat]? ∧ e = 0)) (W : World) (hW : Below u.heap.size u W) :
  Calls Tryz.prog 147 #[.pointer (some ⟨mb, 0, none⟩), .int .i64 a] W fun o w' => ∃ pv v', o = .returned (.tuple #[pv, errc e]) ∧ Gp u w' mb cb cc v S' v' ∧ Cm u w' v' pv r := by
 rcases hD with ⟨c, rfl, rfl, rfl⟩ | ⟨c, rfl, rfl, rfl⟩
 ·refine (letter_bad (h.on hW) hI a c).mono ?_
  rintro o w' ⟨rfl, rfl⟩
  exact ⟨_, v, rfl, .same h hW, Or.inl ⟨rfl, rfl⟩⟩
 ·obtain ⟨k, rfl⟩ : ∃ k : Nat, a = k := ⟨a.toNat, by omega⟩
  rw [Int.toNat_natCast]
  have hk : k < S'.under.length := by omega
  have e1 : S'.under[k]? = some S'.under[k] := List.getElem?_eq_getElem hk
  refine (letter_ok (h.on hW) hI k _ e1).mono ?_
  rintro o w' ⟨g, rfl, hr, hg, hb⟩
  refine ⟨_, v, rfl, .same h (rbel_on hb hW), Or.inr ⟨_, g, e1, rfl, hr, Nat.le_trans hW.size hg, fun q => ?_⟩⟩
  have := ((h.on hW).o.lt g q).2
  omega
set_option maxRecDepth 100000 in
set_option maxHeartbeats 8000000 in
theorem do_go (x y : Int) (ev : Value) (S' : Ws) (hc : ∀ W, Below u.heap.size u W → Calls Tryz.prog 144 #[.pointer (some ⟨mb, 0, none⟩), .int .i64 x] W fun o w' => o = .returned ev ∧ ∃ v', Gp u w' mb cb cc v S' v') :
  Calls Tryz.prog 119 #[.pointer (some ⟨mb, 0, none⟩), .agg #[.int .i64 1, .int .i64 x, .int .i64 y]] u fun o w' => ∃ pv v', o = .returned (.tuple #[pv, ev]) ∧ Gp u w' mb cb cc v S' v' ∧ Cm u w' v' pv none := by
 have HC : Hid _ := hc
 clear hc
 go_enter Tryz.func119, Tryz.ntmps119
 go_wp2_with (go_at_call 144; refine (HC.out _ (rbel_al (Below.refl _ _))).mono ?_; rintro o w1 ⟨rfl, v', hg⟩; have HG : Hid (Gp u w1 mb cb cc v S' v') := hg; clear hg)
 go_ret2
 first | exact ⟨_, v', rfl, HG.out, Or.inl ⟨rfl, rfl⟩⟩ | exact ⟨v', rfl, HG.out, Or.inl ⟨rfl, rfl⟩⟩ | exact ⟨v', HG.out, Or.inl ⟨rfl, rfl⟩⟩
set_option maxRecDepth 100000 in
set_option maxHeartbeats 8000000 in
theorem do_ask (x y : Int) (ev : Value) (S' : Ws) (hc : ∀ W, Below u.heap.size u W → Calls Tryz.prog 145 #[.pointer (some ⟨mb, 0, none⟩), .int .i64 x, .int .i64 y] W fun o w' => o = .returned ev ∧ ∃ v', Gp u w' mb cb cc v S' v') :
  Calls Tryz.prog 119 #[.pointer (some ⟨mb, 0, none⟩), .agg #[.int .i64 2, .int .i64 x, .int .i64 y]] u fun o w' => ∃ pv v', o = .returned (.tuple #[pv, ev]) ∧ Gp u w' mb cb cc v S' v' ∧ Cm u w' v' pv none := by
 have HC : Hid _ := hc
 clear hc
 go_enter Tryz.func119, Tryz.ntmps119
 go_wp2_with (go_at_call 145; refine (HC.out _ (rbel_al (Below.refl _ _))).mono ?_; rintro o w1 ⟨rfl, v', hg⟩; have HG : Hid (Gp u w1 mb cb cc v S' v') := hg; clear hg)
 go_ret2
 first | exact ⟨_, v', rfl, HG.out, Or.inl ⟨rfl, rfl⟩⟩ | exact ⟨v', rfl, HG.out, Or.inl ⟨rfl, rfl⟩⟩ | exact ⟨v', HG.out, Or.inl ⟨rfl, rfl⟩⟩
set_option maxRecDepth 100000 in
set_option maxHeartbeats 8000000 in
theorem do_deliver (x y : Int) (ev : Value) (S' : Ws) (r : Option Lt) (hc : ∀ W, Below u.heap.size u W → Calls Tryz.prog 146 #[.pointer (some ⟨mb, 0, none⟩), .int .i64 x] W fun o w' => ∃ pv v', o = .returned (.tuple #[pv, ev]) ∧ Gp u w' mb cb cc v S' v' ∧ Cm u w' v' pv r) :
  Calls Tryz.prog 119 #[.pointer (some ⟨mb, 0, none⟩), .agg #[.int .i64 3, .int .i64 x, .int .i64 y]] u fun o w' => ∃ pv v', o = .returned (.tuple #[pv, ev]) ∧ Gp u w' mb cb cc v S' v' ∧ Cm u w' v' pv r := by
 have HC : Hid _ := hc
 clear hc
 go_enter Tryz.func119, Tryz.ntmps119
 go_wp2_with (go_at_call 146; refine (HC.out _ (rbel_al (Below.refl _ _))).mono ?_; rintro o w1 ⟨pv, v', rfl, hg, hm⟩; have HG : Hid (Gp u w1 mb cb cc v S' v') := hg; have HM : Hid (Cm u w1 v' pv r) := hm; clear hg hm)
 go_ret2
 first | exact ⟨_, v', rfl, HG.out, HM.out⟩ | exact ⟨v', rfl, HG.out, HM.out⟩ | exact ⟨pv, rfl, v', HG.out, HM.out⟩ | exact ⟨v', HG.out, HM.out⟩
set_option maxRecDepth 100000 in
set_option maxHeartbeats 8000000 in
theorem do_lose (x y : Int) (ev : Value) (S' : Ws) (r : Option Lt) (hc : ∀ W, Below u.heap.size u W → Calls Tryz.prog 146 #[.pointer (some ⟨mb, 0, none⟩), .int .i64 x] W fun o w' => ∃ pv v', o = .returned (.tuple #[pv, ev]) ∧ Gp u w' mb cb cc v S' v' ∧ Cm u w' v' pv r) :
  Calls Tryz.prog 119 #[.pointer (some ⟨mb, 0, none⟩), .agg #[.int .i64 4, .int .i64 x, .int .i64 y]] u fun o w' => ∃ pv v', o = .returned (.tuple #[pv, ev]) ∧ Gp u w' mb cb cc v S' v' ∧ Cm u w' v' pv none := by
 have HC : Hid _ := hc
 clear hc
 go_enter Tryz.func119, Tryz.ntmps119
 go_wp2_with (go_at_call 146; refine (HC.out _ (rbel_al (Below.refl _ _))).mono ?_; rintro o w1 ⟨pv, v', rfl, hg, hm⟩; have HG : Hid (Gp u w1 mb cb cc v S' v') := hg; have HM : Hid (Cm u w1 v' pv r) := hm; clear hg hm)
 go_ret2
 first | exact ⟨_, v', rfl, HG.out, Or.inl ⟨rfl, rfl⟩⟩ | exact ⟨v', rfl, HG.out, Or.inl ⟨rfl, rfl⟩⟩ | exact ⟨pv, rfl, v', HG.out, Or.inl ⟨rfl, rfl⟩⟩ | exact ⟨v', HG.out, Or.inl ⟨rfl, rfl⟩⟩
set_option maxRecDepth 100000 in
set_option maxHeartbeats 8000000 in
theorem do_repeat (x y : Int) (ev : Value) (S' : Ws) (r : Option Lt) (hc : ∀ W, Below u.heap.size u W → Calls Tryz.prog 147 #[.pointer (some ⟨mb, 0, none⟩), .int .i64 x] W fun o w' => ∃ pv v', o = .returned (.tuple #[pv, ev]) ∧ Gp u w' mb cb cc v S' v' ∧ Cm u w' v' pv r) :
  Calls Tryz.prog 119 #[.pointer (some ⟨mb, 0, none⟩), .agg #[.int .i64 5, .int .i64 x, .int .i64 y]] u fun o w' => ∃ pv v', o = .returned (.tuple #[pv, ev]) ∧ Gp u w' mb cb cc v S' v' ∧ Cm u w' v' pv r := by
 have HC : Hid _ := hc
 clear hc
 go_enter Tryz.func119, Tryz.ntmps119
 go_wp2_with (go_at_call 147; refine (HC.out _ (rbel_al (Below.refl _ _))).mono ?_; rintro o w1 ⟨pv, v', rfl, hg, hm⟩; have HG : Hid (Gp u w1 mb cb cc v S' v') := hg; have HM : Hid (Cm u w1 v' pv r) := hm; clear hg hm)
 go_ret2
 first | exact ⟨_, v', rfl, HG.out, HM.out⟩ | exact ⟨v', rfl, HG.out, HM.out⟩ | exact ⟨pv, rfl, v', HG.out, HM.out⟩ | exact ⟨v', HG.out, HM.out⟩
set_option maxRecDepth 100000 in
set_option maxHeartbeats 8000000 in
theorem do_none (h : PW u mb cb cc S v) (wh x y : Int) (hw : wh < 1 ∨ 5 < wh) :
  Calls Tryz.prog 119 #[.pointer (some ⟨mb, 0, none⟩), .agg #[.int .i64 wh, .int .i64 x, .int .i64 y]] u fun o w' => ∃ pv v', o = .returned (.tuple #[pv, errc 1]) ∧ Gp u w' mb cb cc v S v' ∧ Cm u w' v' pv none := by
 rw [errc_not (e := 1) (by decide)]
 have HP : Hid (PW u mb cb cc S v) := h
 have n1 : ¬ wh = 1 := by omega
 have n2 : ¬ wh = 2 := by omega
 have n3 : ¬ wh = 3 := by omega
 have n4 : ¬ wh = 4 := by omega
 have n5 : ¬ wh = 5 := by omega
 clear h hw
 go_enter Tryz.func119, Tryz.ntmps119
 go_wp2
 go_ret2
 first | exact ⟨_, v, rfl, .same HP.out (rbel_al (Below.refl _ _)), Or.inl ⟨rfl, rfl⟩⟩ | exact ⟨v, .same HP.out (rbel_al (Below.refl _ _)), Or.inl ⟨rfl, rfl⟩⟩
theorem do_any (h : PW u mb cb cc S v) (hI : S.I) {wh x y e : Int} {S' : Ws} {r : Option Lt} (hD : DoR S wh x y S' r e) :
  Calls Tryz.prog 119 #[.pointer (some ⟨mb, 0, none⟩), .agg #[.int .i64 wh, .int .i64 x, .int .i64 y]] u fun o w' => ∃ pv v', o = .returned (.tuple #[pv, errc e]) ∧ Gp u w' mb cb cc v S' v' ∧ Cm u w' v' pv r := by
 rcases hD with ⟨rfl, c, rfl, rfl, rfl⟩ | ⟨rfl, c, rfl, rfl, rfl⟩ | ⟨rfl, c, rfl, rfl, rfl⟩ | ⟨rfl, c, d, rfl, rfl, rfl⟩ | ⟨rfl, c, d, l, rfl, rfl, rfl⟩ | ⟨rfl, c, d, l, rfl, rfl, rfl⟩ | ⟨hw, c, rfl, rfl, rfl⟩ | ⟨rfl, c, rfl, rfl, rfl⟩ | ⟨rfl, c, rfl, rfl, rfl⟩ | ⟨rfl, c, rfl, rfl, rfl⟩ | ⟨hw, rfl, rfl, rfl⟩
 ·exact do_go x y _ _ (goon_any h hI (Or.inl ⟨c, rfl, rfl⟩))
 ·exact do_go x y _ _ (goon_any h hI (Or.inr ⟨c, rfl, rfl⟩))
 ·exact do_ask x y _ _ (wask_any h hI (Or.inl ⟨c, rfl, rfl⟩))
 ·exact do_ask x y _ _ (wask_any h hI (Or.inr (Or.inl ⟨c, d, rfl, rfl⟩)))
 ·exact do_ask x y _ _ (wask_any h hI (Or.inr (Or.inr (Or.inl ⟨c, d, l, rfl, rfl⟩))))
 ·exact do_ask x y _ _ (wask_any h hI (Or.inr (Or.inr (Or.inr ⟨c, d, l, rfl, rfl⟩))))
 ·rcases hw with rfl | rfl | rfl
  ·exact do_deliver x y _ _ _ (take_any h hI (Or.inl ⟨c, rfl, rfl, rfl⟩))
  ·exact do_lose x y _ _ none (take_any h hI (Or.inl ⟨c, rfl, rfl, rfl⟩))
  ·exact do_repeat x y _ _ _ (letter_any h hI (Or.inl ⟨c, rfl, rfl, rfl⟩))
 ·exact do_deliver x y _ _ _ (take_any h hI (Or.inr ⟨c, rfl, rfl, rfl⟩))
 ·exact do_lose x y _ _ _ (take_any h hI (Or.inr ⟨c, rfl, rfl, rfl⟩))
 ·exact do_repeat x y _ _ _ (letter_any h hI (Or.inr ⟨c, rfl, rfl, rfl⟩))
 ·exact do_none h wh x y hw
end
section
variable {u : World} {mb cb cc : Nat} {S : Ws} {v : Value}
set_option maxRecDepth 100000 in
set_option maxHeartbeats 8000000 in
theorem an_ans (h : PW u mb cb cc S v) (hI : S.I) (l1 l2 : Int)  (l4 l5 l6 : Int)  :
  Calls Tryz.prog 149 #[.pointer (some ⟨mb, 0, none⟩), .agg #[.int .i64 l1, .int .i64 l2, .bool true, .int .i64 l4, .int .i64 l5, .int .i64 l6]] u fun o w' => o = .returned (errc 3) ∧ Below u.heap.size u w' := by
 rw [errc_not (e := 3) (by decide)]
 clear h hI
 go_enter Tryz.func149, Tryz.ntmps149
 go_wp2
 go_ret
 exact ⟨rfl, rbel_al (Below.refl _ _)⟩
set_option maxRecDepth 100000 in
set_option maxHeartbeats 8000000 in
theorem an_none1 (h : PW u mb cb cc S v) (hI : S.I) (l1 l2 : Int)  (l4 l5 l6 : Int) (h1 : ¬ S.hs l1) :
  Calls Tryz.prog 149 #[.pointer (some ⟨mb, 0, none⟩), .agg #[.int .i64 l1, .int .i64 l2, .bool false, .int .i64 l4, .int .i64 l5, .int .i64 l6]] u fun o w' => o = .returned (errc 1) ∧ Below u.heap.size u w' := by
 rw [errc_not (e := 1) (by decide)]
 have c1 : Hid (∀ W, Below u.heap.size u W → Calls Tryz.prog 150 #[.pointer (some ⟨mb, 0, none⟩), .int .i64 l1] W fun o w' => o = .returned (.bool false) ∧ w' = W) := fun W hW => iscl (h.on hW) hI l1 false (decide_eq_false (p := 0 ≤ l1 ∧ l1 < (S.n : Int)) h1).symm
 clear h hI h1
 go_enter Tryz.func149, Tryz.ntmps149
 go_wp2_with (first | (go_at_call 150; refine (c1.out _ (rbel_al (Below.refl _ _))).mono ?_; rintro o w0 ⟨rfl, hu⟩; rw [hu]; clear hu))
 go_ret
 exact ⟨rfl, rbel_al (Below.refl _ _)⟩
set_option maxRecDepth 100000 in
set_option maxHeartbeats 8000000 in
theorem an_none2 (h : PW u mb cb cc S v) (hI : S.I) (l1 l2 : Int)  (l4 l5 l6 : Int) (h1 : S.hs l1) (h2 : ¬ S.hs l2) :
  Calls Tryz.prog 149 #[.pointer (some ⟨mb, 0, none⟩), .agg #[.int .i64 l1, .int .i64 l2, .bool false, .int .i64 l4, .int .i64 l5, .int .i64 l6]] u fun o w' => o = .returned (errc 1) ∧ Below u.heap.size u w' := by
 rw [errc_not (e := 1) (by decide)]
 have c1 : Hid (∀ W, Below u.heap.size u W → Calls Tryz.prog 150 #[.pointer (some ⟨mb, 0, none⟩), .int .i64 l1] W fun o w' => o = .returned (.bool true) ∧ w' = W) := fun W hW => iscl (h.on hW) hI l1 true (decide_eq_true (p := 0 ≤ l1 ∧ l1 < (S.n : Int)) h1).symm
 have c2 : Hid (∀ W, Below u.heap.size u W → Calls Tryz.prog 150 #[.pointer (some ⟨mb, 0, none⟩), .int .i64 l2] W fun o w' => o = .returned (.bool false) ∧ w' = W) := fun W hW => iscl (h.on hW) hI l2 false (decide_eq_false (p := 0 ≤ l2 ∧ l2 < (S.n : Int)) h2).symm
 have cnt : Mark 0 := .mk _
 clear h hI h1 h2
 go_enter Tryz.func149, Tryz.ntmps149
 go_wp2_with (first | (go_at_call 150; (first | (have cm : Mark 0 := cnt; clear cm cnt; have cnt : Mark 1 := .mk _; refine (c1.out _ (rbel_al (Below.refl _ _))).mono ?_) | refine (c2.out _ (rbel_al (Below.refl _ _))).mono ?_); rintro o w0 ⟨rfl, hu⟩; rw [hu]; clear hu))
 go_ret
 exact ⟨rfl, rbel_al (Below.refl _ _)⟩
set_option maxRecDepth 100000 in
set_option maxHeartbeats 8000000 in
theorem an_full (h : PW u mb cb cc S v) (hI : S.I) (l1 l2 : Int)  (l4 l5 l6 : Int) (h1 : S.hs l1) (h2 : S.hs l2) (hl : 40 ≤ S.under.length) :
  Calls Tryz.prog 149 #[.pointer (some ⟨mb, 0, none⟩), .agg #[.int .i64 l1, .int .i64 l2, .bool false, .int .i64 l4, .int .i64 l5, .int .i64 l6]] u fun o w' => o = .returned (errc 4) ∧ Below u.heap.size u w' := by
 have c1 : Hid (∀ W, Below u.heap.size u W → Calls Tryz.prog 150 #[.pointer (some ⟨mb, 0, none⟩), .int .i64 l1] W fun o w' => o = .returned (.bool true) ∧ w' = W) := fun W hW => iscl (h.on hW) hI l1 true (decide_eq_true (p := 0 ≤ l1 ∧ l1 < (S.n : Int)) h1).symm
 have c2 : Hid (∀ W, Below u.heap.size u W → Calls Tryz.prog 150 #[.pointer (some ⟨mb, 0, none⟩), .int .i64 l2] W fun o w' => o = .returned (.bool true) ∧ w' = W) := fun W hW => iscl (h.on hW) hI l2 true (decide_eq_true (p := 0 ≤ l2 ∧ l2 < (S.n : Int)) h2).symm
 have cnt : Mark 0 := .mk _
 obtain ⟨k, rfl⟩ : ∃ k : Nat, l2 = k := ⟨l2.toNat, by have := h2.1; omega⟩
 have c3 : Hid (∀ W, Below u.heap.size u W → Calls Tryz.prog 151 #[.pointer (some ⟨mb, 0, none⟩), .int .i64 k] W fun o w' => o = .returned (.int .i64 (S.rd k)) ∧ Below W.heap.size W w') := fun W hW => shown (h.on hW) hI k (by have := h2.2; omega)
 have c4 : Hid (∀ W, Below u.heap.size u W → Calls Tryz.prog 176 #[.pointer (some ⟨mb, 0, none⟩), .agg #[.int .i64 (k : Int), .int .i64 l1, .bool true, .int .i64 l6, .int .i64 (S.rd k), .int .i64 (S.rd k)]] W fun o w' => o = .returned (errc 4) ∧ Below W.heap.size W w') := fun W hW => send_full (h.on hW) hI hl ⟨k, l1, true, l6, S.rd k, S.rd k⟩
 clear h hI h1 h2 hl
 generalize S.rd k = t at *
 go_enter Tryz.func149, Tryz.ntmps149
 go_wp2_with (first | (go_at_call 150; (first | (have cm : Mark 0 := cnt; clear cm cnt; have cnt : Mark 1 := .mk _; refine (c1.out _ (rbel_al (Below.refl _ _))).mono ?_) | refine (c2.out _ (rbel_al (Below.refl _ _))).mono ?_); rintro o w0 ⟨rfl, hu⟩; rw [hu]; clear hu) | (go_at_call 151; refine (c3.out _ (rbel_al (Below.refl _ _))).mono ?_; rintro o u1 ⟨rfl, hb⟩; have HB : Hid (Below u.heap.size u u1) := rbel_on hb (rbel_al (Below.refl _ _)); have RR : Hid (Row u1 u.heap.size [.int .i64 l1, .int .i64 (k : Int), .bool false, .int .i64 l4, .int .i64 l5, .int .i64 l6]) := Row.on hb (Row.made rfl); have z0 := RR.out.c 0 _ rfl; have z1 := RR.out.c 1 _ rfl; have z5 := RR.out.c 5 _ rfl; have zl := RR.out.lt; clear hb) | (go_at_call 176; refine (c4.out _ HB.out).mono ?_; rintro o u2 ⟨rfl, hb⟩; have HB2 : Hid (Below u.heap.size u u2) := rbel_on hb HB.out; clear hb))
 go_ret
 exact ⟨rfl, HB2.out⟩
set_option maxRecDepth 100000 in
set_option maxHeartbeats 8000000 in
theorem an_ok (h : PW u mb cb cc S v) (hI : S.I) (l1 l2 : Int)  (l4 l5 l6 : Int) (h1 : S.hs l1) (h2 : S.hs l2) (hl : S.under.length < 40) :
  Calls Tryz.prog 149 #[.pointer (some ⟨mb, 0, none⟩), .agg #[.int .i64 l1, .int .i64 l2, .bool false, .int .i64 l4, .int .i64 l5, .int .i64 l6]] u fun o w' => ∃ v', o = .returned (errc 0) ∧ Gp u w' mb cb cc v { S with under := S.under ++ [⟨l2, l1, true, l6, S.rd l2.toNat, S.rd l2.toNat⟩] } v' := by
 have c1 : Hid (∀ W, Below u.heap.size u W → Calls Tryz.prog 150 #[.pointer (some ⟨mb, 0, none⟩), .int .i64 l1] W fun o w' => o = .returned (.bool true) ∧ w' = W) := fun W hW => iscl (h.on hW) hI l1 true (decide_eq_true (p := 0 ≤ l1 ∧ l1 < (S.n : Int)) h1).symm
 have c2 : Hid (∀ W, Below u.heap.size u W → Calls Tryz.prog 150 #[.pointer (some ⟨mb, 0, none⟩), .int .i64 l2] W fun o w' => o = .returned (.bool true) ∧ w' = W) := fun W hW => iscl (h.on hW) hI l2 true (decide_eq_true (p := 0 ≤ l2 ∧ l2 < (S.n : Int)) h2).symm
 have cnt : Mark 0 := .mk _
 obtain ⟨k, rfl⟩ : ∃ k : Nat, l2 = k := ⟨l2.toNat, by have := h2.1; omega⟩
 have c3 : Hid (∀ W, Below u.heap.size u W → Calls Tryz.prog 151 #[.pointer (some ⟨mb, 0, none⟩), .int .i64 k] W fun o w' => o = .returned (.int .i64 (S.rd k)) ∧ Below W.heap.size W w') := fun W hW => shown (h.on hW) hI k (by have := h2.2; omega)
 have c4 : Hid (∀ W, Below u.heap.size u W → Calls Tryz.prog 176 #[.pointer (some ⟨mb, 0, none⟩), .agg #[.int .i64 (k : Int), .int .i64 l1, .bool true, .int .i64 l6, .int .i64 (S.rd k), .int .i64 (S.rd k)]] W fun o w' => ∃ v', o = .returned (errc 0) ∧ Gp u w' mb cb cc v { S with under := S.under ++ [⟨k, l1, true, l6, S.rd k, S.rd k⟩] } v') := fun W hW => (send_ok (h.on hW) hI hl ⟨k, l1, true, l6, S.rd k, S.rd k⟩).mono (by
  rintro o w' ⟨v', rfl, g1, g2⟩
  exact ⟨v', rfl, g1, g2.from hW⟩)
 rw [Int.toNat_natCast]
 clear h hI h1 h2 hl
 generalize S.rd k = t at *
 go_enter Tryz.func149, Tryz.ntmps149
 go_wp2_with (first | (go_at_call 150; (first | (have cm : Mark 0 := cnt; clear cm cnt; have cnt : Mark 1 := .mk _; refine (c1.out _ (rbel_al (Below.refl _ _))).mono ?_) | refine (c2.out _ (rbel_al (Below.refl _ _))).mono ?_); rintro o w0 ⟨rfl, hu⟩; rw [hu]; clear hu) | (go_at_call 151; refine (c3.out _ (rbel_al (Below.refl _ _))).mono ?_; rintro o u1 ⟨rfl, hb⟩; have HB : Hid (Below u.heap.size u u1) := rbel_on hb (rbel_al (Below.refl _ _)); have RR : Hid (Row u1 u.heap.size [.int .i64 l1, .int .i64 (k : Int), .bool false, .int .i64 l4, .int .i64 l5, .int .i64 l6]) := Row.on hb (Row.made rfl); have z0 := RR.out.c 0 _ rfl; have z1 := RR.out.c 1 _ rfl; have z5 := RR.out.c 5 _ rfl; have zl := RR.out.lt; clear hb) | (go_at_call 176; refine (c4.out _ HB.out).mono ?_; rintro o u2 ⟨v', rfl, hg⟩; have HG : Hid _ := hg; clear hg))
 go_ret
 exact ⟨v', rfl, HG.out⟩
theorem answer_any (h : PW u mb cb cc S v) (hI : S.I) (l : Lt) {S' : Ws} {e : Int} (hD : AnR S l S' e) :
  Calls Tryz.prog 149 #[.pointer (some ⟨mb, 0, none⟩), ltv l] u fun o w' => o = .returned (errc e) ∧ ∃ v', Gp u w' mb cb cc v S' v' := by
 obtain ⟨l1, l2, l3, l4, l5, l6⟩ := l
 unfold ltv
 rcases hD with ⟨a, rfl, rfl⟩ | ⟨a, c, rfl, rfl⟩ | ⟨a, c, d, rfl, rfl⟩ | ⟨a, c, d, rfl, rfl⟩
 ·obtain rfl : l3 = true := a
  refine (an_ans h hI l1 l2 l4 l5 l6).mono ?_
  rintro o w' ⟨rfl, hb⟩
  exact ⟨rfl, v, .same h hb⟩
 ·obtain rfl : l3 = false := a
  by_cases q : S'.hs l1
  ·refine (an_none2 h hI l1 l2 l4 l5 l6 q (fun r => c ⟨q, r⟩)).mono ?_
   rintro o w' ⟨rfl, hb⟩
   exact ⟨rfl, v, .same h hb⟩
  ·refine (an_none1 h hI l1 l2 l4 l5 l6 q).mono ?_
   rintro o w' ⟨rfl, hb⟩
   exact ⟨rfl, v, .same h hb⟩
 ·obtain rfl : l3 = false := a
  refine (an_full h hI l1 l2 l4 l5 l6 c.1 c.2 d).mono ?_
  rintro o w' ⟨rfl, hb⟩
  exact ⟨rfl, v, .same h hb⟩
 ·obtain rfl : l3 = false := a
  refine (an_ok h hI l1 l2 l4 l5 l6 c.1 c.2 d).mono ?_
  rintro o w' ⟨v', rfl, hg⟩
  exact ⟨rfl, v', hg⟩
end
theorem infoClock : (Tryz.prog.info? 178).map (fun i => (i.zero, i.size, i.bytes)) = some (some (.agg #[.int .i64 0, .int .i64 0]), 2, 16) := by kernel_rfl
def ccs (z r : Nat → Int) : Nat → List Value
 | 0 => []
 | i + 1 => ccs z r i ++ [.int .i64 (z i), .int .i64 (r i)]
theorem ccs_len (z r : Nat → Int) (n : Nat) : (ccs z r n).length = n * 2 := by
 induction n with
 | zero => rfl
 | succ n ih => show (ccs z r n ++ _).length = _; rw [List.length_append, ih]; show n * 2 + 2 = _; omega
theorem ccs_at (z r : Nat → Int) {n i : Nat} (h : i < n) : (ccs z r n)[i * 2]? = some (.int .i64 (z i)) ∧ (ccs z r n)[i * 2 + 1]? = some (.int .i64 (r i)) := by
 induction n with
 | zero => omega
 | succ n ih =>
  have l := ccs_len z r n
  by_cases e : i = n
  ·subst e
   show (ccs z r i ++ _)[i * 2]? = _ ∧ (ccs z r i ++ _)[i * 2 + 1]? = _
   rw [List.getElem?_append_right (by omega), List.getElem?_append_right (by omega), l, show i * 2 - i * 2 = 0 by omega, show i * 2 + 1 - i * 2 = 1 by omega]
   exact ⟨rfl, rfl⟩
  ·obtain ⟨a, b⟩ := ih (by omega)
   show (ccs z r n ++ _)[i * 2]? = _ ∧ (ccs z r n ++ _)[i * 2 + 1]? = _
   rw [List.getElem?_append_left (by omega), List.getElem?_append_left (by omega)]
   exact ⟨a, b⟩
theorem own_clocks {w : World} {base n : Nat} {v : Value} {z r : Nat → Int} {e : TypeId} (h : w.ownsRow base e 2 v n (ccs z r n)) (hn : 1 ≤ n) : ∃ g c, v = .slice (some ⟨g, 0, none⟩) n c ∧ Cls w g n z r ∧ base ≤ g ∧ g < w.heap.size := by
 rcases h.2 with ⟨_, e⟩ | ⟨g, cap, cur, rfl, hb, hg, _⟩
 ·omega
 ·refine ⟨g, cap, rfl, fun i hi => ?_, hb, (h.lt g rfl).2⟩
  obtain ⟨a, b⟩ := ccs_at z r hi
  have q1 := h.cells (g := g) rfl _ _ a
  have q2 := h.cells (g := g) rfl _ _ b
  rw [Addr.add_lit, Nat.zero_add] at q1 q2
  exact ⟨q1, q2⟩
theorem own_empty_clk (w : World) (e : TypeId) (size base : Nat) (h : base ≤ w.heap.size) : (w.alloc (.cells #[] e)).ownsRow base e size (.slice (some ⟨w.heap.size, 0, none⟩) 0 0) 0 [] := by
 refine ⟨by simp, Or.inr ⟨w.heap.size, 0, #[], rfl, h, ?_, Nat.le_refl _, Nat.zero_le _, by simp, by simp⟩⟩
 show (w.heap.push _)[w.heap.size]? = _
 simp
theorem beE_one {n m : Nat} {z r : Nat → Int} {p e e' : Int} (h : BeE n z m r p e) (h' : BeE n z m r p e') : e = e' := by
 unfold BeE at h h'
 rcases h with ⟨a, rfl⟩ | ⟨a, b, rfl⟩ | ⟨a, b, ⟨i, hi, c⟩, rfl⟩ | ⟨a, b, c, rfl⟩ <;> rcases h' with ⟨a', rfl⟩ | ⟨a', b', rfl⟩ | ⟨a', b', ⟨i', hi', c'⟩, rfl⟩ | ⟨a', b', c', rfl⟩ <;> first | rfl | omega | (have := c i' hi'; omega) | (have := c' i hi; omega)
def WnR (n m : Nat) (z r : Nat → Int) (p : Int) (w : World) (o : Ending) (w' : World) : Prop := ∃ e pv, BeE n z m r p e ∧ o = .returned (.tuple #[pv, errc e]) ∧ Below w.heap.size w w' ∧ (e = 0 → ∃ b cb cc, pv = .pointer (some ⟨b, 0, none⟩) ∧ PW w' b cb cc (ws0 n z r) (.slice none 0 0) ∧ w.heap.size ≤ b ∧ w.heap.size ≤ cb)
theorem wnR_bad {n m : Nat} {z r : Nat → Int} {p e : Int} {w w' : World} (h : BeE n z m r p e) (he : e ≠ 0) (hb : Below w.heap.size w w') : WnR n m z r p w (.returned (.tuple #[.pointer none, .iface 86 (.int .i64 e)])) w' :=
 ⟨e, _, h, by rw [errc_not he], hb, fun q => absurd q he⟩
theorem pw_made {n m cb cc : Nat} {z r : Nat → Int} {p : Int} {w W : World} {t : TypeId} (h : BeE n z m r p 0) (hc : Cls W cb n z r) (hl : w.heap.size ≤ cb) (hlt : cb < W.heap.size) (hb : Below w.heap.size w W) : WnR n m z r p w (.returned (.tuple #[.pointer (some ⟨W.heap.size, 0, none⟩), .nilIface])) (W.alloc (.cells #[.slice (some ⟨cb, 0, none⟩) n cc, .int .i64 0, .slice none 0 0] t)) := by
 refine ⟨0, _, h, by rw [errc_zero], rbel_al hb, fun _ => ⟨W.heap.size, cb, cc, rfl, ⟨Row.made rfl, fun i hi => ?_, by simp; omega, World.ownsRow_nil _ _ _ _, by omega, fun q => (by cases q), fun q => (by cases q)⟩, hb.size, hl⟩⟩
 obtain ⟨a, b⟩ := hc i hi
 exact ⟨by rw [World.cell?_alloc_lt _ _ _ hlt]; exact a, by rw [World.cell?_alloc_lt _ _ _ hlt]; exact b⟩
set_option maxRecDepth 100000 in
set_option maxHeartbeats 8000000 in
theorem wnew_any (sa : Option Addr) (n sc : Nat) (z : Nat → Int) (ra : Option Addr) (m rc : Nat) (r : Nat → Int) (p : Int) (w : World) (hS : NHanded w sa n z) (hR : NHanded w ra m r) :
  Calls Tryz.prog 57 #[.slice sa n sc, .slice ra m rc, .int .i64 p] w fun o w' => WnR n m z r p w o w' := by
 have HS : Hid (NHanded w sa n z) := hS
 have HR : Hid (NHanded w ra m r) := hR
 have hn := hS.1
 have hm := hR.1
 clear hS hR
 by_cases h : 0 ≤ p ∧ p ≤ 1000 ∧ 1 ≤ n ∧ n ≤ 6
 case neg =>
  have HB : Hid (BeE n z m r p 1) := Or.inl ⟨by omega, rfl⟩
  have hc : (p < 0) ∨ (¬ p < 0 ∧ 1000 < p) ∨ (¬ p < 0 ∧ ¬ 1000 < p ∧ (n : Int) < 1) ∨ (¬ p < 0 ∧ ¬ 1000 < p ∧ ¬ (n : Int) < 1 ∧ 6 < (n : Int)) := by omega
  clear h
  rcases hc with a | ⟨a, b⟩ | ⟨a, b, c⟩ | ⟨a, b, c, d⟩
  all_goals
   go_enter Tryz.func57, Tryz.ntmps57
   go_wp2
   go_ret2
   exact wnR_bad HB.out (by decide) (Below.refl _ _)
 have H : Hid (0 ≤ p ∧ p ≤ 1000 ∧ 1 ≤ n ∧ n ≤ 6) := h
 have a : ¬ p < 0 := by omega
 have b : ¬ 1000 < p := by omega
 have c : ¬ (n : Int) < 1 := by omega
 have d : ¬ 6 < (n : Int) := by omega
 by_cases hmn : m = n
 case neg =>
  have e1 : ((m : Int) == n) = false := by simp; omega
  have e2 : ¬ ((m : Int) = n) := by omega
  have HB : Hid (BeE n z m r p 3) := Or.inr (Or.inl ⟨h, hmn, rfl⟩)
  clear h
  go_enter Tryz.func57, Tryz.ntmps57
  go_wp2
  go_ret2
  exact wnR_bad HB.out (by decide) (Below.refl _ _)
 subst hmn
 have HP : Hid (IntKind.i64.wrap (-p) = -p) := IntWalk.i64_in _ (by omega)
 obtain ⟨i0, hi0, hz0, hz1, hz2⟩ := info_parts infoClock
 have HN1 : Hid ((w.alloc (.cells #[] 178)).ownsRow w.heap.size 178 2 (.slice (some ⟨w.heap.size, 0, none⟩) 0 0) 0 []) := own_empty_clk w 178 2 w.heap.size (Nat.le_refl _)
 have HB1 : Hid (Below w.heap.size w (w.alloc (.cells #[] 178))) := rbel_al (Below.refl _ _)
 have hm6 : m ≤ 6 := h.2.2.2
 clear h
 go_enter Tryz.func57, Tryz.ntmps57
 go_wp2
 go_loopw [8, 37] (fun v vi wr => ∃ i : Nat, i ≤ m ∧ vi = .int .i64 i ∧ (∀ j, j < i → 0 ≤ z j ∧ z j ≤ 1000000 ∧ -p ≤ r j ∧ r j ≤ p) ∧ wr.ownsRow w.heap.size 178 2 v i (ccs z r i) ∧ Below w.heap.size w wr) (fun _ i _ => m - (intOf i).toNat)
 case atStart => exact ⟨0, Nat.zero_le _, rfl, fun j hj => by omega, HN1.out, HB1.out⟩
 case round =>
  clear HN1 HB1
  obtain ⟨i, hi, rfl, hok, hown, hw⟩ := hrel
  have HW : Hid (Below w.heap.size w wr) := hw
  have HO : Hid (∀ j, j < i → 0 ≤ z j ∧ z j ≤ 1000000 ∧ -p ≤ r j ∧ r j ≤ p) := hok
  have HN : Hid (wr.ownsRow w.heap.size 178 2 u8 i (ccs z r i)) := hown
  clear hok
  by_cases hlt : i < m
  ·have hl : (i : Int) < m := by omega
   obtain ⟨b1, o1, rfl, hP1⟩ : ∃ b off : Nat, sa = some ⟨b, off, none⟩ ∧ Nrd w b off m z := by
    rcases HS.out.2 with e | h
    ·omega
    ·exact h
   obtain ⟨b2, o2, rfl, hP2⟩ : ∃ b off : Nat, ra = some ⟨b, off, none⟩ ∧ Nrd w b off m r := by
    rcases HR.out.2 with e | h
    ·omega
    ·exact h
   have x1 := (hP1.on hw) i hlt
   have x2 := (hP2.on hw) i hlt
   have l1 := World.block_lt_of_cell? _ _ x1
   have l2 := World.block_lt_of_cell? _ _ x2
   have wp := HP.out
   by_cases hz : 0 ≤ z i ∧ z i ≤ 1000000 ∧ -p ≤ r i ∧ r i ≤ p
   ·have HZ : Hid (0 ≤ z i ∧ z i ≤ 1000000 ∧ -p ≤ r i ∧ r i ≤ p) := hz
    have d1 : decide (z i < 0) = false := decide_eq_false (by omega)
    have d2 : decide (1000000 < z i) = false := decide_eq_false (by omega)
    have d3 : decide (r i < -p) = false := decide_eq_false (by omega)
    have d4 : decide (p < r i) = false := decide_eq_false (by omega)
    have HIc : Hid (ccs z r (i + 1) = ccs z r i ++ [.int .i64 (z i), .int .i64 (r i)]) := rfl
    have HBk : Hid (∀ j, u8.ownBlock = some j → w.heap.size ≤ j) := fun j hj => (HN.out.lt j hj).1
    have szw := hw.size
    clear hz hw hP1 hP2 HS HR hown
    generalize hzi : z i = zi at *
    generalize hri : r i = ri at *
    generalize ccs z r i = xs at *
    go_wp2_with (at_builtin; refine wpList_append_own _ rfl _ _ 176 rfl w.heap.size 178 i0 (.agg #[.int .i64 0, .int .i64 0]) 2 16 Tryz.underlying176 hi0 hz0 hz1 hz2 rfl (by decide) _ _ _ rfl (HN.out.alloc _) ⟨wr.heap.size, 0, none⟩ 1 1 [.int .i64 zi, .int .i64 ri] rfl rfl (fun j u hj => by rw [Addr.add_lit]; exact (Row.made (W := wr) (vs := [.int .i64 zi, .int .i64 ri]) rfl).c _ _ (by simpa using hj)) (fun u hu => by simp at hu; rcases hu with rfl | rfl <;> rfl) (by unfold maxLen; omega) (by omega) (by simp; omega) ?_)
    intro v' w1 hown' hgrow _
    have HO1 : Hid (w1.ownsRow w.heap.size 178 2 v' (i + 1) (ccs z r (i + 1))) := by
     show w1.ownsRow w.heap.size 178 2 v' (i + 1) (ccs z r (i + 1))
     rw [HIc.out]
     exact hown'
    have HW1 : Hid (Below w.heap.size w w1) := (rbel_al HW.out).grown hgrow (by simp; omega) (fun j hj => HBk.out j hj)
    clear hown' hgrow HN HBk HIc HW
    go_wp2
    go_roundw
    case rel => exact ⟨i + 1, by omega, by go_num, fun j hj => by
     by_cases e : j = i
     ·subst e; rw [hzi, hri]; exact HZ.out
     ·exact HO.out j (by omega), HO1.out, HW1.out⟩
    case measure => simp [intOf]; omega
   ·have HB : Hid (BeE m z m r p 1) := Or.inr (Or.inr (Or.inl ⟨H.out, rfl, ⟨i, hlt, by omega⟩, rfl⟩))
    have hc : (z i < 0) ∨ (¬ z i < 0 ∧ 1000000 < z i) ∨ (¬ z i < 0 ∧ ¬ 1000000 < z i ∧ r i < -p) ∨ (¬ z i < 0 ∧ ¬ 1000000 < z i ∧ ¬ r i < -p ∧ p < r i) := by omega
    clear hz hw hP1 hP2 HS HR hown HN
    rcases hc with a | ⟨a, b⟩ | ⟨a, b, c⟩ | ⟨a, b, c, d⟩
    ·have d1 : decide (z i < 0) = true := decide_eq_true a
     go_wp2
     go_ret2
     exact wnR_bad HB.out (by decide) HW.out
    ·have d1 : decide (z i < 0) = false := decide_eq_false a
     have d2 : decide (1000000 < z i) = true := decide_eq_true b
     go_wp2
     go_ret2
     exact wnR_bad HB.out (by decide) HW.out
    ·have d1 : decide (z i < 0) = false := decide_eq_false a
     have d2 : decide (1000000 < z i) = false := decide_eq_false b
     have d3 : decide (r i < -p) = true := decide_eq_true c
     go_wp2
     go_ret2
     exact wnR_bad HB.out (by decide) HW.out
    ·have d1 : decide (z i < 0) = false := decide_eq_false a
     have d2 : decide (1000000 < z i) = false := decide_eq_false b
     have d3 : decide (r i < -p) = false := decide_eq_false c
     have d4 : decide (p < r i) = true := decide_eq_true d
     go_wp2
     go_ret2
     exact wnR_bad HB.out (by decide) HW.out
  ·have hl : ¬ ((i : Int) < m) := by omega
   have e' : i = m := by omega
   subst e'
   obtain ⟨g, c, rfl, hC, hg1, hg2⟩ := own_clocks hown H.out.2.2.1
   have HB : Hid (BeE i z i r p 0) := Or.inr (Or.inr (Or.inr ⟨H.out, rfl, HO.out, rfl⟩))
   have HC : Hid (Cls wr g i z r ∧ w.heap.size ≤ g ∧ g < wr.heap.size) := ⟨hC, hg1, hg2⟩
   clear hown HN hC hw HS HR HO
   go_wp2
   go_ret2
   exact pw_made HB.out HC.out.1 HC.out.2.1 HC.out.2.2 HW.out
end Go.Proofs.YtadkgnbagmnkkakGreatDoor
