/- What package world answers: which clocks there are, what they show, and how time goes on. -/
import Derived.Test.YtigcliepeapcpajGreatDoorNm06
import Derived.BigQuiet
import Derived.Deep.QuietTactic
import Derived.Deep.RegionWith
import Derived.Deep.CutRange
import Derived.Deep.CutBlock
import Derived.IntWalk
namespace Go.Proofs.YtigcliepeapcpajGreatDoor
open Go.ChangeShapes Go.WideShapes Go.ChangeAt Go.RowKit Go.Joins
set_option linter.unusedVariables false
set_option linter.unusedSimpArgs false

section
variable {u : World} {mb cb cc : Nat} {S : Ws} {v : Value}
set_option maxRecDepth 100000 in
set_option maxHeartbeats 4000000 in
theorem iscl (h : PW u mb cb cc S v) (hI : S.I) (i : Int) (b : Bool) (hb : b = decide (0 ≤ i ∧ i < (S.n : Int))) :
    Calls Tryz.prog 48 #[.pointer (some ⟨mb, 0, none⟩), .int .i64 i] u fun o w' => o = .returned (.bool b) ∧ w' = u := by
  have c0 := h.r.c 0 _ rfl
  have l0 := h.r.lt
  have n6 := hI.n6
  clear h hI
  subst hb
  generalize S.n = n at *
  by_cases h : 0 ≤ i
  · by_cases h2 : i < n
    · rw [show decide (0 ≤ i ∧ i < (n : Int)) = true from decide_eq_true ⟨h, h2⟩]
      have d1 : decide (i < (n : Int)) = true := decide_eq_true h2
      go_enter Tryz.func48, Tryz.ntmps48
      go_wp2
      go_ret
      exact ⟨rfl, rfl⟩
    · rw [show decide (0 ≤ i ∧ i < (n : Int)) = false from decide_eq_false (fun q => h2 q.2)]
      have d1 : decide (i < (n : Int)) = false := decide_eq_false h2
      go_enter Tryz.func48, Tryz.ntmps48
      go_wp2
      go_ret
      exact ⟨rfl, rfl⟩
  · rw [show decide (0 ≤ i ∧ i < (n : Int)) = false from decide_eq_false (fun q => h q.1)]
    have d1 : decide (0 ≤ i) = false := decide_eq_false h
    go_enter Tryz.func48, Tryz.ntmps48
    go_wp2
    go_ret
    exact ⟨rfl, rfl⟩
set_option maxRecDepth 100000 in
set_option maxHeartbeats 8000000 in
theorem shown (h : PW u mb cb cc S v) (hI : S.I) (i : Nat) (hi : i < S.n) :
    Calls Tryz.prog 49 #[.pointer (some ⟨mb, 0, none⟩), .int .i64 i] u fun o w' => o = .returned (.int .i64 (S.rd i)) ∧ Below u.heap.size u w' := by
  have c0 := h.r.c 0 _ rfl
  have c1 := h.r.c 1 _ rfl
  have l0 := h.r.lt
  have l1 := h.kl
  obtain ⟨x1, x2⟩ := h.k i hi
  obtain ⟨s1, s2⟩ := hI.st i hi
  obtain ⟨a1, a2⟩ := hI.ra i hi
  have t0 := hI.t0
  have t1 := hI.t1
  have n6 := hI.n6
  have hl : (i : Int) < (S.n : Int) := by omega
  have e : S.rd i = S.starts i + (S.time * (1000000 + S.rates i)).tdiv 1000000 := by
    have p0 : 0 ≤ S.time * (1000000 + S.rates i) := Int.mul_nonneg t0 (by omega)
    have p1 : S.time * (1000000 + S.rates i) = S.time * S.rates i + S.time * 1000000 := by grind
    rw [Int.tdiv_eq_ediv_of_nonneg p0, p1, Int.add_mul_ediv_right _ _ (by decide)]
    unfold Ws.rd
    omega
  obtain ⟨r1, r2, r3, r4, r5, r6⟩ := Ws.rd_in hI hi
  rw [e] at r5 r6 ⊢
  clear e r1 r2 hI h
  generalize S.time = T at *
  generalize S.rates i = rr at *
  generalize S.starts i = st at *
  generalize S.n = n at *
  have w1 : IntKind.i64.wrap (1000000 + rr) = 1000000 + rr := IntWalk.i64_in _ (by omega)
  have p1 : T * (1000000 + rr) = T * rr + T * 1000000 := by grind
  have w2 : IntKind.i64.wrap (T * (1000000 + rr)) = T * (1000000 + rr) := IntWalk.i64_in _ (by omega)
  obtain ⟨q, hq⟩ : ∃ q, (T * (1000000 + rr)).tdiv 1000000 = q := ⟨_, rfl⟩
  rw [hq] at r5 r6 ⊢
  have w3 : IntKind.i64.wrap ((T * (1000000 + rr)).tdiv 1000000) = q := by rw [hq]; exact IntWalk.i64_in _ (by omega)
  have w4 : IntKind.i64.wrap (st + q) = st + q := IntWalk.i64_in _ (by omega)
  have w5 : IntKind.i64.wrap q = q := IntWalk.i64_in _ (by omega)
  clear p1 r3 r4
  go_enter Tryz.func49, Tryz.ntmps49
  go_wp2
  go_quiet (fail)
  go_wp2
  go_ret
  exact ⟨by simp [*], rbel_drn (rbel_al (Below.refl _ _))⟩
set_option maxRecDepth 100000 in
set_option maxHeartbeats 4000000 in
theorem wread_any (h : PW u mb cb cc S v) (hI : S.I) (i : Int) :
    Calls Tryz.prog 24 #[.pointer (some ⟨mb, 0, none⟩), .int .i64 i] u fun o w' => ((S.hs i ∧ o = .returned (.tuple #[.int .i64 (S.rd i.toNat), errc 0])) ∨ (¬ S.hs i ∧ o = .returned (.tuple #[.int .i64 0, errc 1]))) ∧ Below u.heap.size u w' := by
  rw [errc_zero, errc_not (e := 1) (by decide)]
  by_cases hh : S.hs i
  · have c1 := iscl h hI i true (decide_eq_true (p := 0 ≤ i ∧ i < (S.n : Int)) hh).symm
    obtain ⟨k, rfl⟩ : ∃ k : Nat, i = k := ⟨i.toNat, by have := hh.1; omega⟩
    have c2 := shown h hI k (by have := hh.2; omega)
    rw [show (k : Int).toNat = k by omega]
    have HH : Hid (S.hs k) := hh
    clear h hI hh
    generalize S.rd k = t at *
    go_enter Tryz.func24, Tryz.ntmps24
    go_wp2_with (first | (go_at_call 48; refine c1.mono ?_; rintro o u1 ⟨rfl, hu⟩; rw [hu]; clear hu) | (go_at_call 49; refine c2.mono ?_; rintro o u2 ⟨rfl, hb⟩; have HB : Hid (Below u.heap.size u u2) := hb; clear hb))
    go_ret2
    exact ⟨Or.inl ⟨HH.out, rfl⟩, HB.out⟩
  · have c1 := iscl h hI i false (decide_eq_false (p := 0 ≤ i ∧ i < (S.n : Int)) hh).symm
    have HH : Hid (¬ S.hs i) := hh
    clear h hI hh
    go_enter Tryz.func24, Tryz.ntmps24
    go_wp2_with (go_at_call 48; refine c1.mono ?_; rintro o u1 ⟨rfl, hu⟩; rw [hu]; clear hu)
    go_ret2
    exact ⟨Or.inr ⟨HH.out, rfl⟩, Below.refl _ _⟩
set_option maxRecDepth 100000 in
set_option maxHeartbeats 4000000 in
theorem goon_bad (h : PW u mb cb cc S v) (hI : S.I) (a : Int) (hb : a < 0 ∨ 1000000 < a ∨ 1000000000 < S.time + a) :
    Calls Tryz.prog 42 #[.pointer (some ⟨mb, 0, none⟩), .int .i64 a] u fun o w' => o = .returned (errc 1) ∧ w' = u := by
  have c1 := h.r.c 1 _ rfl
  have l0 := h.r.lt
  have t0 := hI.t0
  have t1 := hI.t1
  clear h hI
  rw [errc_not (e := 1) (by decide)]
  generalize S.time = T at *
  have hc : a < 0 ∨ (¬ a < 0 ∧ 1000000 < a) ∨ (¬ a < 0 ∧ ¬ 1000000 < a ∧ 1000000000 < T + a) := by omega
  rcases hc with d1 | ⟨d1, d2⟩ | ⟨d1, d2, d3⟩
  · have e1 : decide (a < 0) = true := decide_eq_true d1
    clear hb
    go_enter Tryz.func42, Tryz.ntmps42
    go_wp2
    go_ret
    exact ⟨rfl, rfl⟩
  · have e1 : decide (a < 0) = false := decide_eq_false d1
    have e2 : decide (1000000 < a) = true := decide_eq_true d2
    clear hb
    go_enter Tryz.func42, Tryz.ntmps42
    go_wp2
    go_ret
    exact ⟨rfl, rfl⟩
  · have e1 : decide (a < 0) = false := decide_eq_false d1
    have e2 : decide (1000000 < a) = false := decide_eq_false d2
    have e3 : decide (1000000000 < T + a) = true := decide_eq_true d3
    have wr : IntKind.i64.wrap (T + a) = T + a := IntWalk.i64_in _ (by omega)
    clear hb
    go_enter Tryz.func42, Tryz.ntmps42
    go_wp2
    go_ret
    exact ⟨rfl, rfl⟩
set_option maxRecDepth 100000 in
set_option maxHeartbeats 4000000 in
theorem goon_ok (h : PW u mb cb cc S v) (hI : S.I) (a : Int) (hb : 0 ≤ a ∧ a ≤ 1000000 ∧ S.time + a ≤ 1000000000) :
    Calls Tryz.prog 42 #[.pointer (some ⟨mb, 0, none⟩), .int .i64 a] u fun o w' => o = .returned (errc 0) ∧ PW w' mb cb cc { S with time := S.time + a } v ∧ KpW u w' mb cb v v := by
  have HL : Hid (PW (u.setCell ⟨mb, 1, none⟩ (.int .i64 (S.time + a))) mb cb cc { S with time := S.time + a } v ∧ KpW u (u.setCell ⟨mb, 1, none⟩ (.int .i64 (S.time + a))) mb cb v v) := h.late (Below.refl _ _)
  have c1 := h.r.c 1 _ rfl
  have f1 := h.r.f 1 _ rfl
  have l0 := h.r.lt
  have t0 := hI.t0
  have t1 := hI.t1
  clear h hI
  rw [errc_zero]
  generalize S.time = T at *
  have e1 : decide (a < 0) = false := decide_eq_false (by omega)
  have e2 : decide (1000000 < a) = false := decide_eq_false (by omega)
  have e3 : decide (1000000000 < T + a) = false := decide_eq_false (by omega)
  have d1 : ¬ a < 0 := by omega
  have d2 : ¬ 1000000 < a := by omega
  have d3 : ¬ 1000000000 < T + a := by omega
  have wr : IntKind.i64.wrap (T + a) = T + a := IntWalk.i64_in _ (by omega)
  clear hb
  go_enter Tryz.func42, Tryz.ntmps42
  go_wp2
  go_ret
  exact ⟨rfl, HL.out.1, HL.out.2⟩
end
end Go.Proofs.YtigcliepeapcpajGreatDoor
