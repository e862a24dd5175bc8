/- Worlds behind calls that lay blocks of their own and turn nothing. What package leap reckons of leaps: by, more, begin. What civil.Days, Check and Number answer. What the closures of civil.Of answer, and how sort.Search finds a place with them. Steps of what package digits answers. -/
import Derived.Test.YtigcliepeapcpajGreatDoorNm03
import Derived.Shelf.SlSorted.Search
import Derived.Shelf.SlSortCmp.QuietGrown
import Derived.WalkKit
import Derived.ProofKit
import Derived.OpenShut
import Derived.Outline
import Derived.IntWalk
import Derived.Below
import Derived.WalkLawsBesides
import Derived.BigQuiet
import Derived.Test.YtigcliepeapcpajGreatDoorNm19
import Derived.Deep.QuietTactic
import Derived.Test.YtigcliepeapcpajGreatDoorCivilLay
import Derived.Test.YtigcliepeapcpajGreatDoorNm04
import Derived.Test.YtigcliepeapcpajGreatDoorNm02
import Derived.Deep.Draws
namespace Go.Proofs.YtigcliepeapcpajGreatDoor
open Go.ChangeShapes Go.WideShapes Go.ChangeAt Go.RowKit
set_option linter.unusedVariables false

/-- A world behind another one: some draws, some blocks behind it, nothing else. -/
def Gr (w u : World) : Prop := ∃ q os, u = Go.Sort.grow (w.drewN q) os
section
variable {w u v : World} {o : Obj} {n : Nat}
theorem Gr.refl : Gr w w := ⟨0, #[], by rw [Go.Sort.grow_empty]; rfl⟩
theorem Gr.same (h : u = w) : Gr w u := by rw [h]; exact Gr.refl
theorem Gr.al (h : Gr w u) : Gr w (u.alloc o) := by
  obtain ⟨q, os, rfl⟩ := h
  exact ⟨q, os ++ #[o], by rw [Go.Sort.alloc_eq_grow, Go.Sort.grow_grow]⟩
theorem Gr.tr (h : Gr w u) (k : Gr u v) : Gr w v := by
  obtain ⟨q, os, rfl⟩ := h
  obtain ⟨q', os', rfl⟩ := k
  refine ⟨q + q', os ++ os', ?_⟩
  show Go.Sort.grow (Go.Sort.grow ((w.drewN q).drewN q') os) os' = _
  rw [Go.Sort.grow_grow, World.drewN_drewN]
theorem Gr.drn (h : Gr w u) : Gr w (u.drewN n) := h.tr ⟨n, #[], by rw [Go.Sort.grow_empty]⟩
theorem Gr.grown (h : Gr w u) (n : Nat) (os : Array Obj) : Gr w (Go.Sort.grow (u.drewN n) os) := h.tr ⟨n, os, rfl⟩
theorem Gr.below (h : Gr w u) : Below w.heap.size w u := by
  obtain ⟨q, os, rfl⟩ := h
  exact below_grown_sl _ _ _ _ (Nat.le_refl _)
end
theorem gcount_first (p : Nat → Bool) : ∀ (N k : Nat), k ≤ N → (∀ i, i < k → p i = false) → (∀ i, k ≤ i → i < N → p i = true) → (List.range N).countP (fun i => !p i) = k
  | 0, k, hk, _, _ => by simp; omega
  | N + 1, k, hk, h1, h2 => by
    rw [List.range_succ, List.countP_append]
    by_cases e : k = N + 1
    · subst e
      rw [gcount_first p N N (Nat.le_refl _) (fun i hi => h1 i (by omega)) (fun i a b => absurd a (by omega))]
      simp [h1 N (by omega)]
    · rw [gcount_first p N k (by omega) h1 (fun i a b => h2 i a (by omega))]
      simp [h2 N (by omega) (by omega)]
end Go.Proofs.YtigcliepeapcpajGreatDoor
namespace Go.Proofs.YtigcliepeapcpajGreatDoor
open Go.ChangeShapes Go.WideShapes Go.ChangeAt Go.RowKit
set_option linter.unusedVariables false
set_option linter.unusedSimpArgs false

set_option maxHeartbeats 400000 in
theorem by_any (d : Int) (b : Bool) (w : World) :
    Calls Tryz.prog 79 #[.agg #[.int .i64 d, .bool b]] w fun e w' => e = .returned (.int .i64 (sgn b)) ∧ Gr w w' := by
  cases b with
  | true =>
    go_enter Tryz.func79, Tryz.ntmps79
    go_wp2
    go_ret
    exact ⟨rfl, Gr.refl.al⟩
  | false =>
    go_enter Tryz.func79, Tryz.ntmps79
    go_wp2
    go_ret
    exact ⟨rfl, Gr.refl.al⟩
set_option maxHeartbeats 2000000 in
theorem more_row (b off n cap : Nat) (q : Nat → Int × Bool) (d : Int) (w : World) (h20 : n ≤ 20) (hP : Lsp w b off n q) :
    Calls Tryz.prog 64 #[.slice (some ⟨b, off, none⟩) n cap, .int .i64 d] w fun e w' => e = .returned (.int .i64 (mor q n d)) ∧ Gr w w' := by
  have HP : Hid (Lsp w b off n q) := hP
  clear hP
  go_enter Tryz.func64, Tryz.ntmps64
  go_wp2
  go_loopw [5, 10] (fun v i wr => ∃ k : Nat, k ≤ n ∧ i = .int .i64 k ∧ v = .int .i64 (mor q k d) ∧ Gr w wr) (fun _ i _ => n - (intOf i).toNat)
  case atStart => exact ⟨0, Nat.zero_le _, rfl, rfl, Gr.refl⟩
  case round =>
    obtain ⟨k, hk, rfl, rfl, hg⟩ := hrel
    obtain ⟨m1, m2⟩ := mor_le (q := q) k d
    by_cases hlt : k < n
    · obtain ⟨x0, x1⟩ := (HP.out.on hg.below) k hlt
      have cK := fun u => by_any (q k).1 (q k).2 u
      have MS : Hid (mor q (k + 1) d = mor q k d + if (q k).1 < d then sgn (q k).2 else 0) := rfl
      obtain ⟨s1, s2⟩ := sgn_le (q k).2
      by_cases c : (q k).1 < d
      · have MS : Hid (mor q (k + 1) d = mor q k d + sgn (q k).2) := MS.out.trans (by rw [if_pos c])
        go_wp2_with (go_at_call 79; refine (cK _).mono ?_; rintro e u ⟨rfl, hu⟩; have hg2 : Gr w u := hg.al.tr hu; clear hu)
        go_roundw
        case rel => exact ⟨k + 1, by omega, by go_num, by rw [MS.out], hg2⟩
        case measure => simp [intOf]; omega
      · have MS : Hid (mor q (k + 1) d = mor q k d) := MS.out.trans (by rw [if_neg c]; omega)
        go_wp2
        go_roundw
        case rel => exact ⟨k + 1, by omega, by go_num, by rw [MS.out], hg.al⟩
        case measure => simp [intOf]; omega
    · have kn : k = n := by omega
      subst kn
      go_wp2
      go_ret
      exact ⟨rfl, hg⟩
set_option maxHeartbeats 1000000 in
theorem more_none (a : Option Addr) (cap : Nat) (q : Nat → Int × Bool) (d : Int) (w : World) :
    Calls Tryz.prog 64 #[.slice a 0 cap, .int .i64 d] w fun e w' => e = .returned (.int .i64 (mor q 0 d)) ∧ Gr w w' := by
  go_enter Tryz.func64, Tryz.ntmps64
  go_wp2
  refine wp_loop_rounds 1 ?_
  rw [rounds_succ]
  go_wp2
  go_ret
  exact ⟨rfl, Gr.refl⟩
theorem more_any (a : Option Addr) (n cap : Nat) (q : Nat → Int × Bool) (d : Int) (w : World) (h20 : n ≤ 20) (hH : LHanded w a n q) :
    Calls Tryz.prog 64 #[.slice a n cap, .int .i64 d] w fun e w' => e = .returned (.int .i64 (mor q n d)) ∧ Gr w w' := by
  rcases hH.2 with rfl | ⟨b, off, rfl, hP⟩
  · exact more_none a cap q d w
  · exact more_row b off n cap q d w h20 hP
set_option maxHeartbeats 1000000 in
theorem begin_any (a : Option Addr) (n cap : Nat) (q : Nat → Int × Bool) (d : Int) (w : World) (h20 : n ≤ 20) (hH : LHanded w a n q) (h0 : 0 ≤ d) (h1 : d ≤ 100000) :
    Calls Tryz.prog 36 #[.slice a n cap, .int .i64 d] w fun e w' => e = .returned (.int .i64 (bg q n d)) ∧ Gr w w' := by
  have cM := more_any a n cap q d w h20 hH
  have ml := mor_le (q := q) n d
  have B : Hid (bg q n d = 86400 * d + mor q n d) := rfl
  obtain ⟨m1, m2⟩ := ml
  clear hH
  go_enter Tryz.func36, Tryz.ntmps36
  go_wp2_with (go_at_call 64; refine cM.mono ?_; rintro e u ⟨rfl, hu⟩)
  go_ret
  exact ⟨by rw [B.out]; rfl, hu⟩
end Go.Proofs.YtigcliepeapcpajGreatDoor
namespace Go.Proofs.YtigcliepeapcpajGreatDoor
open Go.ChangeShapes Go.WideShapes Go.ChangeAt Go.RowKit
set_option linter.unusedVariables false
set_option linter.unusedSimpArgs false

theorem before_m (y m : Int) (w : World) (h0 : 1970 ≤ y) (h1 : y ≤ 2199) (h2 : 1 ≤ m) (h3 : m ≤ 13) (he : EnvA w) :
    Calls Tryz.prog 63 #[.int .i64 y, .int .i64 m] w fun e w' => e = .returned (.int .i64 (moff y (m - 1).toNat)) ∧ w' = w := by
  obtain ⟨k, rfl⟩ : ∃ k : Nat, m = (k : Int) + 1 := ⟨(m - 1).toNat, by omega⟩
  have := before_any y k w h0 h1 (by omega) he
  rwa [show ((k : Int) + 1 - 1).toNat = k by omega]
theorem mdays_moff (y m : Int) (h2 : 1 ≤ m) : moff y (m + 1 - 1).toNat - moff y (m - 1).toNat = mdays y m := by
  obtain ⟨k, rfl⟩ : ∃ k : Nat, m = (k : Int) + 1 := ⟨(m - 1).toNat, by omega⟩
  rw [show ((k : Int) + 1 + 1 - 1).toNat = k + 1 by omega, show ((k : Int) + 1 - 1).toNat = k by omega]
  show moff y k + mdays y (1 + k) - moff y k = _
  rw [show (1 + (k : Int)) = (k : Int) + 1 by omega]
  omega
theorem ret_ie {a b : Int} (h : a = b) (v : Value) : Ending.returned (.tuple #[.int .i64 a, v]) = .returned (.tuple #[.int .i64 b, v]) := by rw [h]

set_option maxHeartbeats 1000000 in
theorem days_ok (y m : Int) (w : World) (h0 : 1970 ≤ y) (h1 : y ≤ 2199) (h2 : 1 ≤ m) (h3 : m ≤ 12) (he : EnvA w) :
    Calls Tryz.prog 80 #[.int .i64 y, .int .i64 m] w fun e w' => e = .returned (.tuple #[.int .i64 (mdays y m), .nilIface]) ∧ w' = w := by
  have E : Hid (moff y (m + 1 - 1).toNat - moff y (m - 1).toNat = mdays y m) := mdays_moff y m h2
  have c1 := before_m y (m + 1) w h0 h1 (by omega) (by omega) he
  have c2 := before_m y m w h0 h1 (by omega) (by omega) he
  obtain ⟨a1, a2⟩ := moff_in y (m + 1 - 1).toNat (by omega)
  obtain ⟨b1, b2⟩ := moff_in y (m - 1).toNat (by omega)
  generalize moff y (m + 1 - 1).toNat = a at *
  generalize moff y (m - 1).toNat = b at *
  clear he
  have cnt : Mark 0 := .mk _
  go_enter Tryz.func80, Tryz.ntmps80
  go_wp2_with (first | (go_at_call 63; have cq : Mark 0 := cnt; refine c1.mono ?_; clear cq cnt; have cnt : Mark 1 := .mk _; rintro e u ⟨rfl, hu⟩; rw [hu]; clear hu) | (go_at_call 63; have cq : Mark 1 := cnt; refine c2.mono ?_; clear cq cnt; have cnt : Mark 2 := .mk _; rintro e u ⟨rfl, hu⟩; rw [hu]; clear hu))
  go_ret2
  exact ⟨ret_ie E.out _, rfl⟩

set_option maxHeartbeats 1000000 in
theorem days_no (y m : Int) (w : World) (wy : In64 y) (wm : In64 m) (h : ¬ (1970 ≤ y ∧ y ≤ 2199 ∧ 1 ≤ m ∧ m ≤ 12)) :
    Calls Tryz.prog 80 #[.int .i64 y, .int .i64 m] w fun e w' => e = .returned (.tuple #[.int .i64 0, .iface 71 (.int .i64 1)]) ∧ w' = w := by
  by_cases h1 : y < 1970
  · clear h
    go_enter Tryz.func80, Tryz.ntmps80
    go_wp2
    go_ret2
    exact ⟨rfl, rfl⟩
  · by_cases h2 : 2199 < y
    · clear h
      go_enter Tryz.func80, Tryz.ntmps80
      go_wp2
      go_ret2
      exact ⟨rfl, rfl⟩
    · by_cases h3 : m < 1
      · clear h
        go_enter Tryz.func80, Tryz.ntmps80
        go_wp2
        go_ret2
        exact ⟨rfl, rfl⟩
      · have h4 : 12 < m := by omega
        clear h
        go_enter Tryz.func80, Tryz.ntmps80
        go_wp2
        go_ret2
        exact ⟨rfl, rfl⟩

set_option maxHeartbeats 1000000 in
theorem ccheck_any (y m d : Int) (w : World) (wy : In64 y) (wm : In64 m) (wd : In64 d) (he : EnvA w) :
    Calls Tryz.prog 65 #[.agg #[.int .i64 y, .int .i64 m, .int .i64 d]] w fun e w' => e = .returned (errc (eD y m d)) ∧ Below w.heap.size w w' := by
  have bel : Below w.heap.size w (w.alloc (.cells #[.int .i64 y, .int .i64 m, .int .i64 d] 51)) := rbel_al (Below.refl _ _)
  by_cases h : 1970 ≤ y ∧ y ≤ 2199 ∧ 1 ≤ m ∧ m ≤ 12
  · obtain ⟨h1, h2, h3, h4⟩ := h
    have c := days_ok y m _ h1 h2 h3 h4 (he.below bel)
    obtain ⟨k1, k2⟩ := mdays_le y m
    have E : Hid (eD y m d = if 1 ≤ d ∧ d ≤ mdays y m then 0 else 1) := by
      show _ = _
      unfold eD okD
      by_cases q : 1 ≤ d ∧ d ≤ mdays y m
      · rw [if_pos q, if_pos (decide_eq_true ⟨h1, h2, h3, h4, q.1, q.2⟩)]
      · rw [if_neg q, if_neg (fun e => q ((of_decide_eq_true e).2.2.2.2))]
    generalize mdays y m = k at *
    clear he
    by_cases q1 : d < 1
    · have E2 : Hid (.iface 71 (.int .i64 1) = errc (eD y m d)) := by show _ = _; rw [E.out, if_neg (by omega)]; rfl
      go_enter Tryz.func65, Tryz.ntmps65
      go_wp2_with (go_at_call 80; refine c.mono ?_; rintro e u ⟨rfl, hu⟩; rw [hu]; clear hu)
      go_ret
      exact ⟨congrArg Ending.returned E2.out, bel⟩
    · by_cases q2 : k < d
      · have E2 : Hid (.iface 71 (.int .i64 1) = errc (eD y m d)) := by show _ = _; rw [E.out, if_neg (by omega)]; rfl
        go_enter Tryz.func65, Tryz.ntmps65
        go_wp2_with (go_at_call 80; refine c.mono ?_; rintro e u ⟨rfl, hu⟩; rw [hu]; clear hu)
        go_ret
        exact ⟨congrArg Ending.returned E2.out, bel⟩
      · have E2 : Hid (.nilIface = errc (eD y m d)) := by show _ = _; rw [E.out, if_pos (by omega)]; rfl
        go_enter Tryz.func65, Tryz.ntmps65
        go_wp2_with (go_at_call 80; refine c.mono ?_; rintro e u ⟨rfl, hu⟩; rw [hu]; clear hu)
        go_ret
        exact ⟨congrArg Ending.returned E2.out, bel⟩
  · have c := days_no y m (w.alloc (.cells #[.int .i64 y, .int .i64 m, .int .i64 d] 51)) wy wm h
    have E2 : Hid (.iface 71 (.int .i64 1) = errc (eD y m d)) := by
      show _ = _
      rw [eD_no (decide_eq_false (fun q => h ⟨q.1, q.2.1, q.2.2.1, q.2.2.2.1⟩))]; rfl
    clear h he
    go_enter Tryz.func65, Tryz.ntmps65
    go_wp2_with (go_at_call 80; refine c.mono ?_; rintro e u ⟨rfl, hu⟩; rw [hu]; clear hu)
    go_ret
    exact ⟨congrArg Ending.returned E2.out, bel⟩

end Go.Proofs.YtigcliepeapcpajGreatDoor
namespace Go.Proofs.YtigcliepeapcpajGreatDoor
open Go.ChangeShapes Go.WideShapes Go.ChangeAt Go.RowKit
set_option linter.unusedVariables false
set_option linter.unusedSimpArgs false

theorem count_first (p : Nat → Bool) : ∀ (N k : Nat), k ≤ N → (∀ i, i < k → p i = false) → (∀ i, k ≤ i → i < N → p i = true) → (List.range N).countP (fun i => !p i) = k
  | 0, k, hk, _, _ => by simp; omega
  | N + 1, k, hk, h1, h2 => by
    rw [List.range_succ, List.countP_append]
    by_cases e : k = N + 1
    · subst e
      rw [count_first p N N (Nat.le_refl _) (fun i hi => h1 i (by omega)) (fun i a b => absurd a (by omega))]
      simp [h1 N (by omega)]
    · rw [count_first p N k (by omega) h1 (fun i a b => h2 i a (by omega))]
      simp [h2 N (by omega) (by omega)]

/-- sort.Search with a closure that only reads what was there: the first place at which it says yes. -/
theorem search_at (g : Nat) (cb : Array Value) (N k : Nat) (p : Nat → Bool) (w : World) (eg : ∀ args w, (callFunc g args).run Tryz.prog w = .ok (.enter g args) w) (hN : N < 1000) (hk : k ≤ N)
    (hf : ∀ u i, Below w.heap.size w u → i < N → Calls Tryz.prog g (#[.int .i64 i] ++ cb) u fun e w' => e = .returned (.bool (p i)) ∧ ∃ q, w' = u.drewN q)
    (h1 : ∀ i, i < k → p i = false) (h2 : ∀ i, k ≤ i → i < N → p i = true) :
    Calls Tryz.prog 58 #[.int .i64 N, .func (.func g) #[] cb] w fun e w' => e = .returned (.int .i64 k) ∧ Below w.heap.size w w' := by
  have h := Any.sort_Search Tryz.search g cb N p w eg (by omega)
    (fun m os i hi => (hf _ i (below_grown_sl _ w m os (Nat.le_refl _)) hi).mono fun e w' ⟨he, q, hq⟩ => ⟨he, q, #[], by rw [hq, Go.Sort.grow_empty]⟩)
    (fun a b hab hb h => by
      by_cases c : b < k
      · have := h1 a (by omega); rw [this] at h; cases h
      · exact h2 b (by omega) hb)
  rw [count_first p N k hk h1 h2] at h
  refine h.mono ?_
  rintro e w' ⟨rfl, q, os, rfl⟩
  exact ⟨rfl, below_grown_sl _ w q os (Nat.le_refl _)⟩

set_option maxHeartbeats 1000000 in
theorem of1_any (n : Int) (i B : Nat) (w : World) (hi : i < 229) (hn : w.cell? ⟨B, 0, none⟩ = some (.int .i64 n)) :
    Calls Tryz.prog 60 (#[.int .i64 i] ++ #[.pointer (some ⟨B, 0, none⟩)]) w fun e w' => e = .returned (.bool (decide (n < yoff (i + 1)))) ∧ ∃ q, w' = w.drewN q := by
  have cN := fun u => newYear_any (1970 + (i : Int) + 1) u (by omega) (by omega)
  rw [show (1970 + (i : Int) + 1 - 1970).toNat = i + 1 by omega] at cN
  generalize yoff (i + 1) = a at *
  have w1 : IntKind.i64.wrap (1970 + (i : Int)) = 1970 + (i : Int) := IntWalk.i64_in _ (by omega)
  have w2 : IntKind.i64.wrap (1970 + (i : Int) + 1) = 1970 + (i : Int) + 1 := IntWalk.i64_in _ (by omega)
  go_enter Tryz.func60, Tryz.ntmps60
  go_wp2
  go_quiet (first | (go_at_call 61; refine Calls.quiet_of_same (cN _)))
  go_wp2
  go_ret
  exact ⟨rfl, _, rfl⟩

set_option maxHeartbeats 1000000 in
theorem of2_any (n y : Int) (i B C : Nat) (w : World) (hi : i < 11) (h1 : 1970 ≤ y) (h2 : y ≤ 2199) (hn : w.cell? ⟨B, 0, none⟩ = some (.int .i64 n)) (hy : w.cell? ⟨C, 0, none⟩ = some (.int .i64 y)) (he : EnvA w) :
    Calls Tryz.prog 62 (#[.int .i64 i] ++ #[.pointer (some ⟨B, 0, none⟩), .pointer (some ⟨C, 0, none⟩)]) w fun e w' => e = .returned (.bool (decide (n < moff y (i + 1)))) ∧ ∃ q, w' = w.drewN q := by
  have cB := fun u (hu : EnvA u) => before_m y ((i : Int) + 2) u h1 h2 (by omega) (by omega) hu
  rw [show ((i : Int) + 2 - 1).toNat = i + 1 by omega] at cB
  generalize moff y (i + 1) = a at *
  have w2 : IntKind.i64.wrap ((i : Int) + 2) = (i : Int) + 2 := IntWalk.i64_in _ (by omega)
  have HE : Hid (EnvA w) := he
  clear he
  go_enter Tryz.func62, Tryz.ntmps62
  go_wp2
  go_quiet (first | (go_at_call 63; refine Calls.quiet_of_same (cB _ (HE.out.drn _))))
  go_wp2
  go_ret
  exact ⟨rfl, _, rfl⟩

theorem of1_enters : ∀ args w, (callFunc 60 args).run Tryz.prog w = .ok (.enter 60 args) w := enters_of Tryz.func60 (by kernel_rfl) rfl
theorem of2_enters : ∀ args w, (callFunc 62 args).run Tryz.prog w = .ok (.enter 62 args) w := enters_of Tryz.func62 (by kernel_rfl) rfl

/-- The year of a number. -/
theorem search_year (n : Int) (k B : Nat) (w : World) (hk : k < 230) (h1 : yoff k ≤ n) (h2 : n < yoff (k + 1)) (hn : w.cell? ⟨B, 0, none⟩ = some (.int .i64 n)) :
    Calls Tryz.prog 58 #[.int .i64 229, .func (.func 60) #[] #[.pointer (some ⟨B, 0, none⟩)]] w fun e w' => e = .returned (.int .i64 k) ∧ Below w.heap.size w w' :=
  search_at 60 _ 229 k (fun i => decide (n < yoff (i + 1))) w of1_enters (by decide) (by omega)
    (fun u i hu hi => of1_any n i B u hi (by rw [hu.cell (World.block_lt_of_cell? _ _ hn)]; exact hn))
    (fun i hi => decide_eq_false (by have := yoff_mono (i + 1) k (by omega); omega))
    (fun i a b => decide_eq_true (by have := yoff_mono (k + 1) (i + 1) (by omega); omega))
/-- The month of a day of a year. -/
theorem search_month (n y : Int) (k B C : Nat) (w : World) (hk : k < 12) (hy1 : 1970 ≤ y) (hy2 : y ≤ 2199) (h1 : moff y k ≤ n) (h2 : n < moff y (k + 1)) (hn : w.cell? ⟨B, 0, none⟩ = some (.int .i64 n)) (hy : w.cell? ⟨C, 0, none⟩ = some (.int .i64 y)) (he : EnvA w) :
    Calls Tryz.prog 58 #[.int .i64 11, .func (.func 62) #[] #[.pointer (some ⟨B, 0, none⟩), .pointer (some ⟨C, 0, none⟩)]] w fun e w' => e = .returned (.int .i64 k) ∧ Below w.heap.size w w' :=
  search_at 62 _ 11 k (fun i => decide (n < moff y (i + 1))) w of2_enters (by decide) (by omega)
    (fun u i hu hi => of2_any n y i B C u hi hy1 hy2 (by rw [hu.cell (World.block_lt_of_cell? _ _ hn)]; exact hn) (by rw [hu.cell (World.block_lt_of_cell? _ _ hy)]; exact hy) (he.below hu))
    (fun i hi => decide_eq_false (by have := moff_mono y (i + 1) k (by omega); omega))
    (fun i a b => decide_eq_true (by have := moff_mono y (k + 1) (i + 1) (by omega); omega))
end Go.Proofs.YtigcliepeapcpajGreatDoor
namespace Go.Proofs.YtigcliepeapcpajGreatDoor
open Go.ChangeShapes Go.WideShapes Go.ChangeAt Go.RowKit
set_option linter.unusedVariables false
set_option linter.unusedSimpArgs false

theorem dret_i {a b : Int} (h : a = b) : Ending.returned (.int .i64 a) = .returned (.int .i64 b) := by rw [h]
theorem ieq_t {a b : Int} (h : a = b) : (a == b) = true := by simpa using h
theorem ieq_f {a b : Int} (h : ¬ a = b) : (a == b) = false := by simpa using h
end Go.Proofs.YtigcliepeapcpajGreatDoor
