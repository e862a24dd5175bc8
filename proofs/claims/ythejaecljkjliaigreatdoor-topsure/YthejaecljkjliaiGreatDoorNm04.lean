/- What package world answers: which clocks there are, what they show, and how time goes on. What package world answers: New. -/
import Derived.Test.YthejaecljkjliaiGreatDoorNm03
import Derived.BigQuiet
import Derived.Deep.QuietTactic
import Derived.Deep.RegionWith
import Derived.Deep.CutRange
import Derived.Deep.CutBlock
import Derived.IntWalk
import Derived.Deep.RegionLaw
import Derived.Laws.AppendOwnNone
import Derived.Maps.AppendAt
import Derived.BigRegion
namespace Go.Proofs.YthejaecljkjliaiGreatDoor
open Go.ChangeShapes Go.WideShapes Go.ChangeAt Go.RowKit Go.Joins
set_option linter.unusedVariables false
set_option linter.unusedSimpArgs false

section
variable {u : World} {mb cb cc : Nat} {S : Ws} {v : Value}
set_option maxRecDepth 100000 in
set_option maxHeartbeats 4000000 in
theorem iscl (h : PW u mb cb cc S v) (hI : S.I) (i : Int) (b : Bool) (hb : b = decide (0 ≤ i ∧ i < (S.n : Int))) :
    Calls Tryz.prog 68 #[.pointer (some ⟨mb, 0, none⟩), .int .i64 i] u fun o w' => o = .returned (.bool b) ∧ w' = u := by
  have c0 := h.r.c 0 _ rfl
  have l0 := h.r.lt
  have n6 := hI.n6
  clear h hI
  subst hb
  generalize S.n = n at *
  by_cases h : 0 ≤ i
  · by_cases h2 : i < n
    · rw [show decide (0 ≤ i ∧ i < (n : Int)) = true from decide_eq_true ⟨h, h2⟩]
      have d1 : decide (i < (n : Int)) = true := decide_eq_true h2
      go_enter Tryz.func68, Tryz.ntmps68
      go_wp2
      go_ret
      exact ⟨rfl, rfl⟩
    · rw [show decide (0 ≤ i ∧ i < (n : Int)) = false from decide_eq_false (fun q => h2 q.2)]
      have d1 : decide (i < (n : Int)) = false := decide_eq_false h2
      go_enter Tryz.func68, Tryz.ntmps68
      go_wp2
      go_ret
      exact ⟨rfl, rfl⟩
  · rw [show decide (0 ≤ i ∧ i < (n : Int)) = false from decide_eq_false (fun q => h q.1)]
    have d1 : decide (0 ≤ i) = false := decide_eq_false h
    go_enter Tryz.func68, Tryz.ntmps68
    go_wp2
    go_ret
    exact ⟨rfl, rfl⟩
set_option maxRecDepth 100000 in
set_option maxHeartbeats 8000000 in
theorem shown (h : PW u mb cb cc S v) (hI : S.I) (i : Nat) (hi : i < S.n) :
    Calls Tryz.prog 69 #[.pointer (some ⟨mb, 0, none⟩), .int .i64 i] u fun o w' => o = .returned (.int .i64 (S.rd i)) ∧ Below u.heap.size u w' := by
  have c0 := h.r.c 0 _ rfl
  have c1 := h.r.c 1 _ rfl
  have l0 := h.r.lt
  have l1 := h.kl
  obtain ⟨x1, x2⟩ := h.k i hi
  obtain ⟨s1, s2⟩ := hI.st i hi
  obtain ⟨a1, a2⟩ := hI.ra i hi
  have t0 := hI.t0
  have t1 := hI.t1
  have n6 := hI.n6
  have hl : (i : Int) < (S.n : Int) := by omega
  have e : S.rd i = S.starts i + (S.time * (1000000 + S.rates i)).tdiv 1000000 := by
    have p0 : 0 ≤ S.time * (1000000 + S.rates i) := Int.mul_nonneg t0 (by omega)
    have p1 : S.time * (1000000 + S.rates i) = S.time * S.rates i + S.time * 1000000 := by grind
    rw [Int.tdiv_eq_ediv_of_nonneg p0, p1, Int.add_mul_ediv_right _ _ (by decide)]
    unfold Ws.rd
    omega
  obtain ⟨r1, r2, r3, r4, r5, r6⟩ := Ws.rd_in hI hi
  rw [e] at r5 r6 ⊢
  clear e r1 r2 hI h
  generalize S.time = T at *
  generalize S.rates i = rr at *
  generalize S.starts i = st at *
  generalize S.n = n at *
  have w1 : IntKind.i64.wrap (1000000 + rr) = 1000000 + rr := IntWalk.i64_in _ (by omega)
  have p1 : T * (1000000 + rr) = T * rr + T * 1000000 := by grind
  have w2 : IntKind.i64.wrap (T * (1000000 + rr)) = T * (1000000 + rr) := IntWalk.i64_in _ (by omega)
  obtain ⟨q, hq⟩ : ∃ q, (T * (1000000 + rr)).tdiv 1000000 = q := ⟨_, rfl⟩
  rw [hq] at r5 r6 ⊢
  have w3 : IntKind.i64.wrap ((T * (1000000 + rr)).tdiv 1000000) = q := by rw [hq]; exact IntWalk.i64_in _ (by omega)
  have w4 : IntKind.i64.wrap (st + q) = st + q := IntWalk.i64_in _ (by omega)
  have w5 : IntKind.i64.wrap q = q := IntWalk.i64_in _ (by omega)
  clear p1 r3 r4
  go_enter Tryz.func69, Tryz.ntmps69
  go_wp2
  go_quiet (fail)
  go_wp2
  go_ret
  exact ⟨by simp [*], rbel_drn (rbel_al (Below.refl _ _))⟩
set_option maxRecDepth 100000 in
set_option maxHeartbeats 4000000 in
theorem wread_any (h : PW u mb cb cc S v) (hI : S.I) (i : Int) :
    Calls Tryz.prog 39 #[.pointer (some ⟨mb, 0, none⟩), .int .i64 i] u fun o w' => ((S.hs i ∧ o = .returned (.tuple #[.int .i64 (S.rd i.toNat), errc 0])) ∨ (¬ S.hs i ∧ o = .returned (.tuple #[.int .i64 0, errc 1]))) ∧ Below u.heap.size u w' := by
  rw [errc_zero, errc_not (e := 1) (by decide)]
  by_cases hh : S.hs i
  · have c1 := iscl h hI i true (decide_eq_true (p := 0 ≤ i ∧ i < (S.n : Int)) hh).symm
    obtain ⟨k, rfl⟩ : ∃ k : Nat, i = k := ⟨i.toNat, by have := hh.1; omega⟩
    have c2 := shown h hI k (by have := hh.2; omega)
    rw [show (k : Int).toNat = k by omega]
    have HH : Hid (S.hs k) := hh
    clear h hI hh
    generalize S.rd k = t at *
    go_enter Tryz.func39, Tryz.ntmps39
    go_wp2_with (first | (go_at_call 68; refine c1.mono ?_; rintro o u1 ⟨rfl, hu⟩; rw [hu]; clear hu) | (go_at_call 69; refine c2.mono ?_; rintro o u2 ⟨rfl, hb⟩; have HB : Hid (Below u.heap.size u u2) := hb; clear hb))
    go_ret2
    exact ⟨Or.inl ⟨HH.out, rfl⟩, HB.out⟩
  · have c1 := iscl h hI i false (decide_eq_false (p := 0 ≤ i ∧ i < (S.n : Int)) hh).symm
    have HH : Hid (¬ S.hs i) := hh
    clear h hI hh
    go_enter Tryz.func39, Tryz.ntmps39
    go_wp2_with (go_at_call 68; refine c1.mono ?_; rintro o u1 ⟨rfl, hu⟩; rw [hu]; clear hu)
    go_ret2
    exact ⟨Or.inr ⟨HH.out, rfl⟩, Below.refl _ _⟩
set_option maxRecDepth 100000 in
set_option maxHeartbeats 4000000 in
theorem goon_bad (h : PW u mb cb cc S v) (hI : S.I) (a : Int) (hb : a < 0 ∨ 1000000 < a ∨ 1000000000 < S.time + a) :
    Calls Tryz.prog 49 #[.pointer (some ⟨mb, 0, none⟩), .int .i64 a] u fun o w' => o = .returned (errc 1) ∧ w' = u := by
  have c1 := h.r.c 1 _ rfl
  have l0 := h.r.lt
  have t0 := hI.t0
  have t1 := hI.t1
  clear h hI
  rw [errc_not (e := 1) (by decide)]
  generalize S.time = T at *
  have hc : a < 0 ∨ (¬ a < 0 ∧ 1000000 < a) ∨ (¬ a < 0 ∧ ¬ 1000000 < a ∧ 1000000000 < T + a) := by omega
  rcases hc with d1 | ⟨d1, d2⟩ | ⟨d1, d2, d3⟩
  · have e1 : decide (a < 0) = true := decide_eq_true d1
    clear hb
    go_enter Tryz.func49, Tryz.ntmps49
    go_wp2
    go_ret
    exact ⟨rfl, rfl⟩
  · have e1 : decide (a < 0) = false := decide_eq_false d1
    have e2 : decide (1000000 < a) = true := decide_eq_true d2
    clear hb
    go_enter Tryz.func49, Tryz.ntmps49
    go_wp2
    go_ret
    exact ⟨rfl, rfl⟩
  · have e1 : decide (a < 0) = false := decide_eq_false d1
    have e2 : decide (1000000 < a) = false := decide_eq_false d2
    have e3 : decide (1000000000 < T + a) = true := decide_eq_true d3
    have wr : IntKind.i64.wrap (T + a) = T + a := IntWalk.i64_in _ (by omega)
    clear hb
    go_enter Tryz.func49, Tryz.ntmps49
    go_wp2
    go_ret
    exact ⟨rfl, rfl⟩
set_option maxRecDepth 100000 in
set_option maxHeartbeats 4000000 in
theorem goon_ok (h : PW u mb cb cc S v) (hI : S.I) (a : Int) (hb : 0 ≤ a ∧ a ≤ 1000000 ∧ S.time + a ≤ 1000000000) :
    Calls Tryz.prog 49 #[.pointer (some ⟨mb, 0, none⟩), .int .i64 a] u fun o w' => o = .returned (errc 0) ∧ PW w' mb cb cc { S with time := S.time + a } v ∧ KpW u w' mb cb v v := by
  have HL : Hid (PW (u.setCell ⟨mb, 1, none⟩ (.int .i64 (S.time + a))) mb cb cc { S with time := S.time + a } v ∧ KpW u (u.setCell ⟨mb, 1, none⟩ (.int .i64 (S.time + a))) mb cb v v) := h.late (Below.refl _ _)
  have c1 := h.r.c 1 _ rfl
  have f1 := h.r.f 1 _ rfl
  have l0 := h.r.lt
  have t0 := hI.t0
  have t1 := hI.t1
  clear h hI
  rw [errc_zero]
  generalize S.time = T at *
  have e1 : decide (a < 0) = false := decide_eq_false (by omega)
  have e2 : decide (1000000 < a) = false := decide_eq_false (by omega)
  have e3 : decide (1000000000 < T + a) = false := decide_eq_false (by omega)
  have d1 : ¬ a < 0 := by omega
  have d2 : ¬ 1000000 < a := by omega
  have d3 : ¬ 1000000000 < T + a := by omega
  have wr : IntKind.i64.wrap (T + a) = T + a := IntWalk.i64_in _ (by omega)
  clear hb
  go_enter Tryz.func49, Tryz.ntmps49
  go_wp2
  go_ret
  exact ⟨rfl, HL.out.1, HL.out.2⟩
end
end Go.Proofs.YthejaecljkjliaiGreatDoor
namespace Go.Proofs.YthejaecljkjliaiGreatDoor
open Go.ChangeShapes Go.WideShapes Go.ChangeAt Go.RowKit Go.Joins
set_option linter.unusedVariables false
set_option linter.unusedSimpArgs false

theorem infoClock : (Tryz.prog.info? 129).map (fun i => (i.zero, i.size, i.bytes)) = some (some (.agg #[.int .i64 0, .int .i64 0]), 2, 16) := by kernel_rfl
/-- Clocks' cells. -/
def ccs (z r : Nat → Int) : Nat → List Value
  | 0 => []
  | i + 1 => ccs z r i ++ [.int .i64 (z i), .int .i64 (r i)]
theorem ccs_len (z r : Nat → Int) (n : Nat) : (ccs z r n).length = n * 2 := by
  induction n with
  | zero => rfl
  | succ n ih => show (ccs z r n ++ _).length = _; rw [List.length_append, ih]; show n * 2 + 2 = _; omega
theorem ccs_at (z r : Nat → Int) {n i : Nat} (h : i < n) : (ccs z r n)[i * 2]? = some (.int .i64 (z i)) ∧ (ccs z r n)[i * 2 + 1]? = some (.int .i64 (r i)) := by
  induction n with
  | zero => omega
  | succ n ih =>
    have l := ccs_len z r n
    by_cases e : i = n
    · subst e
      show (ccs z r i ++ _)[i * 2]? = _ ∧ (ccs z r i ++ _)[i * 2 + 1]? = _
      rw [List.getElem?_append_right (by omega), List.getElem?_append_right (by omega), l, show i * 2 - i * 2 = 0 by omega, show i * 2 + 1 - i * 2 = 1 by omega]
      exact ⟨rfl, rfl⟩
    · obtain ⟨a, b⟩ := ih (by omega)
      show (ccs z r n ++ _)[i * 2]? = _ ∧ (ccs z r n ++ _)[i * 2 + 1]? = _
      rw [List.getElem?_append_left (by omega), List.getElem?_append_left (by omega)]
      exact ⟨a, b⟩
theorem own_clocks {w : World} {base n : Nat} {v : Value} {z r : Nat → Int} {e : TypeId} (h : w.ownsRow base e 2 v n (ccs z r n)) (hn : 1 ≤ n) : ∃ g c, v = .slice (some ⟨g, 0, none⟩) n c ∧ Cls w g n z r ∧ base ≤ g ∧ g < w.heap.size := by
  rcases h.2 with ⟨_, e⟩ | ⟨g, cap, cur, rfl, hb, hg, _⟩
  · omega
  · refine ⟨g, cap, rfl, fun i hi => ?_, hb, (h.lt g rfl).2⟩
    obtain ⟨a, b⟩ := ccs_at z r hi
    have q1 := h.cells (g := g) rfl _ _ a
    have q2 := h.cells (g := g) rfl _ _ b
    rw [Addr.add_lit, Nat.zero_add] at q1 q2
    exact ⟨q1, q2⟩
theorem own_empty_clk (w : World) (e : TypeId) (size base : Nat) (h : base ≤ w.heap.size) : (w.alloc (.cells #[] e)).ownsRow base e size (.slice (some ⟨w.heap.size, 0, none⟩) 0 0) 0 [] := by
  refine ⟨by simp, Or.inr ⟨w.heap.size, 0, #[], rfl, h, ?_, Nat.le_refl _, Nat.zero_le _, by simp, by simp⟩⟩
  show (w.heap.push _)[w.heap.size]? = _
  simp
theorem beE_one {n m : Nat} {z r : Nat → Int} {p e e' : Int} (h : BeE n z m r p e) (h' : BeE n z m r p e') : e = e' := by
  unfold BeE at h h'
  rcases h with ⟨a, rfl⟩ | ⟨a, b, rfl⟩ | ⟨a, b, ⟨i, hi, c⟩, rfl⟩ | ⟨a, b, c, rfl⟩ <;> rcases h' with ⟨a', rfl⟩ | ⟨a', b', rfl⟩ | ⟨a', b', ⟨i', hi', c'⟩, rfl⟩ | ⟨a', b', c', rfl⟩ <;> first | rfl | omega | (have := c i' hi'; omega) | (have := c' i hi; omega)
/-- What New answers. -/
def WnR (n m : Nat) (z r : Nat → Int) (p : Int) (w : World) (o : Ending) (w' : World) : Prop := ∃ e pv, BeE n z m r p e ∧ o = .returned (.tuple #[pv, errc e]) ∧ Below w.heap.size w w' ∧ (e = 0 → ∃ b cb cc, pv = .pointer (some ⟨b, 0, none⟩) ∧ PW w' b cb cc (ws0 n z r) (.slice none 0 0) ∧ w.heap.size ≤ b ∧ w.heap.size ≤ cb)
theorem wnR_bad {n m : Nat} {z r : Nat → Int} {p e : Int} {w w' : World} (h : BeE n z m r p e) (he : e ≠ 0) (hb : Below w.heap.size w w') : WnR n m z r p w (.returned (.tuple #[.pointer none, .iface 85 (.int .i64 e)])) w' :=
  ⟨e, _, h, by rw [errc_not he], hb, fun q => absurd q he⟩
theorem pw_made {n m cb cc : Nat} {z r : Nat → Int} {p : Int} {w W : World} {t : TypeId} (h : BeE n z m r p 0) (hc : Cls W cb n z r) (hl : w.heap.size ≤ cb) (hlt : cb < W.heap.size) (hb : Below w.heap.size w W) : WnR n m z r p w (.returned (.tuple #[.pointer (some ⟨W.heap.size, 0, none⟩), .nilIface])) (W.alloc (.cells #[.slice (some ⟨cb, 0, none⟩) n cc, .int .i64 0, .slice none 0 0] t)) := by
  refine ⟨0, _, h, by rw [errc_zero], rbel_al hb, fun _ => ⟨W.heap.size, cb, cc, rfl, ⟨Row.made rfl, fun i hi => ?_, by simp; omega, World.ownsRow_nil _ _ _ _, by omega, fun q => (by cases q), fun q => (by cases q)⟩, hb.size, hl⟩⟩
  obtain ⟨a, b⟩ := hc i hi
  exact ⟨by rw [World.cell?_alloc_lt _ _ _ hlt]; exact a, by rw [World.cell?_alloc_lt _ _ _ hlt]; exact b⟩
set_option maxRecDepth 100000 in
set_option maxHeartbeats 8000000 in
theorem wnew_any (sa : Option Addr) (n sc : Nat) (z : Nat → Int) (ra : Option Addr) (m rc : Nat) (r : Nat → Int) (p : Int) (w : World) (hS : NHanded w sa n z) (hR : NHanded w ra m r) :
    Calls Tryz.prog 26 #[.slice sa n sc, .slice ra m rc, .int .i64 p] w fun o w' => WnR n m z r p w o w' := by
  have HS : Hid (NHanded w sa n z) := hS
  have HR : Hid (NHanded w ra m r) := hR
  have hn := hS.1
  have hm := hR.1
  clear hS hR
  by_cases h : 0 ≤ p ∧ p ≤ 1000 ∧ 1 ≤ n ∧ n ≤ 6
  case neg =>
    have HB : Hid (BeE n z m r p 1) := Or.inl ⟨by omega, rfl⟩
    have hc : (p < 0) ∨ (¬ p < 0 ∧ 1000 < p) ∨ (¬ p < 0 ∧ ¬ 1000 < p ∧ (n : Int) < 1) ∨ (¬ p < 0 ∧ ¬ 1000 < p ∧ ¬ (n : Int) < 1 ∧ 6 < (n : Int)) := by omega
    clear h
    rcases hc with a | ⟨a, b⟩ | ⟨a, b, c⟩ | ⟨a, b, c, d⟩
    all_goals
      go_enter Tryz.func26, Tryz.ntmps26
      go_wp2
      go_ret2
      exact wnR_bad HB.out (by decide) (Below.refl _ _)
  have H : Hid (0 ≤ p ∧ p ≤ 1000 ∧ 1 ≤ n ∧ n ≤ 6) := h
  have a : ¬ p < 0 := by omega
  have b : ¬ 1000 < p := by omega
  have c : ¬ (n : Int) < 1 := by omega
  have d : ¬ 6 < (n : Int) := by omega
  by_cases hmn : m = n
  case neg =>
    have e1 : ((m : Int) == n) = false := by simp; omega
    have e2 : ¬ ((m : Int) = n) := by omega
    have HB : Hid (BeE n z m r p 3) := Or.inr (Or.inl ⟨h, hmn, rfl⟩)
    clear h
    go_enter Tryz.func26, Tryz.ntmps26
    go_wp2
    go_ret2
    exact wnR_bad HB.out (by decide) (Below.refl _ _)
  subst hmn
  have HP : Hid (IntKind.i64.wrap (-p) = -p) := IntWalk.i64_in _ (by omega)
  obtain ⟨i0, hi0, hz0, hz1, hz2⟩ := info_parts infoClock
  have HN1 : Hid ((w.alloc (.cells #[] 129)).ownsRow w.heap.size 129 2 (.slice (some ⟨w.heap.size, 0, none⟩) 0 0) 0 []) := own_empty_clk w 129 2 w.heap.size (Nat.le_refl _)
  have HB1 : Hid (Below w.heap.size w (w.alloc (.cells #[] 129))) := rbel_al (Below.refl _ _)
  have hm6 : m ≤ 6 := h.2.2.2
  clear h
  go_enter Tryz.func26, Tryz.ntmps26
  go_wp2
  go_loopw [8, 37] (fun v vi wr => ∃ i : Nat, i ≤ m ∧ vi = .int .i64 i ∧ (∀ j, j < i → 0 ≤ z j ∧ z j ≤ 1000000 ∧ -p ≤ r j ∧ r j ≤ p) ∧ wr.ownsRow w.heap.size 129 2 v i (ccs z r i) ∧ Below w.heap.size w wr) (fun _ i _ => m - (intOf i).toNat)
  case atStart => exact ⟨0, Nat.zero_le _, rfl, fun j hj => by omega, HN1.out, HB1.out⟩
  case round =>
    clear HN1 HB1
    obtain ⟨i, hi, rfl, hok, hown, hw⟩ := hrel
    have HW : Hid (Below w.heap.size w wr) := hw
    have HO : Hid (∀ j, j < i → 0 ≤ z j ∧ z j ≤ 1000000 ∧ -p ≤ r j ∧ r j ≤ p) := hok
    have HN : Hid (wr.ownsRow w.heap.size 129 2 u8 i (ccs z r i)) := hown
    clear hok
    by_cases hlt : i < m
    · have hl : (i : Int) < m := by omega
      obtain ⟨b1, o1, rfl, hP1⟩ : ∃ b off : Nat, sa = some ⟨b, off, none⟩ ∧ Nrd w b off m z := by
        rcases HS.out.2 with e | h
        · omega
        · exact h
      obtain ⟨b2, o2, rfl, hP2⟩ : ∃ b off : Nat, ra = some ⟨b, off, none⟩ ∧ Nrd w b off m r := by
        rcases HR.out.2 with e | h
        · omega
        · exact h
      have x1 := (hP1.on hw) i hlt
      have x2 := (hP2.on hw) i hlt
      have l1 := World.block_lt_of_cell? _ _ x1
      have l2 := World.block_lt_of_cell? _ _ x2
      have wp := HP.out
      by_cases hz : 0 ≤ z i ∧ z i ≤ 1000000 ∧ -p ≤ r i ∧ r i ≤ p
      · have HZ : Hid (0 ≤ z i ∧ z i ≤ 1000000 ∧ -p ≤ r i ∧ r i ≤ p) := hz
        have d1 : decide (z i < 0) = false := decide_eq_false (by omega)
        have d2 : decide (1000000 < z i) = false := decide_eq_false (by omega)
        have d3 : decide (r i < -p) = false := decide_eq_false (by omega)
        have d4 : decide (p < r i) = false := decide_eq_false (by omega)
        have HIc : Hid (ccs z r (i + 1) = ccs z r i ++ [.int .i64 (z i), .int .i64 (r i)]) := rfl
        have HBk : Hid (∀ j, u8.ownBlock = some j → w.heap.size ≤ j) := fun j hj => (HN.out.lt j hj).1
        have szw := hw.size
        clear hz hw hP1 hP2 HS HR hown
        generalize hzi : z i = zi at *
        generalize hri : r i = ri at *
        generalize ccs z r i = xs at *
        go_wp2_with (at_builtin; refine wpList_append_own _ rfl _ _ 127 rfl w.heap.size 129 i0 (.agg #[.int .i64 0, .int .i64 0]) 2 16 Tryz.underlying127 hi0 hz0 hz1 hz2 rfl (by decide) _ _ _ rfl (HN.out.alloc _) ⟨wr.heap.size, 0, none⟩ 1 1 [.int .i64 zi, .int .i64 ri] rfl rfl (fun j u hj => by rw [Addr.add_lit]; exact (Row.made (W := wr) (vs := [.int .i64 zi, .int .i64 ri]) rfl).c _ _ (by simpa using hj)) (fun u hu => by simp at hu; rcases hu with rfl | rfl <;> rfl) (by unfold maxLen; omega) (by omega) (by simp; omega) ?_)
        intro v' w1 hown' hgrow _
        have HO1 : Hid (w1.ownsRow w.heap.size 129 2 v' (i + 1) (ccs z r (i + 1))) := by
          show w1.ownsRow w.heap.size 129 2 v' (i + 1) (ccs z r (i + 1))
          rw [HIc.out]
          exact hown'
        have HW1 : Hid (Below w.heap.size w w1) := (rbel_al HW.out).grown hgrow (by simp; omega) (fun j hj => HBk.out j hj)
        clear hown' hgrow HN HBk HIc HW
        go_wp2
        go_roundw
        case rel => exact ⟨i + 1, by omega, by go_num, fun j hj => by
          by_cases e : j = i
          · subst e; rw [hzi, hri]; exact HZ.out
          · exact HO.out j (by omega), HO1.out, HW1.out⟩
        case measure => simp [intOf]; omega
      · have HB : Hid (BeE m z m r p 1) := Or.inr (Or.inr (Or.inl ⟨H.out, rfl, ⟨i, hlt, by omega⟩, rfl⟩))
        have hc : (z i < 0) ∨ (¬ z i < 0 ∧ 1000000 < z i) ∨ (¬ z i < 0 ∧ ¬ 1000000 < z i ∧ r i < -p) ∨ (¬ z i < 0 ∧ ¬ 1000000 < z i ∧ ¬ r i < -p ∧ p < r i) := by omega
        clear hz hw hP1 hP2 HS HR hown HN
        rcases hc with a | ⟨a, b⟩ | ⟨a, b, c⟩ | ⟨a, b, c, d⟩
        · have d1 : decide (z i < 0) = true := decide_eq_true a
          go_wp2
          go_ret2
          exact wnR_bad HB.out (by decide) HW.out
        · have d1 : decide (z i < 0) = false := decide_eq_false a
          have d2 : decide (1000000 < z i) = true := decide_eq_true b
          go_wp2
          go_ret2
          exact wnR_bad HB.out (by decide) HW.out
        · have d1 : decide (z i < 0) = false := decide_eq_false a
          have d2 : decide (1000000 < z i) = false := decide_eq_false b
          have d3 : decide (r i < -p) = true := decide_eq_true c
          go_wp2
          go_ret2
          exact wnR_bad HB.out (by decide) HW.out
        · have d1 : decide (z i < 0) = false := decide_eq_false a
          have d2 : decide (1000000 < z i) = false := decide_eq_false b
          have d3 : decide (r i < -p) = false := decide_eq_false c
          have d4 : decide (p < r i) = true := decide_eq_true d
          go_wp2
          go_ret2
          exact wnR_bad HB.out (by decide) HW.out
    · have hl : ¬ ((i : Int) < m) := by omega
      have e' : i = m := by omega
      subst e'
      obtain ⟨g, c, rfl, hC, hg1, hg2⟩ := own_clocks hown H.out.2.2.1
      have HB : Hid (BeE i z i r p 0) := Or.inr (Or.inr (Or.inr ⟨H.out, rfl, HO.out, rfl⟩))
      have HC : Hid (Cls wr g i z r ∧ w.heap.size ≤ g ∧ g < wr.heap.size) := ⟨hC, hg1, hg2⟩
      clear hown HN hC hw HS HR HO
      go_wp2
      go_ret2
      exact pw_made HB.out HC.out.1 HC.out.2.1 HC.out.2.2 HW.out
end Go.Proofs.YthejaecljkjliaiGreatDoor
