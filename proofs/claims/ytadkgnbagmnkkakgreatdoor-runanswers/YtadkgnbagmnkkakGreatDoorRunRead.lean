/- What a desk reads of a line: what its word wants, and as many numbers as that is. -/
import Derived.Test.YtadkgnbagmnkkakGreatDoorNm09
import Derived.Test.YtadkgnbagmnkkakGreatDoorNm10
import Derived.Test.YtadkgnbagmnkkakGreatDoorNm11
import Derived.Test.YtadkgnbagmnkkakGreatDoorNm12
import Derived.Laws.EntriesVeiled
import Derived.BigQuiet
namespace Go.Proofs.YtadkgnbagmnkkakGreatDoor.rn
open Go.ChangeShapes Go.WideShapes Go.ChangeAt Go.RowKit Go.Joins
set_option linter.unusedVariables false
set_option linter.unusedSimpArgs false

set_option maxHeartbeats 8000000
set_option maxRecDepth 100000
def Rd (X : Nat) (s : List UInt8) (u : World) (o : Ending) (w' : World) : Prop := Below u.heap.size u w' ∧ ((o = .returned (.tuple #[.agg #[.int .i64 0, .nilFunc], .agg #[.int .i64 0, .int .i64 0], lineV]) ∧ cmdB s = (0, 0, 0)) ∨ ∃ k a b : Nat, o = .returned (.tuple #[wV X k, .agg #[.int .i64 (a : Int), .int .i64 (b : Int)], .nilIface]) ∧ k ≠ 0 ∧ k ≤ 9 ∧ a ≤ 9999999 ∧ b ≤ 9999999 ∧ cmdB s = (k, (a : Int), (b : Int)))
theorem Rd.bad {X : Nat} {s : List UInt8} {u w' : World} (h : cmdB s = (0, 0, 0)) (hb : Below u.heap.size u w') : Rd X s u (.returned (.tuple #[.agg #[.int .i64 0, .nilFunc], .agg #[.int .i64 0, .int .i64 0], lineV])) w' := ⟨hb, Or.inl ⟨rfl, h⟩⟩
theorem Rd.good {X : Nat} {s : List UInt8} {u w' : World} {k : Nat} {wv : Value} (a b : Nat) (hw : wV X k = wv) (h0 : k ≠ 0) (h9 : k ≤ 9) (ha : a ≤ 9999999) (hb : b ≤ 9999999) (h : cmdB s = (k, (a : Int), (b : Int))) (hB : Below u.heap.size u w') : Rd X s u (.returned (.tuple #[wv, .agg #[.int .i64 (a : Int), .int .i64 (b : Int)], .nilIface])) w' := ⟨hB, Or.inr ⟨k, a, b, by rw [hw], h0, h9, ha, hb, h⟩⟩
section
variable {w0 u W V : World} {nb M X Z r T B A : Nat} {s : List UInt8} {L : List (List UInt8)} {wv R : List Value} {C : DkC w0}
theorem row2 {x y : Value} {b : Nat} (h : Row W b [x, y]) : W.cell? ⟨b, 0, none⟩ = some x ∧ W.cell? ⟨b, 1, none⟩ = some y ∧ W.frozen? ⟨b, 0, none⟩ = false ∧ W.frozen? ⟨b, 1, none⟩ = false := ⟨h.c 0 _ rfl, h.c 1 _ rfl, h.f 0 _ rfl, h.f 1 _ rfl⟩
structure RdY (C : DkC w0) (u : World) (nb M X Z : Nat) (s : List UInt8) (L : List (List UInt8)) : Prop where
  w : Below w0.heap.size w0 u
  e : ShE u
  x : EnvX u
  d : Row u Z [.pointer (some ⟨nb, 0, none⟩), .map (some M)]
  m : WdM u X M
  n : s.length ≤ 3000
  l : cutB 32 s = L
  p : ∀ p, p ∈ L → (txt p).size ≤ 3000
structure RW (W : World) (r B : Nat) (R : List Value) : Prop where
  p : Row W r [.int .i64 0, .nilFunc]
  q : Row W (r + 1) [.int .i64 0, .int .i64 0]
  b : Row W B R
theorem RW.on (hb : Below W.heap.size W V) (h : RW W r B R) : RW V r B R := ⟨Row.on hb h.p, Row.on hb h.q, Row.on hb h.b⟩
theorem RW.far {i : Nat} {x : Value} (h1 : A ≠ r) (h2 : A ≠ r + 1) (h3 : A ≠ B) (h : RW W r B R) : RW (W.setCell ⟨A, i, none⟩ x) r B R := ⟨Row.far h1 h.p, Row.far h2 h.q, Row.far h3 h.b⟩
structure FS (u u1 : World) (M X Z B : Nat) (R : List Value) : Prop where
  b : Below u.heap.size u u1
  r : RW u1 u.heap.size B R
  m : WdM u1 X M
  d : u1.cell? ⟨Z, 1, none⟩ = some (.map (some M))
  z : Z < u1.heap.size ∧ u.heap.size + 1 < u1.heap.size ∧ B < u1.heap.size ∧ u.heap.size < B
theorem split_row (y : RdY C u nb M X Z s L) (x : Value) (R : List Value) (hR : L.map (fun x => Value.string (txt x)) = x :: R) (n : Nat) (hn : L.length = n) : Calls Tryz.prog 70 #[.string (txt s), .string ⟨#[32]⟩] ((u.alloc (.cells #[.int .i64 0, .nilFunc] 105)).alloc (.cells #[.int .i64 0, .int .i64 0] 107)) fun o u1 => ∃ B, o = .returned (.slice (some ⟨B, 0, none⟩) n n) ∧ FS u u1 M X Z B (x :: R) := by
  have hb0 : Below u.heap.size u ((u.alloc (.cells #[.int .i64 0, .nilFunc] 105)).alloc (.cells #[.int .i64 0, .int .i64 0] 107)) := rbel_al (rbel_al (Below.refl _ _))
  obtain ⟨m, hm⟩ := y.e.below hb0
  refine (split_any s m _ y.n hm).mono ?_
  rintro o w' ⟨rfl, rfl⟩
  have hR2 : (L.map txt).map Value.string = x :: R := by rw [← hR, List.map_map]; rfl
  rw [y.l, hn, hR2]
  have rb : Row (((u.alloc (.cells #[.int .i64 0, .nilFunc] 105)).alloc (.cells #[.int .i64 0, .int .i64 0] 107)).alloc (.cells (x :: R).toArray 9)) ((u.alloc (.cells #[.int .i64 0, .nilFunc] 105)).alloc (.cells #[.int .i64 0, .int .i64 0] 107)).heap.size (x :: R) := Row.made rfl
  have hb := rbel_al (ob := .cells (x :: R).toArray 9) hb0
  have zd := y.d.lt
  have lt := rb.lt
  exact ⟨_, rfl, hb, ⟨Row.al (Row.al (Row.made rfl)), Row.al (Row.made (by simp)), rb⟩, y.m.on hb, by rw [hb.cell (p := ⟨Z, 1, none⟩) zd]; exact y.d.c 1 _ rfl, Nat.lt_of_lt_of_le zd hb.size, by simp, lt, by simp; omega⟩
theorem nes {r t b v : Nat} (h1 : r + 1 < t) (h2 : t < v) (h3 : b < t) : ¬ (r = v) ∧ ¬ (v = r) ∧ ¬ (r + 1 = v) ∧ ¬ (v = r + 1) ∧ ¬ (t = v) ∧ ¬ (v = t) ∧ ¬ (b = v) ∧ ¬ (v = b) ∧ r < v ∧ r + 1 < v ∧ b < v := by omega
theorem read_no (h : List UInt8) (t : List (List UInt8)) (y : RdY C u nb M X Z s (h :: t)) (hh : (txt h).size ≤ maxLen) (wv : Value) (hv : wV X (wordB h) = wv) (fd : Bool) (hfd : decide (wordB h ≠ 0) = fd) (n : Nat) (hn : t.length + 1 = n) (hn2 : n ≤ 4000) (H : (fd = false ∧ wv = .agg #[.int .i64 0, .nilFunc]) ∨ ∃ (k fn : Nat) (lb : Array Value), fd = true ∧ wv = .agg #[.int .i64 (k : Int), .func (.func fn) #[] lb] ∧ k ≤ 2 ∧ ((n : Int) == 1 + (k : Int)) = false) (hc : cmdB s = (0, 0, 0)) : Calls Tryz.prog 41 #[.pointer (some ⟨Z, 0, none⟩), .string (txt s)] u (Rd X s u) := by
  have cS := split_row y (.string (txt h)) (t.map (fun x => .string (txt x))) (by simp) n (by simpa using hn)
  have n0 : ((0 : Int) < (n : Int)) := by omega
  rcases H with ⟨ef, ew⟩ | ⟨k, fn, lb, ef, ew, k2, ne⟩
  all_goals
    go_enter Tryz.func41, Tryz.ntmps41
    go_wp2_with (go_at_call 70; refine cS.mono ?_; rintro o u1 ⟨B, rfl, g⟩; have G : Hid (FS u u1 M X Z B (.string (txt h) :: t.map (fun x => .string (txt x)))) := g; obtain ⟨q1, q2, q3, q4⟩ := row2 g.r.p; obtain ⟨q5, q6, q7, q8⟩ := row2 g.r.q; have b0 := g.r.b.c 0 _ rfl; have d2 := g.d; obtain ⟨z1, z2, z3, z4⟩ := g.z; have z5 : u.heap.size < u1.heap.size := (by omega); obtain ⟨a1, a2, a3, a4⟩ : ¬ (u.heap.size = u1.heap.size) ∧ ¬ (u1.heap.size = u.heap.size) ∧ ¬ (u.heap.size + 1 = u1.heap.size) ∧ ¬ (u1.heap.size = u.heap.size + 1) := (by omega); have a5 : ¬ (u.heap.size + 1 = u.heap.size) := (by omega); have a6 : ¬ (u.heap.size = u.heap.size + 1) := (by omega); have LK : ∀ v, Below u1.heap.size u1 v → (Instr.lookup 93 (.map (some M)) (.string (txt h)) true).run Tryz.prog v = .ok (.tuple #[wv, .bool fd]) v := (fun v hbv => (by have q := (G.out.m.on hbv).look (txt h) hh; rw [show (txt h).data.toList = h from rfl, hv, hfd] at q; exact q)); rw [ew, ef] at LK; have lk1 := LK u1.drew (rbel_dr (Below.refl _ _)); have lk2 := LK (u1.alloc (.cells #[.int .i64 0, .nilFunc] 105)).drew (rbel_dr (rbel_al (Below.refl _ _))); clear LK cS g)
    go_region
    all_goals clear lk1 lk2 d2 b0
    all_goals go_wp2
    all_goals exact bodyPost_ret (v := .tuple #[.agg #[.int .i64 0, .nilFunc], .agg #[.int .i64 0, .int .i64 0], lineV]) (by simp [results, Tryz.results41, go_sem, lineV, *]) rfl (Rd.bad hc (by have B1 : Hid (Below u.heap.size u u1) := G.out.b; exact (by (repeat first | with_reducible exact B1.out | with_reducible refine rbel_put (by omega) ?_ | with_reducible refine rbel_dr ?_ | with_reducible refine rbel_al ?_))))
theorem read_w0 (h : List UInt8) (y : RdY C u nb M X Z s [h]) (hh : (txt h).size ≤ maxLen) (wv : Value) (hv : wV X (wordB h) = wv) (fd : Bool) (hfd : decide (wordB h ≠ 0) = fd) (ef : fd = true) (fn : Nat) (lb : Array Value) (ew : wv = .agg #[.int .i64 0, .func (.func fn) #[] lb]) (h0 : wordB h ≠ 0) (h9 : wordB h ≤ 9) (H : cmdB s = (wordB h, ((0 : Nat) : Int), ((0 : Nat) : Int))) : Calls Tryz.prog 41 #[.pointer (some ⟨Z, 0, none⟩), .string (txt s)] u (Rd X s u) := by
  have cS := split_row y (.string (txt h)) [] rfl 1 rfl
  have HV : Hid (wV X (wordB h) = .agg #[.int .i64 0, .func (.func fn) #[] lb]) := hv.trans ew
  have HY : Hid (RdY C u nb M X Z s [h]) := y
  clear y
  all_goals
    go_enter Tryz.func41, Tryz.ntmps41
    go_wp2_with (go_at_call 70; refine cS.mono ?_; rintro o u1 ⟨B, rfl, g⟩; have G : Hid (FS u u1 M X Z B [.string (txt h)]) := g; obtain ⟨q1, q2, q3, q4⟩ := row2 g.r.p; obtain ⟨q5, q6, q7, q8⟩ := row2 g.r.q; have b0 := g.r.b.c 0 _ rfl; have d2 := g.d; obtain ⟨z1, z2, z3, z4⟩ := g.z; have z5 : u.heap.size < u1.heap.size := (by omega); obtain ⟨a1, a2, a3, a4⟩ : ¬ (u.heap.size = u1.heap.size) ∧ ¬ (u1.heap.size = u.heap.size) ∧ ¬ (u.heap.size + 1 = u1.heap.size) ∧ ¬ (u1.heap.size = u.heap.size + 1) := (by omega); have a5 : ¬ (u.heap.size + 1 = u.heap.size) := (by omega); have a6 : ¬ (u.heap.size = u.heap.size + 1) := (by omega); have LK : ∀ v, Below u1.heap.size u1 v → (Instr.lookup 93 (.map (some M)) (.string (txt h)) true).run Tryz.prog v = .ok (.tuple #[wv, .bool fd]) v := (fun v hbv => (by have q := (G.out.m.on hbv).look (txt h) hh; rw [show (txt h).data.toList = h from rfl, hv, hfd] at q; exact q)); rw [ew, ef] at LK; have lk1 := LK u1.drew (rbel_dr (Below.refl _ _)); have lk2 := LK (u1.alloc (.cells #[.int .i64 0, .nilFunc] 105)).drew (rbel_dr (rbel_al (Below.refl _ _))); clear LK cS g)
    go_region
    all_goals
      clear lk1 lk2 d2 b0 q1 q2 q3 q4 q5 q6 q7 q8
      have BV : Hid (Below u.heap.size u (u1.alloc (.cells #[.int .i64 0, .func (.func fn) #[] lb] 105)).drew) := rbel_dr (rbel_al G.out.b)
      have G0 : Hid (RW (u1.alloc (.cells #[.int .i64 0, .func (.func fn) #[] lb] 105)).drew u.heap.size B [.string (txt h)]) := RW.on (rbel_dr (rbel_al (Below.refl _ _))) G.out.r
      have T0 : Hid (Row (u1.alloc (.cells #[.int .i64 0, .func (.func fn) #[] lb] 105)).drew u1.heap.size [.int .i64 0, .func (.func fn) #[] lb]) := Row.dr (Row.made rfl)
      have zV : u1.heap.size < (u1.alloc (.cells #[.int .i64 0, .func (.func fn) #[] lb] 105)).drew.heap.size := by simp
      clear G
      generalize (u1.alloc (.cells #[.int .i64 0, .func (.func fn) #[] lb] 105)).drew = V at *
      obtain ⟨e1, e2, e3, e4, e5, e6, e7, e8, e9, e10, e11⟩ := nes z2 zV z3
      obtain ⟨q1, q2, q3, q4⟩ := row2 G0.out.p
      obtain ⟨q5, q6, q7, q8⟩ := row2 G0.out.q
      obtain ⟨t1, t2, _, _⟩ := row2 T0.out
      go_wp2
      refine wp_loop_rounds 1 ?_
      rw [rounds_succ]
      go_wp2
      go_region
      all_goals (try go_wp2)
      all_goals exact bodyPost_ret (v := .tuple #[.agg #[.int .i64 0, .func (.func fn) #[] lb], .agg #[.int .i64 0, .int .i64 0], .nilIface]) (by simp [results, Tryz.results41, go_sem, *]) rfl (Rd.good 0 0 HV.out h0 h9 (by omega) (by omega) H (by (repeat first | with_reducible exact BV.out | with_reducible refine rbel_put (by omega) ?_ | with_reducible refine rbel_dr ?_ | with_reducible refine rbel_al ?_)))
theorem read_w1 (h p : List UInt8) (y : RdY C u nb M X Z s [h, p]) (hh : (txt h).size ≤ maxLen) (wv : Value) (hv : wV X (wordB h) = wv) (fd : Bool) (hfd : decide (wordB h ≠ 0) = fd) (ef : fd = true) (fn : Nat) (lb : Array Value) (ew : wv = .agg #[.int .i64 1, .func (.func fn) #[] lb]) (h0 : wordB h ≠ 0) (h9 : wordB h ≤ 9) (H : (numD p = none ∧ cmdB s = (0, 0, 0)) ∨ ∃ a : Nat, numD p = some a ∧ a ≤ 9999999 ∧ cmdB s = (wordB h, (a : Int), ((0 : Nat) : Int))) : Calls Tryz.prog 41 #[.pointer (some ⟨Z, 0, none⟩), .string (txt s)] u (Rd X s u) := by
  have cS := split_row y (.string (txt h)) [.string (txt p)] rfl 2 rfl
  have lp := y.p p (by simp)
  have HV : Hid (wV X (wordB h) = .agg #[.int .i64 1, .func (.func fn) #[] lb]) := hv.trans ew
  have HY : Hid (RdY C u nb M X Z s [h, p]) := y
  clear y
  obtain ⟨x0, r0, cN0, H⟩ : ∃ (x0 : Int) (r0 : Value), (∀ v, Below u.heap.size u v → NumR (txt p) v x0 r0) ∧ ((r0 = .iface 98 (.agg #[.int .i64 2]) ∧ cmdB s = (0, 0, 0)) ∨ (r0 = .nilIface ∧ ∃ a : Nat, Hid (x0 = a) ∧ a ≤ 9999999 ∧ cmdB s = (wordB h, (a : Int), ((0 : Nat) : Int)))) := by
    rcases H with ⟨hp, hc⟩ | ⟨a, hp, ha, hc⟩
    · exact ⟨0, lineV, fun v hvb => num_bad C (txt p) (rbel_on hvb HY.out.w) (HY.out.x.below hvb) lp hp, Or.inl ⟨rfl, hc⟩⟩
    · exact ⟨a, .nilIface, fun v hvb => num_ok C (txt p) a (rbel_on hvb HY.out.w) lp hp, Or.inr ⟨rfl, a, rfl, ha, hc⟩⟩
  rcases H with ⟨er, hc⟩ | ⟨er, a, ea, ha, hc⟩
  all_goals rw [er] at cN0
  all_goals
    go_enter Tryz.func41, Tryz.ntmps41
    go_wp2_with (go_at_call 70; refine cS.mono ?_; rintro o u1 ⟨B, rfl, g⟩; have G : Hid (FS u u1 M X Z B [.string (txt h), .string (txt p)]) := g; obtain ⟨q1, q2, q3, q4⟩ := row2 g.r.p; obtain ⟨q5, q6, q7, q8⟩ := row2 g.r.q; have b0 := g.r.b.c 0 _ rfl; have d2 := g.d; obtain ⟨z1, z2, z3, z4⟩ := g.z; have z5 : u.heap.size < u1.heap.size := (by omega); obtain ⟨a1, a2, a3, a4⟩ : ¬ (u.heap.size = u1.heap.size) ∧ ¬ (u1.heap.size = u.heap.size) ∧ ¬ (u.heap.size + 1 = u1.heap.size) ∧ ¬ (u1.heap.size = u.heap.size + 1) := (by omega); have a5 : ¬ (u.heap.size + 1 = u.heap.size) := (by omega); have a6 : ¬ (u.heap.size = u.heap.size + 1) := (by omega); have LK : ∀ v, Below u1.heap.size u1 v → (Instr.lookup 93 (.map (some M)) (.string (txt h)) true).run Tryz.prog v = .ok (.tuple #[wv, .bool fd]) v := (fun v hbv => (by have q := (G.out.m.on hbv).look (txt h) hh; rw [show (txt h).data.toList = h from rfl, hv, hfd] at q; exact q)); rw [ew, ef] at LK; have lk1 := LK u1.drew (rbel_dr (Below.refl _ _)); have lk2 := LK (u1.alloc (.cells #[.int .i64 0, .nilFunc] 105)).drew (rbel_dr (rbel_al (Below.refl _ _))); clear LK cS g)
    go_region
    all_goals
      clear lk1 lk2 d2 b0 q1 q2 q3 q4 q5 q6 q7 q8
      have BV : Hid (Below u.heap.size u (u1.alloc (.cells #[.int .i64 1, .func (.func fn) #[] lb] 105)).drew) := rbel_dr (rbel_al G.out.b)
      have G0 : Hid (RW (u1.alloc (.cells #[.int .i64 1, .func (.func fn) #[] lb] 105)).drew u.heap.size B [.string (txt h), .string (txt p)]) := RW.on (rbel_dr (rbel_al (Below.refl _ _))) G.out.r
      have T0 : Hid (Row (u1.alloc (.cells #[.int .i64 1, .func (.func fn) #[] lb] 105)).drew u1.heap.size [.int .i64 1, .func (.func fn) #[] lb]) := Row.dr (Row.made rfl)
      have zV : u1.heap.size < (u1.alloc (.cells #[.int .i64 1, .func (.func fn) #[] lb] 105)).drew.heap.size := by simp
      clear G
      generalize (u1.alloc (.cells #[.int .i64 1, .func (.func fn) #[] lb] 105)).drew = V at *
      obtain ⟨e1, e2, e3, e4, e5, e6, e7, e8, e9, e10, e11⟩ := nes z2 zV z3
      obtain ⟨q1, q2, q3, q4⟩ := row2 G0.out.p
      obtain ⟨q5, q6, q7, q8⟩ := row2 G0.out.q
      obtain ⟨t1, t2, _, _⟩ := row2 T0.out
      have c1 := G0.out.b.c 1 _ rfl
      go_wp2
      refine wp_loop_rounds 2 ?_
      rw [rounds_succ]
      go_wp2_with (go_at_call 71; refine (cN0 _ (rbel_al BV.out)).mono ?_; rintro o u2 ⟨rfl, hb⟩; have BW1 : Hid (Below u.heap.size u u2) := rbel_on hb (rbel_al BV.out); have BW := BW1; have G1 : Hid (RW u2 u.heap.size B [.string (txt h), .string (txt p)]) := RW.on hb (RW.on (rbel_al (Below.refl _ _)) G0.out); have T1 : Hid (Row u2 u1.heap.size [.int .i64 1, .func (.func fn) #[] lb]) := Row.on hb (Row.al T0.out); have A1 : Hid (Row u2 V.heap.size [.int .i64 0, .int .i64 0]) := Row.on hb (Row.made rfl); obtain ⟨q11, q21, q31, q41⟩ := row2 G1.out.p; obtain ⟨q51, q61, q71, q81⟩ := row2 G1.out.q; obtain ⟨t11, t21, _, _⟩ := row2 T1.out; obtain ⟨s11, s21, s31, s41⟩ := row2 A1.out; have c11 := G1.out.b.c 1 _ rfl; have lV1 := A1.out.lt; clear hb)
      all_goals first
        | exact bodyPost_ret (v := .tuple #[.agg #[.int .i64 0, .nilFunc], .agg #[.int .i64 0, .int .i64 0], lineV]) (by simp [results, Tryz.results41, go_sem, lineV, *]) rfl (Rd.bad hc (by (repeat first | with_reducible exact BW1.out | with_reducible refine rbel_put (by omega) ?_ | with_reducible refine rbel_dr ?_ | with_reducible refine rbel_al ?_)))
        | (rw [rounds_succ]
           go_wp2
           go_region
           all_goals (try go_wp2)
           all_goals exact bodyPost_ret (v := .tuple #[.agg #[.int .i64 1, .func (.func fn) #[] lb], .agg #[.int .i64 x0, .int .i64 0], .nilIface]) (by simp [results, Tryz.results41, go_sem, *]) rfl (by rw [ea.out]; exact Rd.good a 0 HV.out h0 h9 (by omega) (by omega) hc (by (repeat first | with_reducible exact BW1.out | with_reducible refine rbel_put (by omega) ?_ | with_reducible refine rbel_dr ?_ | with_reducible refine rbel_al ?_))))
theorem read_w2 (h p q : List UInt8) (y : RdY C u nb M X Z s [h, p, q]) (hh : (txt h).size ≤ maxLen) (wv : Value) (hv : wV X (wordB h) = wv) (fd : Bool) (hfd : decide (wordB h ≠ 0) = fd) (ef : fd = true) (fn : Nat) (lb : Array Value) (ew : wv = .agg #[.int .i64 2, .func (.func fn) #[] lb]) (h0 : wordB h ≠ 0) (h9 : wordB h ≤ 9) (H : (numD p = none ∧ cmdB s = (0, 0, 0)) ∨ ∃ a : Nat, numD p = some a ∧ a ≤ 9999999 ∧ ((numD q = none ∧ cmdB s = (0, 0, 0)) ∨ ∃ b : Nat, numD q = some b ∧ b ≤ 9999999 ∧ cmdB s = (wordB h, (a : Int), (b : Int)))) : Calls Tryz.prog 41 #[.pointer (some ⟨Z, 0, none⟩), .string (txt s)] u (Rd X s u) := by
  have cS := split_row y (.string (txt h)) [.string (txt p), .string (txt q)] rfl 3 rfl
  have lp := y.p p (by simp)
  have lq := y.p q (by simp)
  have HV : Hid (wV X (wordB h) = .agg #[.int .i64 2, .func (.func fn) #[] lb]) := hv.trans ew
  have HY : Hid (RdY C u nb M X Z s [h, p, q]) := y
  clear y
  obtain ⟨x0, r0, x1, r1, cN0, cN1, H⟩ : ∃ (x0 : Int) (r0 : Value) (x1 : Int) (r1 : Value), (∀ v, Below u.heap.size u v → NumR (txt p) v x0 r0) ∧ (∀ v, Below u.heap.size u v → NumR (txt q) v x1 r1) ∧ ((r0 = .iface 98 (.agg #[.int .i64 2]) ∧ cmdB s = (0, 0, 0)) ∨ (r0 = .nilIface ∧ r1 = .iface 98 (.agg #[.int .i64 2]) ∧ cmdB s = (0, 0, 0)) ∨ (r0 = .nilIface ∧ r1 = .nilIface ∧ ∃ a b : Nat, Hid (x0 = a) ∧ Hid (x1 = b) ∧ a ≤ 9999999 ∧ b ≤ 9999999 ∧ cmdB s = (wordB h, (a : Int), (b : Int)))) := by
    have no : ∀ (t : List UInt8) (l : (txt t).size ≤ 3000) (n : numD t = none) (v : World), Below u.heap.size u v → NumR (txt t) v 0 lineV := fun t l n v hvb => num_bad C (txt t) (rbel_on hvb HY.out.w) (HY.out.x.below hvb) l n
    have yes : ∀ (t : List UInt8) (l : (txt t).size ≤ 3000) (a : Nat) (n : numD t = some a) (v : World), Below u.heap.size u v → NumR (txt t) v a .nilIface := fun t l a n v hvb => num_ok C (txt t) a (rbel_on hvb HY.out.w) l n
    obtain ⟨x1, r1, c1, h1⟩ : ∃ (x1 : Int) (r1 : Value), (∀ v, Below u.heap.size u v → NumR (txt q) v x1 r1) ∧ ((numD q = none ∧ r1 = lineV) ∨ ∃ b : Nat, numD q = some b ∧ x1 = b ∧ r1 = .nilIface) := by
      cases e : numD q with
      | none => exact ⟨0, lineV, no q lq e, Or.inl ⟨rfl, rfl⟩⟩
      | some b => exact ⟨b, .nilIface, yes q lq b e, Or.inr ⟨b, rfl, rfl, rfl⟩⟩
    rcases H with ⟨hp, hc⟩ | ⟨a, hp, ha, hq⟩
    · exact ⟨0, lineV, x1, r1, no p lp hp, c1, Or.inl ⟨rfl, hc⟩⟩
    · refine ⟨a, .nilIface, x1, r1, yes p lp a hp, c1, Or.inr ?_⟩
      rcases hq with ⟨hq, hc⟩ | ⟨b, hq, hb, hc⟩
      · rcases h1 with ⟨_, e⟩ | ⟨b, e, _⟩
        · exact Or.inl ⟨rfl, e, hc⟩
        · rw [hq] at e; cases e
      · rcases h1 with ⟨e, _⟩ | ⟨b', e, e2, e3⟩
        · rw [hq] at e; cases e
        · rw [hq] at e
          obtain rfl := Option.some.inj e
          exact Or.inr ⟨rfl, e3, a, b, rfl, e2, ha, hb, hc⟩
  rcases H with ⟨er, hc⟩ | ⟨er, er1, hc⟩ | ⟨er, er1, a, b, ea, eb, ha, hb2, hc⟩
  all_goals
    rw [er] at cN0
    try rw [er1] at cN1
  all_goals
    go_enter Tryz.func41, Tryz.ntmps41
    go_wp2_with (go_at_call 70; refine cS.mono ?_; rintro o u1 ⟨B, rfl, g⟩; have G : Hid (FS u u1 M X Z B [.string (txt h), .string (txt p), .string (txt q)]) := g; obtain ⟨q1, q2, q3, q4⟩ := row2 g.r.p; obtain ⟨q5, q6, q7, q8⟩ := row2 g.r.q; have b0 := g.r.b.c 0 _ rfl; have d2 := g.d; obtain ⟨z1, z2, z3, z4⟩ := g.z; have z5 : u.heap.size < u1.heap.size := (by omega); obtain ⟨a1, a2, a3, a4⟩ : ¬ (u.heap.size = u1.heap.size) ∧ ¬ (u1.heap.size = u.heap.size) ∧ ¬ (u.heap.size + 1 = u1.heap.size) ∧ ¬ (u1.heap.size = u.heap.size + 1) := (by omega); have a5 : ¬ (u.heap.size + 1 = u.heap.size) := (by omega); have a6 : ¬ (u.heap.size = u.heap.size + 1) := (by omega); have LK : ∀ v, Below u1.heap.size u1 v → (Instr.lookup 93 (.map (some M)) (.string (txt h)) true).run Tryz.prog v = .ok (.tuple #[wv, .bool fd]) v := (fun v hbv => (by have q := (G.out.m.on hbv).look (txt h) hh; rw [show (txt h).data.toList = h from rfl, hv, hfd] at q; exact q)); rw [ew, ef] at LK; have lk1 := LK u1.drew (rbel_dr (Below.refl _ _)); have lk2 := LK (u1.alloc (.cells #[.int .i64 0, .nilFunc] 105)).drew (rbel_dr (rbel_al (Below.refl _ _))); clear LK cS g)
    go_region
    all_goals
      clear lk1 lk2 d2 b0 q1 q2 q3 q4 q5 q6 q7 q8
      have BV : Hid (Below u.heap.size u (u1.alloc (.cells #[.int .i64 2, .func (.func fn) #[] lb] 105)).drew) := rbel_dr (rbel_al G.out.b)
      have G0 : Hid (RW (u1.alloc (.cells #[.int .i64 2, .func (.func fn) #[] lb] 105)).drew u.heap.size B [.string (txt h), .string (txt p), .string (txt q)]) := RW.on (rbel_dr (rbel_al (Below.refl _ _))) G.out.r
      have T0 : Hid (Row (u1.alloc (.cells #[.int .i64 2, .func (.func fn) #[] lb] 105)).drew u1.heap.size [.int .i64 2, .func (.func fn) #[] lb]) := Row.dr (Row.made rfl)
      have zV : u1.heap.size < (u1.alloc (.cells #[.int .i64 2, .func (.func fn) #[] lb] 105)).drew.heap.size := by simp
      clear G
      generalize (u1.alloc (.cells #[.int .i64 2, .func (.func fn) #[] lb] 105)).drew = V at *
      obtain ⟨e1, e2, e3, e4, e5, e6, e7, e8, e9, e10, e11⟩ := nes z2 zV z3
      obtain ⟨q1, q2, q3, q4⟩ := row2 G0.out.p
      obtain ⟨q5, q6, q7, q8⟩ := row2 G0.out.q
      obtain ⟨t1, t2, _, _⟩ := row2 T0.out
      have c1 := G0.out.b.c 1 _ rfl
      have c2 := G0.out.b.c 2 _ rfl
      go_wp2
      refine wp_loop_rounds 3 ?_
      rw [rounds_succ]
      go_wp2_with (go_at_call 71; refine (cN0 _ (rbel_al BV.out)).mono ?_; rintro o u2 ⟨rfl, hb⟩; have BW1 : Hid (Below u.heap.size u u2) := rbel_on hb (rbel_al BV.out); have BW := BW1; have G1 : Hid (RW u2 u.heap.size B [.string (txt h), .string (txt p), .string (txt q)]) := RW.on hb (RW.on (rbel_al (Below.refl _ _)) G0.out); have T1 : Hid (Row u2 u1.heap.size [.int .i64 2, .func (.func fn) #[] lb]) := Row.on hb (Row.al T0.out); have A1 : Hid (Row u2 V.heap.size [.int .i64 0, .int .i64 0]) := Row.on hb (Row.made rfl); obtain ⟨q11, q21, q31, q41⟩ := row2 G1.out.p; obtain ⟨q51, q61, q71, q81⟩ := row2 G1.out.q; obtain ⟨t11, t21, _, _⟩ := row2 T1.out; obtain ⟨s11, s21, s31, s41⟩ := row2 A1.out; have c11 := G1.out.b.c 1 _ rfl; have c21 := G1.out.b.c 2 _ rfl; have lV1 := A1.out.lt; clear hb)
      try rw [rounds_succ]
      try go_wp2_with (go_at_call 71; refine (cN1 _ (rbel_put (by omega) BW1.out)).mono ?_; rintro o u3 ⟨rfl, hb⟩; have BW2 : Hid (Below u.heap.size u u3) := rbel_on hb (rbel_put (by omega) BW1.out); have BW := BW2; have G2 : Hid (RW u3 u.heap.size B [.string (txt h), .string (txt p), .string (txt q)]) := RW.on hb (RW.far e2 e4 e8 G1.out); have T2 : Hid (Row u3 u1.heap.size [.int .i64 2, .func (.func fn) #[] lb]) := Row.on hb (Row.far e6 T1.out); have A2 : Hid (Row u3 V.heap.size [.int .i64 x0, .int .i64 0]) := Row.on hb (Row.put 0 A1.out); obtain ⟨q12, q22, q32, q42⟩ := row2 G2.out.p; obtain ⟨q52, q62, q72, q82⟩ := row2 G2.out.q; obtain ⟨t12, t22, _, _⟩ := row2 T2.out; obtain ⟨s12, s22, s32, s42⟩ := row2 A2.out; have c12 := G2.out.b.c 1 _ rfl; have c22 := G2.out.b.c 2 _ rfl; have lV2 := A2.out.lt; clear hb)
      all_goals first
        | exact bodyPost_ret (v := .tuple #[.agg #[.int .i64 0, .nilFunc], .agg #[.int .i64 0, .int .i64 0], lineV]) (by simp [results, Tryz.results41, go_sem, lineV, *]) rfl (Rd.bad hc (by (repeat first | with_reducible exact BW.out | with_reducible refine rbel_put (by omega) ?_ | with_reducible refine rbel_dr ?_ | with_reducible refine rbel_al ?_)))
        | (rw [rounds_succ]
           go_wp2
           go_region
           all_goals (try go_wp2)
           all_goals exact bodyPost_ret (v := .tuple #[.agg #[.int .i64 2, .func (.func fn) #[] lb], .agg #[.int .i64 x0, .int .i64 x1], .nilIface]) (by simp [results, Tryz.results41, go_sem, *]) rfl (by rw [ea.out, eb.out]; exact Rd.good a b HV.out h0 h9 (by omega) (by omega) hc (by (repeat first | with_reducible exact BW2.out | with_reducible refine rbel_put (by omega) ?_ | with_reducible refine rbel_dr ?_ | with_reducible refine rbel_al ?_))))
theorem read_any (C : DkC w0) (hw0 : Below w0.heap.size w0 u) (hE : ShE u) (hX : EnvX u) (d : Row u Z [.pointer (some ⟨nb, 0, none⟩), .map (some M)]) (hM : WdM u X M) (s : List UInt8) (hs : s.length ≤ 3000) : Calls Tryz.prog 41 #[.pointer (some ⟨Z, 0, none⟩), .string (txt s)] u (Rd X s u) := by
  have pl : ∀ p, p ∈ cutB 32 s → (txt p).size ≤ 3000 := fun p hp => by
    have := cutA_piece 32 s [] p hp
    show p.length ≤ 3000
    simp only [List.length_nil] at this
    omega
  have nl : (cutB 32 s).length ≤ 3001 := by have := cutA_len 32 s []; show (cutA 32 [] s).length ≤ 3001; omega
  cases e : cutB 32 s with
  | nil => exact absurd e (cutB_ne s)
  | cons h t =>
    rw [e] at pl nl
    have y : RdY C u nb M X Z s (h :: t) := ⟨hw0, hE, hX, d, hM, hs, e, pl⟩
    have hh : (txt h).size ≤ maxLen := by have := pl h (List.mem_cons_self ..); unfold maxLen; omega
    rw [List.length_cons] at nl
    by_cases h0 : wordB h = 0
    · exact read_no h t y hh _ rfl _ rfl _ rfl (by omega) (Or.inl ⟨by simp [h0], by rw [h0]; rfl⟩) (cmd_len e (Or.inl h0))
    have h9 := wordB_le h
    have hv : wV X (wordB h) = .agg #[.int .i64 (wantB (wordB h) : Int), .func (.func (fnK (wordB h))) #[] (lbK X (wordB h))] := if_neg h0
    have ef := decide_eq_true h0
    by_cases hl : t.length = wantB (wordB h)
    · rcases want_le (wordB h) with hw | hw | hw
      · rw [hw] at hl hv
        obtain rfl := List.length_eq_zero_iff.1 hl
        exact read_w0 h y hh _ rfl _ rfl ef _ _ hv h0 h9 (cmd_ok e h0 (V := []) rfl (by rw [hw]; rfl))
      · rw [hw] at hl hv
        obtain ⟨p, rfl⟩ := List.length_eq_one_iff.1 hl
        refine read_w1 h p y hh _ rfl _ rfl ef _ _ hv h0 h9 ?_
        cases np : numD p with
        | none => exact Or.inl ⟨rfl, cmdB_no e (nums_none np [] [])⟩
        | some a => exact Or.inr ⟨a, rfl, numD_in np, cmd_ok e h0 (nums_one np) (by rw [hw]; rfl)⟩
      · rw [hw] at hl hv
        obtain ⟨p, q, rfl⟩ : ∃ p q, t = [p, q] := by
          match t, hl with
          | [p, q], _ => exact ⟨p, q, rfl⟩
        refine read_w2 h p q y hh _ rfl _ rfl ef _ _ hv h0 h9 ?_
        cases np : numD p with
        | none => exact Or.inl ⟨rfl, cmdB_no e (nums_none np [] [q])⟩
        | some a =>
          refine Or.inr ⟨a, rfl, numD_in np, ?_⟩
          cases nq : numD q with
          | none => exact Or.inl ⟨rfl, cmdB_no e (nums_none nq [p] [])⟩
          | some b => exact Or.inr ⟨b, rfl, numD_in nq, cmd_ok e h0 (nums_two np nq) (by rw [hw]; rfl)⟩
    · have h2 : wantB (wordB h) ≤ 2 := by rcases want_le (wordB h) with q | q | q <;> omega
      refine read_no h t y hh _ rfl _ rfl _ rfl (by omega) (Or.inr ⟨_, _, _, ef, hv, h2, ?_⟩) (cmd_len e (Or.inr hl))
      rw [beq_eq_false_iff_ne]
      omega
end
end Go.Proofs.YtadkgnbagmnkkakGreatDoor.rn
