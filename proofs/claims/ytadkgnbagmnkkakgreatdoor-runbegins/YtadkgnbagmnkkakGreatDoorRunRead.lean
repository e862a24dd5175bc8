/- What a desk reads of a line: what its word wants, and as many numbers as that is. -/
import Derived.Test.YtadkgnbagmnkkakGreatDoorNm10
import Derived.Test.YtadkgnbagmnkkakGreatDoorRunSplit
import Derived.Test.YtadkgnbagmnkkakGreatDoorNm11
import Derived.Test.YtadkgnbagmnkkakGreatDoorRunNumA
import Derived.Test.YtadkgnbagmnkkakGreatDoorRunShE
import Derived.Laws.EntriesVeiled
import Derived.BigQuiet
namespace Go.Proofs.YtadkgnbagmnkkakGreatDoor.rn
open Go.ChangeShapes Go.WideShapes Go.ChangeAt Go.RowKit Go.Joins
set_option linter.unusedVariables false
set_option linter.unusedSimpArgs false

def Rd (X : Nat) (s : List UInt8) (u : World) (o : Ending) (w' : World) : Prop := Below u.heap.size u w' ∧ ((o = .returned (.tuple #[.agg #[.int .i64 0, .nilFunc], .agg #[.int .i64 0, .int .i64 0], lineV]) ∧ cmdB s = (0, 0, 0)) ∨ ∃ k a b : Nat, o = .returned (.tuple #[wV X k, .agg #[.int .i64 (a : Int), .int .i64 (b : Int)], .nilIface]) ∧ k ≠ 0 ∧ k ≤ 9 ∧ a ≤ 9999999 ∧ b ≤ 9999999 ∧ cmdB s = (k, (a : Int), (b : Int)))
theorem split_row (s : List UInt8) (v : World) (hm : ShE v) (hs : s.length ≤ 3000) (L : List (List UInt8)) (e : cutB 32 s = L) (R : List Value) (hR : L.map (fun x => Value.string (txt x)) = R) (n : Nat) (hn : L.length = n) : Calls Tryz.prog 70 #[.string (txt s), .string ⟨#[32]⟩] v fun o w' => ∃ B, o = .returned (.slice (some ⟨B, 0, none⟩) n n) ∧ Row w' B R ∧ v.heap.size ≤ B ∧ Below v.heap.size v w' := by
 obtain ⟨m, hm⟩ := hm
 refine (split_any s m v hs hm).mono ?_
 rintro o w' ⟨rfl, rfl⟩
 rw [e, hn]
 have hR2 : (L.map txt).map Value.string = R := by rw [← hR, List.map_map]; rfl
 rw [hR2]
 exact ⟨v.heap.size, rfl, Row.made rfl, Nat.le_refl _, rbel_al (Below.refl _ _)⟩
theorem Rd.bad {X : Nat} {s : List UInt8} {u w' : World} (h : cmdB s = (0, 0, 0)) (hb : Below u.heap.size u w') : Rd X s u (.returned (.tuple #[.agg #[.int .i64 0, .nilFunc], .agg #[.int .i64 0, .int .i64 0], lineV])) w' := ⟨hb, Or.inl ⟨rfl, h⟩⟩
theorem Rd.good {X : Nat} {s : List UInt8} {u w' : World} {k : Nat} {wv : Value} (a b : Nat) (hw : wV X k = wv) (h0 : k ≠ 0) (h9 : k ≤ 9) (ha : a ≤ 9999999) (hb : b ≤ 9999999) (h : cmdB s = (k, (a : Int), (b : Int))) (hB : Below u.heap.size u w') : Rd X s u (.returned (.tuple #[wv, .agg #[.int .i64 (a : Int), .int .i64 (b : Int)], .nilIface])) w' := ⟨hB, Or.inr ⟨k, a, b, by rw [hw], h0, h9, ha, hb, h⟩⟩
section
variable {w0 u : World} {nb M X Z : Nat}
set_option maxRecDepth 100000 in
set_option maxHeartbeats 8000000 in
theorem read_0 (C : DkC w0) (hw0 : Below w0.heap.size w0 u) (hE : ShE u) (d : Row u Z [.pointer (some ⟨nb, 0, none⟩), .map (some M)]) (hM : WdM u X M) (s h : List UInt8) (t : List (List UInt8)) (hs : s.length ≤ 3000) (hh : (txt h).size ≤ maxLen) (e : cutB 32 s = h :: t) (h0 : wordB h = 0) (hc : cmdB s = (0, 0, 0)) : Calls Tryz.prog 41 #[.pointer (some ⟨Z, 0, none⟩), .string (txt s)] u (Rd X s u) := by
 have cS := fun (v : World) (hv : Below u.heap.size u v) => split_row s v (hE.below hv) hs (h :: t) e (.string (txt h) :: t.map (fun x => .string (txt x))) (by simp) (t.length + 1) (by simp)
 have d1 := d.c 1 _ rfl
 have zd := d.lt
 have nZ : ¬ (Z = u.heap.size) := by omega
 have HM : Hid (WdM u X M) := hM
 have HW : Hid (Below w0.heap.size w0 u) := hw0
 clear d hM hw0 e
 go_enter Tryz.func41, Tryz.ntmps41
 go_wp2_with (go_at_call 70; refine (cS _ (by (repeat first | with_reducible exact Below.refl _ _ | with_reducible refine rbel_put (by omega) ?_ | with_reducible refine rbel_drn ?_ | with_reducible refine rbel_dr ?_ | with_reducible refine rbel_al ?_))).mono ?_; rintro o u1 ⟨B, rfl, rB, hB, hb⟩; have B1 : Hid (Below u.heap.size u u1) := rbel_on hb (by (repeat first | with_reducible exact Below.refl _ _ | with_reducible refine rbel_put (by omega) ?_ | with_reducible refine rbel_drn ?_ | with_reducible refine rbel_dr ?_ | with_reducible refine rbel_al ?_)); have zB : u.heap.size + 1 < u1.heap.size := (by have := hb.size; simp at this; omega); have RB : Hid (Row u1 B _) := rB; have b0 := rB.c 0 _ rfl; have lB := rB.lt; have Q1 : Hid (Row u1 u.heap.size [.int .i64 0, .nilFunc]) := Row.on hb (Row.al (Row.made rfl)); have Q2 : Hid (Row u1 (u.heap.size + 1) [.int .i64 0, .int .i64 0]) := Row.on hb (Row.made (by simp)); have q1 := Q1.out.c 0 _ rfl; have q2 := Q1.out.c 1 _ rfl; have q3 := Q1.out.f 0 _ rfl; have q4 := Q1.out.f 1 _ rfl; have q5 := Q2.out.c 0 _ rfl; have q6 := Q2.out.c 1 _ rfl; have q7 := Q2.out.f 0 _ rfl; have q8 := Q2.out.f 1 _ rfl; have zB2 : u.heap.size < B := (by simp at hB; omega); have zA : u.heap.size < u1.heap.size := (by omega); have za1 : ¬ (u.heap.size = u1.heap.size) := (by omega); have za2 : ¬ (u1.heap.size = u.heap.size) := (by omega); have za3 : ¬ (u.heap.size + 1 = u1.heap.size) := (by omega); have za4 : ¬ (u1.heap.size = u.heap.size + 1) := (by omega); have za5 : ¬ (u.heap.size + 1 = u.heap.size) := (by omega); have za6 : ¬ (u.heap.size = u.heap.size + 1) := (by omega); have d2 : u1.cell? ⟨Z, 1, none⟩ = some (.map (some M)) := (by rw [B1.out.cell (p := ⟨Z, 1, none⟩) zd]; exact d1); have zd2 : Z < u1.heap.size := Nat.lt_of_lt_of_le zd B1.out.size; have LK : ∀ v, Below u1.heap.size u1 v → (Instr.lookup 93 (.map (some M)) (.string (txt h)) true).run Tryz.prog v = .ok (.tuple #[.agg #[.int .i64 0, .nilFunc], .bool false]) v := (fun v hbv => (by have q := (HM.out.on (rbel_on hbv B1.out)).look (txt h) hh; rw [show (txt h).data.toList = h from rfl, h0] at q; exact q)); have lk0 := LK u1 (by (repeat first | with_reducible exact Below.refl _ _ | with_reducible refine rbel_dr ?_ | with_reducible refine rbel_al ?_)); have lk1 := LK u1.drew (by (repeat first | with_reducible exact Below.refl _ _ | with_reducible refine rbel_dr ?_ | with_reducible refine rbel_al ?_)); have lk2 := LK (u1.alloc (.cells #[.int .i64 0, .nilFunc] 105)) (by (repeat first | with_reducible exact Below.refl _ _ | with_reducible refine rbel_dr ?_ | with_reducible refine rbel_al ?_)); have lk3 := LK (u1.alloc (.cells #[.int .i64 0, .nilFunc] 105)).drew (by (repeat first | with_reducible exact Below.refl _ _ | with_reducible refine rbel_dr ?_ | with_reducible refine rbel_al ?_)); have lk4 := LK (u1.drew.alloc (.cells #[.int .i64 0, .nilFunc] 105)) (by (repeat first | with_reducible exact Below.refl _ _ | with_reducible refine rbel_dr ?_ | with_reducible refine rbel_al ?_)); clear LK;  clear hb rB cS hB d1)
 have n0 : ((0 : Int) < ((t.length + 1 : Nat) : Int)) := by omega
 go_region
 all_goals clear lk0 lk1 lk2 lk3 lk4 HM RB d2 b0
 all_goals go_wp2
 all_goals exact bodyPost_ret (v := .tuple #[.agg #[.int .i64 0, .nilFunc], .agg #[.int .i64 0, .int .i64 0], lineV]) (by simp [results, Tryz.results41, go_sem, lineV, *]) rfl (Rd.bad hc (by (repeat first | with_reducible exact B1.out | with_reducible refine rbel_put (by omega) ?_ | with_reducible refine rbel_drn ?_ | with_reducible refine rbel_dr ?_ | with_reducible refine rbel_al ?_)))
set_option maxRecDepth 100000 in
set_option maxHeartbeats 8000000 in
theorem read_len (C : DkC w0) (hw0 : Below w0.heap.size w0 u) (hE : ShE u) (d : Row u Z [.pointer (some ⟨nb, 0, none⟩), .map (some M)]) (hM : WdM u X M) (s h : List UInt8) (t : List (List UInt8)) (hs : s.length ≤ 3000) (hh : (txt h).size ≤ maxLen) (e : cutB 32 s = h :: t) (h0 : wordB h ≠ 0) (n k : Nat) (hn : t.length + 1 = n) (hn2 : n ≤ 4000) (k2 : k ≤ 2) (fn : Nat) (lb : Array Value) (hv : wV X (wordB h) = .agg #[.int .i64 (k : Int), .func (.func fn) #[] lb]) (hne : ((n : Int) == 1 + (k : Int)) = false) (hc : cmdB s = (0, 0, 0)) : Calls Tryz.prog 41 #[.pointer (some ⟨Z, 0, none⟩), .string (txt s)] u (Rd X s u) := by
 have cS := fun (v : World) (hv : Below u.heap.size u v) => split_row s v (hE.below hv) hs (h :: t) e (.string (txt h) :: t.map (fun x => .string (txt x))) (by simp) (n) (by simpa using hn)
 have d1 := d.c 1 _ rfl
 have zd := d.lt
 have nZ : ¬ (Z = u.heap.size) := by omega
 have HM : Hid (WdM u X M) := hM
 have HW : Hid (Below w0.heap.size w0 u) := hw0
 clear d hM hw0 e
 go_enter Tryz.func41, Tryz.ntmps41
 go_wp2_with (go_at_call 70; refine (cS _ (by (repeat first | with_reducible exact Below.refl _ _ | with_reducible refine rbel_put (by omega) ?_ | with_reducible refine rbel_drn ?_ | with_reducible refine rbel_dr ?_ | with_reducible refine rbel_al ?_))).mono ?_; rintro o u1 ⟨B, rfl, rB, hB, hb⟩; have B1 : Hid (Below u.heap.size u u1) := rbel_on hb (by (repeat first | with_reducible exact Below.refl _ _ | with_reducible refine rbel_put (by omega) ?_ | with_reducible refine rbel_drn ?_ | with_reducible refine rbel_dr ?_ | with_reducible refine rbel_al ?_)); have zB : u.heap.size + 1 < u1.heap.size := (by have := hb.size; simp at this; omega); have RB : Hid (Row u1 B _) := rB; have b0 := rB.c 0 _ rfl; have lB := rB.lt; have Q1 : Hid (Row u1 u.heap.size [.int .i64 0, .nilFunc]) := Row.on hb (Row.al (Row.made rfl)); have Q2 : Hid (Row u1 (u.heap.size + 1) [.int .i64 0, .int .i64 0]) := Row.on hb (Row.made (by simp)); have q1 := Q1.out.c 0 _ rfl; have q2 := Q1.out.c 1 _ rfl; have q3 := Q1.out.f 0 _ rfl; have q4 := Q1.out.f 1 _ rfl; have q5 := Q2.out.c 0 _ rfl; have q6 := Q2.out.c 1 _ rfl; have q7 := Q2.out.f 0 _ rfl; have q8 := Q2.out.f 1 _ rfl; have zB2 : u.heap.size < B := (by simp at hB; omega); have zA : u.heap.size < u1.heap.size := (by omega); have za1 : ¬ (u.heap.size = u1.heap.size) := (by omega); have za2 : ¬ (u1.heap.size = u.heap.size) := (by omega); have za3 : ¬ (u.heap.size + 1 = u1.heap.size) := (by omega); have za4 : ¬ (u1.heap.size = u.heap.size + 1) := (by omega); have za5 : ¬ (u.heap.size + 1 = u.heap.size) := (by omega); have za6 : ¬ (u.heap.size = u.heap.size + 1) := (by omega); have d2 : u1.cell? ⟨Z, 1, none⟩ = some (.map (some M)) := (by rw [B1.out.cell (p := ⟨Z, 1, none⟩) zd]; exact d1); have zd2 : Z < u1.heap.size := Nat.lt_of_lt_of_le zd B1.out.size; have LK : ∀ v, Below u1.heap.size u1 v → (Instr.lookup 93 (.map (some M)) (.string (txt h)) true).run Tryz.prog v = .ok (.tuple #[.agg #[.int .i64 (k : Int), .func (.func fn) #[] lb], .bool true]) v := (fun v hbv => (by have q := (HM.out.on (rbel_on hbv B1.out)).look (txt h) hh; rw [show (txt h).data.toList = h from rfl, hv, decide_eq_true h0] at q; exact q)); have lk0 := LK u1 (by (repeat first | with_reducible exact Below.refl _ _ | with_reducible refine rbel_dr ?_ | with_reducible refine rbel_al ?_)); have lk1 := LK u1.drew (by (repeat first | with_reducible exact Below.refl _ _ | with_reducible refine rbel_dr ?_ | with_reducible refine rbel_al ?_)); have lk2 := LK (u1.alloc (.cells #[.int .i64 0, .nilFunc] 105)) (by (repeat first | with_reducible exact Below.refl _ _ | with_reducible refine rbel_dr ?_ | with_reducible refine rbel_al ?_)); have lk3 := LK (u1.alloc (.cells #[.int .i64 0, .nilFunc] 105)).drew (by (repeat first | with_reducible exact Below.refl _ _ | with_reducible refine rbel_dr ?_ | with_reducible refine rbel_al ?_)); have lk4 := LK (u1.drew.alloc (.cells #[.int .i64 0, .nilFunc] 105)) (by (repeat first | with_reducible exact Below.refl _ _ | with_reducible refine rbel_dr ?_ | with_reducible refine rbel_al ?_)); clear LK;  clear hb rB cS hB d1)
 have n0 : ((0 : Int) < (n : Int)) := by omega
 go_region
 all_goals clear lk0 lk1 lk2 lk3 lk4 HM RB d2 b0
 all_goals go_wp2
 all_goals exact bodyPost_ret (v := .tuple #[.agg #[.int .i64 0, .nilFunc], .agg #[.int .i64 0, .int .i64 0], lineV]) (by simp [results, Tryz.results41, go_sem, lineV, *]) rfl (Rd.bad hc (by (repeat first | with_reducible exact B1.out | with_reducible refine rbel_put (by omega) ?_ | with_reducible refine rbel_drn ?_ | with_reducible refine rbel_dr ?_ | with_reducible refine rbel_al ?_)))
set_option maxRecDepth 100000 in
set_option maxHeartbeats 8000000 in
theorem read_0ok (C : DkC w0) (hw0 : Below w0.heap.size w0 u) (hE : ShE u) (d : Row u Z [.pointer (some ⟨nb, 0, none⟩), .map (some M)]) (hM : WdM u X M) (s h : List UInt8) (hs : s.length ≤ 3000) (hh : (txt h).size ≤ maxLen) (e : cutB 32 s = [h]) (h0 : wordB h ≠ 0) (h9 : wordB h ≤ 9) (fn : Nat) (lb : Array Value) (hv : wV X (wordB h) = .agg #[.int .i64 ((0 : Nat) : Int), .func (.func fn) #[] lb]) (hX : EnvX u) (hc : cmdB s = (wordB h, ((0 : Nat) : Int), ((0 : Nat) : Int))) : Calls Tryz.prog 41 #[.pointer (some ⟨Z, 0, none⟩), .string (txt s)] u (Rd X s u) := by
 clear hX
 have cS := fun (v : World) (hv : Below u.heap.size u v) => split_row s v (hE.below hv) hs ([h]) e ([.string (txt h)]) rfl (1) rfl
 have d1 := d.c 1 _ rfl
 have zd := d.lt
 have nZ : ¬ (Z = u.heap.size) := by omega
 have HM : Hid (WdM u X M) := hM
 have HW : Hid (Below w0.heap.size w0 u) := hw0
 clear d hM hw0 e
 go_enter Tryz.func41, Tryz.ntmps41
 go_wp2_with (go_at_call 70; refine (cS _ (by (repeat first | with_reducible exact Below.refl _ _ | with_reducible refine rbel_put (by omega) ?_ | with_reducible refine rbel_drn ?_ | with_reducible refine rbel_dr ?_ | with_reducible refine rbel_al ?_))).mono ?_; rintro o u1 ⟨B, rfl, rB, hB, hb⟩; have B1 : Hid (Below u.heap.size u u1) := rbel_on hb (by (repeat first | with_reducible exact Below.refl _ _ | with_reducible refine rbel_put (by omega) ?_ | with_reducible refine rbel_drn ?_ | with_reducible refine rbel_dr ?_ | with_reducible refine rbel_al ?_)); have zB : u.heap.size + 1 < u1.heap.size := (by have := hb.size; simp at this; omega); have RB : Hid (Row u1 B _) := rB; have b0 := rB.c 0 _ rfl; have lB := rB.lt; have Q1 : Hid (Row u1 u.heap.size [.int .i64 0, .nilFunc]) := Row.on hb (Row.al (Row.made rfl)); have Q2 : Hid (Row u1 (u.heap.size + 1) [.int .i64 0, .int .i64 0]) := Row.on hb (Row.made (by simp)); have q1 := Q1.out.c 0 _ rfl; have q2 := Q1.out.c 1 _ rfl; have q3 := Q1.out.f 0 _ rfl; have q4 := Q1.out.f 1 _ rfl; have q5 := Q2.out.c 0 _ rfl; have q6 := Q2.out.c 1 _ rfl; have q7 := Q2.out.f 0 _ rfl; have q8 := Q2.out.f 1 _ rfl; have zB2 : u.heap.size < B := (by simp at hB; omega); have zA : u.heap.size < u1.heap.size := (by omega); have za1 : ¬ (u.heap.size = u1.heap.size) := (by omega); have za2 : ¬ (u1.heap.size = u.heap.size) := (by omega); have za3 : ¬ (u.heap.size + 1 = u1.heap.size) := (by omega); have za4 : ¬ (u1.heap.size = u.heap.size + 1) := (by omega); have za5 : ¬ (u.heap.size + 1 = u.heap.size) := (by omega); have za6 : ¬ (u.heap.size = u.heap.size + 1) := (by omega); have d2 : u1.cell? ⟨Z, 1, none⟩ = some (.map (some M)) := (by rw [B1.out.cell (p := ⟨Z, 1, none⟩) zd]; exact d1); have zd2 : Z < u1.heap.size := Nat.lt_of_lt_of_le zd B1.out.size; have LK : ∀ v, Below u1.heap.size u1 v → (Instr.lookup 93 (.map (some M)) (.string (txt h)) true).run Tryz.prog v = .ok (.tuple #[.agg #[.int .i64 ((0 : Nat) : Int), .func (.func fn) #[] lb], .bool true]) v := (fun v hbv => (by have q := (HM.out.on (rbel_on hbv B1.out)).look (txt h) hh; rw [show (txt h).data.toList = h from rfl, hv, decide_eq_true h0] at q; exact q)); have lk0 := LK u1 (by (repeat first | with_reducible exact Below.refl _ _ | with_reducible refine rbel_dr ?_ | with_reducible refine rbel_al ?_)); have lk1 := LK u1.drew (by (repeat first | with_reducible exact Below.refl _ _ | with_reducible refine rbel_dr ?_ | with_reducible refine rbel_al ?_)); have lk2 := LK (u1.alloc (.cells #[.int .i64 0, .nilFunc] 105)) (by (repeat first | with_reducible exact Below.refl _ _ | with_reducible refine rbel_dr ?_ | with_reducible refine rbel_al ?_)); have lk3 := LK (u1.alloc (.cells #[.int .i64 0, .nilFunc] 105)).drew (by (repeat first | with_reducible exact Below.refl _ _ | with_reducible refine rbel_dr ?_ | with_reducible refine rbel_al ?_)); have lk4 := LK (u1.drew.alloc (.cells #[.int .i64 0, .nilFunc] 105)) (by (repeat first | with_reducible exact Below.refl _ _ | with_reducible refine rbel_dr ?_ | with_reducible refine rbel_al ?_)); clear LK;  clear hb rB cS hB d1)
 go_region
 all_goals
  clear lk0 lk1 lk2 lk3 lk4 HM d2 b0 q1 q2 q3 q4 q5 q6 q7 q8
  have BV : Hid (Below u.heap.size u (u1.alloc (.cells #[.int .i64 0, .func (.func fn) #[] lb] 105)).drew) := rbel_dr (rbel_al B1.out)
  have RT : Hid (Row (u1.alloc (.cells #[.int .i64 0, .func (.func fn) #[] lb] 105)).drew u1.heap.size [.int .i64 0, .func (.func fn) #[] lb]) := Row.dr (Row.made rfl)
  have P1 : Hid (Row (u1.alloc (.cells #[.int .i64 0, .func (.func fn) #[] lb] 105)).drew u.heap.size [.int .i64 0, .nilFunc]) := Row.dr (Row.al Q1.out)
  have P2 : Hid (Row (u1.alloc (.cells #[.int .i64 0, .func (.func fn) #[] lb] 105)).drew (u.heap.size + 1) [.int .i64 0, .int .i64 0]) := Row.dr (Row.al Q2.out)
  have PB : Hid (Row (u1.alloc (.cells #[.int .i64 0, .func (.func fn) #[] lb] 105)).drew B [.string (txt h)]) := Row.dr (Row.al RB.out)
  have zV : u1.heap.size < (u1.alloc (.cells #[.int .i64 0, .func (.func fn) #[] lb] 105)).drew.heap.size := by simp
  clear Q1 Q2 RB B1
  generalize (u1.alloc (.cells #[.int .i64 0, .func (.func fn) #[] lb] 105)).drew = V at *
  have lA1 : ¬ (u.heap.size = V.heap.size) := by omega
  have lA2 : ¬ (V.heap.size = u.heap.size) := by omega
  have lA3 : ¬ (u.heap.size + 1 = V.heap.size) := by omega
  have lA4 : ¬ (V.heap.size = u.heap.size + 1) := by omega
  have lA5 : ¬ (u1.heap.size = V.heap.size) := by omega
  have lA6 : ¬ (V.heap.size = u1.heap.size) := by omega
  have lA7 : ¬ (B = V.heap.size) := by omega
  have lA8 : ¬ (V.heap.size = B) := by omega
  have lA9 : u.heap.size < V.heap.size := by omega
  have lA10 : u.heap.size + 1 < V.heap.size := by omega
  have lA11 : B < V.heap.size := by omega
  have RT0c0 := RT.out.c 0 _ rfl
  have RT0c1 := RT.out.c 1 _ rfl
  have P10c0 := P1.out.c 0 _ rfl
  have P10c1 := P1.out.c 1 _ rfl
  have P20c0 := P2.out.c 0 _ rfl
  have P20c1 := P2.out.c 1 _ rfl
  have P10f0 := P1.out.f 0 _ rfl
  have P10f1 := P1.out.f 1 _ rfl
  have P20f0 := P2.out.f 0 _ rfl
  have P20f1 := P2.out.f 1 _ rfl
  go_wp2
  refine wp_loop_rounds 1 ?_
  rw [rounds_succ]
  go_wp2
  go_region
  all_goals (try go_wp2)
  all_goals exact bodyPost_ret (v := .tuple #[.agg #[.int .i64 ((0 : Nat) : Int), .func (.func fn) #[] lb], .agg #[.int .i64 ((0 : Nat) : Int), .int .i64 ((0 : Nat) : Int)], .nilIface]) (by simp [results, Tryz.results41, go_sem, *]) rfl (Rd.good 0 0 hv h0 h9 (by omega) (by omega) hc (by (repeat first | with_reducible exact BV.out | with_reducible refine rbel_put (by omega) ?_ | with_reducible refine rbel_drn ?_ | with_reducible refine rbel_dr ?_ | with_reducible refine rbel_al ?_)))
set_option maxRecDepth 100000 in
set_option maxHeartbeats 8000000 in
theorem read_1n (C : DkC w0) (hw0 : Below w0.heap.size w0 u) (hE : ShE u) (d : Row u Z [.pointer (some ⟨nb, 0, none⟩), .map (some M)]) (hM : WdM u X M) (s h : List UInt8) (p : List UInt8) (hs : s.length ≤ 3000) (hh : (txt h).size ≤ maxLen) (e : cutB 32 s = [h, p]) (lp : (txt p).size ≤ 3000) (h0 : wordB h ≠ 0) (h9 : wordB h ≤ 9) (fn : Nat) (lb : Array Value) (hv : wV X (wordB h) = .agg #[.int .i64 ((1 : Nat) : Int), .func (.func fn) #[] lb]) (hX : EnvX u) (np : numD p = none) (hc : cmdB s = (0, 0, 0)) : Calls Tryz.prog 41 #[.pointer (some ⟨Z, 0, none⟩), .string (txt s)] u (Rd X s u) := by
 have cN0 := fun (v : World) (hv : Below u.heap.size u v) => num_bad C (txt p) (rbel_on hv hw0) (hX.below hv) lp np
 unfold lineV at cN0
 clear np
 clear hX
 have cS := fun (v : World) (hv : Below u.heap.size u v) => split_row s v (hE.below hv) hs ([h, p]) e ([.string (txt h), .string (txt p)]) rfl (2) rfl
 have d1 := d.c 1 _ rfl
 have zd := d.lt
 have nZ : ¬ (Z = u.heap.size) := by omega
 have HM : Hid (WdM u X M) := hM
 have HW : Hid (Below w0.heap.size w0 u) := hw0
 clear d hM hw0 e
 go_enter Tryz.func41, Tryz.ntmps41
 go_wp2_with (go_at_call 70; refine (cS _ (by (repeat first | with_reducible exact Below.refl _ _ | with_reducible refine rbel_put (by omega) ?_ | with_reducible refine rbel_drn ?_ | with_reducible refine rbel_dr ?_ | with_reducible refine rbel_al ?_))).mono ?_; rintro o u1 ⟨B, rfl, rB, hB, hb⟩; have B1 : Hid (Below u.heap.size u u1) := rbel_on hb (by (repeat first | with_reducible exact Below.refl _ _ | with_reducible refine rbel_put (by omega) ?_ | with_reducible refine rbel_drn ?_ | with_reducible refine rbel_dr ?_ | with_reducible refine rbel_al ?_)); have zB : u.heap.size + 1 < u1.heap.size := (by have := hb.size; simp at this; omega); have RB : Hid (Row u1 B _) := rB; have b0 := rB.c 0 _ rfl; have lB := rB.lt; have Q1 : Hid (Row u1 u.heap.size [.int .i64 0, .nilFunc]) := Row.on hb (Row.al (Row.made rfl)); have Q2 : Hid (Row u1 (u.heap.size + 1) [.int .i64 0, .int .i64 0]) := Row.on hb (Row.made (by simp)); have q1 := Q1.out.c 0 _ rfl; have q2 := Q1.out.c 1 _ rfl; have q3 := Q1.out.f 0 _ rfl; have q4 := Q1.out.f 1 _ rfl; have q5 := Q2.out.c 0 _ rfl; have q6 := Q2.out.c 1 _ rfl; have q7 := Q2.out.f 0 _ rfl; have q8 := Q2.out.f 1 _ rfl; have zB2 : u.heap.size < B := (by simp at hB; omega); have zA : u.heap.size < u1.heap.size := (by omega); have za1 : ¬ (u.heap.size = u1.heap.size) := (by omega); have za2 : ¬ (u1.heap.size = u.heap.size) := (by omega); have za3 : ¬ (u.heap.size + 1 = u1.heap.size) := (by omega); have za4 : ¬ (u1.heap.size = u.heap.size + 1) := (by omega); have za5 : ¬ (u.heap.size + 1 = u.heap.size) := (by omega); have za6 : ¬ (u.heap.size = u.heap.size + 1) := (by omega); have d2 : u1.cell? ⟨Z, 1, none⟩ = some (.map (some M)) := (by rw [B1.out.cell (p := ⟨Z, 1, none⟩) zd]; exact d1); have zd2 : Z < u1.heap.size := Nat.lt_of_lt_of_le zd B1.out.size; have LK : ∀ v, Below u1.heap.size u1 v → (Instr.lookup 93 (.map (some M)) (.string (txt h)) true).run Tryz.prog v = .ok (.tuple #[.agg #[.int .i64 ((1 : Nat) : Int), .func (.func fn) #[] lb], .bool true]) v := (fun v hbv => (by have q := (HM.out.on (rbel_on hbv B1.out)).look (txt h) hh; rw [show (txt h).data.toList = h from rfl, hv, decide_eq_true h0] at q; exact q)); have lk0 := LK u1 (by (repeat first | with_reducible exact Below.refl _ _ | with_reducible refine rbel_dr ?_ | with_reducible refine rbel_al ?_)); have lk1 := LK u1.drew (by (repeat first | with_reducible exact Below.refl _ _ | with_reducible refine rbel_dr ?_ | with_reducible refine rbel_al ?_)); have lk2 := LK (u1.alloc (.cells #[.int .i64 0, .nilFunc] 105)) (by (repeat first | with_reducible exact Below.refl _ _ | with_reducible refine rbel_dr ?_ | with_reducible refine rbel_al ?_)); have lk3 := LK (u1.alloc (.cells #[.int .i64 0, .nilFunc] 105)).drew (by (repeat first | with_reducible exact Below.refl _ _ | with_reducible refine rbel_dr ?_ | with_reducible refine rbel_al ?_)); have lk4 := LK (u1.drew.alloc (.cells #[.int .i64 0, .nilFunc] 105)) (by (repeat first | with_reducible exact Below.refl _ _ | with_reducible refine rbel_dr ?_ | with_reducible refine rbel_al ?_)); clear LK;  clear hb rB cS hB d1)
 go_region
 all_goals
  clear lk0 lk1 lk2 lk3 lk4 HM d2 b0 q1 q2 q3 q4 q5 q6 q7 q8
  have BV : Hid (Below u.heap.size u (u1.alloc (.cells #[.int .i64 1, .func (.func fn) #[] lb] 105)).drew) := rbel_dr (rbel_al B1.out)
  have RT : Hid (Row (u1.alloc (.cells #[.int .i64 1, .func (.func fn) #[] lb] 105)).drew u1.heap.size [.int .i64 1, .func (.func fn) #[] lb]) := Row.dr (Row.made rfl)
  have P1 : Hid (Row (u1.alloc (.cells #[.int .i64 1, .func (.func fn) #[] lb] 105)).drew u.heap.size [.int .i64 0, .nilFunc]) := Row.dr (Row.al Q1.out)
  have P2 : Hid (Row (u1.alloc (.cells #[.int .i64 1, .func (.func fn) #[] lb] 105)).drew (u.heap.size + 1) [.int .i64 0, .int .i64 0]) := Row.dr (Row.al Q2.out)
  have PB : Hid (Row (u1.alloc (.cells #[.int .i64 1, .func (.func fn) #[] lb] 105)).drew B [.string (txt h), .string (txt p)]) := Row.dr (Row.al RB.out)
  have zV : u1.heap.size < (u1.alloc (.cells #[.int .i64 1, .func (.func fn) #[] lb] 105)).drew.heap.size := by simp
  clear Q1 Q2 RB B1
  generalize (u1.alloc (.cells #[.int .i64 1, .func (.func fn) #[] lb] 105)).drew = V at *
  have lA1 : ¬ (u.heap.size = V.heap.size) := by omega
  have lA2 : ¬ (V.heap.size = u.heap.size) := by omega
  have lA3 : ¬ (u.heap.size + 1 = V.heap.size) := by omega
  have lA4 : ¬ (V.heap.size = u.heap.size + 1) := by omega
  have lA5 : ¬ (u1.heap.size = V.heap.size) := by omega
  have lA6 : ¬ (V.heap.size = u1.heap.size) := by omega
  have lA7 : ¬ (B = V.heap.size) := by omega
  have lA8 : ¬ (V.heap.size = B) := by omega
  have lA9 : u.heap.size < V.heap.size := by omega
  have lA10 : u.heap.size + 1 < V.heap.size := by omega
  have lA11 : B < V.heap.size := by omega
  have RT0c0 := RT.out.c 0 _ rfl
  have RT0c1 := RT.out.c 1 _ rfl
  have P10c0 := P1.out.c 0 _ rfl
  have P10c1 := P1.out.c 1 _ rfl
  have P20c0 := P2.out.c 0 _ rfl
  have P20c1 := P2.out.c 1 _ rfl
  have P10f0 := P1.out.f 0 _ rfl
  have P10f1 := P1.out.f 1 _ rfl
  have P20f0 := P2.out.f 0 _ rfl
  have P20f1 := P2.out.f 1 _ rfl
  have PB0c1 := PB.out.c 1 _ rfl
  go_wp2
  refine wp_loop_rounds 1 ?_
  rw [rounds_succ]
  go_wp2_with (go_at_call 71; refine (cN0 _ (rbel_al BV.out)).mono ?_; rintro o u2 ⟨rfl, hb⟩; have BW1 : Hid (Below u.heap.size u u2) := rbel_on hb (rbel_al BV.out); have RT1 : Hid (Row u2 u1.heap.size [.int .i64 1, .func (.func fn) #[] lb]) := Row.on hb (Row.al RT.out); have P11 : Hid (Row u2 u.heap.size [.int .i64 0, .nilFunc]) := Row.on hb (Row.al P1.out); have P21 : Hid (Row u2 (u.heap.size + 1) [.int .i64 0, .int .i64 0]) := Row.on hb (Row.al P2.out); have PB1 : Hid (Row u2 B [.string (txt h), .string (txt p)]) := Row.on hb (Row.al PB.out); have RA1 : Hid (Row u2 V.heap.size [.int .i64 0, .int .i64 0]) := Row.on hb (Row.made rfl); have RT1c0 := RT1.out.c 0 _ rfl; have RT1c1 := RT1.out.c 1 _ rfl; have P11c0 := P11.out.c 0 _ rfl; have P11c1 := P11.out.c 1 _ rfl; have P21c0 := P21.out.c 0 _ rfl; have P21c1 := P21.out.c 1 _ rfl; have P11f0 := P11.out.f 0 _ rfl; have P11f1 := P11.out.f 1 _ rfl; have P21f0 := P21.out.f 0 _ rfl; have P21f1 := P21.out.f 1 _ rfl; have PB1c1 := PB1.out.c 1 _ rfl; have RA1c0 := RA1.out.c 0 _ rfl; have RA1f0 := RA1.out.f 0 _ rfl; have RA1c1 := RA1.out.c 1 _ rfl; have RA1f1 := RA1.out.f 1 _ rfl; have lV1 : V.heap.size < u2.heap.size := RA1.out.lt; clear hb)
  all_goals exact bodyPost_ret (v := .tuple #[.agg #[.int .i64 0, .nilFunc], .agg #[.int .i64 0, .int .i64 0], lineV]) (by simp [results, Tryz.results41, go_sem, lineV, *]) rfl (Rd.bad hc (by (repeat first | with_reducible exact BW1.out | with_reducible refine rbel_put (by omega) ?_ | with_reducible refine rbel_drn ?_ | with_reducible refine rbel_dr ?_ | with_reducible refine rbel_al ?_)))
set_option maxRecDepth 100000 in
set_option maxHeartbeats 8000000 in
theorem read_1ok (C : DkC w0) (hw0 : Below w0.heap.size w0 u) (hE : ShE u) (d : Row u Z [.pointer (some ⟨nb, 0, none⟩), .map (some M)]) (hM : WdM u X M) (s h : List UInt8) (p : List UInt8) (hs : s.length ≤ 3000) (hh : (txt h).size ≤ maxLen) (e : cutB 32 s = [h, p]) (lp : (txt p).size ≤ 3000) (h0 : wordB h ≠ 0) (h9 : wordB h ≤ 9) (fn : Nat) (lb : Array Value) (hv : wV X (wordB h) = .agg #[.int .i64 ((1 : Nat) : Int), .func (.func fn) #[] lb]) (hX : EnvX u) (a : Nat) (ha : a ≤ 9999999) (np : numD p = some a) (hc : cmdB s = (wordB h, ((a : Nat) : Int), ((0 : Nat) : Int))) : Calls Tryz.prog 41 #[.pointer (some ⟨Z, 0, none⟩), .string (txt s)] u (Rd X s u) := by
 have cN0 := fun (v : World) (hv : Below u.heap.size u v) => num_ok C (txt p) a (rbel_on hv hw0) lp np
 clear np
 clear hX
 have cS := fun (v : World) (hv : Below u.heap.size u v) => split_row s v (hE.below hv) hs ([h, p]) e ([.string (txt h), .string (txt p)]) rfl (2) rfl
 have d1 := d.c 1 _ rfl
 have zd := d.lt
 have nZ : ¬ (Z = u.heap.size) := by omega
 have HM : Hid (WdM u X M) := hM
 have HW : Hid (Below w0.heap.size w0 u) := hw0
 clear d hM hw0 e
 go_enter Tryz.func41, Tryz.ntmps41
 go_wp2_with (go_at_call 70; refine (cS _ (by (repeat first | with_reducible exact Below.refl _ _ | with_reducible refine rbel_put (by omega) ?_ | with_reducible refine rbel_drn ?_ | with_reducible refine rbel_dr ?_ | with_reducible refine rbel_al ?_))).mono ?_; rintro o u1 ⟨B, rfl, rB, hB, hb⟩; have B1 : Hid (Below u.heap.size u u1) := rbel_on hb (by (repeat first | with_reducible exact Below.refl _ _ | with_reducible refine rbel_put (by omega) ?_ | with_reducible refine rbel_drn ?_ | with_reducible refine rbel_dr ?_ | with_reducible refine rbel_al ?_)); have zB : u.heap.size + 1 < u1.heap.size := (by have := hb.size; simp at this; omega); have RB : Hid (Row u1 B _) := rB; have b0 := rB.c 0 _ rfl; have lB := rB.lt; have Q1 : Hid (Row u1 u.heap.size [.int .i64 0, .nilFunc]) := Row.on hb (Row.al (Row.made rfl)); have Q2 : Hid (Row u1 (u.heap.size + 1) [.int .i64 0, .int .i64 0]) := Row.on hb (Row.made (by simp)); have q1 := Q1.out.c 0 _ rfl; have q2 := Q1.out.c 1 _ rfl; have q3 := Q1.out.f 0 _ rfl; have q4 := Q1.out.f 1 _ rfl; have q5 := Q2.out.c 0 _ rfl; have q6 := Q2.out.c 1 _ rfl; have q7 := Q2.out.f 0 _ rfl; have q8 := Q2.out.f 1 _ rfl; have zB2 : u.heap.size < B := (by simp at hB; omega); have zA : u.heap.size < u1.heap.size := (by omega); have za1 : ¬ (u.heap.size = u1.heap.size) := (by omega); have za2 : ¬ (u1.heap.size = u.heap.size) := (by omega); have za3 : ¬ (u.heap.size + 1 = u1.heap.size) := (by omega); have za4 : ¬ (u1.heap.size = u.heap.size + 1) := (by omega); have za5 : ¬ (u.heap.size + 1 = u.heap.size) := (by omega); have za6 : ¬ (u.heap.size = u.heap.size + 1) := (by omega); have d2 : u1.cell? ⟨Z, 1, none⟩ = some (.map (some M)) := (by rw [B1.out.cell (p := ⟨Z, 1, none⟩) zd]; exact d1); have zd2 : Z < u1.heap.size := Nat.lt_of_lt_of_le zd B1.out.size; have LK : ∀ v, Below u1.heap.size u1 v → (Instr.lookup 93 (.map (some M)) (.string (txt h)) true).run Tryz.prog v = .ok (.tuple #[.agg #[.int .i64 ((1 : Nat) : Int), .func (.func fn) #[] lb], .bool true]) v := (fun v hbv => (by have q := (HM.out.on (rbel_on hbv B1.out)).look (txt h) hh; rw [show (txt h).data.toList = h from rfl, hv, decide_eq_true h0] at q; exact q)); have lk0 := LK u1 (by (repeat first | with_reducible exact Below.refl _ _ | with_reducible refine rbel_dr ?_ | with_reducible refine rbel_al ?_)); have lk1 := LK u1.drew (by (repeat first | with_reducible exact Below.refl _ _ | with_reducible refine rbel_dr ?_ | with_reducible refine rbel_al ?_)); have lk2 := LK (u1.alloc (.cells #[.int .i64 0, .nilFunc] 105)) (by (repeat first | with_reducible exact Below.refl _ _ | with_reducible refine rbel_dr ?_ | with_reducible refine rbel_al ?_)); have lk3 := LK (u1.alloc (.cells #[.int .i64 0, .nilFunc] 105)).drew (by (repeat first | with_reducible exact Below.refl _ _ | with_reducible refine rbel_dr ?_ | with_reducible refine rbel_al ?_)); have lk4 := LK (u1.drew.alloc (.cells #[.int .i64 0, .nilFunc] 105)) (by (repeat first | with_reducible exact Below.refl _ _ | with_reducible refine rbel_dr ?_ | with_reducible refine rbel_al ?_)); clear LK;  clear hb rB cS hB d1)
 go_region
 all_goals
  clear lk0 lk1 lk2 lk3 lk4 HM d2 b0 q1 q2 q3 q4 q5 q6 q7 q8
  have BV : Hid (Below u.heap.size u (u1.alloc (.cells #[.int .i64 1, .func (.func fn) #[] lb] 105)).drew) := rbel_dr (rbel_al B1.out)
  have RT : Hid (Row (u1.alloc (.cells #[.int .i64 1, .func (.func fn) #[] lb] 105)).drew u1.heap.size [.int .i64 1, .func (.func fn) #[] lb]) := Row.dr (Row.made rfl)
  have P1 : Hid (Row (u1.alloc (.cells #[.int .i64 1, .func (.func fn) #[] lb] 105)).drew u.heap.size [.int .i64 0, .nilFunc]) := Row.dr (Row.al Q1.out)
  have P2 : Hid (Row (u1.alloc (.cells #[.int .i64 1, .func (.func fn) #[] lb] 105)).drew (u.heap.size + 1) [.int .i64 0, .int .i64 0]) := Row.dr (Row.al Q2.out)
  have PB : Hid (Row (u1.alloc (.cells #[.int .i64 1, .func (.func fn) #[] lb] 105)).drew B [.string (txt h), .string (txt p)]) := Row.dr (Row.al RB.out)
  have zV : u1.heap.size < (u1.alloc (.cells #[.int .i64 1, .func (.func fn) #[] lb] 105)).drew.heap.size := by simp
  clear Q1 Q2 RB B1
  generalize (u1.alloc (.cells #[.int .i64 1, .func (.func fn) #[] lb] 105)).drew = V at *
  have lA1 : ¬ (u.heap.size = V.heap.size) := by omega
  have lA2 : ¬ (V.heap.size = u.heap.size) := by omega
  have lA3 : ¬ (u.heap.size + 1 = V.heap.size) := by omega
  have lA4 : ¬ (V.heap.size = u.heap.size + 1) := by omega
  have lA5 : ¬ (u1.heap.size = V.heap.size) := by omega
  have lA6 : ¬ (V.heap.size = u1.heap.size) := by omega
  have lA7 : ¬ (B = V.heap.size) := by omega
  have lA8 : ¬ (V.heap.size = B) := by omega
  have lA9 : u.heap.size < V.heap.size := by omega
  have lA10 : u.heap.size + 1 < V.heap.size := by omega
  have lA11 : B < V.heap.size := by omega
  have RT0c0 := RT.out.c 0 _ rfl
  have RT0c1 := RT.out.c 1 _ rfl
  have P10c0 := P1.out.c 0 _ rfl
  have P10c1 := P1.out.c 1 _ rfl
  have P20c0 := P2.out.c 0 _ rfl
  have P20c1 := P2.out.c 1 _ rfl
  have P10f0 := P1.out.f 0 _ rfl
  have P10f1 := P1.out.f 1 _ rfl
  have P20f0 := P2.out.f 0 _ rfl
  have P20f1 := P2.out.f 1 _ rfl
  have PB0c1 := PB.out.c 1 _ rfl
  go_wp2
  refine wp_loop_rounds 2 ?_
  rw [rounds_succ]
  go_wp2_with (go_at_call 71; refine (cN0 _ (rbel_al BV.out)).mono ?_; rintro o u2 ⟨rfl, hb⟩; have BW1 : Hid (Below u.heap.size u u2) := rbel_on hb (rbel_al BV.out); have RT1 : Hid (Row u2 u1.heap.size [.int .i64 1, .func (.func fn) #[] lb]) := Row.on hb (Row.al RT.out); have P11 : Hid (Row u2 u.heap.size [.int .i64 0, .nilFunc]) := Row.on hb (Row.al P1.out); have P21 : Hid (Row u2 (u.heap.size + 1) [.int .i64 0, .int .i64 0]) := Row.on hb (Row.al P2.out); have PB1 : Hid (Row u2 B [.string (txt h), .string (txt p)]) := Row.on hb (Row.al PB.out); have RA1 : Hid (Row u2 V.heap.size [.int .i64 0, .int .i64 0]) := Row.on hb (Row.made rfl); have RT1c0 := RT1.out.c 0 _ rfl; have RT1c1 := RT1.out.c 1 _ rfl; have P11c0 := P11.out.c 0 _ rfl; have P11c1 := P11.out.c 1 _ rfl; have P21c0 := P21.out.c 0 _ rfl; have P21c1 := P21.out.c 1 _ rfl; have P11f0 := P11.out.f 0 _ rfl; have P11f1 := P11.out.f 1 _ rfl; have P21f0 := P21.out.f 0 _ rfl; have P21f1 := P21.out.f 1 _ rfl; have PB1c1 := PB1.out.c 1 _ rfl; have RA1c0 := RA1.out.c 0 _ rfl; have RA1f0 := RA1.out.f 0 _ rfl; have RA1c1 := RA1.out.c 1 _ rfl; have RA1f1 := RA1.out.f 1 _ rfl; have lV1 : V.heap.size < u2.heap.size := RA1.out.lt; clear hb)
  rw [rounds_succ]
  go_wp2
  go_region
  all_goals (try go_wp2)
  all_goals exact bodyPost_ret (v := .tuple #[.agg #[.int .i64 ((1 : Nat) : Int), .func (.func fn) #[] lb], .agg #[.int .i64 ((a : Nat) : Int), .int .i64 ((0 : Nat) : Int)], .nilIface]) (by simp [results, Tryz.results41, go_sem, *]) rfl (Rd.good a 0 hv h0 h9 (by omega) (by omega) hc (by (repeat first | with_reducible exact BW1.out | with_reducible refine rbel_put (by omega) ?_ | with_reducible refine rbel_drn ?_ | with_reducible refine rbel_dr ?_ | with_reducible refine rbel_al ?_)))
set_option maxRecDepth 100000 in
set_option maxHeartbeats 8000000 in
theorem read_2n (C : DkC w0) (hw0 : Below w0.heap.size w0 u) (hE : ShE u) (d : Row u Z [.pointer (some ⟨nb, 0, none⟩), .map (some M)]) (hM : WdM u X M) (s h : List UInt8) (p : List UInt8) (q : List UInt8) (hs : s.length ≤ 3000) (hh : (txt h).size ≤ maxLen) (e : cutB 32 s = [h, p, q]) (lp : (txt p).size ≤ 3000) (lq : (txt q).size ≤ 3000) (h0 : wordB h ≠ 0) (h9 : wordB h ≤ 9) (fn : Nat) (lb : Array Value) (hv : wV X (wordB h) = .agg #[.int .i64 ((2 : Nat) : Int), .func (.func fn) #[] lb]) (hX : EnvX u) (np : numD p = none) (hc : cmdB s = (0, 0, 0)) : Calls Tryz.prog 41 #[.pointer (some ⟨Z, 0, none⟩), .string (txt s)] u (Rd X s u) := by
 have cN0 := fun (v : World) (hv : Below u.heap.size u v) => num_bad C (txt p) (rbel_on hv hw0) (hX.below hv) lp np
 unfold lineV at cN0
 clear np
 clear hX
 have cS := fun (v : World) (hv : Below u.heap.size u v) => split_row s v (hE.below hv) hs ([h, p, q]) e ([.string (txt h), .string (txt p), .string (txt q)]) rfl (3) rfl
 have d1 := d.c 1 _ rfl
 have zd := d.lt
 have nZ : ¬ (Z = u.heap.size) := by omega
 have HM : Hid (WdM u X M) := hM
 have HW : Hid (Below w0.heap.size w0 u) := hw0
 clear d hM hw0 e
 go_enter Tryz.func41, Tryz.ntmps41
 go_wp2_with (go_at_call 70; refine (cS _ (by (repeat first | with_reducible exact Below.refl _ _ | with_reducible refine rbel_put (by omega) ?_ | with_reducible refine rbel_drn ?_ | with_reducible refine rbel_dr ?_ | with_reducible refine rbel_al ?_))).mono ?_; rintro o u1 ⟨B, rfl, rB, hB, hb⟩; have B1 : Hid (Below u.heap.size u u1) := rbel_on hb (by (repeat first | with_reducible exact Below.refl _ _ | with_reducible refine rbel_put (by omega) ?_ | with_reducible refine rbel_drn ?_ | with_reducible refine rbel_dr ?_ | with_reducible refine rbel_al ?_)); have zB : u.heap.size + 1 < u1.heap.size := (by have := hb.size; simp at this; omega); have RB : Hid (Row u1 B _) := rB; have b0 := rB.c 0 _ rfl; have lB := rB.lt; have Q1 : Hid (Row u1 u.heap.size [.int .i64 0, .nilFunc]) := Row.on hb (Row.al (Row.made rfl)); have Q2 : Hid (Row u1 (u.heap.size + 1) [.int .i64 0, .int .i64 0]) := Row.on hb (Row.made (by simp)); have q1 := Q1.out.c 0 _ rfl; have q2 := Q1.out.c 1 _ rfl; have q3 := Q1.out.f 0 _ rfl; have q4 := Q1.out.f 1 _ rfl; have q5 := Q2.out.c 0 _ rfl; have q6 := Q2.out.c 1 _ rfl; have q7 := Q2.out.f 0 _ rfl; have q8 := Q2.out.f 1 _ rfl; have zB2 : u.heap.size < B := (by simp at hB; omega); have zA : u.heap.size < u1.heap.size := (by omega); have za1 : ¬ (u.heap.size = u1.heap.size) := (by omega); have za2 : ¬ (u1.heap.size = u.heap.size) := (by omega); have za3 : ¬ (u.heap.size + 1 = u1.heap.size) := (by omega); have za4 : ¬ (u1.heap.size = u.heap.size + 1) := (by omega); have za5 : ¬ (u.heap.size + 1 = u.heap.size) := (by omega); have za6 : ¬ (u.heap.size = u.heap.size + 1) := (by omega); have d2 : u1.cell? ⟨Z, 1, none⟩ = some (.map (some M)) := (by rw [B1.out.cell (p := ⟨Z, 1, none⟩) zd]; exact d1); have zd2 : Z < u1.heap.size := Nat.lt_of_lt_of_le zd B1.out.size; have LK : ∀ v, Below u1.heap.size u1 v → (Instr.lookup 93 (.map (some M)) (.string (txt h)) true).run Tryz.prog v = .ok (.tuple #[.agg #[.int .i64 ((2 : Nat) : Int), .func (.func fn) #[] lb], .bool true]) v := (fun v hbv => (by have q := (HM.out.on (rbel_on hbv B1.out)).look (txt h) hh; rw [show (txt h).data.toList = h from rfl, hv, decide_eq_true h0] at q; exact q)); have lk0 := LK u1 (by (repeat first | with_reducible exact Below.refl _ _ | with_reducible refine rbel_dr ?_ | with_reducible refine rbel_al ?_)); have lk1 := LK u1.drew (by (repeat first | with_reducible exact Below.refl _ _ | with_reducible refine rbel_dr ?_ | with_reducible refine rbel_al ?_)); have lk2 := LK (u1.alloc (.cells #[.int .i64 0, .nilFunc] 105)) (by (repeat first | with_reducible exact Below.refl _ _ | with_reducible refine rbel_dr ?_ | with_reducible refine rbel_al ?_)); have lk3 := LK (u1.alloc (.cells #[.int .i64 0, .nilFunc] 105)).drew (by (repeat first | with_reducible exact Below.refl _ _ | with_reducible refine rbel_dr ?_ | with_reducible refine rbel_al ?_)); have lk4 := LK (u1.drew.alloc (.cells #[.int .i64 0, .nilFunc] 105)) (by (repeat first | with_reducible exact Below.refl _ _ | with_reducible refine rbel_dr ?_ | with_reducible refine rbel_al ?_)); clear LK;  clear hb rB cS hB d1)
 go_region
 all_goals
  clear lk0 lk1 lk2 lk3 lk4 HM d2 b0 q1 q2 q3 q4 q5 q6 q7 q8
  have BV : Hid (Below u.heap.size u (u1.alloc (.cells #[.int .i64 2, .func (.func fn) #[] lb] 105)).drew) := rbel_dr (rbel_al B1.out)
  have RT : Hid (Row (u1.alloc (.cells #[.int .i64 2, .func (.func fn) #[] lb] 105)).drew u1.heap.size [.int .i64 2, .func (.func fn) #[] lb]) := Row.dr (Row.made rfl)
  have P1 : Hid (Row (u1.alloc (.cells #[.int .i64 2, .func (.func fn) #[] lb] 105)).drew u.heap.size [.int .i64 0, .nilFunc]) := Row.dr (Row.al Q1.out)
  have P2 : Hid (Row (u1.alloc (.cells #[.int .i64 2, .func (.func fn) #[] lb] 105)).drew (u.heap.size + 1) [.int .i64 0, .int .i64 0]) := Row.dr (Row.al Q2.out)
  have PB : Hid (Row (u1.alloc (.cells #[.int .i64 2, .func (.func fn) #[] lb] 105)).drew B [.string (txt h), .string (txt p), .string (txt q)]) := Row.dr (Row.al RB.out)
  have zV : u1.heap.size < (u1.alloc (.cells #[.int .i64 2, .func (.func fn) #[] lb] 105)).drew.heap.size := by simp
  clear Q1 Q2 RB B1
  generalize (u1.alloc (.cells #[.int .i64 2, .func (.func fn) #[] lb] 105)).drew = V at *
  have lA1 : ¬ (u.heap.size = V.heap.size) := by omega
  have lA2 : ¬ (V.heap.size = u.heap.size) := by omega
  have lA3 : ¬ (u.heap.size + 1 = V.heap.size) := by omega
  have lA4 : ¬ (V.heap.size = u.heap.size + 1) := by omega
  have lA5 : ¬ (u1.heap.size = V.heap.size) := by omega
  have lA6 : ¬ (V.heap.size = u1.heap.size) := by omega
  have lA7 : ¬ (B = V.heap.size) := by omega
  have lA8 : ¬ (V.heap.size = B) := by omega
  have lA9 : u.heap.size < V.heap.size := by omega
  have lA10 : u.heap.size + 1 < V.heap.size := by omega
  have lA11 : B < V.heap.size := by omega
  have RT0c0 := RT.out.c 0 _ rfl
  have RT0c1 := RT.out.c 1 _ rfl
  have P10c0 := P1.out.c 0 _ rfl
  have P10c1 := P1.out.c 1 _ rfl
  have P20c0 := P2.out.c 0 _ rfl
  have P20c1 := P2.out.c 1 _ rfl
  have P10f0 := P1.out.f 0 _ rfl
  have P10f1 := P1.out.f 1 _ rfl
  have P20f0 := P2.out.f 0 _ rfl
  have P20f1 := P2.out.f 1 _ rfl
  have PB0c1 := PB.out.c 1 _ rfl
  have PB0c2 := PB.out.c 2 _ rfl
  go_wp2
  refine wp_loop_rounds 1 ?_
  rw [rounds_succ]
  go_wp2_with (go_at_call 71; refine (cN0 _ (rbel_al BV.out)).mono ?_; rintro o u2 ⟨rfl, hb⟩; have BW1 : Hid (Below u.heap.size u u2) := rbel_on hb (rbel_al BV.out); have RT1 : Hid (Row u2 u1.heap.size [.int .i64 2, .func (.func fn) #[] lb]) := Row.on hb (Row.al RT.out); have P11 : Hid (Row u2 u.heap.size [.int .i64 0, .nilFunc]) := Row.on hb (Row.al P1.out); have P21 : Hid (Row u2 (u.heap.size + 1) [.int .i64 0, .int .i64 0]) := Row.on hb (Row.al P2.out); have PB1 : Hid (Row u2 B [.string (txt h), .string (txt p), .string (txt q)]) := Row.on hb (Row.al PB.out); have RA1 : Hid (Row u2 V.heap.size [.int .i64 0, .int .i64 0]) := Row.on hb (Row.made rfl); have RT1c0 := RT1.out.c 0 _ rfl; have RT1c1 := RT1.out.c 1 _ rfl; have P11c0 := P11.out.c 0 _ rfl; have P11c1 := P11.out.c 1 _ rfl; have P21c0 := P21.out.c 0 _ rfl; have P21c1 := P21.out.c 1 _ rfl; have P11f0 := P11.out.f 0 _ rfl; have P11f1 := P11.out.f 1 _ rfl; have P21f0 := P21.out.f 0 _ rfl; have P21f1 := P21.out.f 1 _ rfl; have PB1c1 := PB1.out.c 1 _ rfl; have PB1c2 := PB1.out.c 2 _ rfl; have RA1c0 := RA1.out.c 0 _ rfl; have RA1f0 := RA1.out.f 0 _ rfl; have RA1c1 := RA1.out.c 1 _ rfl; have RA1f1 := RA1.out.f 1 _ rfl; have lV1 : V.heap.size < u2.heap.size := RA1.out.lt; clear hb)
  all_goals exact bodyPost_ret (v := .tuple #[.agg #[.int .i64 0, .nilFunc], .agg #[.int .i64 0, .int .i64 0], lineV]) (by simp [results, Tryz.results41, go_sem, lineV, *]) rfl (Rd.bad hc (by (repeat first | with_reducible exact BW1.out | with_reducible refine rbel_put (by omega) ?_ | with_reducible refine rbel_drn ?_ | with_reducible refine rbel_dr ?_ | with_reducible refine rbel_al ?_)))
set_option maxRecDepth 100000 in
set_option maxHeartbeats 8000000 in
theorem read_2m (C : DkC w0) (hw0 : Below w0.heap.size w0 u) (hE : ShE u) (d : Row u Z [.pointer (some ⟨nb, 0, none⟩), .map (some M)]) (hM : WdM u X M) (s h : List UInt8) (p : List UInt8) (q : List UInt8) (hs : s.length ≤ 3000) (hh : (txt h).size ≤ maxLen) (e : cutB 32 s = [h, p, q]) (lp : (txt p).size ≤ 3000) (lq : (txt q).size ≤ 3000) (h0 : wordB h ≠ 0) (h9 : wordB h ≤ 9) (fn : Nat) (lb : Array Value) (hv : wV X (wordB h) = .agg #[.int .i64 ((2 : Nat) : Int), .func (.func fn) #[] lb]) (hX : EnvX u) (a : Nat) (ha : a ≤ 9999999) (np : numD p = some a) (nq : numD q = none) (hc : cmdB s = (0, 0, 0)) : Calls Tryz.prog 41 #[.pointer (some ⟨Z, 0, none⟩), .string (txt s)] u (Rd X s u) := by
 have cN0 := fun (v : World) (hv : Below u.heap.size u v) => num_ok C (txt p) a (rbel_on hv hw0) lp np
 have cN1 := fun (v : World) (hv : Below u.heap.size u v) => num_bad C (txt q) (rbel_on hv hw0) (hX.below hv) lq nq
 unfold lineV at cN1
 clear np
 clear nq
 clear hX
 have cS := fun (v : World) (hv : Below u.heap.size u v) => split_row s v (hE.below hv) hs ([h, p, q]) e ([.string (txt h), .string (txt p), .string (txt q)]) rfl (3) rfl
 have d1 := d.c 1 _ rfl
 have zd := d.lt
 have nZ : ¬ (Z = u.heap.size) := by omega
 have HM : Hid (WdM u X M) := hM
 have HW : Hid (Below w0.heap.size w0 u) := hw0
 clear d hM hw0 e
 go_enter Tryz.func41, Tryz.ntmps41
 go_wp2_with (go_at_call 70; refine (cS _ (by (repeat first | with_reducible exact Below.refl _ _ | with_reducible refine rbel_put (by omega) ?_ | with_reducible refine rbel_drn ?_ | with_reducible refine rbel_dr ?_ | with_reducible refine rbel_al ?_))).mono ?_; rintro o u1 ⟨B, rfl, rB, hB, hb⟩; have B1 : Hid (Below u.heap.size u u1) := rbel_on hb (by (repeat first | with_reducible exact Below.refl _ _ | with_reducible refine rbel_put (by omega) ?_ | with_reducible refine rbel_drn ?_ | with_reducible refine rbel_dr ?_ | with_reducible refine rbel_al ?_)); have zB : u.heap.size + 1 < u1.heap.size := (by have := hb.size; simp at this; omega); have RB : Hid (Row u1 B _) := rB; have b0 := rB.c 0 _ rfl; have lB := rB.lt; have Q1 : Hid (Row u1 u.heap.size [.int .i64 0, .nilFunc]) := Row.on hb (Row.al (Row.made rfl)); have Q2 : Hid (Row u1 (u.heap.size + 1) [.int .i64 0, .int .i64 0]) := Row.on hb (Row.made (by simp)); have q1 := Q1.out.c 0 _ rfl; have q2 := Q1.out.c 1 _ rfl; have q3 := Q1.out.f 0 _ rfl; have q4 := Q1.out.f 1 _ rfl; have q5 := Q2.out.c 0 _ rfl; have q6 := Q2.out.c 1 _ rfl; have q7 := Q2.out.f 0 _ rfl; have q8 := Q2.out.f 1 _ rfl; have zB2 : u.heap.size < B := (by simp at hB; omega); have zA : u.heap.size < u1.heap.size := (by omega); have za1 : ¬ (u.heap.size = u1.heap.size) := (by omega); have za2 : ¬ (u1.heap.size = u.heap.size) := (by omega); have za3 : ¬ (u.heap.size + 1 = u1.heap.size) := (by omega); have za4 : ¬ (u1.heap.size = u.heap.size + 1) := (by omega); have za5 : ¬ (u.heap.size + 1 = u.heap.size) := (by omega); have za6 : ¬ (u.heap.size = u.heap.size + 1) := (by omega); have d2 : u1.cell? ⟨Z, 1, none⟩ = some (.map (some M)) := (by rw [B1.out.cell (p := ⟨Z, 1, none⟩) zd]; exact d1); have zd2 : Z < u1.heap.size := Nat.lt_of_lt_of_le zd B1.out.size; have LK : ∀ v, Below u1.heap.size u1 v → (Instr.lookup 93 (.map (some M)) (.string (txt h)) true).run Tryz.prog v = .ok (.tuple #[.agg #[.int .i64 ((2 : Nat) : Int), .func (.func fn) #[] lb], .bool true]) v := (fun v hbv => (by have q := (HM.out.on (rbel_on hbv B1.out)).look (txt h) hh; rw [show (txt h).data.toList = h from rfl, hv, decide_eq_true h0] at q; exact q)); have lk0 := LK u1 (by (repeat first | with_reducible exact Below.refl _ _ | with_reducible refine rbel_dr ?_ | with_reducible refine rbel_al ?_)); have lk1 := LK u1.drew (by (repeat first | with_reducible exact Below.refl _ _ | with_reducible refine rbel_dr ?_ | with_reducible refine rbel_al ?_)); have lk2 := LK (u1.alloc (.cells #[.int .i64 0, .nilFunc] 105)) (by (repeat first | with_reducible exact Below.refl _ _ | with_reducible refine rbel_dr ?_ | with_reducible refine rbel_al ?_)); have lk3 := LK (u1.alloc (.cells #[.int .i64 0, .nilFunc] 105)).drew (by (repeat first | with_reducible exact Below.refl _ _ | with_reducible refine rbel_dr ?_ | with_reducible refine rbel_al ?_)); have lk4 := LK (u1.drew.alloc (.cells #[.int .i64 0, .nilFunc] 105)) (by (repeat first | with_reducible exact Below.refl _ _ | with_reducible refine rbel_dr ?_ | with_reducible refine rbel_al ?_)); clear LK;  clear hb rB cS hB d1)
 go_region
 all_goals
  clear lk0 lk1 lk2 lk3 lk4 HM d2 b0 q1 q2 q3 q4 q5 q6 q7 q8
  have BV : Hid (Below u.heap.size u (u1.alloc (.cells #[.int .i64 2, .func (.func fn) #[] lb] 105)).drew) := rbel_dr (rbel_al B1.out)
  have RT : Hid (Row (u1.alloc (.cells #[.int .i64 2, .func (.func fn) #[] lb] 105)).drew u1.heap.size [.int .i64 2, .func (.func fn) #[] lb]) := Row.dr (Row.made rfl)
  have P1 : Hid (Row (u1.alloc (.cells #[.int .i64 2, .func (.func fn) #[] lb] 105)).drew u.heap.size [.int .i64 0, .nilFunc]) := Row.dr (Row.al Q1.out)
  have P2 : Hid (Row (u1.alloc (.cells #[.int .i64 2, .func (.func fn) #[] lb] 105)).drew (u.heap.size + 1) [.int .i64 0, .int .i64 0]) := Row.dr (Row.al Q2.out)
  have PB : Hid (Row (u1.alloc (.cells #[.int .i64 2, .func (.func fn) #[] lb] 105)).drew B [.string (txt h), .string (txt p), .string (txt q)]) := Row.dr (Row.al RB.out)
  have zV : u1.heap.size < (u1.alloc (.cells #[.int .i64 2, .func (.func fn) #[] lb] 105)).drew.heap.size := by simp
  clear Q1 Q2 RB B1
  generalize (u1.alloc (.cells #[.int .i64 2, .func (.func fn) #[] lb] 105)).drew = V at *
  have lA1 : ¬ (u.heap.size = V.heap.size) := by omega
  have lA2 : ¬ (V.heap.size = u.heap.size) := by omega
  have lA3 : ¬ (u.heap.size + 1 = V.heap.size) := by omega
  have lA4 : ¬ (V.heap.size = u.heap.size + 1) := by omega
  have lA5 : ¬ (u1.heap.size = V.heap.size) := by omega
  have lA6 : ¬ (V.heap.size = u1.heap.size) := by omega
  have lA7 : ¬ (B = V.heap.size) := by omega
  have lA8 : ¬ (V.heap.size = B) := by omega
  have lA9 : u.heap.size < V.heap.size := by omega
  have lA10 : u.heap.size + 1 < V.heap.size := by omega
  have lA11 : B < V.heap.size := by omega
  have RT0c0 := RT.out.c 0 _ rfl
  have RT0c1 := RT.out.c 1 _ rfl
  have P10c0 := P1.out.c 0 _ rfl
  have P10c1 := P1.out.c 1 _ rfl
  have P20c0 := P2.out.c 0 _ rfl
  have P20c1 := P2.out.c 1 _ rfl
  have P10f0 := P1.out.f 0 _ rfl
  have P10f1 := P1.out.f 1 _ rfl
  have P20f0 := P2.out.f 0 _ rfl
  have P20f1 := P2.out.f 1 _ rfl
  have PB0c1 := PB.out.c 1 _ rfl
  have PB0c2 := PB.out.c 2 _ rfl
  go_wp2
  refine wp_loop_rounds 2 ?_
  rw [rounds_succ]
  go_wp2_with (go_at_call 71; refine (cN0 _ (rbel_al BV.out)).mono ?_; rintro o u2 ⟨rfl, hb⟩; have BW1 : Hid (Below u.heap.size u u2) := rbel_on hb (rbel_al BV.out); have RT1 : Hid (Row u2 u1.heap.size [.int .i64 2, .func (.func fn) #[] lb]) := Row.on hb (Row.al RT.out); have P11 : Hid (Row u2 u.heap.size [.int .i64 0, .nilFunc]) := Row.on hb (Row.al P1.out); have P21 : Hid (Row u2 (u.heap.size + 1) [.int .i64 0, .int .i64 0]) := Row.on hb (Row.al P2.out); have PB1 : Hid (Row u2 B [.string (txt h), .string (txt p), .string (txt q)]) := Row.on hb (Row.al PB.out); have RA1 : Hid (Row u2 V.heap.size [.int .i64 0, .int .i64 0]) := Row.on hb (Row.made rfl); have RT1c0 := RT1.out.c 0 _ rfl; have RT1c1 := RT1.out.c 1 _ rfl; have P11c0 := P11.out.c 0 _ rfl; have P11c1 := P11.out.c 1 _ rfl; have P21c0 := P21.out.c 0 _ rfl; have P21c1 := P21.out.c 1 _ rfl; have P11f0 := P11.out.f 0 _ rfl; have P11f1 := P11.out.f 1 _ rfl; have P21f0 := P21.out.f 0 _ rfl; have P21f1 := P21.out.f 1 _ rfl; have PB1c1 := PB1.out.c 1 _ rfl; have PB1c2 := PB1.out.c 2 _ rfl; have RA1c0 := RA1.out.c 0 _ rfl; have RA1f0 := RA1.out.f 0 _ rfl; have RA1c1 := RA1.out.c 1 _ rfl; have RA1f1 := RA1.out.f 1 _ rfl; have lV1 : V.heap.size < u2.heap.size := RA1.out.lt; clear hb)
  rw [rounds_succ]
  go_wp2_with (go_at_call 71; refine (cN1 _ (rbel_put (by omega) BW1.out)).mono ?_; rintro o u3 ⟨rfl, hb⟩; have BW2 : Hid (Below u.heap.size u u3) := rbel_on hb (rbel_put (by omega) BW1.out); have RT2 : Hid (Row u3 u1.heap.size [.int .i64 2, .func (.func fn) #[] lb]) := Row.on hb (Row.far (b' := V.heap.size) (i := 0) (x := .int .i64 (a : Int)) lA6 RT1.out); have P12 : Hid (Row u3 u.heap.size [.int .i64 0, .nilFunc]) := Row.on hb (Row.far (b' := V.heap.size) (i := 0) (x := .int .i64 (a : Int)) lA2 P11.out); have P22 : Hid (Row u3 (u.heap.size + 1) [.int .i64 0, .int .i64 0]) := Row.on hb (Row.far (b' := V.heap.size) (i := 0) (x := .int .i64 (a : Int)) lA4 P21.out); have PB2 : Hid (Row u3 B [.string (txt h), .string (txt p), .string (txt q)]) := Row.on hb (Row.far (b' := V.heap.size) (i := 0) (x := .int .i64 (a : Int)) lA8 PB1.out); have RA2 : Hid (Row u3 V.heap.size [.int .i64 (a : Int), .int .i64 0]) := Row.on hb (Row.put (x := .int .i64 (a : Int)) 0 RA1.out); have RT2c0 := RT2.out.c 0 _ rfl; have RT2c1 := RT2.out.c 1 _ rfl; have P12c0 := P12.out.c 0 _ rfl; have P12c1 := P12.out.c 1 _ rfl; have P22c0 := P22.out.c 0 _ rfl; have P22c1 := P22.out.c 1 _ rfl; have P12f0 := P12.out.f 0 _ rfl; have P12f1 := P12.out.f 1 _ rfl; have P22f0 := P22.out.f 0 _ rfl; have P22f1 := P22.out.f 1 _ rfl; have PB2c1 := PB2.out.c 1 _ rfl; have PB2c2 := PB2.out.c 2 _ rfl; have RA2c0 := RA2.out.c 0 _ rfl; have RA2f0 := RA2.out.f 0 _ rfl; have RA2c1 := RA2.out.c 1 _ rfl; have RA2f1 := RA2.out.f 1 _ rfl; have lV2 : V.heap.size < u3.heap.size := RA2.out.lt; clear hb)
  all_goals exact bodyPost_ret (v := .tuple #[.agg #[.int .i64 0, .nilFunc], .agg #[.int .i64 0, .int .i64 0], lineV]) (by simp [results, Tryz.results41, go_sem, lineV, *]) rfl (Rd.bad hc (by (repeat first | with_reducible exact BW2.out | with_reducible refine rbel_put (by omega) ?_ | with_reducible refine rbel_drn ?_ | with_reducible refine rbel_dr ?_ | with_reducible refine rbel_al ?_)))
set_option maxRecDepth 100000 in
set_option maxHeartbeats 8000000 in
theorem read_2ok (C : DkC w0) (hw0 : Below w0.heap.size w0 u) (hE : ShE u) (d : Row u Z [.pointer (some ⟨nb, 0, none⟩), .map (some M)]) (hM : WdM u X M) (s h : List UInt8) (p : List UInt8) (q : List UInt8) (hs : s.length ≤ 3000) (hh : (txt h).size ≤ maxLen) (e : cutB 32 s = [h, p, q]) (lp : (txt p).size ≤ 3000) (lq : (txt q).size ≤ 3000) (h0 : wordB h ≠ 0) (h9 : wordB h ≤ 9) (fn : Nat) (lb : Array Value) (hv : wV X (wordB h) = .agg #[.int .i64 ((2 : Nat) : Int), .func (.func fn) #[] lb]) (hX : EnvX u) (a : Nat) (ha : a ≤ 9999999) (np : numD p = some a) (b : Nat) (hb : b ≤ 9999999) (nq : numD q = some b) (hc : cmdB s = (wordB h, ((a : Nat) : Int), ((b : Nat) : Int))) : Calls Tryz.prog 41 #[.pointer (some ⟨Z, 0, none⟩), .string (txt s)] u (Rd X s u) := by
 have cN0 := fun (v : World) (hv : Below u.heap.size u v) => num_ok C (txt p) a (rbel_on hv hw0) lp np
 have cN1 := fun (v : World) (hv : Below u.heap.size u v) => num_ok C (txt q) b (rbel_on hv hw0) lq nq
 clear np
 clear nq
 clear hX
 have cS := fun (v : World) (hv : Below u.heap.size u v) => split_row s v (hE.below hv) hs ([h, p, q]) e ([.string (txt h), .string (txt p), .string (txt q)]) rfl (3) rfl
 have d1 := d.c 1 _ rfl
 have zd := d.lt
 have nZ : ¬ (Z = u.heap.size) := by omega
 have HM : Hid (WdM u X M) := hM
 have HW : Hid (Below w0.heap.size w0 u) := hw0
 clear d hM hw0 e
 go_enter Tryz.func41, Tryz.ntmps41
 go_wp2_with (go_at_call 70; refine (cS _ (by (repeat first | with_reducible exact Below.refl _ _ | with_reducible refine rbel_put (by omega) ?_ | with_reducible refine rbel_drn ?_ | with_reducible refine rbel_dr ?_ | with_reducible refine rbel_al ?_))).mono ?_; rintro o u1 ⟨B, rfl, rB, hB, hb⟩; have B1 : Hid (Below u.heap.size u u1) := rbel_on hb (by (repeat first | with_reducible exact Below.refl _ _ | with_reducible refine rbel_put (by omega) ?_ | with_reducible refine rbel_drn ?_ | with_reducible refine rbel_dr ?_ | with_reducible refine rbel_al ?_)); have zB : u.heap.size + 1 < u1.heap.size := (by have := hb.size; simp at this; omega); have RB : Hid (Row u1 B _) := rB; have b0 := rB.c 0 _ rfl; have lB := rB.lt; have Q1 : Hid (Row u1 u.heap.size [.int .i64 0, .nilFunc]) := Row.on hb (Row.al (Row.made rfl)); have Q2 : Hid (Row u1 (u.heap.size + 1) [.int .i64 0, .int .i64 0]) := Row.on hb (Row.made (by simp)); have q1 := Q1.out.c 0 _ rfl; have q2 := Q1.out.c 1 _ rfl; have q3 := Q1.out.f 0 _ rfl; have q4 := Q1.out.f 1 _ rfl; have q5 := Q2.out.c 0 _ rfl; have q6 := Q2.out.c 1 _ rfl; have q7 := Q2.out.f 0 _ rfl; have q8 := Q2.out.f 1 _ rfl; have zB2 : u.heap.size < B := (by simp at hB; omega); have zA : u.heap.size < u1.heap.size := (by omega); have za1 : ¬ (u.heap.size = u1.heap.size) := (by omega); have za2 : ¬ (u1.heap.size = u.heap.size) := (by omega); have za3 : ¬ (u.heap.size + 1 = u1.heap.size) := (by omega); have za4 : ¬ (u1.heap.size = u.heap.size + 1) := (by omega); have za5 : ¬ (u.heap.size + 1 = u.heap.size) := (by omega); have za6 : ¬ (u.heap.size = u.heap.size + 1) := (by omega); have d2 : u1.cell? ⟨Z, 1, none⟩ = some (.map (some M)) := (by rw [B1.out.cell (p := ⟨Z, 1, none⟩) zd]; exact d1); have zd2 : Z < u1.heap.size := Nat.lt_of_lt_of_le zd B1.out.size; have LK : ∀ v, Below u1.heap.size u1 v → (Instr.lookup 93 (.map (some M)) (.string (txt h)) true).run Tryz.prog v = .ok (.tuple #[.agg #[.int .i64 ((2 : Nat) : Int), .func (.func fn) #[] lb], .bool true]) v := (fun v hbv => (by have q := (HM.out.on (rbel_on hbv B1.out)).look (txt h) hh; rw [show (txt h).data.toList = h from rfl, hv, decide_eq_true h0] at q; exact q)); have lk0 := LK u1 (by (repeat first | with_reducible exact Below.refl _ _ | with_reducible refine rbel_dr ?_ | with_reducible refine rbel_al ?_)); have lk1 := LK u1.drew (by (repeat first | with_reducible exact Below.refl _ _ | with_reducible refine rbel_dr ?_ | with_reducible refine rbel_al ?_)); have lk2 := LK (u1.alloc (.cells #[.int .i64 0, .nilFunc] 105)) (by (repeat first | with_reducible exact Below.refl _ _ | with_reducible refine rbel_dr ?_ | with_reducible refine rbel_al ?_)); have lk3 := LK (u1.alloc (.cells #[.int .i64 0, .nilFunc] 105)).drew (by (repeat first | with_reducible exact Below.refl _ _ | with_reducible refine rbel_dr ?_ | with_reducible refine rbel_al ?_)); have lk4 := LK (u1.drew.alloc (.cells #[.int .i64 0, .nilFunc] 105)) (by (repeat first | with_reducible exact Below.refl _ _ | with_reducible refine rbel_dr ?_ | with_reducible refine rbel_al ?_)); clear LK;  clear hb rB cS hB d1)
 go_region
 all_goals
  clear lk0 lk1 lk2 lk3 lk4 HM d2 b0 q1 q2 q3 q4 q5 q6 q7 q8
  have BV : Hid (Below u.heap.size u (u1.alloc (.cells #[.int .i64 2, .func (.func fn) #[] lb] 105)).drew) := rbel_dr (rbel_al B1.out)
  have RT : Hid (Row (u1.alloc (.cells #[.int .i64 2, .func (.func fn) #[] lb] 105)).drew u1.heap.size [.int .i64 2, .func (.func fn) #[] lb]) := Row.dr (Row.made rfl)
  have P1 : Hid (Row (u1.alloc (.cells #[.int .i64 2, .func (.func fn) #[] lb] 105)).drew u.heap.size [.int .i64 0, .nilFunc]) := Row.dr (Row.al Q1.out)
  have P2 : Hid (Row (u1.alloc (.cells #[.int .i64 2, .func (.func fn) #[] lb] 105)).drew (u.heap.size + 1) [.int .i64 0, .int .i64 0]) := Row.dr (Row.al Q2.out)
  have PB : Hid (Row (u1.alloc (.cells #[.int .i64 2, .func (.func fn) #[] lb] 105)).drew B [.string (txt h), .string (txt p), .string (txt q)]) := Row.dr (Row.al RB.out)
  have zV : u1.heap.size < (u1.alloc (.cells #[.int .i64 2, .func (.func fn) #[] lb] 105)).drew.heap.size := by simp
  clear Q1 Q2 RB B1
  generalize (u1.alloc (.cells #[.int .i64 2, .func (.func fn) #[] lb] 105)).drew = V at *
  have lA1 : ¬ (u.heap.size = V.heap.size) := by omega
  have lA2 : ¬ (V.heap.size = u.heap.size) := by omega
  have lA3 : ¬ (u.heap.size + 1 = V.heap.size) := by omega
  have lA4 : ¬ (V.heap.size = u.heap.size + 1) := by omega
  have lA5 : ¬ (u1.heap.size = V.heap.size) := by omega
  have lA6 : ¬ (V.heap.size = u1.heap.size) := by omega
  have lA7 : ¬ (B = V.heap.size) := by omega
  have lA8 : ¬ (V.heap.size = B) := by omega
  have lA9 : u.heap.size < V.heap.size := by omega
  have lA10 : u.heap.size + 1 < V.heap.size := by omega
  have lA11 : B < V.heap.size := by omega
  have RT0c0 := RT.out.c 0 _ rfl
  have RT0c1 := RT.out.c 1 _ rfl
  have P10c0 := P1.out.c 0 _ rfl
  have P10c1 := P1.out.c 1 _ rfl
  have P20c0 := P2.out.c 0 _ rfl
  have P20c1 := P2.out.c 1 _ rfl
  have P10f0 := P1.out.f 0 _ rfl
  have P10f1 := P1.out.f 1 _ rfl
  have P20f0 := P2.out.f 0 _ rfl
  have P20f1 := P2.out.f 1 _ rfl
  have PB0c1 := PB.out.c 1 _ rfl
  have PB0c2 := PB.out.c 2 _ rfl
  go_wp2
  refine wp_loop_rounds 3 ?_
  rw [rounds_succ]
  go_wp2_with (go_at_call 71; refine (cN0 _ (rbel_al BV.out)).mono ?_; rintro o u2 ⟨rfl, hb⟩; have BW1 : Hid (Below u.heap.size u u2) := rbel_on hb (rbel_al BV.out); have RT1 : Hid (Row u2 u1.heap.size [.int .i64 2, .func (.func fn) #[] lb]) := Row.on hb (Row.al RT.out); have P11 : Hid (Row u2 u.heap.size [.int .i64 0, .nilFunc]) := Row.on hb (Row.al P1.out); have P21 : Hid (Row u2 (u.heap.size + 1) [.int .i64 0, .int .i64 0]) := Row.on hb (Row.al P2.out); have PB1 : Hid (Row u2 B [.string (txt h), .string (txt p), .string (txt q)]) := Row.on hb (Row.al PB.out); have RA1 : Hid (Row u2 V.heap.size [.int .i64 0, .int .i64 0]) := Row.on hb (Row.made rfl); have RT1c0 := RT1.out.c 0 _ rfl; have RT1c1 := RT1.out.c 1 _ rfl; have P11c0 := P11.out.c 0 _ rfl; have P11c1 := P11.out.c 1 _ rfl; have P21c0 := P21.out.c 0 _ rfl; have P21c1 := P21.out.c 1 _ rfl; have P11f0 := P11.out.f 0 _ rfl; have P11f1 := P11.out.f 1 _ rfl; have P21f0 := P21.out.f 0 _ rfl; have P21f1 := P21.out.f 1 _ rfl; have PB1c1 := PB1.out.c 1 _ rfl; have PB1c2 := PB1.out.c 2 _ rfl; have RA1c0 := RA1.out.c 0 _ rfl; have RA1f0 := RA1.out.f 0 _ rfl; have RA1c1 := RA1.out.c 1 _ rfl; have RA1f1 := RA1.out.f 1 _ rfl; have lV1 : V.heap.size < u2.heap.size := RA1.out.lt; clear hb)
  rw [rounds_succ]
  go_wp2_with (go_at_call 71; refine (cN1 _ (rbel_put (by omega) BW1.out)).mono ?_; rintro o u3 ⟨rfl, hb⟩; have BW2 : Hid (Below u.heap.size u u3) := rbel_on hb (rbel_put (by omega) BW1.out); have RT2 : Hid (Row u3 u1.heap.size [.int .i64 2, .func (.func fn) #[] lb]) := Row.on hb (Row.far (b' := V.heap.size) (i := 0) (x := .int .i64 (a : Int)) lA6 RT1.out); have P12 : Hid (Row u3 u.heap.size [.int .i64 0, .nilFunc]) := Row.on hb (Row.far (b' := V.heap.size) (i := 0) (x := .int .i64 (a : Int)) lA2 P11.out); have P22 : Hid (Row u3 (u.heap.size + 1) [.int .i64 0, .int .i64 0]) := Row.on hb (Row.far (b' := V.heap.size) (i := 0) (x := .int .i64 (a : Int)) lA4 P21.out); have PB2 : Hid (Row u3 B [.string (txt h), .string (txt p), .string (txt q)]) := Row.on hb (Row.far (b' := V.heap.size) (i := 0) (x := .int .i64 (a : Int)) lA8 PB1.out); have RA2 : Hid (Row u3 V.heap.size [.int .i64 (a : Int), .int .i64 0]) := Row.on hb (Row.put (x := .int .i64 (a : Int)) 0 RA1.out); have RT2c0 := RT2.out.c 0 _ rfl; have RT2c1 := RT2.out.c 1 _ rfl; have P12c0 := P12.out.c 0 _ rfl; have P12c1 := P12.out.c 1 _ rfl; have P22c0 := P22.out.c 0 _ rfl; have P22c1 := P22.out.c 1 _ rfl; have P12f0 := P12.out.f 0 _ rfl; have P12f1 := P12.out.f 1 _ rfl; have P22f0 := P22.out.f 0 _ rfl; have P22f1 := P22.out.f 1 _ rfl; have PB2c1 := PB2.out.c 1 _ rfl; have PB2c2 := PB2.out.c 2 _ rfl; have RA2c0 := RA2.out.c 0 _ rfl; have RA2f0 := RA2.out.f 0 _ rfl; have RA2c1 := RA2.out.c 1 _ rfl; have RA2f1 := RA2.out.f 1 _ rfl; have lV2 : V.heap.size < u3.heap.size := RA2.out.lt; clear hb)
  rw [rounds_succ]
  go_wp2
  go_region
  all_goals (try go_wp2)
  all_goals exact bodyPost_ret (v := .tuple #[.agg #[.int .i64 ((2 : Nat) : Int), .func (.func fn) #[] lb], .agg #[.int .i64 ((a : Nat) : Int), .int .i64 ((b : Nat) : Int)], .nilIface]) (by simp [results, Tryz.results41, go_sem, *]) rfl (Rd.good a b hv h0 h9 (by omega) (by omega) hc (by (repeat first | with_reducible exact BW2.out | with_reducible refine rbel_put (by omega) ?_ | with_reducible refine rbel_drn ?_ | with_reducible refine rbel_dr ?_ | with_reducible refine rbel_al ?_)))
theorem read_any (C : DkC w0) (hw0 : Below w0.heap.size w0 u) (hE : ShE u) (hX : EnvX u) (d : Row u Z [.pointer (some ⟨nb, 0, none⟩), .map (some M)]) (hM : WdM u X M) (s : List UInt8) (hs : s.length ≤ 3000) : Calls Tryz.prog 41 #[.pointer (some ⟨Z, 0, none⟩), .string (txt s)] u (Rd X s u) := by
 have pl : ∀ p, p ∈ cutB 32 s → (txt p).size ≤ 3000 := fun p hp => by
  have := cutA_piece 32 s [] p hp
  show p.length ≤ 3000
  simp only [List.length_nil] at this
  omega
 have mx : ∀ p, p ∈ cutB 32 s → (txt p).size ≤ maxLen := fun p hp => by
  have := pl p hp
  unfold maxLen
  omega
 have nl : (cutB 32 s).length ≤ 3001 := by have := cutA_len 32 s []; show (cutA 32 [] s).length ≤ 3001; omega
 cases e : cutB 32 s with
 | nil => exact absurd e (cutB_ne s)
 | cons h t =>
  rw [e] at pl mx nl
  have hh := mx h (List.mem_cons_self ..)
  by_cases h0 : wordB h = 0
  ·exact read_0 C hw0 hE d hM s h t hs hh e h0 (cmd_len e (Or.inl h0))
  have h9 := wordB_le h
  have hv : wV X (wordB h) = .agg #[.int .i64 (wantB (wordB h) : Int), .func (.func (fnK (wordB h))) #[] (lbK X (wordB h))] := if_neg h0
  by_cases hl : t.length = wantB (wordB h)
  ·rcases want_le (wordB h) with hw | hw | hw
   ·rw [hw] at hl hv
    have : t = [] := List.length_eq_zero_iff.1 hl
    subst this
    exact read_0ok C hw0 hE d hM s h hs hh e h0 h9 _ _ hv hX (cmd_ok e h0 (V := []) rfl (by rw [hw]; rfl))
   ·rw [hw] at hl hv
    obtain ⟨p, rfl⟩ := List.length_eq_one_iff.1 hl
    have lp := pl p (by simp)
    cases np : numD p with
    | none => exact read_1n C hw0 hE d hM s h p hs hh e lp h0 h9 _ _ hv hX np (cmdB_no e (nums_none np [] []))
    | some a => exact read_1ok C hw0 hE d hM s h p hs hh e lp h0 h9 _ _ hv hX a (numD_in np) np (cmd_ok e h0 (nums_one np) (by rw [hw]; rfl))
   ·rw [hw] at hl hv
    obtain ⟨p, q, rfl⟩ : ∃ p q, t = [p, q] := by
     match t, hl with
     | [p, q], _ => exact ⟨p, q, rfl⟩
    have lp := pl p (by simp)
    have lq := pl q (by simp)
    cases np : numD p with
    | none => exact read_2n C hw0 hE d hM s h p q hs hh e lp lq h0 h9 _ _ hv hX np (cmdB_no e (nums_none np [] [q]))
    | some a =>
     cases nq : numD q with
     | none => exact read_2m C hw0 hE d hM s h p q hs hh e lp lq h0 h9 _ _ hv hX a (numD_in np) np nq (cmdB_no e (nums_none nq [p] []))
     | some b => exact read_2ok C hw0 hE d hM s h p q hs hh e lp lq h0 h9 _ _ hv hX a (numD_in np) np b (numD_in nq) nq (cmd_ok e h0 (nums_two np nq) (by rw [hw]; rfl))
  ·have h2 : wantB (wordB h) ≤ 2 := by rcases want_le (wordB h) with q | q | q <;> omega
   refine read_len C hw0 hE d hM s h t hs hh e h0 (t.length + 1) (wantB (wordB h)) rfl (by rw [List.length_cons] at nl; omega) h2 _ _ hv ?_ (cmd_len e (Or.inr hl))
   rw [beq_eq_false_iff_ne]
   omega
end
end Go.Proofs.YtadkgnbagmnkkakGreatDoor.rn
