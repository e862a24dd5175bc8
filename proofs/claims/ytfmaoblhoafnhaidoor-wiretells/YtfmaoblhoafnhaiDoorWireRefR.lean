/- What the document's own reckoning (package noonref2) answers: the letter, and the span, of bytes. -/
import Derived.Test.YtfmaoblhoafnhaiDoorWireRefL
import Derived.Test.YtfmaoblhoafnhaiDoorWireRefB
import Derived.Test.YtfmaoblhoafnhaiDoorRefSpan
import Derived.Deep.QuietTactic
import Derived.Deep.RegionHeld
namespace Go.Proofs.YtfmaoblhoafnhaiDoor
open Go.ChangeShapes Go.WideShapes Go.ChangeAt Go.RowKit Go.Joins
set_option linter.unusedVariables false
set_option linter.unusedSimpArgs false

theorem ext_list (s : ByteArray) (a b : Nat) : (s.extract a b).data.toList = (s.data.toList.drop a).take (b - a) := by
  rw [Lib.extract_data]
theorem str_ne {q s : ByteArray} (h : ¬ q = s) : (q.toList == s.toList) = false := by
  rw [beq_eq_false_iff_ne, ByteArray.toList_eq, ByteArray.toList_eq]
  intro e
  exact h (ByteArray.ext (Array.toList_inj.1 e))
/-- What ReadBytes answers. -/
def RdR (e : Int) (q s : ByteArray) (lv : Value) (u : World) (o : Ending) (w' : World) : Prop := (((e ≠ 0 ∨ ¬ q = s) ∧ o = .returned (.tuple #[.agg #[.int .i64 0, .int .i64 0, .bool false, .int .i64 0, .int .i64 0, .int .i64 0], .bool false])) ∨ (e = 0 ∧ q = s ∧ o = .returned (.tuple #[lv, .bool true]))) ∧ Below u.heap.size u w'
theorem RdR.no {e : Int} {q s : ByteArray} {lv : Value} {u w' : World} (h : e ≠ 0 ∨ ¬ q = s) (hb : Below u.heap.size u w') : RdR e q s lv u (.returned (.tuple #[.agg #[.int .i64 0, .int .i64 0, .bool false, .int .i64 0, .int .i64 0, .int .i64 0], .bool false])) w' := ⟨Or.inl ⟨h, rfl⟩, hb⟩
theorem RdR.yes {e : Int} {q s : ByteArray} {lv : Value} {u w' : World} (h : e = 0) (hq : q = s) (hb : Below u.heap.size u w') : RdR e q s lv u (.returned (.tuple #[lv, .bool true])) w' := ⟨Or.inr ⟨h, hq, rfl⟩, hb⟩
theorem ext_size {s : ByteArray} {a b : Nat} (h : b ≤ s.size) : (s.extract a b).size = b - a := by
  rw [ByteArray.size_extract]; omega
set_option maxRecDepth 100000 in
set_option maxHeartbeats 8000000 in
theorem rread_len (s : ByteArray) (u : World) (h1 : ¬ s.size = 10) (h2 : ¬ s.size = 22) (hs : s.size ≤ 9223372036854775807) :
    Calls Tryd.prog 9 #[.string s] u fun o w' => o = .returned (.tuple #[.agg #[.int .i64 0, .int .i64 0, .bool false, .int .i64 0, .int .i64 0, .int .i64 0], .bool false]) ∧ Below u.heap.size u w' := by
  have e1 : ((s.size : Int) == 10) = false := by simp; omega
  have e2 : ((s.size : Int) == 22) = false := by simp; omega
  have b1 : (s.size == 10) = false := by simpa using h1
  have b2 : (s.size == 22) = false := by simpa using h2
  have d1 : ((s.size : Int) != 10) = true := by simp; omega
  have d2 : ((s.size : Int) != 22) = true := by simp; omega
  go_enter Tryd.func9, Tryd.ntmps9
  go_wp2
  exact bodyPost_ret (v := .tuple #[.agg #[.int .i64 0, .int .i64 0, .bool false, .int .i64 0, .int .i64 0, .int .i64 0], .bool false]) (by simp [results, Tryd.results9, go_sem, *]) rfl ⟨rfl, rbel_al (Below.refl _ _)⟩
set_option maxRecDepth 100000 in
set_option maxHeartbeats 8000000 in
theorem rread_ask (s : ByteArray) (f t : UInt8) (n n1 n2 : Nat) (u : World) (hz : s.size = 10) (hf : s[0] = f) (ht : s[1] = t) (hn : valB (s.extract 3 9).data.toList = n) (e : Int) (hL : ltE ⟨f.toNat, t.toNat, false, 0, 0, n⟩ = e) (q : ByteArray) (hq : wst (wb ⟨f.toNat, t.toNat, false, 0, 0, n⟩) = q) :
    Calls Tryd.prog 9 #[.string s] u fun o w' => RdR e q s (.agg #[.int .i64 (f.toNat : Int), .int .i64 (t.toNat : Int), .bool false, .int .i64 0, .int .i64 0, .int .i64 (n : Int)]) u o w' := by
  have cL : Hid (∀ W, Calls Tryd.prog 4 #[.agg #[.int .i64 (f.toNat : Int), .int .i64 (t.toNat : Int), .bool false, .int .i64 0, .int .i64 0, .int .i64 (n : Int)]] W fun o w' => o = .returned (.int .i64 e) ∧ Below W.heap.size W w') := fun W => by
    have := rletter ⟨f.toNat, t.toNat, false, 0, 0, n⟩ W
    rw [hL] at this
    exact this
  have cB : Hid (e = 0 → ∀ W, Calls Tryd.prog 7 #[.agg #[.int .i64 (f.toNat : Int), .int .i64 (t.toNat : Int), .bool false, .int .i64 0, .int .i64 0, .int .i64 (n : Int)]] W fun o w' => o = .returned (.string q) ∧ Below W.heap.size W w') := fun z W => by
    have := rbytes ⟨f.toNat, t.toNat, false, 0, 0, n⟩ (hL.trans z) W
    rw [hq] at this
    exact this
  have cT3 : Hid (∀ W, Calls Tryd.prog 22 #[.string (s.extract 3 9)] W fun o w' => o = .returned (.int .i64 n) ∧ w' = W) := fun W => by
    have := rtime6 (s.extract 3 9) (ext_size (by omega)) W
    rw [hn] at this
    exact this
  have e1 : ((s.size : Int) == 10) = true := by simp; omega
  have e3 : ((s.size : Int) == 22) = false := by simp; omega
  have d1 : (s.size : Int) = 10 := by omega
  have i0 : (0 : Nat) < s.size := by omega
  have i1 : (1 : Nat) < s.size := by omega
  have wf : IntKind.i64.wrap (f.toNat : Int) = (f.toNat : Int) := IntWalk.i64_in _ (by have := f.toNat_lt; omega)
  have wt : IntKind.i64.wrap (t.toNat : Int) = (t.toNat : Int) := IntWalk.i64_in _ (by have := t.toNat_lt; omega)
  clear hL hq hn 
  go_enter Tryd.func9, Tryd.ntmps9
  go_upto_region 3 with (fail)
  have BW : Hid (Below u.heap.size u (((u.alloc (Obj.cells #[.int .i64 0, .int .i64 0, .bool false, .int .i64 0, .int .i64 0, .int .i64 0] 23)).alloc (Obj.cells #[.int .i64 (f.toNat : Int), .int .i64 (t.toNat : Int), .bool false, .int .i64 0, .int .i64 0, .int .i64 (n : Int)] 23)).drew)) := rbel_dr (rbel_al (rbel_al (Below.refl _ _)))
  have RA : Hid (Row (((u.alloc (Obj.cells #[.int .i64 0, .int .i64 0, .bool false, .int .i64 0, .int .i64 0, .int .i64 0] 23)).alloc (Obj.cells #[.int .i64 (f.toNat : Int), .int .i64 (t.toNat : Int), .bool false, .int .i64 0, .int .i64 0, .int .i64 (n : Int)] 23)).drew) u.heap.size [.int .i64 0, .int .i64 0, .bool false, .int .i64 0, .int .i64 0, .int .i64 0]) := Row.dr (Row.al (Row.made rfl))
  have RL : Hid (Row (((u.alloc (Obj.cells #[.int .i64 0, .int .i64 0, .bool false, .int .i64 0, .int .i64 0, .int .i64 0] 23)).alloc (Obj.cells #[.int .i64 (f.toNat : Int), .int .i64 (t.toNat : Int), .bool false, .int .i64 0, .int .i64 0, .int .i64 (n : Int)] 23)).drew) (u.heap.size + 1) [.int .i64 (f.toNat : Int), .int .i64 (t.toNat : Int), .bool false, .int .i64 0, .int .i64 0, .int .i64 (n : Int)]) := Row.dr (Row.made (by simp))
  go_cut [4] from 15 to 27 (fun v w' => v = .pointer (some ⟨u.heap.size + 1, 0, none⟩) ∧ Below u.heap.size u w' ∧ Row w' u.heap.size [.int .i64 0, .int .i64 0, .bool false, .int .i64 0, .int .i64 0, .int .i64 0] ∧ Row w' (u.heap.size + 1) [.int .i64 (f.toNat : Int), .int .i64 (t.toNat : Int), .bool false, .int .i64 0, .int .i64 0, .int .i64 (n : Int)])
  case first =>
    clear cL cB 
    go_region_with (go_at_call 22; refine (cT3.out _).mono ?_; rintro o x ⟨rfl, hx⟩; rw [hx]; clear hx)
    all_goals
      try simp only [wf, wt]
      go_wp2
      go_meet
      case rel => exact ⟨rfl, BW.out, RA.out, RL.out⟩
  case rest =>
    obtain ⟨rfl, hB, hA, hR⟩ := hcut
    clear BW RA RL
    have BW : Hid (Below u.heap.size u wc) := hB
    have RA : Hid (Row wc u.heap.size [.int .i64 0, .int .i64 0, .bool false, .int .i64 0, .int .i64 0, .int .i64 0]) := hA
    have RL : Hid (Row wc (u.heap.size + 1) [.int .i64 (f.toNat : Int), .int .i64 (t.toNat : Int), .bool false, .int .i64 0, .int .i64 0, .int .i64 (n : Int)]) := hR
    clear hB hA hR
    generalize wc = W at *
    have zr := RL.out.lt
    have za := RA.out.lt
    have r0 := RL.out.c 0 _ rfl
    have g0 := RL.out.f 0 _ rfl
    have a0 := RA.out.c 0 _ rfl
    have b0 := RA.out.f 0 _ rfl
    have r1 := RL.out.c 1 _ rfl
    have g1 := RL.out.f 1 _ rfl
    have a1 := RA.out.c 1 _ rfl
    have b1 := RA.out.f 1 _ rfl
    have r2 := RL.out.c 2 _ rfl
    have g2 := RL.out.f 2 _ rfl
    have a2 := RA.out.c 2 _ rfl
    have b2 := RA.out.f 2 _ rfl
    have r3 := RL.out.c 3 _ rfl
    have g3 := RL.out.f 3 _ rfl
    have a3 := RA.out.c 3 _ rfl
    have b3 := RA.out.f 3 _ rfl
    have r4 := RL.out.c 4 _ rfl
    have g4 := RL.out.f 4 _ rfl
    have a4 := RA.out.c 4 _ rfl
    have b4 := RA.out.f 4 _ rfl
    have r5 := RL.out.c 5 _ rfl
    have g5 := RL.out.f 5 _ rfl
    have a5 := RA.out.c 5 _ rfl
    have b5 := RA.out.f 5 _ rfl
    have B2 : Hid (Below u.heap.size u (W)) := BW.out
    have R2 : Hid (Row (W) (u.heap.size + 1) [.int .i64 (f.toNat : Int), .int .i64 (t.toNat : Int), .bool false, .int .i64 0, .int .i64 0, .int .i64 (n : Int)]) := RL.out
    have A2 : Hid (Row (W) u.heap.size [.int .i64 0, .int .i64 0, .bool false, .int .i64 0, .int .i64 0, .int .i64 0]) := RA.out
    have cnt : Mark 0 := .mk _
    by_cases z : e = 0
    case neg =>
      have de : (e != 0) = true := by simpa using z
      go_wp2_with (first
        | (go_at_call 4; refine (cL.out _).mono ?_; rintro o x3 ⟨rfl, hb⟩; have B3 : Hid (Below u.heap.size u x3) := rbel_on hb B2.out; have R3 : Hid (Row x3 (u.heap.size + 1) [.int .i64 (f.toNat : Int), .int .i64 (t.toNat : Int), .bool false, .int .i64 0, .int .i64 0, .int .i64 (n : Int)]) := Row.on hb R2.out; have A3 : Hid (Row x3 u.heap.size [.int .i64 0, .int .i64 0, .bool false, .int .i64 0, .int .i64 0, .int .i64 0]) := Row.on hb A2.out; clear hb; have r3_0 := R3.out.c 0 _ rfl; have a3_0 := A3.out.c 0 _ rfl; have f3_0 := A3.out.f 0 _ rfl; have r3_1 := R3.out.c 1 _ rfl; have a3_1 := A3.out.c 1 _ rfl; have f3_1 := A3.out.f 1 _ rfl; have r3_2 := R3.out.c 2 _ rfl; have a3_2 := A3.out.c 2 _ rfl; have f3_2 := A3.out.f 2 _ rfl; have r3_3 := R3.out.c 3 _ rfl; have a3_3 := A3.out.c 3 _ rfl; have f3_3 := A3.out.f 3 _ rfl; have r3_4 := R3.out.c 4 _ rfl; have a3_4 := A3.out.c 4 _ rfl; have f3_4 := A3.out.f 4 _ rfl; have r3_5 := R3.out.c 5 _ rfl; have a3_5 := A3.out.c 5 _ rfl; have f3_5 := A3.out.f 5 _ rfl; have z3 := R3.out.lt; have y3 := A3.out.lt))
      exact bodyPost_ret (v := .tuple #[.agg #[.int .i64 0, .int .i64 0, .bool false, .int .i64 0, .int .i64 0, .int .i64 0], .bool false]) (by simp [results, Tryd.results9, go_sem, *]) rfl (RdR.no (Or.inl z) (rbel_put (Nat.le_refl _) (rbel_put (Nat.le_refl _) (rbel_put (Nat.le_refl _) (rbel_put (Nat.le_refl _) (rbel_put (Nat.le_refl _) (rbel_put (Nat.le_refl _) (B3.out))))))))
    have cB0 := cB.out z
    subst z
    by_cases d : q = s
    · subst d
      go_wp2_with (first
        | (go_at_call 4; refine (cL.out _).mono ?_; rintro o x3 ⟨rfl, hb⟩; have B3 : Hid (Below u.heap.size u x3) := rbel_on hb B2.out; have R3 : Hid (Row x3 (u.heap.size + 1) [.int .i64 (f.toNat : Int), .int .i64 (t.toNat : Int), .bool false, .int .i64 0, .int .i64 0, .int .i64 (n : Int)]) := Row.on hb R2.out; have A3 : Hid (Row x3 u.heap.size [.int .i64 0, .int .i64 0, .bool false, .int .i64 0, .int .i64 0, .int .i64 0]) := Row.on hb A2.out; clear hb; have r3_0 := R3.out.c 0 _ rfl; have a3_0 := A3.out.c 0 _ rfl; have f3_0 := A3.out.f 0 _ rfl; have r3_1 := R3.out.c 1 _ rfl; have a3_1 := A3.out.c 1 _ rfl; have f3_1 := A3.out.f 1 _ rfl; have r3_2 := R3.out.c 2 _ rfl; have a3_2 := A3.out.c 2 _ rfl; have f3_2 := A3.out.f 2 _ rfl; have r3_3 := R3.out.c 3 _ rfl; have a3_3 := A3.out.c 3 _ rfl; have f3_3 := A3.out.f 3 _ rfl; have r3_4 := R3.out.c 4 _ rfl; have a3_4 := A3.out.c 4 _ rfl; have f3_4 := A3.out.f 4 _ rfl; have r3_5 := R3.out.c 5 _ rfl; have a3_5 := A3.out.c 5 _ rfl; have f3_5 := A3.out.f 5 _ rfl; have z3 := R3.out.lt; have y3 := A3.out.lt)
        | (go_at_call 7; refine (cB0 _).mono ?_; rintro o x4 ⟨rfl, hb⟩; have B4 : Hid (Below u.heap.size u x4) := rbel_on hb B3.out; have R4 : Hid (Row x4 (u.heap.size + 1) [.int .i64 (f.toNat : Int), .int .i64 (t.toNat : Int), .bool false, .int .i64 0, .int .i64 0, .int .i64 (n : Int)]) := Row.on hb R3.out; have A4 : Hid (Row x4 u.heap.size [.int .i64 0, .int .i64 0, .bool false, .int .i64 0, .int .i64 0, .int .i64 0]) := Row.on hb A3.out; clear hb; have r4_0 := R4.out.c 0 _ rfl; have a4_0 := A4.out.c 0 _ rfl; have f4_0 := A4.out.f 0 _ rfl; have r4_1 := R4.out.c 1 _ rfl; have a4_1 := A4.out.c 1 _ rfl; have f4_1 := A4.out.f 1 _ rfl; have r4_2 := R4.out.c 2 _ rfl; have a4_2 := A4.out.c 2 _ rfl; have f4_2 := A4.out.f 2 _ rfl; have r4_3 := R4.out.c 3 _ rfl; have a4_3 := A4.out.c 3 _ rfl; have f4_3 := A4.out.f 3 _ rfl; have r4_4 := R4.out.c 4 _ rfl; have a4_4 := A4.out.c 4 _ rfl; have f4_4 := A4.out.f 4 _ rfl; have r4_5 := R4.out.c 5 _ rfl; have a4_5 := A4.out.c 5 _ rfl; have f4_5 := A4.out.f 5 _ rfl; have z4 := R4.out.lt; have y4 := A4.out.lt))
      exact bodyPost_ret (v := .tuple #[.agg #[.int .i64 (f.toNat : Int), .int .i64 (t.toNat : Int), .bool false, .int .i64 0, .int .i64 0, .int .i64 (n : Int)], .bool true]) (by simp [results, Tryd.results9, go_sem, *]) rfl (RdR.yes rfl rfl (rbel_put (Nat.le_refl _) (rbel_put (Nat.le_refl _) (rbel_put (Nat.le_refl _) (rbel_put (Nat.le_refl _) (rbel_put (Nat.le_refl _) (rbel_put (Nat.le_refl _) (B4.out))))))))
    · have dd := str_ne d
      go_wp2_with (first
        | (go_at_call 4; refine (cL.out _).mono ?_; rintro o x3 ⟨rfl, hb⟩; have B3 : Hid (Below u.heap.size u x3) := rbel_on hb B2.out; have R3 : Hid (Row x3 (u.heap.size + 1) [.int .i64 (f.toNat : Int), .int .i64 (t.toNat : Int), .bool false, .int .i64 0, .int .i64 0, .int .i64 (n : Int)]) := Row.on hb R2.out; have A3 : Hid (Row x3 u.heap.size [.int .i64 0, .int .i64 0, .bool false, .int .i64 0, .int .i64 0, .int .i64 0]) := Row.on hb A2.out; clear hb; have r3_0 := R3.out.c 0 _ rfl; have a3_0 := A3.out.c 0 _ rfl; have f3_0 := A3.out.f 0 _ rfl; have r3_1 := R3.out.c 1 _ rfl; have a3_1 := A3.out.c 1 _ rfl; have f3_1 := A3.out.f 1 _ rfl; have r3_2 := R3.out.c 2 _ rfl; have a3_2 := A3.out.c 2 _ rfl; have f3_2 := A3.out.f 2 _ rfl; have r3_3 := R3.out.c 3 _ rfl; have a3_3 := A3.out.c 3 _ rfl; have f3_3 := A3.out.f 3 _ rfl; have r3_4 := R3.out.c 4 _ rfl; have a3_4 := A3.out.c 4 _ rfl; have f3_4 := A3.out.f 4 _ rfl; have r3_5 := R3.out.c 5 _ rfl; have a3_5 := A3.out.c 5 _ rfl; have f3_5 := A3.out.f 5 _ rfl; have z3 := R3.out.lt; have y3 := A3.out.lt)
        | (go_at_call 7; refine (cB0 _).mono ?_; rintro o x4 ⟨rfl, hb⟩; have B4 : Hid (Below u.heap.size u x4) := rbel_on hb B3.out; have R4 : Hid (Row x4 (u.heap.size + 1) [.int .i64 (f.toNat : Int), .int .i64 (t.toNat : Int), .bool false, .int .i64 0, .int .i64 0, .int .i64 (n : Int)]) := Row.on hb R3.out; have A4 : Hid (Row x4 u.heap.size [.int .i64 0, .int .i64 0, .bool false, .int .i64 0, .int .i64 0, .int .i64 0]) := Row.on hb A3.out; clear hb; have r4_0 := R4.out.c 0 _ rfl; have a4_0 := A4.out.c 0 _ rfl; have f4_0 := A4.out.f 0 _ rfl; have r4_1 := R4.out.c 1 _ rfl; have a4_1 := A4.out.c 1 _ rfl; have f4_1 := A4.out.f 1 _ rfl; have r4_2 := R4.out.c 2 _ rfl; have a4_2 := A4.out.c 2 _ rfl; have f4_2 := A4.out.f 2 _ rfl; have r4_3 := R4.out.c 3 _ rfl; have a4_3 := A4.out.c 3 _ rfl; have f4_3 := A4.out.f 3 _ rfl; have r4_4 := R4.out.c 4 _ rfl; have a4_4 := A4.out.c 4 _ rfl; have f4_4 := A4.out.f 4 _ rfl; have r4_5 := R4.out.c 5 _ rfl; have a4_5 := A4.out.c 5 _ rfl; have f4_5 := A4.out.f 5 _ rfl; have z4 := R4.out.lt; have y4 := A4.out.lt))
      exact bodyPost_ret (v := .tuple #[.agg #[.int .i64 0, .int .i64 0, .bool false, .int .i64 0, .int .i64 0, .int .i64 0], .bool false]) (by simp [results, Tryd.results9, go_sem, *]) rfl (RdR.no (Or.inr d) (rbel_put (Nat.le_refl _) (rbel_put (Nat.le_refl _) (rbel_put (Nat.le_refl _) (rbel_put (Nat.le_refl _) (rbel_put (Nat.le_refl _) (rbel_put (Nat.le_refl _) (B4.out))))))))
end Go.Proofs.YtfmaoblhoafnhaiDoor
