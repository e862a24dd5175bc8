/- What package wire answers: ReadLetter: an answer. -/
import Derived.Test.YtfmaoblhoafnhajNm04
import Derived.Deep.QuietTactic
import Derived.Deep.RegionHeld
namespace Go.Proofs.Ytfmaoblhoafnhaj
open Go.ChangeShapes Go.WideShapes Go.ChangeAt Go.RowKit Go.Joins
set_option linter.unusedVariables false
set_option linter.unusedSimpArgs false

set_option maxRecDepth 100000 in
set_option maxHeartbeats 8000000 in
theorem wread_ans (s : ByteArray) (f t : UInt8) (n n1 n2 : Nat) (u : World) (hz : s.size = 22) (hf : s[0] = f) (ht : s[1] = t) (hn : valB ((s.data.toList.drop 3).take 6) = n) (hn1 : valB ((s.data.toList.drop 9).take 6) = n1) (hn2 : valB ((s.data.toList.drop 15).take 6) = n2) (e : Int) (hL : ltE ⟨f.toNat, t.toNat, true, n1, n2, n⟩ = e) (q : ByteArray) (hq : wst (wb ⟨f.toNat, t.toNat, true, n1, n2, n⟩) = q) :
    Calls Try.prog 14 #[.string s] u fun o w' => RdP e q s (.agg #[.int .i64 (f.toNat : Int), .int .i64 (t.toNat : Int), .bool true, .int .i64 (n1 : Int), .int .i64 (n2 : Int), .int .i64 (n : Int)]) u o w' := by
  have cL : Hid (∀ W, Calls Try.prog 5 #[.agg #[.int .i64 (f.toNat : Int), .int .i64 (t.toNat : Int), .bool true, .int .i64 (n1 : Int), .int .i64 (n2 : Int), .int .i64 (n : Int)]] W fun o w' => o = .returned (.tuple #[.string (wst (if e = 0 then wb ⟨f.toNat, t.toNat, true, n1, n2, n⟩ else [])), errc e]) ∧ Below W.heap.size W w') := fun W => by
    have := wletter_any ⟨f.toNat, t.toNat, true, n1, n2, n⟩ W
    rw [hL] at this
    exact this
  have cN : Hid (e ≠ 0 → ∀ W, Calls Try.prog 5 #[.agg #[.int .i64 (f.toNat : Int), .int .i64 (t.toNat : Int), .bool true, .int .i64 (n1 : Int), .int .i64 (n2 : Int), .int .i64 (n : Int)]] W fun o w' => o = .returned (.tuple #[.string (wst []), .iface 73 (.int .i64 e)]) ∧ Below W.heap.size W w') := fun z W => by
    have := cL.out W
    rw [errc_not z, if_neg z] at this
    exact this
  have cY : Hid (e = 0 → ∀ W, Calls Try.prog 5 #[.agg #[.int .i64 (f.toNat : Int), .int .i64 (t.toNat : Int), .bool true, .int .i64 (n1 : Int), .int .i64 (n2 : Int), .int .i64 (n : Int)]] W fun o w' => o = .returned (.tuple #[.string q, .nilIface]) ∧ Below W.heap.size W w') := fun z W => by
    have := cL.out W
    rw [if_pos z, z, errc_zero, hq] at this
    exact this
  have cT3 : Hid (∀ W, Calls Try.prog 26 #[.string s, .int .i64 3] W fun o w' => o = .returned (.int .i64 n) ∧ w' = W) := fun W => by
    have := timeAt_any s 3 (by omega) (by omega) W
    rw [hn] at this
    exact this
  have cT9 : Hid (∀ W, Calls Try.prog 26 #[.string s, .int .i64 9] W fun o w' => o = .returned (.int .i64 n1) ∧ w' = W) := fun W => by
    have := timeAt_any s 9 (by omega) (by omega) W
    rw [hn1] at this
    exact this
  have cT15 : Hid (∀ W, Calls Try.prog 26 #[.string s, .int .i64 15] W fun o w' => o = .returned (.int .i64 n2) ∧ w' = W) := fun W => by
    have := timeAt_any s 15 (by omega) (by omega) W
    rw [hn2] at this
    exact this
  have d1 : ((s.size : Int) != 10) = true := by simp; omega
  have d2 : ((s.size : Int) != 22) = false := by simp; omega
  have e3 : ((s.size : Int) == 22) = true := by simp; omega
  have i0 : (0 : Nat) < s.size := by omega
  have i1 : (1 : Nat) < s.size := by omega
  have i0' : (0 : Int) < (s.size : Int) := by omega
  have i1' : (1 : Int) < (s.size : Int) := by omega
  have wf : IntKind.i64.wrap (f.toNat : Int) = (f.toNat : Int) := IntWalk.i64_in _ (by have := f.toNat_lt; omega)
  have wt : IntKind.i64.wrap (t.toNat : Int) = (t.toNat : Int) := IntWalk.i64_in _ (by have := t.toNat_lt; omega)
  clear hL hq hn cL hn1 hn2
  go_enter Try.func14, Try.ntmps14
  go_upto_region 3 with (fail)
  have BW : Hid (Below u.heap.size u (((u.alloc (Obj.cells #[.int .i64 0, .int .i64 0, .bool false, .int .i64 0, .int .i64 0, .int .i64 0] 23)).alloc (Obj.cells #[.int .i64 (f.toNat : Int), .int .i64 (t.toNat : Int), .bool true, .int .i64 0, .int .i64 0, .int .i64 (n : Int)] 23)).drew)) := rbel_dr (rbel_al (rbel_al (Below.refl _ _)))
  have RA : Hid (Row (((u.alloc (Obj.cells #[.int .i64 0, .int .i64 0, .bool false, .int .i64 0, .int .i64 0, .int .i64 0] 23)).alloc (Obj.cells #[.int .i64 (f.toNat : Int), .int .i64 (t.toNat : Int), .bool true, .int .i64 0, .int .i64 0, .int .i64 (n : Int)] 23)).drew) u.heap.size [.int .i64 0, .int .i64 0, .bool false, .int .i64 0, .int .i64 0, .int .i64 0]) := Row.dr (Row.al (Row.made rfl))
  have RL : Hid (Row (((u.alloc (Obj.cells #[.int .i64 0, .int .i64 0, .bool false, .int .i64 0, .int .i64 0, .int .i64 0] 23)).alloc (Obj.cells #[.int .i64 (f.toNat : Int), .int .i64 (t.toNat : Int), .bool true, .int .i64 0, .int .i64 0, .int .i64 (n : Int)] 23)).drew) (u.heap.size + 1) [.int .i64 (f.toNat : Int), .int .i64 (t.toNat : Int), .bool true, .int .i64 0, .int .i64 0, .int .i64 (n : Int)]) := Row.dr (Row.made (by simp))
  go_cut [4] from 17 to 29 (fun v w' => v = .pointer (some ⟨u.heap.size + 1, 0, none⟩) ∧ Below u.heap.size u w' ∧ Row w' u.heap.size [.int .i64 0, .int .i64 0, .bool false, .int .i64 0, .int .i64 0, .int .i64 0] ∧ Row w' (u.heap.size + 1) [.int .i64 (f.toNat : Int), .int .i64 (t.toNat : Int), .bool true, .int .i64 0, .int .i64 0, .int .i64 (n : Int)])
  case first =>
    clear cN cY cT9 cT15
    go_region_with (go_at_call 26; refine (cT3.out _).mono ?_; rintro o x ⟨rfl, hx⟩; rw [hx]; clear hx)
    all_goals
      try simp only [wf, wt]
      go_wp2
      go_meet
      case rel => exact ⟨rfl, BW.out, RA.out, RL.out⟩
  case rest =>
    obtain ⟨rfl, hB, hA, hR⟩ := hcut
    clear BW RA RL
    have BW : Hid (Below u.heap.size u wc) := hB
    have RA : Hid (Row wc u.heap.size [.int .i64 0, .int .i64 0, .bool false, .int .i64 0, .int .i64 0, .int .i64 0]) := hA
    have RL : Hid (Row wc (u.heap.size + 1) [.int .i64 (f.toNat : Int), .int .i64 (t.toNat : Int), .bool true, .int .i64 0, .int .i64 0, .int .i64 (n : Int)]) := hR
    clear hB hA hR
    generalize wc = W at *
    have zr := RL.out.lt
    have za := RA.out.lt
    have r0 := RL.out.c 0 _ rfl
    have g0 := RL.out.f 0 _ rfl
    have a0 := RA.out.c 0 _ rfl
    have b0 := RA.out.f 0 _ rfl
    have r1 := RL.out.c 1 _ rfl
    have g1 := RL.out.f 1 _ rfl
    have a1 := RA.out.c 1 _ rfl
    have b1 := RA.out.f 1 _ rfl
    have r2 := RL.out.c 2 _ rfl
    have g2 := RL.out.f 2 _ rfl
    have a2 := RA.out.c 2 _ rfl
    have b2 := RA.out.f 2 _ rfl
    have r3 := RL.out.c 3 _ rfl
    have g3 := RL.out.f 3 _ rfl
    have a3 := RA.out.c 3 _ rfl
    have b3 := RA.out.f 3 _ rfl
    have r4 := RL.out.c 4 _ rfl
    have g4 := RL.out.f 4 _ rfl
    have a4 := RA.out.c 4 _ rfl
    have b4 := RA.out.f 4 _ rfl
    have r5 := RL.out.c 5 _ rfl
    have g5 := RL.out.f 5 _ rfl
    have a5 := RA.out.c 5 _ rfl
    have b5 := RA.out.f 5 _ rfl
    have B2 : Hid (Below u.heap.size u ((W.setCell ⟨u.heap.size + 1, 3, none⟩ (.int .i64 (n1 : Int))).setCell ⟨u.heap.size + 1, 4, none⟩ (.int .i64 (n2 : Int)))) := rbel_put (by omega) (rbel_put (by omega) BW.out)
    have R2 : Hid (Row ((W.setCell ⟨u.heap.size + 1, 3, none⟩ (.int .i64 (n1 : Int))).setCell ⟨u.heap.size + 1, 4, none⟩ (.int .i64 (n2 : Int))) (u.heap.size + 1) [.int .i64 (f.toNat : Int), .int .i64 (t.toNat : Int), .bool true, .int .i64 (n1 : Int), .int .i64 (n2 : Int), .int .i64 (n : Int)]) := Row.put 4 (Row.put 3 RL.out)
    have A2 : Hid (Row ((W.setCell ⟨u.heap.size + 1, 3, none⟩ (.int .i64 (n1 : Int))).setCell ⟨u.heap.size + 1, 4, none⟩ (.int .i64 (n2 : Int))) u.heap.size [.int .i64 0, .int .i64 0, .bool false, .int .i64 0, .int .i64 0, .int .i64 0]) := Row.far (by omega) (Row.far (by omega) RA.out)
    have cnt : Mark 0 := .mk _
    by_cases z : e = 0
    case neg =>
      have cC := cN.out z
      clear cN cY
      go_wp2_with (first
        | (go_at_call 26; have cm : Mark 0 := cnt; refine (cT9.out _).mono ?_; clear cm cnt; have cnt : Mark 1 := .mk _; rintro o x ⟨rfl, hx⟩; rw [hx]; clear hx)
        | (go_at_call 26; refine (cT15.out _).mono ?_; rintro o x ⟨rfl, hx⟩; rw [hx]; clear hx)
        | (go_at_call 5; refine (cC _).mono ?_; rintro o x3 ⟨rfl, hb⟩; have B3 : Hid (Below u.heap.size u x3) := rbel_on hb B2.out; have R3 : Hid (Row x3 (u.heap.size + 1) [.int .i64 (f.toNat : Int), .int .i64 (t.toNat : Int), .bool true, .int .i64 (n1 : Int), .int .i64 (n2 : Int), .int .i64 (n : Int)]) := Row.on hb R2.out; have A3 : Hid (Row x3 u.heap.size [.int .i64 0, .int .i64 0, .bool false, .int .i64 0, .int .i64 0, .int .i64 0]) := Row.on hb A2.out; clear hb; have r3_0 := R3.out.c 0 _ rfl; have a3_0 := A3.out.c 0 _ rfl; have f3_0 := A3.out.f 0 _ rfl; have r3_1 := R3.out.c 1 _ rfl; have a3_1 := A3.out.c 1 _ rfl; have f3_1 := A3.out.f 1 _ rfl; have r3_2 := R3.out.c 2 _ rfl; have a3_2 := A3.out.c 2 _ rfl; have f3_2 := A3.out.f 2 _ rfl; have r3_3 := R3.out.c 3 _ rfl; have a3_3 := A3.out.c 3 _ rfl; have f3_3 := A3.out.f 3 _ rfl; have r3_4 := R3.out.c 4 _ rfl; have a3_4 := A3.out.c 4 _ rfl; have f3_4 := A3.out.f 4 _ rfl; have r3_5 := R3.out.c 5 _ rfl; have a3_5 := A3.out.c 5 _ rfl; have f3_5 := A3.out.f 5 _ rfl; have z3 := R3.out.lt; have y3 := A3.out.lt))
      exact bodyPost_ret (v := .tuple #[.agg #[.int .i64 0, .int .i64 0, .bool false, .int .i64 0, .int .i64 0, .int .i64 0], .iface 73 (.int .i64 2)]) (by simp [results, Try.results14, go_sem, *]) rfl (RdP.no (Or.inl z) (rbel_put (Nat.le_refl _) (rbel_put (Nat.le_refl _) (rbel_put (Nat.le_refl _) (rbel_put (Nat.le_refl _) (rbel_put (Nat.le_refl _) (rbel_put (Nat.le_refl _) (B3.out))))))))
    have cC := cY.out z
    clear cN cY
    subst z
    by_cases d : q = s
    · subst d
      go_wp2_with (first
        | (go_at_call 26; have cm : Mark 0 := cnt; refine (cT9.out _).mono ?_; clear cm cnt; have cnt : Mark 1 := .mk _; rintro o x ⟨rfl, hx⟩; rw [hx]; clear hx)
        | (go_at_call 26; refine (cT15.out _).mono ?_; rintro o x ⟨rfl, hx⟩; rw [hx]; clear hx)
        | (go_at_call 5; refine (cC _).mono ?_; rintro o x3 ⟨rfl, hb⟩; have B3 : Hid (Below u.heap.size u x3) := rbel_on hb B2.out; have R3 : Hid (Row x3 (u.heap.size + 1) [.int .i64 (f.toNat : Int), .int .i64 (t.toNat : Int), .bool true, .int .i64 (n1 : Int), .int .i64 (n2 : Int), .int .i64 (n : Int)]) := Row.on hb R2.out; have A3 : Hid (Row x3 u.heap.size [.int .i64 0, .int .i64 0, .bool false, .int .i64 0, .int .i64 0, .int .i64 0]) := Row.on hb A2.out; clear hb; have r3_0 := R3.out.c 0 _ rfl; have a3_0 := A3.out.c 0 _ rfl; have f3_0 := A3.out.f 0 _ rfl; have r3_1 := R3.out.c 1 _ rfl; have a3_1 := A3.out.c 1 _ rfl; have f3_1 := A3.out.f 1 _ rfl; have r3_2 := R3.out.c 2 _ rfl; have a3_2 := A3.out.c 2 _ rfl; have f3_2 := A3.out.f 2 _ rfl; have r3_3 := R3.out.c 3 _ rfl; have a3_3 := A3.out.c 3 _ rfl; have f3_3 := A3.out.f 3 _ rfl; have r3_4 := R3.out.c 4 _ rfl; have a3_4 := A3.out.c 4 _ rfl; have f3_4 := A3.out.f 4 _ rfl; have r3_5 := R3.out.c 5 _ rfl; have a3_5 := A3.out.c 5 _ rfl; have f3_5 := A3.out.f 5 _ rfl; have z3 := R3.out.lt; have y3 := A3.out.lt))
      exact bodyPost_ret (v := .tuple #[.agg #[.int .i64 (f.toNat : Int), .int .i64 (t.toNat : Int), .bool true, .int .i64 (n1 : Int), .int .i64 (n2 : Int), .int .i64 (n : Int)], .nilIface]) (by simp [results, Try.results14, go_sem, *]) rfl (RdP.yes rfl rfl (rbel_put (Nat.le_refl _) (rbel_put (Nat.le_refl _) (rbel_put (Nat.le_refl _) (rbel_put (Nat.le_refl _) (rbel_put (Nat.le_refl _) (rbel_put (Nat.le_refl _) (B3.out))))))))
    · have dd := str_neW d
      have dd2 : (q.toList != s.toList) = true := by simp only [bne, dd, Bool.not_false]
      go_wp2_with (first
        | (go_at_call 26; have cm : Mark 0 := cnt; refine (cT9.out _).mono ?_; clear cm cnt; have cnt : Mark 1 := .mk _; rintro o x ⟨rfl, hx⟩; rw [hx]; clear hx)
        | (go_at_call 26; refine (cT15.out _).mono ?_; rintro o x ⟨rfl, hx⟩; rw [hx]; clear hx)
        | (go_at_call 5; refine (cC _).mono ?_; rintro o x3 ⟨rfl, hb⟩; have B3 : Hid (Below u.heap.size u x3) := rbel_on hb B2.out; have R3 : Hid (Row x3 (u.heap.size + 1) [.int .i64 (f.toNat : Int), .int .i64 (t.toNat : Int), .bool true, .int .i64 (n1 : Int), .int .i64 (n2 : Int), .int .i64 (n : Int)]) := Row.on hb R2.out; have A3 : Hid (Row x3 u.heap.size [.int .i64 0, .int .i64 0, .bool false, .int .i64 0, .int .i64 0, .int .i64 0]) := Row.on hb A2.out; clear hb; have r3_0 := R3.out.c 0 _ rfl; have a3_0 := A3.out.c 0 _ rfl; have f3_0 := A3.out.f 0 _ rfl; have r3_1 := R3.out.c 1 _ rfl; have a3_1 := A3.out.c 1 _ rfl; have f3_1 := A3.out.f 1 _ rfl; have r3_2 := R3.out.c 2 _ rfl; have a3_2 := A3.out.c 2 _ rfl; have f3_2 := A3.out.f 2 _ rfl; have r3_3 := R3.out.c 3 _ rfl; have a3_3 := A3.out.c 3 _ rfl; have f3_3 := A3.out.f 3 _ rfl; have r3_4 := R3.out.c 4 _ rfl; have a3_4 := A3.out.c 4 _ rfl; have f3_4 := A3.out.f 4 _ rfl; have r3_5 := R3.out.c 5 _ rfl; have a3_5 := A3.out.c 5 _ rfl; have f3_5 := A3.out.f 5 _ rfl; have z3 := R3.out.lt; have y3 := A3.out.lt))
      exact bodyPost_ret (v := .tuple #[.agg #[.int .i64 0, .int .i64 0, .bool false, .int .i64 0, .int .i64 0, .int .i64 0], .iface 73 (.int .i64 2)]) (by simp [results, Try.results14, go_sem, *]) rfl (RdP.no (Or.inr d) (rbel_put (Nat.le_refl _) (rbel_put (Nat.le_refl _) (rbel_put (Nat.le_refl _) (rbel_put (Nat.le_refl _) (rbel_put (Nat.le_refl _) (rbel_put (Nat.le_refl _) (B3.out))))))))
end Go.Proofs.Ytfmaoblhoafnhaj
