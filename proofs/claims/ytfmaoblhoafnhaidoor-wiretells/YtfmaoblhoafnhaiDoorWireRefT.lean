/- What the document's own reckoning (package noonref2) answers: the span of bytes. -/
import Derived.Test.YtfmaoblhoafnhaiDoorWireRefB
import Derived.Test.YtfmaoblhoafnhaiDoorRefSpan
import Derived.Deep.QuietTactic
import Derived.Deep.RegionHeld
namespace Go.Proofs.YtfmaoblhoafnhaiDoor
open Go.ChangeShapes Go.WideShapes Go.ChangeAt Go.RowKit Go.Joins
set_option linter.unusedVariables false
set_option linter.unusedSimpArgs false

theorem extS_list (s : ByteArray) (a b : Nat) : (s.extract a b).data.toList = (s.data.toList.drop a).take (b - a) := by
  rw [Lib.extract_data]
theorem extS_size {s : ByteArray} {a b : Nat} (h : b ≤ s.size) : (s.extract a b).size = b - a := by
  rw [ByteArray.size_extract]; omega
/-- What ReadSpanBytes answers. -/
def RtR (ok : Bool) (lo hi : Int) (u : World) (o : Ending) (w' : World) : Prop := ((ok = false ∧ o = .returned (.tuple #[.agg #[.int .i64 0, .int .i64 0], .bool false])) ∨ (ok = true ∧ o = .returned (.tuple #[.agg #[.int .i64 lo, .int .i64 hi], .bool true]))) ∧ Below u.heap.size u w'
theorem RtR.no {lo hi : Int} {u w' : World} (hb : Below u.heap.size u w') : RtR false lo hi u (.returned (.tuple #[.agg #[.int .i64 0, .int .i64 0], .bool false])) w' := ⟨Or.inl ⟨rfl, rfl⟩, hb⟩
theorem RtR.yes {lo hi : Int} {u w' : World} (hb : Below u.heap.size u w') : RtR true lo hi u (.returned (.tuple #[.agg #[.int .i64 lo, .int .i64 hi], .bool true])) w' := ⟨Or.inr ⟨rfl, rfl⟩, hb⟩
set_option maxRecDepth 100000 in
set_option maxHeartbeats 0 in
theorem rspan_len (s : ByteArray) (u : World) (h1 : ¬ s.size = 12) (hs : s.size ≤ 9223372036854775807) :
    Calls Tryd.prog 14 #[.string s] u fun o w' => o = .returned (.tuple #[.agg #[.int .i64 0, .int .i64 0], .bool false]) ∧ Below u.heap.size u w' := by
  have d1 : ((s.size : Int) != 12) = true := by simp; omega
  go_enter Tryd.func14, Tryd.ntmps14
  go_wp2
  exact bodyPost_ret (v := .tuple #[.agg #[.int .i64 0, .int .i64 0], .bool false]) (by simp [results, Tryd.results14, go_sem, *]) rfl ⟨rfl, rbel_al (Below.refl _ _)⟩
set_option maxRecDepth 100000 in
set_option maxHeartbeats 0 in
theorem rspan_twelve (s : ByteArray) (a b : Nat) (lo hi : Int) (u : World) (hz : s.size = 12) (ha : valB (s.extract 0 6).data.toList = a) (hb : valB (s.extract 6 12).data.toList = b) (a1 : a < 281474976710656) (b1 : b < 281474976710656) (hlo : (a : Int) - 1000000000000 = lo) (hhi : (b : Int) - 1000000000000 = hi) (ok : Bool) (hok : okB lo hi = ok) :
    Calls Tryd.prog 14 #[.string s] u fun o w' => RtR ok lo hi u o w' := by
  obtain ⟨sa, hsa⟩ : ∃ sa, s.extract 0 6 = sa := ⟨_, rfl⟩
  obtain ⟨sc, hsc⟩ : ∃ sc, s.extract 6 12 = sc := ⟨_, rfl⟩
  have hsd : s.extract 6 s.size = sc := by rw [hz]; exact hsc
  have za : sa.size = 6 := by rw [← hsa]; exact extS_size (by omega)
  have zc : sc.size = 6 := by rw [← hsc]; exact extS_size (by omega)
  rw [hsa] at ha
  rw [hsc] at hb
  have cT : Hid (∀ (x : ByteArray) (W : World), x.size = 6 → Calls Tryd.prog 22 #[.string x] W fun o w' => o = .returned (.int .i64 (valB x.data.toList)) ∧ w' = W) := fun x W h => rtime6 x h W
  have cS : Hid (∀ W, Calls Tryd.prog 11 #[.agg #[.int .i64 lo, .int .i64 hi]] W fun o w' => o = .returned (.bool ok) ∧ Below W.heap.size W w') := fun W => by
    have := rspan_any lo hi W
    rw [hok] at this
    exact this
  have e1 : ((s.size : Int) == 12) = true := by simp; omega
  have d1 : (s.size : Int) = 12 := by omega
  have wa : IntKind.i64.wrap ((a : Int) - 1000000000000) = lo := by rw [hlo]; exact IntWalk.i64_in _ (by omega)
  have wb : IntKind.i64.wrap ((b : Int) - 1000000000000) = hi := by rw [hhi]; exact IntWalk.i64_in _ (by omega)
  clear hlo hhi hok
  go_enter Tryd.func14, Tryd.ntmps14
  go_upto_region 3 with (fail)
  have BW : Hid (Below u.heap.size u (((u.alloc (Obj.cells #[.int .i64 0, .int .i64 0] 25)).alloc (Obj.cells #[.int .i64 lo, .int .i64 hi] 25)).drew)) := rbel_dr (rbel_al (rbel_al (Below.refl _ _)))
  have RA : Hid (Row (((u.alloc (Obj.cells #[.int .i64 0, .int .i64 0] 25)).alloc (Obj.cells #[.int .i64 lo, .int .i64 hi] 25)).drew) u.heap.size [.int .i64 0, .int .i64 0]) := Row.dr (Row.al (Row.made rfl))
  have RL : Hid (Row (((u.alloc (Obj.cells #[.int .i64 0, .int .i64 0] 25)).alloc (Obj.cells #[.int .i64 lo, .int .i64 hi] 25)).drew) (u.heap.size + 1) [.int .i64 lo, .int .i64 hi]) := Row.dr (Row.made (by simp))
  go_cut [4] from 10 to 18 (fun v w' => v = .pointer (some ⟨u.heap.size + 1, 0, none⟩) ∧ Below u.heap.size u w' ∧ Row w' u.heap.size [.int .i64 0, .int .i64 0] ∧ Row w' (u.heap.size + 1) [.int .i64 lo, .int .i64 hi])
  case first =>
    clear cS
    go_region_with (go_at_call 22; refine (cT.out _ _ (by assumption)).mono ?_; rintro o x ⟨rfl, hx⟩; rw [hx]; clear hx)
    all_goals
      try simp only [ha, hb, wa, wb]
      go_wp2
      go_meet
      case rel => exact ⟨rfl, BW.out, RA.out, RL.out⟩
  case rest =>
    obtain ⟨rfl, hB, hA, hR⟩ := hcut
    clear BW RA RL
    have BW : Hid (Below u.heap.size u wc) := hB
    have RA : Hid (Row wc u.heap.size [.int .i64 0, .int .i64 0]) := hA
    have RL : Hid (Row wc (u.heap.size + 1) [.int .i64 lo, .int .i64 hi]) := hR
    clear hB hA hR
    have zr := RL.out.lt
    have za := RA.out.lt
    have r0 := RL.out.c 0 _ rfl
    have r1 := RL.out.c 1 _ rfl
    cases ok
    all_goals
      go_wp2_with (go_at_call 11; refine (cS.out _).mono ?_; rintro o x3 ⟨rfl, hb⟩; have B3 : Hid (Below u.heap.size u x3) := rbel_on hb BW.out; have R3 : Hid (Row x3 (u.heap.size + 1) [.int .i64 lo, .int .i64 hi]) := Row.on hb RL.out; have A3 : Hid (Row x3 u.heap.size [.int .i64 0, .int .i64 0]) := Row.on hb RA.out; have r3_0 := R3.out.c 0 _ rfl; have r3_1 := R3.out.c 1 _ rfl; have a3_0 := A3.out.c 0 _ rfl; have a3_1 := A3.out.c 1 _ rfl; have f3_0 := A3.out.f 0 _ rfl; have f3_1 := A3.out.f 1 _ rfl; have z3 := R3.out.lt; have y3 := A3.out.lt; clear hb)
    · exact bodyPost_ret (v := .tuple #[.agg #[.int .i64 0, .int .i64 0], .bool false]) (by simp [results, Tryd.results14, go_sem, *]) rfl (RtR.no (rbel_put (Nat.le_refl _) (rbel_put (Nat.le_refl _) B3.out)))
    · exact bodyPost_ret (v := .tuple #[.agg #[.int .i64 lo, .int .i64 hi], .bool true]) (by simp [results, Tryd.results14, go_sem, *]) rfl (RtR.yes (rbel_put (Nat.le_refl _) (rbel_put (Nat.le_refl _) B3.out)))
theorem rreadSpan (s : ByteArray) (u : World) (hs : s.size ≤ maxLen) :
    Calls Tryd.prog 14 #[.string s] u fun o w' => o = .returned (.tuple #[.agg #[.int .i64 ((rdS s.data.toList).getD (0, 0)).1, .int .i64 ((rdS s.data.toList).getD (0, 0)).2], .bool (rdS s.data.toList).isSome]) ∧ Below u.heap.size u w' := by
  have hl : s.data.toList.length = s.size := Array.length_toList
  by_cases h : s.size = 12
  · have v1 := valB_lt (s.extract 0 6).data.toList
    have v2 := valB_lt (s.extract 6 12).data.toList
    have z1 : (s.extract 0 6).data.toList.length = 6 := by rw [Array.length_toList]; exact extS_size (by omega)
    have z2 : (s.extract 6 12).data.toList.length = 6 := by rw [Array.length_toList]; exact extS_size (by omega)
    rw [z1] at v1
    rw [z2] at v2
    refine (rspan_twelve s _ _ _ _ u h rfl rfl (by omega) (by omega) rfl rfl _ rfl).mono ?_
    have e1 : ((valB (s.extract 0 6).data.toList : Nat) : Int) - 1000000000000 = rsL s.data.toList := by
      unfold rsL
      rw [extS_list, List.drop_zero]
    have e2 : ((valB (s.extract 6 12).data.toList : Nat) : Int) - 1000000000000 = rsH s.data.toList := by
      unfold rsH
      rw [extS_list, List.take_of_length_le (by rw [List.length_drop, hl]; omega)]
    rw [e1, e2]
    rintro o w' ⟨hq, hb⟩
    refine ⟨?_, hb⟩
    rcases hq with ⟨k, rfl⟩ | ⟨k, rfl⟩
    · have n : rdS s.data.toList = none := by
        unfold rdS
        rw [if_neg]
        rintro ⟨_, q⟩
        rw [k] at q
        cases q
      rw [n]
      rfl
    · have n : rdS s.data.toList = some (rsL s.data.toList, rsH s.data.toList) := by
        unfold rdS
        rw [if_pos ⟨by rw [hl]; exact h, k⟩]
      rw [n]
      rfl
  · refine (rspan_len s u h (by unfold maxLen at hs; omega)).mono ?_
    rintro o w' ⟨rfl, hb⟩
    refine ⟨?_, hb⟩
    have n : rdS s.data.toList = none := by
      unfold rdS
      rw [if_neg]
      rintro ⟨q, _⟩
      rw [hl] at q
      omega
    rw [n]
    rfl
end Go.Proofs.YtfmaoblhoafnhaiDoor
