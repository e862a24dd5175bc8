/- What package wire answers: ReadLetter. What package wire answers: Span, ReadSpan. Package wire, as the laws want it. -/
import Derived.Test.YtfmaoblhoafnhajWirePkgQ
import Derived.Test.YtfmaoblhoafnhajWirePkgR
import Derived.Deep.QuietTactic
import Derived.Deep.RegionHeld
import Derived.Test.YtfmaoblhoafnhajWirePkgB
import Derived.Test.YtfmaoblhoafnhajNm03
import Derived.Test.YtfmaoblhoafnhajNm04
namespace Go.Proofs.Ytfmaoblhoafnhaj
open Go.ChangeShapes Go.WideShapes Go.ChangeAt Go.RowKit Go.Joins
set_option linter.unusedVariables false
set_option linter.unusedSimpArgs false

theorem get_dW {s : ByteArray} {i : Nat} (h : i < s.size) : (s.data.toList).getD i 0 = s[i] := by
  have h' : i < s.data.toList.length := by rw [Array.length_toList]; exact h
  rw [List.getD_eq_getElem?_getD, List.getElem?_eq_getElem h']
  rfl
theorem wreadLetter_any (s : ByteArray) (u : World) (hs : s.size ≤ maxLen) :
    Calls Try.prog 14 #[.string s] u fun o w' => o = .returned (.tuple #[ltv ((rdL s.data.toList).getD lt0), errc (if (rdL s.data.toList).isSome then 0 else 2)]) ∧ Below u.heap.size u w' := by
  have hl : s.data.toList.length = s.size := Array.length_toList
  have fin : ∀ (e : Int) (q : ByteArray) (L : Lt) (o : Ending) (w' : World), (s.size = 10 ∨ s.size = 22) → lto s.data.toList = L → ltE L = e → wst (wb L) = q → RdP e q s (ltv L) u o w' → o = .returned (.tuple #[ltv ((rdL s.data.toList).getD lt0), errc (if (rdL s.data.toList).isSome then 0 else 2)]) ∧ Below u.heap.size u w' := by
    rintro e q L o w' hz rfl rfl rfl ⟨h, hb⟩
    refine ⟨?_, hb⟩
    rcases h with ⟨h, rfl⟩ | ⟨h1, h2, rfl⟩
    · have n : rdL s.data.toList = none := by
        unfold rdL
        rw [if_neg]
        rintro ⟨_, a, b⟩
        rcases h with h | h
        · exact h a
        · exact h (by rw [b, wst_back])
      rw [n]
      rfl
    · have n : rdL s.data.toList = some (lto s.data.toList) := by
        unfold rdL
        rw [if_pos ⟨by rw [hl]; exact hz, h1, wst_inj (h2.trans (wst_back s).symm)⟩]
      rw [n]
      rfl
  by_cases h10 : s.size = 10
  · refine (wread_ask s s[0] s[1] _ 0 0 u h10 rfl rfl rfl _ rfl _ rfl).mono (fun o w' h => fin _ _ _ o w' (Or.inl h10) ?_ rfl rfl h)
    unfold lto
    rw [get_dW (i := 0) (by omega), get_dW (i := 1) (by omega), hl, if_neg (by omega), if_neg (by omega), decide_eq_false (by omega)]
  by_cases h22 : s.size = 22
  · refine (wread_ans s s[0] s[1] _ _ _ u h22 rfl rfl rfl rfl rfl _ rfl _ rfl).mono (fun o w' h => fin _ _ _ o w' (Or.inr h22) ?_ rfl rfl h)
    unfold lto
    rw [get_dW (i := 0) (by omega), get_dW (i := 1) (by omega), hl, if_pos h22, if_pos h22, decide_eq_true h22]
  refine (wread_len s u h10 h22 (by unfold maxLen at hs; omega)).mono ?_
  rintro o w' ⟨rfl, hb⟩
  refine ⟨?_, hb⟩
  have n : rdL s.data.toList = none := by
    unfold rdL
    rw [if_neg]
    rintro ⟨a, _⟩
    rw [hl] at a
    omega
  rw [n]
  rfl
end Go.Proofs.Ytfmaoblhoafnhaj
namespace Go.Proofs.Ytfmaoblhoafnhaj
open Go.ChangeShapes Go.WideShapes Go.ChangeAt Go.RowKit Go.Joins
set_option linter.unusedVariables false
set_option linter.unusedSimpArgs false

theorem tmb2 (a b : Nat) : tmb [a, b] = six a ++ six b := by simp [tmb]
theorem app2 (base : Nat) (a b : Nat) (g : Nat) (u : World) (h1 : a < 281474976710656) (h2 : b < 281474976710656) (hb : base ≤ u.heap.size) (hr : Row u g [.int .i64 (a : Int), .int .i64 (b : Int)]) :
    Calls Try.prog 16 #[.slice none 0 0, .slice (some ⟨g, 0, none⟩) 2 2] u fun o w' => ∃ v', o = .returned v' ∧ OwB w' base v' (six a ++ six b) ∧ Below base u w' := by
  have := app_any (.slice none 0 0) base [] [a, b] g 2 u (by simp) (by simp) (by simp; omega) hb (World.ownsRow_nil _ _ _ _) hr hr.lt (by intro e; cases e)
  rw [tmb2, List.nil_append] at this
  exact this
set_option maxRecDepth 100000 in
set_option maxHeartbeats 8000000 in
theorem wspan_no (lo hi : Int) (h : okB lo hi = false) (u : World) : Calls Try.prog 10 #[.agg #[.int .i64 lo, .int .i64 hi]] u fun o w' => o = .returned (.tuple #[.string (wst []), errc 1]) ∧ Below u.heap.size u w' := by
  have cC := fun W => check_no lo hi W h
  rw [errc_not (e := 1) (by decide)]
  clear h
  go_enter Try.func10, Try.ntmps10
  go_wp2_with (go_at_call 25; refine (cC _).mono ?_; rintro o x ⟨rfl, hb⟩; have HB : Hid (Below u.heap.size u x) := rbel_on hb (rbel_al (Below.refl _ _)); clear hb)
  go_ret2
  exact ⟨rfl, HB.out⟩
set_option maxRecDepth 100000 in
set_option maxHeartbeats 8000000 in
theorem wspan_ok (lo hi : Int) (h : okB lo hi = true) (u : World) : Calls Try.prog 10 #[.agg #[.int .i64 lo, .int .i64 hi]] u fun o w' => o = .returned (.tuple #[.string (wst (sb lo hi)), .nilIface]) ∧ Below u.heap.size u w' := by
  obtain ⟨k1, k2, k3⟩ := okB_t h
  have cC := fun W => check_ok lo hi W h
  obtain ⟨a, ha⟩ : ∃ a : Nat, lo + 1000000000000 = a := ⟨(lo + 1000000000000).toNat, by omega⟩
  obtain ⟨b, hb⟩ : ∃ a : Nat, hi + 1000000000000 = a := ⟨(hi + 1000000000000).toNat, by omega⟩
  have HE : Hid (sb lo hi = six a ++ six b) := by
    show sb lo hi = six a ++ six b
    unfold sb
    rw [ha, hb]
    rfl
  have wa : IntKind.i64.wrap (lo + 1000000000000) = (a : Int) := by rw [ha]; exact IntWalk.i64_in _ (by omega)
  have wb : IntKind.i64.wrap (hi + 1000000000000) = (b : Int) := by rw [hb]; exact IntWalk.i64_in _ (by omega)
  rw [HE.out]
  have a1 : a < 281474976710656 := by omega
  have b1 : b < 281474976710656 := by omega
  clear h HE k1 k2 k3 ha hb
  go_enter Try.func10, Try.ntmps10
  go_upto_region 4 with (go_at_call 25; refine (cC _).mono ?_; rintro o x ⟨rfl, hb⟩; have BX : Hid (Below u.heap.size u x) := rbel_on hb (rbel_al (Below.refl _ _)); have RX : Hid (Row x u.heap.size [.int .i64 lo, .int .i64 hi]) := Row.on hb (Row.made rfl); have x0 := RX.out.c 0 _ rfl; have x1 := RX.out.c 1 _ rfl; have zx := RX.out.lt; clear hb)
  go_wp2_with (go_at_call 16; refine (app2 x.heap.size a b x.heap.size _ a1 b1 (by simp) (Row.made rfl)).mono ?_; rintro o w2 ⟨v2, rfl, ho, hb⟩; have tx := OwB.text ho (by simp [six_len]); have B2 : Hid (Below u.heap.size u w2) := BX.out.trans ((Below.trans (rbel_al (Below.refl _ _)) hb).mono (by omega)); clear ho hb)
  go_ret2
  exact ⟨rfl, B2.out⟩
theorem wspan_any (lo hi : Int) (u : World) : Calls Try.prog 10 #[.agg #[.int .i64 lo, .int .i64 hi]] u fun o w' => o = .returned (.tuple #[.string (wst (if okB lo hi = true then sb lo hi else [])), errc (if okB lo hi = true then 0 else 1)]) ∧ Below u.heap.size u w' := by
  cases h : okB lo hi with
  | false => exact wspan_no lo hi h u
  | true => exact wspan_ok lo hi h u
/-- What ReadSpan answers. -/
def RsP (ok : Bool) (lo hi : Int) (u : World) (o : Ending) (w' : World) : Prop := ((ok = false ∧ o = .returned (.tuple #[.agg #[.int .i64 0, .int .i64 0], errc 2])) ∨ (ok = true ∧ o = .returned (.tuple #[.agg #[.int .i64 lo, .int .i64 hi], errc 0]))) ∧ Below u.heap.size u w'
theorem RsP.no {lo hi : Int} {u w' : World} (hb : Below u.heap.size u w') : RsP false lo hi u (.returned (.tuple #[.agg #[.int .i64 0, .int .i64 0], .iface 73 (.int .i64 2)])) w' := ⟨Or.inl ⟨rfl, rfl⟩, hb⟩
theorem RsP.yes {lo hi : Int} {u w' : World} (hb : Below u.heap.size u w') : RsP true lo hi u (.returned (.tuple #[.agg #[.int .i64 lo, .int .i64 hi], .nilIface])) w' := ⟨Or.inr ⟨rfl, rfl⟩, hb⟩
set_option maxRecDepth 100000 in
set_option maxHeartbeats 8000000 in
theorem wreadSpan_len (s : ByteArray) (u : World) (h1 : ¬ s.size = 12) (hs : s.size ≤ 9223372036854775807) :
    Calls Try.prog 11 #[.string s] u fun o w' => o = .returned (.tuple #[.agg #[.int .i64 0, .int .i64 0], .iface 73 (.int .i64 2)]) ∧ Below u.heap.size u w' := by
  have d1 : ((s.size : Int) != 12) = true := by simp; omega
  go_enter Try.func11, Try.ntmps11
  go_wp2
  exact bodyPost_ret (v := .tuple #[.agg #[.int .i64 0, .int .i64 0], .iface 73 (.int .i64 2)]) (by simp [results, Try.results11, go_sem, *]) rfl ⟨rfl, by first | exact rbel_al (Below.refl _ _) | exact rbel_put (Nat.le_refl _) (rbel_put (Nat.le_refl _) (rbel_al (Below.refl _ _)))⟩
set_option maxRecDepth 100000 in
set_option maxHeartbeats 8000000 in
theorem wreadSpan_12 (s : ByteArray) (a b : Nat) (lo hi : Int) (u : World) (hz : s.size = 12) (ha : valB ((s.data.toList.drop 0).take 6) = a) (hb : valB ((s.data.toList.drop 6).take 6) = b) (a1 : a < 281474976710656) (b1 : b < 281474976710656) (hlo : (a : Int) - 1000000000000 = lo) (hhi : (b : Int) - 1000000000000 = hi) (ok : Bool) (hok : okB lo hi = ok) :
    Calls Try.prog 11 #[.string s] u fun o w' => RsP ok lo hi u o w' := by
  have cT0 : Hid (∀ W, Calls Try.prog 26 #[.string s, .int .i64 0] W fun o w' => o = .returned (.int .i64 a) ∧ w' = W) := fun W => by
    have := timeAt_any s 0 (by omega) (by omega) W
    rw [ha] at this
    exact this
  have cT6 : Hid (∀ W, Calls Try.prog 26 #[.string s, .int .i64 6] W fun o w' => o = .returned (.int .i64 b) ∧ w' = W) := fun W => by
    have := timeAt_any s 6 (by omega) (by omega) W
    rw [hb] at this
    exact this
  have cS : Hid (∀ W, Calls Try.prog 25 #[.agg #[.int .i64 lo, .int .i64 hi]] W fun o w' => o = .returned (if ok = true then .nilIface else .iface 73 (.int .i64 1)) ∧ Below W.heap.size W w') := fun W => by
    cases ok with
    | true => exact check_ok lo hi W hok
    | false => exact check_no lo hi W hok
  have e1 : ((s.size : Int) != 12) = false := by simp; omega
  have wa : IntKind.i64.wrap ((a : Int) - 1000000000000) = lo := by rw [hlo]; exact IntWalk.i64_in _ (by omega)
  have wb : IntKind.i64.wrap ((b : Int) - 1000000000000) = hi := by rw [hhi]; exact IntWalk.i64_in _ (by omega)
  clear hlo hhi hok ha hb hz
  go_enter Try.func11, Try.ntmps11
  cases ok
  all_goals
    have cC : ∀ W, Calls Try.prog 25 #[.agg #[.int .i64 lo, .int .i64 hi]] W fun o w' => _ := cS.out
    simp only [if_true, Bool.false_eq_true, if_false] at cC
    have cnt : Mark 0 := .mk _
    go_wp2_with (first | (go_at_call 26; have cm : Mark 0 := cnt; clear cm cnt; have cnt : Mark 1 := .mk _; refine (cT0.out _).mono ?_; rintro o x ⟨rfl, hx⟩; rw [hx]; clear hx) | (go_at_call 26; refine (cT6.out _).mono ?_; rintro o x ⟨rfl, hx⟩; rw [hx]; clear hx) | (go_at_call 25; refine (cC _).mono ?_; rintro o x3 ⟨rfl, hb⟩; have B3 : Hid (Below u.heap.size u x3) := rbel_on hb (rbel_al (rbel_al (Below.refl _ _))); have R3 : Hid (Row x3 (u.heap.size + 1) [.int .i64 lo, .int .i64 hi]) := Row.on hb (Row.made (by simp)); have A3 : Hid (Row x3 u.heap.size [.int .i64 0, .int .i64 0]) := Row.on hb (Row.al (Row.made rfl)); have r3_0 := R3.out.c 0 _ rfl; have r3_1 := R3.out.c 1 _ rfl; have a3_0 := A3.out.c 0 _ rfl; have a3_1 := A3.out.c 1 _ rfl; have f3_0 := A3.out.f 0 _ rfl; have f3_1 := A3.out.f 1 _ rfl; have z3 := R3.out.lt; have y3 := A3.out.lt; clear hb))
  · exact bodyPost_ret (v := .tuple #[.agg #[.int .i64 0, .int .i64 0], .iface 73 (.int .i64 2)]) (by simp [results, Try.results11, go_sem, *]) rfl (RsP.no (rbel_put (Nat.le_refl _) (rbel_put (Nat.le_refl _) B3.out)))
  · exact bodyPost_ret (v := .tuple #[.agg #[.int .i64 lo, .int .i64 hi], .nilIface]) (by simp [results, Try.results11, go_sem, *]) rfl (RsP.yes (rbel_put (Nat.le_refl _) (rbel_put (Nat.le_refl _) B3.out)))
theorem wreadSpan_any (s : ByteArray) (u : World) (hs : s.size ≤ maxLen) :
    Calls Try.prog 11 #[.string s] u fun o w' => o = .returned (.tuple #[.agg #[.int .i64 ((rdS s.data.toList).getD (0, 0)).1, .int .i64 ((rdS s.data.toList).getD (0, 0)).2], errc (if (rdS s.data.toList).isSome then 0 else 2)]) ∧ Below u.heap.size u w' := by
  have hl : s.data.toList.length = s.size := Array.length_toList
  by_cases h : s.size = 12
  · have v1 := valB_lt ((s.data.toList.drop 0).take 6)
    have v2 := valB_lt ((s.data.toList.drop 6).take 6)
    have z1 : ((s.data.toList.drop 0).take 6).length = 6 := by rw [List.length_take, List.length_drop, hl]; omega
    have z2 : ((s.data.toList.drop 6).take 6).length = 6 := by rw [List.length_take, List.length_drop, hl]; omega
    rw [z1] at v1
    rw [z2] at v2
    refine (wreadSpan_12 s _ _ _ _ u h rfl rfl (by omega) (by omega) rfl rfl _ rfl).mono ?_
    have e1 : ((valB ((s.data.toList.drop 0).take 6) : Nat) : Int) - 1000000000000 = rsL s.data.toList := by
      unfold rsL
      rw [List.drop_zero]
    have e2 : ((valB ((s.data.toList.drop 6).take 6) : Nat) : Int) - 1000000000000 = rsH s.data.toList := by
      unfold rsH
      rw [List.take_of_length_le (by rw [List.length_drop, hl]; omega)]
    rw [e1, e2]
    rintro o w' ⟨hq, hb⟩
    refine ⟨?_, hb⟩
    rcases hq with ⟨k, rfl⟩ | ⟨k, rfl⟩
    · have n : rdS s.data.toList = none := by
        unfold rdS
        rw [if_neg]
        rintro ⟨_, q⟩
        rw [k] at q
        cases q
      rw [n]
      rfl
    · have n : rdS s.data.toList = some (rsL s.data.toList, rsH s.data.toList) := by
        unfold rdS
        rw [if_pos ⟨by rw [hl]; exact h, k⟩]
      rw [n]
      rfl
  · refine (wreadSpan_len s u h (by unfold maxLen at hs; omega)).mono ?_
    rintro o w' ⟨rfl, hb⟩
    refine ⟨?_, hb⟩
    have n : rdS s.data.toList = none := by
      unfold rdS
      rw [if_neg]
      rintro ⟨q, _⟩
      rw [hl] at q
      omega
    rw [n]
    rfl
end Go.Proofs.Ytfmaoblhoafnhaj
namespace Go.Proofs.Ytfmaoblhoafnhaj
open Go.ChangeShapes Go.WideShapes Go.ChangeAt Go.RowKit Go.Joins
set_option linter.unusedVariables false
set_option linter.unusedSimpArgs false

theorem wrr {w : World} : WrR w where
  letter := fun l u _ _ => wletter_any l u
  readLetter := fun s u _ h => wreadLetter_any s u h
  span := fun lo hi u _ _ _ => wspan_any lo hi u
  readSpan := fun s u _ h => wreadSpan_any s u h
theorem wr {w : World} : Wr w := wrr.toWr
end Go.Proofs.Ytfmaoblhoafnhaj
