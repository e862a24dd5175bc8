/- Events in a row of a law's own; what packages order and probe must answer here. What packages net, order, span and probe answer, as TopOrders wants them. -/
import Derived.Test.YtnagdjipmpjaaaiNm19
import Derived.Test.YtnagdjipmpjaaaiNm17
import Derived.Test.YtnagdjipmpjaaaiNm04
import Derived.Lib.SmallJoins
import Derived.BigRegion
import Derived.Test.YtnagdjipmpjaaaiOrdPkgT
import Derived.Test.YtnagdjipmpjaaaiSpanAddC
import Derived.Test.YtnagdjipmpjaaaiProbeOff
namespace Go.Proofs.Ytnagdjipmpjaaai
open Go.ChangeShapes Go.WideShapes Go.ChangeAt Go.RowKit Go.Joins
set_option linter.unusedVariables false
set_option linter.unusedSimpArgs false

/-- The cells of events. -/
def vcn (f : Nat → Ev) : Nat → List Value
  | 0 => []
  | i + 1 => vcn f i ++ [.int .i64 (f i).id, .int .i64 (f i).lo, .int .i64 (f i).hi]
theorem vcn_len (f : Nat → Ev) : ∀ i, (vcn f i).length = i * 3
  | 0 => rfl
  | i + 1 => by simp only [vcn, List.length_append, vcn_len f i, List.length_cons, List.length_nil]; omega
theorem vcn_at (f : Nat → Ev) : ∀ {i j : Nat}, j < i → (vcn f i)[j * 3]? = some (.int .i64 (f j).id) ∧ (vcn f i)[j * 3 + 1]? = some (.int .i64 (f j).lo) ∧ (vcn f i)[j * 3 + 1 + 1]? = some (.int .i64 (f j).hi)
  | 0, j, h => by omega
  | i + 1, j, h => by
    have l := vcn_len f i
    simp only [vcn]
    by_cases c : j = i
    · subst c
      rw [List.getElem?_append_right (by omega), List.getElem?_append_right (by omega), List.getElem?_append_right (by omega), l, show j * 3 - j * 3 = 0 by omega, show j * 3 + 1 - j * 3 = 1 by omega, show j * 3 + 1 + 1 - j * 3 = 2 by omega]
      exact ⟨rfl, rfl, rfl⟩
    · rw [List.getElem?_append_left (by omega), List.getElem?_append_left (by omega), List.getElem?_append_left (by omega)]
      exact vcn_at f (by omega)
theorem vcn_congr {f g : Nat → Ev} : ∀ k, (∀ i, i < k → f i = g i) → vcn f k = vcn g k
  | 0, _ => rfl
  | k + 1, h => by simp only [vcn]; rw [vcn_congr k (fun i hi => h i (by omega)), h k (by omega)]
theorem infoEventN : (Try.prog.info? 44).map (fun i => (i.zero, i.size, i.bytes)) = some (some (.agg #[.int .i64 0, .int .i64 0, .int .i64 0]), 3, 24) := by kernel_rfl
theorem own_eventsN {w : World} {base k : Nat} {v : Value} {f : Nat → Ev} (h : w.ownsRow base 44 3 v k (vcn f k)) (hk : k ≤ 9223372036854775807) : ∃ a cap, v = .slice a k cap ∧ VHanded w a k f := by
  rcases h.2 with ⟨rfl, e⟩ | ⟨g, cap, cur, rfl, hb, hg, hc, _, hcs, htk⟩
  · subst e
    exact ⟨none, 0, rfl, hk, Or.inl rfl⟩
  · refine ⟨_, cap, rfl, hk, Or.inr ⟨g, 0, rfl, fun i hi => ?_⟩⟩
    obtain ⟨a, b, c⟩ := vcn_at f hi
    rw [Nat.zero_add, h.cellAt _ (by omega), h.cellAt _ (by omega), h.cellAt _ (by omega)]
    exact ⟨a, b, c⟩
theorem own_capE {w : World} {base k size : Nat} {e : TypeId} {v : Value} {a : Option Addr} {cap : Nat} {xs : List Value} (h : w.ownsRow base e size v k xs) (hv : v = .slice a k cap) : k ≤ cap := by
  rcases h.2 with ⟨e1, e2⟩ | ⟨g, cp, cur, e1, hb, hg, hc, hm, hcs, htk⟩
  · omega
  · rw [e1] at hv
    injection hv with _ _ q
    subst q
    exact hc
/-- What packages order and probe must answer here. -/
structure OdT (w0 : World) : Prop where
  could : ∀ (a : Option Addr) (n cap : Nat) (f : Nat → Ev) (oa : Option Addr) (oc : Nat) (u : World), Below w0.heap.size w0 u → VHanded u a n f → n ≤ cap → NHanded u oa n (fun j => (j : Int)) → n ≤ oc → EvE n f 0 → EachP n (fun j => (j : Int)) n → CouldP f (fun j => (j : Int)) n → Calls Try.prog 12 #[.slice a n cap, .slice oa n oc] u fun r w' => r = .returned (.tuple #[.bool true, .nilIface]) ∧ Below u.heap.size u w'
  times : ∀ (a : Option Addr) (n cap : Nat) (f : Nat → Ev) (oa : Option Addr) (oc : Nat) (u : World), Below w0.heap.size w0 u → VHanded u a n f → n ≤ cap → NHanded u oa n (fun j => (j : Int)) → n ≤ oc → EvE n f 0 → EachP n (fun j => (j : Int)) n → CouldP f (fun j => (j : Int)) n → Calls Try.prog 13 #[.slice a n cap, .slice oa n oc] u fun r w' => ∃ (ta : Option Addr) (tc : Nat), r = .returned (.tuple #[.slice ta n tc, .nilIface]) ∧ Below u.heap.size u w'
  add : ∀ (a b c d : Int) (u : World), okB a b = true → okB c d = true → okB (a + c) (b + d) = true → Calls Try.prog 11 #[.agg #[.int .i64 a, .int .i64 b], .agg #[.int .i64 c, .int .i64 d]] u fun r w' => r = .returned (.tuple #[.agg #[.int .i64 (a + c), .int .i64 (b + d)], .nilIface]) ∧ Below u.heap.size u w'
  off : ∀ (u : World), Calls Try.prog 22 #[.agg #[.int .i64 0, .int .i64 100, .int .i64 100, .int .i64 10], .int .i64 0] u fun r w' => r = .returned (.tuple #[.agg #[.int .i64 90, .int .i64 102], .nilIface]) ∧ Below u.heap.size u w'
set_option maxRecDepth 100000 in
theorem one_is {w0 : World} (O : OdT w0) (w : World) : Calls Try.prog 9 #[] w fun r w' => r = .returned (.bool true) ∧ Below w.heap.size w w' := by
  have cO := O.off
  clear O
  go_enter Try.func9, Try.ntmps9
  go_wp2_with (go_at_call 22; refine (cO _).mono ?_; rintro o u1 ⟨rfl, hb⟩; have B1 : Hid (Below w.heap.size w u1) := hb; clear hb)
  go_ret
  exact ⟨rfl, rbel_al B1.out⟩
end Go.Proofs.Ytnagdjipmpjaaai
namespace Go.Proofs.Ytnagdjipmpjaaai
open Go.ChangeShapes Go.WideShapes Go.ChangeAt Go.RowKit Go.Joins
set_option linter.unusedVariables false
set_option linter.unusedSimpArgs false

theorem odt {w : World} : OdT w where
  could := fun a n cap f oa oc u _ hV hc hO ho hE hP hC => could_ok (a := a) (n := n) (cap := cap) (f := f) (oa := oa) (m := n) (oc := oc) (o := fun j => (j : Int)) (w := u) true hV hc hO ho (Or.inr (Or.inr ⟨hE, hP, rfl⟩)) ⟨fun _ => hC, fun _ => rfl⟩
  times := fun a n cap f oa oc u _ hV hc hO ho hE hP hC => (times_ok (a := a) (n := n) (cap := cap) (f := f) (oa := oa) (m := n) (oc := oc) (o := fun j => (j : Int)) (w := u) hV hc hO ho (Or.inr (Or.inr ⟨hE, hP, rfl⟩)) hC).mono fun _ _ ⟨x, z, q1, _, q2⟩ => ⟨x, z, q1, q2⟩
  add := fun a b c d u h1 h2 h3 => add_ok a b c d u h1 h2 h3
  off := fun u => by
    have := off_ok 0 100 100 10 0 u (by decide)
    exact this
end Go.Proofs.Ytnagdjipmpjaaai
