/- The ways through the law TreeTells: what is wrong. -/
import Derived.Test.YtjdeeeefapijeaeDoorTreeTellsM
import Derived.Test.YtjdeeeefapijeaeDoorBoundsRef
import Derived.Test.YtjdeeeefapijeaeDoorTold
import Derived.Deep.CutRange
import Derived.BigRegion
import Derived.IntWalk
import Derived.Deep.QuietTactic
import Derived.BigQuiet
import Derived.Lib.SmallJoins
namespace Go.Proofs.YtjdeeeefapijeaeDoor.treeTells
open Go.ChangeShapes Go.WideShapes Go.ChangeAt Go.RowKit Go.Joins Go.Proofs.YtjdeeeefapijeaeDoor.told
set_option linter.unusedVariables false
set_option linter.unusedSimpArgs false

theorem error_c (f : Int) (w : World) (he : EnvE w) : Calls Tryd.prog 12 #[errc f, .int .i64 f] w fun e w' => e = .returned (.bool true) ∧ Below w.heap.size w w' := error_same f w he
theorem nil_ints (u : World) (la : Option Addr) (lc : Nat) : Calls Tryd.prog 20 #[.slice la 0 lc, .slice none 0 0] u fun e w' => e = .returned (.bool true) ∧ Below u.heap.size u w' := same_ints la none 0 lc 0 (fun _ => 0) u ⟨by omega, Or.inl rfl⟩ ⟨by omega, Or.inl rfl⟩
theorem nil_bools (u : World) (la : Option Addr) (lc : Nat) : Calls Tryd.prog 24 #[.slice la 0 lc, .slice none 0 0] u fun e w' => e = .returned (.bool true) ∧ Below u.heap.size u w' := same_bools la none 0 lc 0 (fun _ => false) u ⟨by omega, Or.inl rfl⟩ ⟨by omega, Or.inl rfl⟩
theorem nil_spans (u : World) (la : Option Addr) (lc : Nat) : Calls Tryd.prog 23 #[.slice la 0 lc, .slice none 0 0] u fun e w' => e = .returned (.bool true) ∧ Below u.heap.size u w' := same_spans la none 0 lc 0 (fun _ => (0, 0)) u ⟨by omega, Or.inl rfl⟩ ⟨by omega, Or.inl rfl⟩
set_option maxRecDepth 100000 in
set_option maxHeartbeats 8000000 in
theorem wrong (z : Int) (a : Option Addr) (m cap : Nat) (root e0 e : Int) (w : World) (he : EnvE w)
    (hc : (e0 ≠ 0 ∧ e = e0) ∨ (e0 = 0 ∧ root < 0 ∧ e = 1) ∨ (e0 = 0 ∧ ¬ root < 0 ∧ z ≤ root ∧ e = 1))
    (cE : Calls Tryd.prog 9 #[.int .i64 z, .slice a m cap] w fun o w' => o = .returned (.int .i64 e0) ∧ Below w.heap.size w w')
    (cP : ∀ u, Below w.heap.size w u → Calls Tryd.prog 19 #[.int .i64 z, .slice a m cap, .int .i64 root] u fun o w' => ∃ la lc, o = .returned (.tuple #[.slice la 0 lc, errc e]) ∧ Below u.heap.size u w')
    (cS : ∀ u, Below w.heap.size w u → Calls Tryd.prog 22 #[.int .i64 z, .slice a m cap, .int .i64 root] u fun o w' => ∃ la lc ha hc, o = .returned (.tuple #[.slice la 0 lc, .slice ha 0 hc, errc e]) ∧ Below u.heap.size u w') :
    Calls Tryd.prog 6 #[.int .i64 z, .slice a m cap, .int .i64 root] w fun o w' => o = .returned (.bool true) ∧ Below w.heap.size w w' := by
  have HE : Hid (EnvE w) := he
  have ne : e ≠ 0 := by rcases hc with ⟨h, rfl⟩ | ⟨_, _, rfl⟩ | ⟨_, _, _, rfl⟩; exact h; decide; decide
  have d0 : (e == 0) = false := by simpa using ne
  have cR := fun u (h : EnvE u) => error_c e u h
  have cI := nil_ints
  have cB := nil_bools
  have cT := nil_spans
  clear he
  generalize errc e = er at *
  have cnt : Mark 0 := .mk _
  rcases hc with ⟨h, rfl⟩ | ⟨rfl, h1, rfl⟩ | ⟨rfl, h1, h2, rfl⟩
  all_goals
    go_enter Tryd.func6, Tryd.ntmps6
    go_wp2_with (first
      | (go_at_call 9; refine cE.mono ?_; rintro e' u0 ⟨rfl, hb⟩; have HW0 : Hid (Below w.heap.size w u0) := hb; clear hb)
      | (go_at_call 19; refine (cP _ HW0.out).mono ?_; rintro e' u1 ⟨la, lc, rfl, hb⟩; have HW1 : Hid (Below w.heap.size w u1) := rbel_on hb HW0.out; clear hb)
      | (go_at_call 12; have cq : Mark 0 := cnt; refine (cR _ (HE.out.below HW1.out)).mono ?_; clear cq cnt; have cnt : Mark 1 := .mk _; rintro e' u2 ⟨rfl, hb⟩; have HW2 : Hid (Below w.heap.size w u2) := rbel_on hb HW1.out; clear hb)
      | (go_at_call 20; refine (cI _ _ _).mono ?_; rintro e' u3 ⟨rfl, hb⟩; have HW3 : Hid (Below w.heap.size w u3) := rbel_on hb HW2.out; clear hb))
    refine wp_loop_rounds 1 ?_
    rw [rounds_succ]
    go_wp2_with (first
      | (go_at_call 22; refine (cS _ HW3.out).mono ?_; rintro e' u4 ⟨la4, lc4, ha4, hc4, rfl, hb⟩; have HW4 : Hid (Below w.heap.size w u4) := rbel_on hb HW3.out; clear hb)
      | (go_at_call 12; have cq : Mark 1 := cnt; refine (cR _ (HE.out.below HW4.out)).mono ?_; clear cq cnt; have cnt : Mark 2 := .mk _; rintro e' u5 ⟨rfl, hb⟩; have HW5 : Hid (Below w.heap.size w u5) := rbel_on hb HW4.out; clear hb)
      | (go_at_call 23; refine (cT _ _ _).mono ?_; rintro e' u6 ⟨rfl, hb⟩; have HW6 : Hid (Below w.heap.size w u6) := rbel_on hb HW5.out; clear hb)
      | (go_at_call 24; refine (cB _ _ _).mono ?_; rintro e' u7 ⟨rfl, hb⟩; have HW7 : Hid (Below w.heap.size w u7) := rbel_on hb HW6.out; clear hb))
    go_ret
    exact ⟨rfl, HW7.out⟩
end Go.Proofs.YtjdeeeefapijeaeDoor.treeTells
