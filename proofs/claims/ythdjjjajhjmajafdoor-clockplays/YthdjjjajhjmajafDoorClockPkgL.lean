/- Package clock, as it landed: Learn. -/
import Derived.Test.YthdjjjajhjmajafDoorClockPkgN
namespace Go.Proofs.YthdjjjajhjmajafDoor
open Go.ChangeShapes Go.WideShapes Go.ChangeAt Go.RowKit Go.Joins
set_option linter.unusedVariables false
set_option linter.unusedSimpArgs false

/-- The cells of a clock that learned. -/
theorem pc_learn {u : World} {b : Nat} {c : Ck} {x y : Int} (h : PC u b c) : PC ((((u.setCell ⟨b, 2, none⟩ (.bool true)).setCell ⟨b, 3, none⟩ (.int .i64 x)).setCell ⟨b, 4, none⟩ (.int .i64 y)).setCell ⟨b, 5, none⟩ (.int .i64 c.h)) b { c with k := true, lo := x, hi := y, s := c.h } :=
  Blk.put 5 (Blk.put 4 (Blk.put 3 (Blk.put 2 h)))
set_option maxRecDepth 100000 in
set_option maxHeartbeats 4000000 in
theorem plearn_out (b : Nat) (c : Ck) (x y : Int) (u : World) (ho : okB x y = false) :
    Calls Tryd.prog 21 #[.pointer (some ⟨b, 0, none⟩), .agg #[.int .i64 x, .int .i64 y]] u fun o w' => o = .returned (.iface 68 (.int .i64 1)) ∧ Below u.heap.size u w' := by
  have cC := fun w => check_no x y w ho
  clear ho
  go_enter Tryd.func21, Tryd.ntmps21
  go_wp2_with (go_at_call 40; refine (cC _).mono ?_; rintro o u2 ⟨rfl, hb⟩; have HB : Hid _ := hb; clear hb)
  go_ret
  exact ⟨rfl, rbel_on HB.out (rbel_al (Below.refl _ _))⟩
set_option maxRecDepth 100000 in
set_option maxHeartbeats 4000000 in
theorem plearn_no (b : Nat) (c : Ck) (x y l h e : Int) (u : World) (ho : okB x y = true) (he : e ≠ 0)
    (cB : ∀ w, Below u.heap.size u w → Calls Tryd.prog 41 #[.pointer (some ⟨b, 0, none⟩), .agg #[.int .i64 x, .int .i64 y]] w fun o w' => o = .returned (.tuple #[.agg #[.int .i64 l, .int .i64 h], errc e]) ∧ Below w.heap.size w w') :
    Calls Tryd.prog 21 #[.pointer (some ⟨b, 0, none⟩), .agg #[.int .i64 x, .int .i64 y]] u fun o w' => o = .returned (errc e) ∧ Below u.heap.size u w' := by
  have cC := fun w => check_ok x y w ho
  rw [errc_not he] at cB ⊢
  clear ho he
  go_enter Tryd.func21, Tryd.ntmps21
  go_wp2_with (first
    | (go_at_call 40; refine (cC _).mono ?_; rintro o u2 ⟨rfl, hb⟩; have ro := Row.on hb (Row.made (W := u) (vs := [.int .i64 x, .int .i64 y]) rfl); have p0 := ro.c 0 _ rfl; have p1 := ro.c 1 _ rfl; have HB : Hid (Below u.heap.size u u2) := rbel_on hb (rbel_al (Below.refl _ _)); clear hb ro)
    | (go_at_call 41; refine (cB _ HB.out).mono ?_; rintro o u3 ⟨rfl, hb⟩; have HB3 : Hid (Below u.heap.size u u3) := rbel_on hb HB.out; clear hb))
  go_ret
  exact ⟨rfl, rbel_al HB3.out⟩
set_option maxRecDepth 100000 in
set_option maxHeartbeats 4000000 in
theorem plearn_yes (b : Nat) (c : Ck) (x y l h : Int) (u : World) (hR : PC u b c) (ho : okB x y = true)
    (cB : ∀ w, Below u.heap.size u w → Calls Tryd.prog 41 #[.pointer (some ⟨b, 0, none⟩), .agg #[.int .i64 x, .int .i64 y]] w fun o w' => o = .returned (.tuple #[.agg #[.int .i64 l, .int .i64 h], .nilIface]) ∧ Below w.heap.size w w') :
    Calls Tryd.prog 21 #[.pointer (some ⟨b, 0, none⟩), .agg #[.int .i64 x, .int .i64 y]] u fun o w' => o = .returned .nilIface ∧ PC w' b { c with k := true, lo := l, hi := h, s := c.h } ∧ Keeps (fun k => k = b) u w' := by
  have cC := fun w => check_ok x y w ho
  have HR : Hid (PC u b c) := hR
  have zb := Blk.lt hR
  clear ho hR
  go_enter Tryd.func21, Tryd.ntmps21
  go_wp2_with (first
    | (go_at_call 40; refine (cC _).mono ?_; rintro o u2 ⟨rfl, hb⟩; have ro := Row.on hb (Row.made (W := u) (vs := [.int .i64 x, .int .i64 y]) rfl); have p0 := ro.c 0 _ rfl; have p1 := ro.c 1 _ rfl; have HB : Hid (Below u.heap.size u u2) := rbel_on hb (rbel_al (Below.refl _ _)); clear hb ro)
    | (go_at_call 41; refine (cB _ HB.out).mono ?_; rintro o u3 ⟨rfl, hb⟩; have HB3 : Hid (Below u.heap.size u u3) := rbel_on hb HB.out; have hR3 := PC.keep HB3.out HR.out; have zb3 := Blk.lt hR3; have d1 := Blk.c hR3 1 _ rfl; have d2 := Blk.c hR3 2 _ rfl; have d3 := Blk.c hR3 3 _ rfl; have d4 := Blk.c hR3 4 _ rfl; have d5 := Blk.c hR3 5 _ rfl; have f2 := Blk.f hR3 2; have f3 := Blk.f hR3 3; have f4 := Blk.f hR3 4; have f5 := Blk.f hR3 5; have ne : ¬ (u3.heap.size = b) := (by omega); have ne2 : ¬ (b = u3.heap.size) := (by omega); have HR3 : Hid (PC u3 b c) := hR3; clear hb hR3))
  go_region
  all_goals
    go_wp2
    go_ret
    exact ⟨rfl, Blk.dr (Blk.al (pc_learn HR3.out)), Keeps.dr (Keeps.al (Keeps.put (S := fun k => k = b) rfl (Keeps.put (S := fun k => k = b) rfl (Keeps.put (S := fun k => k = b) rfl (Keeps.put (S := fun k => k = b) rfl (Keeps.of HB3.out))))))⟩
end Go.Proofs.YthdjjjajhjmajafDoor
