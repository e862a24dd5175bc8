/- Package clock, as it landed: inBoth, where nothing is in both. -/
import Derived.Test.YtigcliepeapcpajGreatDoorClockPkgN
namespace Go.Proofs.YtigcliepeapcpajGreatDoor
open Go.ChangeShapes Go.WideShapes Go.ChangeAt Go.RowKit Go.Joins
set_option linter.unusedVariables false
set_option linter.unusedSimpArgs false

set_option maxRecDepth 100000 in
set_option maxHeartbeats 4000000 in
theorem pboth_clash (b : Nat) (c : Ck) (x y : Int) (u : World) (hR : PC u b c) (hI : c.I) (hk : c.k = true) (hn : c.nowE = 0) (hB : c.bHi y < c.bLo x) :
    Calls Tryz.prog 29 #[.pointer (some ⟨b, 0, none⟩), .agg #[.int .i64 x, .int .i64 y]] u fun o w' => o = .returned (.tuple #[.agg #[.int .i64 0, .int .i64 0], .iface 71 (.int .i64 7)]) ∧ Below u.heap.size u w' := by
  have cN := fun w (hw : Below u.heap.size u w) => pnow_any b c w (PC.keep hw hR) hI
  rw [hn, errc_zero] at cN
  have c1 := Blk.c hR 1 _ rfl
  have c2 := Blk.c hR 2 _ rfl
  rw [hk] at c2
  have zb := Blk.lt hR
  have HB : Hid (c.bHi y < c.bLo x) := hB
  have C1 : Hid (u.cell? ⟨b, 1, none⟩ = some (.int .i64 c.h)) := c1
  have EX : Hid ((if x < c.lo - c.n then c.lo - c.n else x) = c.bLo x) := by unfold Ck.bLo; rw [if_pos hk]; exact rfl
  have EY : Hid ((if c.hi + c.n < y then c.hi + c.n else y) = c.bHi y) := by unfold Ck.bHi; rw [if_pos hk]; exact rfl
  have el : c.nowLo = c.lo - c.n + c.h := by unfold Ck.nowLo; rw [if_pos hn]
  have eh : c.nowHi = c.hi + c.n + c.h := by unfold Ck.nowHi; rw [if_pos hn]
  obtain ⟨n1, n2, n3, n4⟩ := c.n_b hI
  clear n1 n2
  obtain ⟨o1, o2, o3⟩ := okB_t hI.ok
  have q1 := hI.h0
  have q2 := hI.h1
  obtain ⟨mb1, mb2, mb3, mb4⟩ := Ck.mid_b hn
  have w1 : IntKind.i64.wrap (c.nowLo - c.h) = c.lo - c.n := by rw [IntWalk.i64_in _ (by omega)]; omega
  have w2 : IntKind.i64.wrap (c.nowHi - c.h) = c.hi + c.n := by rw [IntWalk.i64_in _ (by omega)]; omega
  clear hR hB hk hI hn el eh n3 n4 o1 o2 o3 q1 q2 mb1 mb2 mb3 mb4
  generalize c.nowLo = nl at *
  generalize c.nowHi = nh at *
  generalize c.bLo x = bx at *
  generalize c.bHi y = bY at *
  generalize c.lo - c.n = al at *
  generalize c.hi + c.n = ah at *
  generalize c.h = h at *
  clear c
  go_enter Tryz.func29, Tryz.ntmps29
  go_wp2_with (go_at_call 13; refine (cN _ (rbel_al (rbel_al (Below.refl _ _)))).mono ?_; rintro o u2 ⟨rfl, hb⟩; have z2 := hb.size; simp at z2; have z3 : u.heap.size + 1 < u2.heap.size := (by omega); have z4 : u.heap.size < u2.heap.size := (by omega); have zb2 : b < u2.heap.size := (by omega); have rr : Row u2 (u.heap.size + 1) [.int .i64 0, .int .i64 0] := Row.on hb (Row.made (by simp)); have ro : Row u2 u.heap.size [.int .i64 x, .int .i64 y] := Row.on hb (Row.al (Row.made rfl)); have d1 : u2.cell? ⟨b, 1, none⟩ = some (.int .i64 h) := (by rw [hb.cell (p := ⟨b, 1, none⟩) (by simp; omega), World.cell?_alloc_lt _ _ _ (by simp; omega), World.cell?_alloc_lt _ _ _ zb]; exact C1.out); have RR : Hid _ := rr; have r0 := rr.c 0 _ rfl; have r1 := rr.c 1 _ rfl; have f0 := rr.f 0 _ rfl; have f1 := rr.f 1 _ rfl; have p0 := ro.c 0 _ rfl; have p1 := ro.c 1 _ rfl; have B2 : Hid (Below u.heap.size u u2) := rbel_on hb (rbel_al (rbel_al (Below.refl _ _))); clear hb rr ro z2 cN)
  go_region
  all_goals
    rw [EX.out, EY.out]
    have dB := HB.out
    go_wp2
    exact bodyPost_ret (v := .tuple #[.agg #[.int .i64 0, .int .i64 0], .iface 71 (.int .i64 7)]) (by simp [results, Tryz.results29, go_sem, *]) rfl ⟨rfl, by first | exact rbel_put (by omega) (rbel_put (by omega) (rbel_dr (rbel_al (rbel_al B2.out)))) | exact rbel_dr (rbel_al (rbel_al (rbel_put (by omega) (rbel_put (by omega) B2.out)))) | exact rbel_dr (rbel_put (by omega) (rbel_put (by omega) (rbel_al (rbel_al B2.out))))⟩
end Go.Proofs.YtigcliepeapcpajGreatDoor
