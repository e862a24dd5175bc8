/- What the document's own node (package noonref2) answers: Edges. What the document's own node (package noonref2) answers: Edges, the walk. -/
import Derived.Test.YtadkgnbagmnkkakGreatDoorNm28
import Derived.Test.YtadkgnbagmnkkakGreatDoorNm14
namespace Go.Proofs.YtadkgnbagmnkkakGreatDoor
open Go.ChangeShapes Go.WideShapes Go.ChangeAt Go.RowKit Go.Joins
set_option linter.unusedVariables false
set_option linter.unusedSimpArgs false

theorem rnspans_at (b : Nat) (c : Nd) (t e : Int) (u : World) (hR : RN u b c) (hI : c.I) (h : SpR c t e) :
  Calls Tryz.prog 107 #[.pointer (some ⟨b, 0, none⟩), .int .i64 t] u fun o w' => ((e = 0 ∧ o = .returned (.tuple #[.slice (some ⟨u.heap.size, 0, none⟩) c.n c.n, .slice (some ⟨u.heap.size + 1, 0, none⟩) c.n c.n, .int .i64 0]) ∧ StS w' u.heap.size c.n c t) ∨ (e ≠ 0 ∧ o = .returned (.tuple #[.slice none 0 0, .slice none 0 0, .int .i64 e]))) ∧ Below u.heap.size u w' := by
 by_cases hb : c.bk t
 ·refine (rnspans_bk b c t u hR hb).mono fun _ _ ⟨he, hw⟩ => ⟨Or.inr ?_, hw⟩
  obtain rfl : e = 8 := spR_uniq h (Or.inl ⟨hb, rfl⟩)
  exact ⟨by decide, he⟩
 ·refine (rnspans_go b c t u hR hI hb).mono fun _ _ ⟨⟨e', h', q⟩, hw⟩ => ⟨?_, hw⟩
  obtain rfl := spR_uniq h h'
  exact q
set_option maxHeartbeats 8000000
set_option maxRecDepth 100000
theorem infoEdge : (Tryz.prog.info? 212).map (fun i => (i.zero, i.size, i.bytes)) = some (some (.agg #[.int .i64 0, .int .i64 0, .int .i64 0, .int .i64 0]), 4, 32) := by kernel_rfl
theorem rnedges_no (b : Nat) (c : Nd) (t e : Int) (u : World) (hR : RN u b c) (hI : c.I) (h : SpR c t e) (hz : e ≠ 0) :
  Calls Tryz.prog 78 #[.pointer (some ⟨b, 0, none⟩), .int .i64 t] u fun o w' => o = .returned (.tuple #[.slice none 0 0, .int .i64 e]) ∧ Below u.heap.size u w' := by
 have cS : Calls Tryz.prog 107 #[.pointer (some ⟨b, 0, none⟩), .int .i64 t] u fun o w' => o = .returned (.tuple #[.slice none 0 0, .slice none 0 0, .int .i64 e]) ∧ Below u.heap.size u w' := (rnspans_at b c t e u hR hI h).mono fun _ _ ⟨q, hw⟩ => by
  rcases q with ⟨q, _⟩ | ⟨_, q⟩
  ·exact absurd q hz
  ·exact ⟨q, hw⟩
 have d1 : (e != 0) = true := by simp [hz]
 have d2 : (e == 0) = false := by simp [hz]
 clear hR hI h hz
 go_enter Tryz.func78, Tryz.ntmps78
 go_wp2_with (go_at_call 107; refine cS.mono ?_; rintro o u1 ⟨rfl, hb⟩; have B1 : Hid _ := hb; clear hb)
 go_ret2
 exact ⟨rfl, B1.out⟩
theorem rnedges_go (b : Nat) (c : Nd) (t : Int) (u : World) (hR : RN u b c) (hI : c.I) (h : SpR c t 0) :
  Calls Tryz.prog 78 #[.pointer (some ⟨b, 0, none⟩), .int .i64 t] u fun o w' => (∃ ea ec, o = .returned (.tuple #[.slice ea (c.eo t).length ec, .int .i64 0]) ∧ EHanded w' ea (c.eo t).length (egf (c.eo t)) ∧ (ea = none → ec = 0)) ∧ Below u.heap.size u w' := by
 have cS : Calls Tryz.prog 107 #[.pointer (some ⟨b, 0, none⟩), .int .i64 t] u fun o w' => o = .returned (.tuple #[.slice (some ⟨u.heap.size, 0, none⟩) c.n c.n, .slice (some ⟨u.heap.size + 1, 0, none⟩) c.n c.n, .int .i64 0]) ∧ StS w' u.heap.size c.n c t ∧ Below u.heap.size u w' := (rnspans_at b c t 0 u hR hI h).mono fun _ _ ⟨q, hw⟩ => by
  rcases q with ⟨_, q, s⟩ | ⟨q, _⟩
  ·exact ⟨q, s, hw⟩
  ·exact absurd rfl q
 have HR : Hid (RN u b c) := hR
 have HI : Hid c.I := hI
 have h6 := hI.n6
 have h0 : 0 < c.n := by have := hI.idn; omega
 obtain ⟨i0, hi0, hz0, hz1, hz2⟩ := info_parts infoEdge
 clear hR hI h
 go_enter Tryz.func78, Tryz.ntmps78
 go_wp2_with (go_at_call 107; refine cS.mono ?_; rintro o u1 ⟨rfl, hs, hb⟩; have S1 : Hid (StS u1 u.heap.size c.n c t) := hs; have B1 : Hid (Below u.heap.size u u1) := hb; have s1 : u.heap.size + 1 < u1.heap.size := World.block_lt_of_cell? _ _ (hs.h 0 h0); clear hb hs)
 go_loopw [9, 10] (fun v vi wr => ∃ i : Nat, i ≤ c.n ∧ vi = .int .i64 i ∧ wr.ownsRow u1.heap.size 212 4 v (c.eu t i).length (ecl (c.eu t i)) ∧ Below u1.heap.size u1 wr) (fun _ vi _ => c.n - (intOf vi).toNat)
 case atStart => exact ⟨0, Nat.zero_le _, rfl, World.ownsRow_nil _ _ _ _, Below.refl _ _⟩
 case round =>
  obtain ⟨i, hi, rfl, hown, hw⟩ := hrel
  have HW : Hid (Below u1.heap.size u1 wr) := hw
  have zw := hw.size
  have S2 : Hid (StS wr u.heap.size c.n c t) := S1.out.on h0 hw
  have N2 : Hid (RN wr b c) := RN.on hw (RN.on B1.out HR.out)
  by_cases hlt : i < c.n
  ·have hl3 : (i : Int) < (c.n : Int) := by omega
   have v0 := N2.out.id
   have lb := N2.out.lt
   have y0 := S2.out.h i hlt
   rw [if_pos hlt] at y0
   have le := eu_len c t i
   have sw : u.heap.size + 1 < wr.heap.size := by omega
   cases hh : c.has i with
   | false =>
    have e1 : c.ho i = decide (i = c.id) := by unfold Nd.ho; rw [hh]; rfl
    rw [e1] at y0
    have HO : Hid (wr.ownsRow u1.heap.size 212 4 u9 (c.eu t i).length (ecl (c.eu t i))) := hown
    clear hown hw e1
    by_cases hid : i = c.id
    ·rw [decide_eq_true hid] at y0
     subst hid
     go_wp2
     go_roundw
     case rel => exact ⟨c.id + 1, by omega, by go_num, by rw [eu_no hh]; exact HO.out, HW.out⟩
     case measure => simp [intOf]; omega
    ·rw [decide_eq_false hid] at y0
     go_wp2
     go_roundw
     case rel => exact ⟨i + 1, by omega, by go_num, by rw [eu_no hh]; exact HO.out, HW.out⟩
     case measure => simp [intOf]; omega
   | true =>
    obtain ⟨k1, k2, k3, k4, k5⟩ := HI.out.kn i hh
    have e1 : c.ho i = true := by unfold Nd.ho; rw [hh]; rfl
    rw [e1] at y0
    have d1 : ((i : Int) == (c.id : Int)) = false := by simp; omega
    have z0 := S2.out.a i hlt
    have z1 := S2.out.b i hlt
    rw [if_pos hlt] at z0 z1
    have e2 : c.so t i = (c.alo i t, c.ahi i t) := by unfold Nd.so; rw [if_pos hh]
    rw [e2] at z0 z1
    have HL : Hid (ecl (c.eu t (i + 1)) = ecl (c.eu t i) ++ [.int .i64 c.id, .int .i64 i, .int .i64 (c.alo i t), .int .i64 (c.ahi i t)]) := by show _ = _; rw [eu_yes hh, ecl_app]; rfl
    have HLL : Hid ((c.eu t (i + 1)).length = (c.eu t i).length + 1) := by show _ = _; rw [eu_yes hh, List.length_append]; rfl
    have HB : Hid (∀ j, u9.ownBlock = some j → u1.heap.size ≤ j) := fun j hj => (hown.lt j hj).1
    have HO : Hid (wr.ownsRow u1.heap.size 212 4 u9 (c.eu t i).length (ecl (c.eu t i))) := hown
    have z0' : wr.cell? ⟨u.heap.size, i * 2, none⟩ = some (.int .i64 (c.alo i t)) := z0
    have z1' : wr.cell? ⟨u.heap.size, i * 2 + 1, none⟩ = some (.int .i64 (c.ahi i t)) := z1
    have sw2 : u.heap.size < wr.heap.size := by omega
    clear hown hw e1 e2 z0 z1 k3 k4 k5
    generalize c.alo i t = al at *
    generalize c.ahi i t = ah at *
    go_wp2
    go_region_law (refine step_append_at rfl (.tmp 39) (.tmp 50) 120 rfl u1.heap.size 212 i0 (.agg #[.int .i64 0, .int .i64 0, .int .i64 0, .int .i64 0]) 4 32 Tryz.underlying120 hi0 hz0 hz1 hz2 rfl (by decide) u9 (c.eu t i).length _ (by simp [Act.eval, Act.put]) (HO.out.alloc _) ⟨wr.heap.size, 0, none⟩ 1 1 [.int .i64 c.id, .int .i64 i, .int .i64 al, .int .i64 ah] (by simp [Act.eval, Act.put]) rfl (fun j q hj => by rw [Addr.add_lit]; exact (Row.made (W := wr) (vs := [.int .i64 c.id, .int .i64 i, .int .i64 al, .int .i64 ah]) rfl).c _ _ (by simpa using hj)) (fun q hq => by simp at hq; rcases hq with rfl | rfl | rfl | rfl <;> rfl) (by unfold maxLen; omega) (by omega) (by simp; omega) ?_; intro v' w1 hown1 hgrow1 hat1)
    all_goals
     have ho1 : Hid (w1.ownsRow u1.heap.size 212 4 v' (c.eu t (i + 1)).length (ecl (c.eu t (i + 1)))) := by
      show w1.ownsRow u1.heap.size 212 4 v' (c.eu t (i + 1)).length (ecl (c.eu t (i + 1)))
      rw [HL.out, HLL.out]
      exact hown1
     have hw1 : Hid (Below u1.heap.size u1 w1) := by
      first
       | exact (rbel_al HW.out).grown hgrow1 (by simp; omega) HB.out
       | exact (rbel_dr (rbel_al HW.out)).grown hgrow1 (by simp; omega) HB.out
       | exact (rbel_al (rbel_dr HW.out)).grown hgrow1 (by simp; omega) HB.out
     clear hown1 hgrow1 hat1
     go_wp2
     go_roundw
     case rel => exact ⟨i + 1, by omega, by go_num, ho1.out, hw1.out⟩
     case measure => simp [intOf]; omega
  ·have hl3 : ¬ ((i : Int) < (c.n : Int)) := by omega
   have e' : i = c.n := by omega
   subst e'
   have un := eu_len c t c.n
   obtain ⟨a, cap, rfl, hH, hZ⟩ := own_eh hown rfl (by omega)
   have HZ : Hid (a = none → cap = 0) := hZ
   clear hZ
   have HH : Hid (EHanded wr a (c.eu t c.n).length (egf (c.eu t c.n))) := hH
   clear hown hw hH
   go_wp2
   go_ret2
   first
    | exact ⟨⟨a, cap, rfl, HH.out, HZ.out⟩, rbel_on HW.out B1.out⟩
    | exact ⟨⟨a, ⟨cap, rfl⟩, HH.out, HZ.out⟩, rbel_on HW.out B1.out⟩
theorem rnedges_at (b : Nat) (c : Nd) (t e : Int) (u : World) (hR : RN u b c) (hI : c.I) (h : SpR c t e) :
  Calls Tryz.prog 78 #[.pointer (some ⟨b, 0, none⟩), .int .i64 t] u fun o w' => (∃ ea ec, o = .returned (.tuple #[.slice ea (nOf e (c.eo t).length) ec, .int .i64 e]) ∧ EHanded w' ea (nOf e (c.eo t).length) (egf (c.eo t)) ∧ (ea = none → ec = 0)) ∧ Below u.heap.size u w' := by
 by_cases hz : e = 0
 ·subst hz
  exact rnedges_go b c t u hR hI h
 ·refine (rnedges_no b c t e u hR hI h hz).mono fun _ _ ⟨he, hw⟩ => ⟨⟨none, 0, ?_⟩, hw⟩
  have n0 : nOf e (c.eo t).length = 0 := if_neg hz
  rw [n0]
  exact ⟨he, ⟨by omega, Or.inl rfl⟩, fun _ => rfl⟩
end Go.Proofs.YtadkgnbagmnkkakGreatDoor
