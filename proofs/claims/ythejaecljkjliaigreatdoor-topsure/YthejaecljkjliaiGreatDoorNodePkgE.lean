/- Package node, as it landed: Edges. -/
import Derived.Test.YthejaecljkjliaiGreatDoorNodePkgS
import Derived.Test.YthejaecljkjliaiGreatDoorNm07
namespace Go.Proofs.YthejaecljkjliaiGreatDoor
open Go.ChangeShapes Go.WideShapes Go.ChangeAt Go.RowKit Go.Joins Go.Maps
set_option linter.unusedVariables false
set_option linter.unusedSimpArgs false

section
variable {u : World} {b M : Nat} {c : Nd}
/-- What Spans answers, the fault known. -/
theorem nspans_at (hR : PN u b M c) (hI : c.I) (t e : Int) (h : SpR c t e) :
    Calls Tryz.prog 70 #[.pointer (some ⟨b, 0, none⟩), .int .i64 t] u fun o w' => ((e = 0 ∧ ∃ s g : Nat, o = .returned (.tuple #[.slice (some ⟨s, 0, none⟩) c.n c.n, .slice (some ⟨g, 0, none⟩) c.n c.n, .nilIface]) ∧ StN w' s g c.n c t ∧ u.heap.size ≤ s ∧ u.heap.size ≤ g) ∨ (e ≠ 0 ∧ o = .returned (.tuple #[.slice none 0 0, .slice none 0 0, .iface 85 (.int .i64 e)]))) ∧ Below u.heap.size u w' := by
  by_cases hb : c.bk t
  · refine (nspans_bk hR hI t hb).mono fun _ _ ⟨he, hw⟩ => ⟨Or.inr ?_, hw⟩
    obtain rfl : e = 8 := spR_uniq h (Or.inl ⟨hb, rfl⟩)
    exact ⟨by decide, he⟩
  · refine (nspans_go hR hI t hb).mono fun _ _ ⟨⟨e', h', q⟩, hw⟩ => ⟨?_, hw⟩
    obtain rfl := spR_uniq h h'
    exact q
set_option maxRecDepth 100000 in
set_option maxHeartbeats 4000000 in
theorem nedges_no (hR : PN u b M c) (hI : c.I) (t e : Int) (h : SpR c t e) (hz : e ≠ 0) :
    Calls Tryz.prog 40 #[.pointer (some ⟨b, 0, none⟩), .int .i64 t] u fun o w' => o = .returned (.tuple #[.slice none 0 0, .iface 85 (.int .i64 e)]) ∧ Below u.heap.size u w' := by
  have cS : Calls Tryz.prog 70 #[.pointer (some ⟨b, 0, none⟩), .int .i64 t] u fun o w' => o = .returned (.tuple #[.slice none 0 0, .slice none 0 0, .iface 85 (.int .i64 e)]) ∧ Below u.heap.size u w' := (nspans_at hR hI t e h).mono fun _ _ ⟨q, hw⟩ => by
    rcases q with ⟨q, _⟩ | ⟨_, q⟩
    · exact absurd q hz
    · exact ⟨q, hw⟩
  clear hR hI h hz
  go_enter Tryz.func40, Tryz.ntmps40
  go_wp2_with (go_at_call 70; refine cS.mono ?_; rintro o u1 ⟨rfl, hb⟩; have B1 : Hid _ := hb; clear hb)
  go_ret2
  exact ⟨rfl, B1.out⟩
set_option maxRecDepth 100000 in
set_option maxHeartbeats 8000000 in
theorem nedges_go (hR : PN u b M c) (hI : c.I) (t : Int) (h : SpR c t 0) :
    Calls Tryz.prog 40 #[.pointer (some ⟨b, 0, none⟩), .int .i64 t] u fun o w' => (∃ ea ec, o = .returned (.tuple #[.slice ea (c.eo t).length ec, .nilIface]) ∧ EHanded w' ea (c.eo t).length (egf (c.eo t)) ∧ (ea = none → ec = 0) ∧ (c.eo t).length ≤ ec ∧ ec ≤ maxLen) ∧ Below u.heap.size u w' := by
  have cS : Calls Tryz.prog 70 #[.pointer (some ⟨b, 0, none⟩), .int .i64 t] u fun o w' => ∃ s g : Nat, o = .returned (.tuple #[.slice (some ⟨s, 0, none⟩) c.n c.n, .slice (some ⟨g, 0, none⟩) c.n c.n, .nilIface]) ∧ StN w' s g c.n c t ∧ Below u.heap.size u w' := (nspans_at hR hI t 0 h).mono fun _ _ ⟨q, hw⟩ => by
    rcases q with ⟨_, s, g, q, st, _⟩ | ⟨q, _⟩
    · exact ⟨s, g, q, st, hw⟩
    · exact absurd rfl q
  have HR : Hid (PN u b M c) := hR
  have HI : Hid c.I := hI
  have h6 := hI.n6
  have h0 : 0 < c.n := by have := hI.idn; omega
  obtain ⟨i0, hi0, hz0, hz1, hz2⟩ := info_parts infoEdgeN
  clear hR hI h
  go_enter Tryz.func40, Tryz.ntmps40
  go_wp2_with (go_at_call 70; refine cS.mono ?_; rintro o u1 ⟨s, g, rfl, hs, hb⟩; have S1 : Hid (StN u1 s g c.n c t) := hs; have B1 : Hid (Below u.heap.size u u1) := hb; have s0 : s < u1.heap.size := World.block_lt_of_cell? _ _ (hs.a 0 h0); have s1 : g < u1.heap.size := World.block_lt_of_cell? _ _ (hs.h 0 h0); clear hb hs)
  go_loopw [9, 25] (fun v vi wr => ∃ i : Nat, i ≤ c.n ∧ vi = .int .i64 i ∧ wr.ownsRow u1.heap.size 73 4 v (c.eu t i).length (ecl (c.eu t i)) ∧ Below u1.heap.size u1 wr) (fun _ vi _ => c.n - (intOf vi).toNat)
  case atStart => exact ⟨0, Nat.zero_le _, rfl, own_empty_e u1 _ _ _ (Nat.le_refl _), rbel_al (Below.refl _ _)⟩
  case round =>
    obtain ⟨i, hi, rfl, hown, hw⟩ := hrel
    have HW : Hid (Below u1.heap.size u1 wr) := hw
    have zw := hw.size
    have S2 : Hid (StN wr s g c.n c t) := S1.out.on h0 hw
    have N2 : Hid (PN wr b M c) := PN.on hw (PN.on B1.out HR.out)
    have HOw : Hid (wr.ownsRow u1.heap.size 73 4 u9 (c.eu t i).length (ecl (c.eu t i))) := hown
    by_cases hlt : i < c.n
    · have hl3 : (i : Int) < (c.n : Int) := by omega
      have v0 := N2.out.r.c 0 _ rfl
      have lb := N2.out.lt
      have y0 := S2.out.h i hlt
      rw [if_pos hlt] at y0
      have le := eu_len c t i
      have sw : g < wr.heap.size := by omega
      have sw2 : s < wr.heap.size := by omega
      have z0 := S2.out.a i hlt
      have z1 := S2.out.b i hlt
      rw [if_pos hlt] at z0 z1
      cases hh : c.has i with
      | false =>
        have e1 : c.ho i = decide (i = c.id) := by unfold Nd.ho; rw [hh]; rfl
        rw [e1] at y0
        have HO : Hid (∀ ob, (wr.alloc ob).ownsRow u1.heap.size 73 4 u9 (c.eu t i).length (ecl (c.eu t i))) := fun ob => hown.alloc _
        clear hown hw e1
        generalize (c.so t i).1 = al at *
        generalize (c.so t i).2 = ah at *
        by_cases hid : i = c.id
        · rw [decide_eq_true hid] at y0
          subst hid
          go_wp2
          go_roundw
          case rel => exact ⟨c.id + 1, by omega, by go_num, by rw [eu_no hh]; exact HO.out _, rbel_al HW.out⟩
          case measure => simp [intOf]; omega
        · rw [decide_eq_false hid] at y0
          go_wp2
          go_roundw
          case rel => exact ⟨i + 1, by omega, by go_num, by rw [eu_no hh]; exact HO.out _, rbel_al HW.out⟩
          case measure => simp [intOf]; omega
      | true =>
        obtain ⟨k1, k2, k3, k4, k5⟩ := HI.out.kn i hh
        have e1 : c.ho i = true := by unfold Nd.ho; rw [hh]; rfl
        rw [e1] at y0
        have d1 : ((i : Int) == (c.id : Int)) = false := by simp; omega
        have e2 : c.so t i = (c.alo i t, c.ahi i t) := by unfold Nd.so; rw [if_pos hh]
        rw [e2] at z0 z1
        have HL : Hid (ecl (c.eu t (i + 1)) = ecl (c.eu t i) ++ [.int .i64 c.id, .int .i64 i, .int .i64 (c.alo i t), .int .i64 (c.ahi i t)]) := by show _ = _; rw [eu_yes hh, ecl_app]; rfl
        have HLL : Hid ((c.eu t (i + 1)).length = (c.eu t i).length + 1) := by show _ = _; rw [eu_yes hh, List.length_append]; rfl
        have HB : Hid (∀ j, u9.ownBlock = some j → u1.heap.size ≤ j) := fun j hj => (hown.lt j hj).1
        have HO : Hid (wr.ownsRow u1.heap.size 73 4 u9 (c.eu t i).length (ecl (c.eu t i))) := hown
        have z0' : wr.cell? ⟨s, i * 2, none⟩ = some (.int .i64 (c.alo i t)) := z0
        have z1' : wr.cell? ⟨s, i * 2 + 1, none⟩ = some (.int .i64 (c.ahi i t)) := z1
        clear hown hw e1 e2 z0 z1 k3 k4 k5
        generalize c.alo i t = al at *
        generalize c.ahi i t = ah at *
        go_wp2
        have HO2 : Hid ((wr.alloc (Obj.cells #[.int .i64 al, .int .i64 ah] 38)).ownsRow u1.heap.size 73 4 u9 (c.eu t i).length (ecl (c.eu t i))) := HO.out.alloc _
        have HW2 : Hid (Below u1.heap.size u1 (wr.alloc (Obj.cells #[.int .i64 al, .int .i64 ah] 38))) := rbel_al HW.out
        have R2 : Hid (Row (wr.alloc (Obj.cells #[.int .i64 al, .int .i64 ah] 38)) wr.heap.size [.int .i64 al, .int .i64 ah]) := Row.made rfl
        have N3 : Hid (PN (wr.alloc (Obj.cells #[.int .i64 al, .int .i64 ah] 38)) b M c) := PN.on (rbel_al (Below.refl _ _)) N2.out
        clear v0 y0 z0' z1' lb sw sw2 HO HW
        generalize wr.heap.size = B at *
        generalize (wr.alloc (Obj.cells #[.int .i64 al, .int .i64 ah] 38)) = V at *
        have v0 := N3.out.r.c 0 _ rfl
        have lb := N3.out.lt
        have r0 := R2.out.c 0 _ rfl
        have r1 := R2.out.c 1 _ rfl
        have lB : B < V.heap.size := R2.out.lt
        go_region_law (refine step_append_at rfl (.tmp 42) (.tmp 50) 47 rfl u1.heap.size 73 i0 (.agg #[.int .i64 0, .int .i64 0, .int .i64 0, .int .i64 0]) 4 32 Tryz.underlying47 hi0 hz0 hz1 hz2 rfl (by decide) u9 (c.eu t i).length _ (by simp [Act.eval, Act.put]) (HO2.out.alloc _) ⟨V.heap.size, 0, none⟩ 1 1 [.int .i64 c.id, .int .i64 i, .int .i64 al, .int .i64 ah] (by simp [Act.eval, Act.put]) rfl (fun j q hj => by rw [Addr.add_lit]; exact (Row.made (W := V) (vs := [.int .i64 c.id, .int .i64 i, .int .i64 al, .int .i64 ah]) rfl).c _ _ (by simpa using hj)) (fun q hq => by simp at hq; rcases hq with rfl | rfl | rfl | rfl <;> rfl) (by unfold maxLen; omega) (by omega) (by simp; omega) ?_; intro v' w1 hown1 hgrow1 hat1)
        all_goals
          have ho1 : Hid (w1.ownsRow u1.heap.size 73 4 v' (c.eu t (i + 1)).length (ecl (c.eu t (i + 1)))) := by
            show w1.ownsRow u1.heap.size 73 4 v' (c.eu t (i + 1)).length (ecl (c.eu t (i + 1)))
            rw [HL.out, HLL.out]
            exact hown1
          have hw1 : Hid (Below u1.heap.size u1 w1) := by
            first
              | exact (rbel_al HW2.out).grown hgrow1 (by simp; omega) HB.out
              | exact (rbel_dr (rbel_al HW2.out)).grown hgrow1 (by simp; omega) HB.out
              | exact (rbel_al (rbel_dr HW2.out)).grown hgrow1 (by simp; omega) HB.out
          clear hown1 hgrow1 hat1
          go_wp2
          go_roundw
          case rel => exact ⟨i + 1, by omega, by go_num, ho1.out, hw1.out⟩
          case measure => simp [intOf]; omega
    · have hl3 : ¬ ((i : Int) < (c.n : Int)) := by omega
      have e' : i = c.n := by omega
      subst e'
      have un := eu_len c t c.n
      obtain ⟨a, cap, rfl, hH, hZ⟩ := own_eh hown rfl (by omega)
      have HC : Hid ((c.eu t c.n).length ≤ cap ∧ cap ≤ maxLen) := own_cap hown rfl
      have HZ : Hid (a = none → cap = 0) := hZ
      clear hZ
      have HH : Hid (EHanded wr a (c.eu t c.n).length (egf (c.eu t c.n))) := hH
      clear hown hw hH HOw
      go_wp2
      go_ret2
      first
        | exact ⟨⟨a, cap, rfl, HH.out, HZ.out, HC.out.1, HC.out.2⟩, rbel_on HW.out B1.out⟩
        | exact ⟨⟨a, ⟨cap, rfl⟩, HH.out, HZ.out, HC.out.1, HC.out.2⟩, rbel_on HW.out B1.out⟩
end
end Go.Proofs.YthejaecljkjliaiGreatDoor
