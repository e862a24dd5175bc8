/- Package node, as it landed: what is kept of one, by now. Package node, as it landed: whatever it hears. Package node, as it landed: Spans. Package node, as it landed: Edges. Package node, as it landed, as the laws want it. -/
import Derived.Test.YtmomcaodmdlnpahDoorNodePkgA
import Derived.Test.YtmomcaodmdlnpahDoorNodePkgH
import Derived.Test.YtmomcaodmdlnpahDoorNodePkgL
import Derived.Test.YtmomcaodmdlnpahDoorNodePkgK
import Derived.Test.YtmomcaodmdlnpahDoorNodePkgB
import Derived.Test.YtmomcaodmdlnpahDoorNodeSt
import Derived.Test.YtmomcaodmdlnpahDoorSpanChkC
import Derived.Deep.RegionWith
import Derived.Deep.CutRange
import Derived.Deep.CutBlock
import Derived.Test.YtmomcaodmdlnpahDoorNodeEl
namespace Go.Proofs.YtmomcaodmdlnpahDoor
open Go.ChangeShapes Go.WideShapes Go.ChangeAt Go.RowKit Go.Joins Go.Maps
set_option linter.unusedVariables false
set_option linter.unusedSimpArgs false

theorem wid_any {c : Nd} {b i : Nat} {t : Int} (g : c.I) (hb : ¬ c.bk t) (hh : c.has i = true) (w : World) (c2 : w.cell? ⟨b, 2, none⟩ = some (.int .i64 c.p)) :
    Calls Tryd.prog 40 #[.pointer (some ⟨b, 0, none⟩), .agg #[.int .i64 (vL c i), .int .i64 (vH c i), .int .i64 (vA c i)], .int .i64 t] w fun o w' => o = .returned (.tuple #[.agg #[.int .i64 (c.alo i t), .int .i64 (c.ahi i t)], .nilIface]) ∧ Below w.heap.size w w' := by
  obtain ⟨k1, k2, k3, k4, k5⟩ := g.kn i hh
  obtain ⟨s1, s2, s3, s4⟩ := Nd.sk_b g hb hh
  obtain ⟨o1, o2, o3⟩ := okB_t k3
  have eL : vL c i = c.lo i := if_pos hh
  have eH : vH c i = c.hi i := if_pos hh
  have eA : vA c i = c.at_ i := if_pos hh
  obtain ⟨m, hm⟩ : ∃ m, m = ((t - c.at_ i) * 3 * c.p + 1000000 - 1) / 1000000 := ⟨_, rfl⟩
  have es : c.sk i t = 2 + m := by rw [hm]; rfl
  have e1 : c.alo i t = c.lo i - (m + 2) := by unfold Nd.alo; omega
  have e2 : c.ahi i t = c.hi i + (m + 2) := by unfold Nd.ahi; omega
  unfold Nd.bk at hb
  rw [eL, eH, eA, e1, e2]
  have := g.h1
  exact widened_at c.p (c.lo i) (c.hi i) (c.at_ i) t m w c2 k4 (by omega) (by omega) g.p0 g.p1 (by omega) (by omega) (by omega) hm (by omega) (by omega)
end Go.Proofs.YtmomcaodmdlnpahDoor
namespace Go.Proofs.YtmomcaodmdlnpahDoor
open Go.ChangeShapes Go.WideShapes Go.ChangeAt Go.RowKit Go.Joins Go.Maps
set_option linter.unusedVariables false
set_option linter.unusedSimpArgs false

section
variable {u : World} {b M : Nat} {c c' : Nd}
/-- What a node in memory is behind a letter. -/
def HrO (u : World) (b M : Nat) (c' : Nd) (B : Bool) (e : Int) (o : Ending) (w' : World) : Prop := o = .returned (.tuple #[.bool B, errc e]) ∧ PN w' b M c' ∧ Keeps (Fn b M) u w'
theorem hear_any (h : PN u b M c) (g : c.I) (l : Lt) (t e : Int) (B : Bool) (hh : HearR c l t c' B e) :
    Calls Tryd.prog 21 #[.pointer (some ⟨b, 0, none⟩), ltv l, .int .i64 t] u fun o w' => HrO u b M c' B e o w' := by
  have same : ∀ {v : Int} {X : Calls Tryd.prog 21 #[.pointer (some ⟨b, 0, none⟩), ltv l, .int .i64 t] u fun o w' => o = .returned (.tuple #[.bool false, .iface 85 (.int .i64 v)]) ∧ Below u.heap.size u w'}, v ≠ 0 → Calls Tryd.prog 21 #[.pointer (some ⟨b, 0, none⟩), ltv l, .int .i64 t] u fun o w' => HrO u b M c false v o w' := fun {v X} hv => X.mono fun _ _ ⟨he, hw⟩ => ⟨by rw [errc_not hv]; exact he, PN.on hw h, Keeps.of hw⟩
  obtain ⟨x, y, a, t1, t2, t3⟩ := l
  have frm : ¬ c.bad ⟨x, y, a, t1, t2, t3⟩ → ∃ k : Nat, x = k ∧ k < c.n ∧ k ≠ c.id ∧ y = c.id ∧ k < 6 := fun hb => by
    have n6 := g.n6
    unfold Nd.bad at hb
    have h1 : y = c.id := Classical.byContradiction (fun q => hb (Or.inl q))
    have h2 : x ≠ c.id := fun q => hb (Or.inr (Or.inl q))
    have h3 : ¬ x < 0 := fun q => hb (Or.inr (Or.inr (Or.inl q)))
    have h4 : ¬ (c.n : Int) ≤ x := fun q => hb (Or.inr (Or.inr (Or.inr q)))
    exact ⟨x.toNat, by omega, by omega, by omega, h1, by omega⟩
  rcases hh with ⟨hb, ec, rfl, rfl⟩ | ⟨hb, hd, ec, rfl, rfl⟩ | ⟨hb, hd, ha, ec, rfl, rfl⟩ | ⟨hb, hd, ha, hz, ec, rfl, rfl⟩ | ⟨hb, hd, ha, hz, hc, ec, rfl, rfl⟩ | ⟨hb, hd, ha, hz, hc, ec, rfl, rfl⟩
  all_goals
    rw [ec]
    clear ec
  · exact same (X := hear_bk h g x y t1 t2 t3 t a hb) (by decide)
  · refine same (X := ?_) (by decide)
    by_cases q1 : y = c.id
    · by_cases q2 : x = c.id
      · exact hear_b2 h g x y t1 t2 t3 t a hb q1 q2
      · by_cases q3 : x < 0
        · exact hear_b3 h g x y t1 t2 t3 t a hb q1 q2 q3
        · refine hear_b4 h g x y t1 t2 t3 t a hb q1 q2 q3 ?_
          unfold Nd.bad at hd
          rcases hd with d | d | d | d
          · exact absurd q1 d
          · exact absurd d q2
          · exact absurd d q3
          · exact d
    · exact hear_b1 h g x y t1 t2 t3 t a hb q1
  · obtain ⟨k, ex, hk, hne, h0, kk⟩ := frm hd
    obtain rfl : a = false := ha
    refine (hear_ask h g x y t1 t2 t3 t hb k ex hk hne h0).mono fun _ _ ⟨he, hp, hw⟩ => ⟨by rw [errc_zero]; exact he, hp, hw⟩
  · obtain ⟨k, ex, hk, hne, h0, kk⟩ := frm hd
    obtain rfl : a = true := ha
    refine same (X := ?_) hz
    refine hear_no h g x y t1 t2 t3 t hb k ex hk hne h0 _ hz ?_
    intro w hw
    subst ex
    exact learn_off (PN.on hw h) k y t1 t2 t3 t true _ rfl hz
  · obtain ⟨k, ex, hk, hne, h0, kk⟩ := frm hd
    obtain rfl : a = true := ha
    subst ex
    have hh : c.has k = true := by
      cases q : c.has k with
      | true => rfl
      | false =>
        have e1 : c.bHi k t (c.oU ⟨k, y, true, t1, t2, t3⟩ t) = oH t1 t2 t c.p := by unfold Nd.bHi; rw [q]; rfl
        have e2 : c.bLo k t (Nd.oL ⟨k, y, true, t1, t2, t3⟩ t) = t3 - t := by unfold Nd.bLo; rw [q]; rfl
        have hc' : c.bHi k t (c.oU ⟨k, y, true, t1, t2, t3⟩ t) < c.bLo k t (Nd.oL ⟨k, y, true, t1, t2, t3⟩ t) := hc
        rw [e1, e2] at hc'
        have q9 : t3 - t ≤ oH t1 t2 t c.p := (oE_zero hz).2.2.2.2
        clear hc
        omega
    have e1 : c.bHi k t (oH t1 t2 t c.p) = if c.ahi k t < oH t1 t2 t c.p then c.ahi k t else oH t1 t2 t c.p := by unfold Nd.bHi; rw [if_pos hh]
    have e2 : c.bLo k t (t3 - t) = if t3 - t < c.alo k t then c.alo k t else t3 - t := by unfold Nd.bLo; rw [if_pos hh]
    refine same (X := ?_) (by decide)
    refine hear_no h g (k : Int) y t1 t2 t3 t hb k rfl hk hne h0 _ (by decide) ?_
    intro w hw
    refine learn_clash (PN.on hw h) k y t1 t2 t3 t true kk (t3 - t) (oH t1 t2 t c.p) hz rfl rfl hh (vL c k) (vH c k) (vA c k) (c.alo k t) (c.ahi k t) rfl rfl rfl (fun w' c2 => wid_any g hb hh w' c2) (c.bLo k t (t3 - t)) (c.bHi k t (oH t1 t2 t c.p)) ?_ ?_ hc
    · rw [e2]; split
      · exact Or.inl ⟨by assumption, rfl⟩
      · exact Or.inr ⟨by assumption, rfl⟩
    · rw [e1]; split
      · exact Or.inl ⟨by assumption, rfl⟩
      · exact Or.inr ⟨by assumption, rfl⟩
  · obtain ⟨k, ex, hk, hne, h0, kk⟩ := frm hd
    obtain rfl : a = true := ha
    subst ex
    have fin : ∀ {o : Ending} {w' : World} {p q : Int}, o = .returned (.tuple #[.bool true, .nilIface]) ∧ PN w' b M { (c.put k p q t) with h := t } ∧ Keeps (Fn b M) u w' → p = c.bLo k t (t3 - t) → q = c.bHi k t (oH t1 t2 t c.p) → HrO u b M (c.kept k t (c.bLo k t (t3 - t)) (c.bHi k t (oH t1 t2 t c.p))) true 0 o w' := fun {o w' p q} ⟨he, hp, hw⟩ ep eq => by
      subst ep
      subst eq
      exact ⟨by rw [errc_zero]; exact he, hp, hw⟩
    cases hh : c.has k with
    | false =>
      have e1 : c.bHi k t (oH t1 t2 t c.p) = oH t1 t2 t c.p := by unfold Nd.bHi; rw [hh]; rfl
      have e2 : c.bLo k t (t3 - t) = t3 - t := by unfold Nd.bLo; rw [hh]; rfl
      refine (hear_yes h g (k : Int) y t1 t2 t3 t hb k rfl hk hne h0 (c.put k (t3 - t) (oH t1 t2 t c.p) t) rfl ?_).mono fun _ _ q => fin q e2.symm e1.symm
      intro w hw
      exact learn_new (PN.on hw h) k y t1 t2 t3 t true kk (t3 - t) (oH t1 t2 t c.p) hz rfl rfl hh (oE_zero hz).2.2.2.2
    | true =>
      have e1 : c.bHi k t (oH t1 t2 t c.p) = if c.ahi k t < oH t1 t2 t c.p then c.ahi k t else oH t1 t2 t c.p := by unfold Nd.bHi; rw [if_pos hh]
      have e2 : c.bLo k t (t3 - t) = if t3 - t < c.alo k t then c.alo k t else t3 - t := by unfold Nd.bLo; rw [if_pos hh]
      refine (hear_yes h g (k : Int) y t1 t2 t3 t hb k rfl hk hne h0 (c.put k (c.bLo k t (t3 - t)) (c.bHi k t (oH t1 t2 t c.p)) t) rfl ?_).mono fun _ _ q => fin q rfl rfl
      intro w hw
      refine learn_kept (PN.on hw h) k y t1 t2 t3 t true kk (t3 - t) (oH t1 t2 t c.p) hz rfl rfl hh (vL c k) (vH c k) (vA c k) (c.alo k t) (c.ahi k t) rfl rfl rfl (fun w' c2 => wid_any g hb hh w' c2) (c.bLo k t (t3 - t)) (c.bHi k t (oH t1 t2 t c.p)) ?_ ?_ ?_
      · rw [e2]; split
        · exact Or.inl ⟨by assumption, rfl⟩
        · exact Or.inr ⟨by assumption, rfl⟩
      · rw [e1]; split
        · exact Or.inl ⟨by assumption, rfl⟩
        · exact Or.inr ⟨by assumption, rfl⟩
      · have hc' : c.bLo k t (t3 - t) ≤ c.bHi k t (oH t1 t2 t c.p) := hc
        omega
end
end Go.Proofs.YtmomcaodmdlnpahDoor
namespace Go.Proofs.YtmomcaodmdlnpahDoor
open Go.ChangeShapes Go.WideShapes Go.ChangeAt Go.RowKit Go.Joins Go.Maps
set_option linter.unusedVariables false
set_option linter.unusedSimpArgs false

section
variable {u : World} {b M : Nat} {c : Nd}
set_option maxRecDepth 100000 in
set_option maxHeartbeats 4000000 in
theorem nspans_bk (h : PN u b M c) (hI : c.I) (t : Int) (hb : c.bk t) :
    Calls Tryd.prog 20 #[.pointer (some ⟨b, 0, none⟩), .int .i64 t] u fun o w' => o = .returned (.tuple #[.slice none 0 0, .slice none 0 0, .iface 85 (.int .i64 8)]) ∧ Below u.heap.size u w' := by
  have HR : Hid (PN u b M c) := h
  have HI : Hid c.I := hI
  have HB : Hid (c.bk t) := hb
  clear h hI hb
  go_enter Tryd.func20, Tryd.ntmps20
  go_wp2_with (go_at_call 39; refine (chk_bk HR.out HI.out t HB.out).mono ?_; rintro o u1 ⟨rfl, hu⟩; rw [hu]; clear hu)
  exact bodyPost_ret (v := .tuple #[.slice none 0 0, .slice none 0 0, .iface 85 (.int .i64 8)]) (by simp [results, Tryd.results20, go_sem, *]) rfl ⟨rfl, Below.refl _ _⟩
/-- What Spans answers where it is no time too early. -/
def SpA (u : World) (b M : Nat) (c : Nd) (t : Int) (o : Ending) (w' : World) : Prop := (∃ e, SpR c t e ∧ ((e = 0 ∧ ∃ s g : Nat, o = .returned (.tuple #[.slice (some ⟨s, 0, none⟩) c.n c.n, .slice (some ⟨g, 0, none⟩) c.n c.n, .nilIface]) ∧ StN w' s g c.n c t ∧ u.heap.size ≤ s ∧ u.heap.size ≤ g) ∨ (e ≠ 0 ∧ o = .returned (.tuple #[.slice none 0 0, .slice none 0 0, .iface 85 (.int .i64 e)])))) ∧ Below u.heap.size u w'
set_option maxRecDepth 100000 in
set_option maxHeartbeats 8000000 in
theorem nspans_go (h : PN u b M c) (hI : c.I) (t : Int) (hb : ¬ c.bk t) :
    Calls Tryd.prog 20 #[.pointer (some ⟨b, 0, none⟩), .int .i64 t] u fun o w' => SpA u b M c t o w' := by
  have HR : Hid (PN u b M c) := h
  have HB : Hid (¬ c.bk t) := hb
  have HI : Hid c.I := hI
  have h6 := hI.n6
  have hid := hI.idn
  have m1 := kmk_spans c.n h6
  have m2 := kmk_bools c.n h6
  have c0 := h.r.c 0 _ rfl
  have c1 := h.r.c 1 _ rfl
  have zb := h.lt
  have hid2 : (c.id : Int) < (c.n : Int) := by omega
  clear h hb hI
  go_enter Tryd.func20, Tryd.ntmps20
  go_wp2_with (go_at_call 39; refine (chk_no HR.out HI.out t HB.out).mono ?_; rintro o u1 ⟨rfl, hu⟩; rw [hu]; clear hu)
  go_region
  · have a1 : Array.replicate (c.n * 2) (Value.int .i64 0) = (List.replicate (c.n * 2) (Value.int .i64 0)).toArray := by simp
    have a2 : Array.replicate c.n (Value.bool false) = (List.replicate c.n (Value.bool false)).toArray := by simp
    have ra : Hid (Row (((u.alloc (Obj.cells (Array.replicate (c.n * 2) (Value.int IntKind.i64 0)) 64)).alloc (Obj.cells (Array.replicate c.n (Value.bool false)) 4)).drew) (u.heap.size) (List.replicate (c.n * 2) (Value.int .i64 0))) := by show Row _ _ _; rw [a1, a2]; exact Row.dr (Row.al (Row.made rfl))
    have rb : Hid (Row (((u.alloc (Obj.cells (Array.replicate (c.n * 2) (Value.int IntKind.i64 0)) 64)).alloc (Obj.cells (Array.replicate c.n (Value.bool false)) 4)).drew) (u.heap.size + 1) (List.replicate c.n (Value.bool false))) := by show Row _ _ _; rw [a1, a2]; exact Row.dr (Row.made (by simp))
    have BW : Hid (Below u.heap.size u (((u.alloc (Obj.cells (Array.replicate (c.n * 2) (Value.int IntKind.i64 0)) 64)).alloc (Obj.cells (Array.replicate c.n (Value.bool false)) 4)).drew)) := rbel_dr (rbel_al (rbel_al (Below.refl _ _)))
    clear a1 a2 m1 m2
    generalize (((u.alloc (Obj.cells (Array.replicate (c.n * 2) (Value.int IntKind.i64 0)) 64)).alloc (Obj.cells (Array.replicate c.n (Value.bool false)) 4)).drew) = Z at *
    have HZ : Hid (PN Z b M c) := PN.on BW.out HR.out
    have y0 := HZ.out.r.c 0 _ rfl
    have y1 := HZ.out.r.c 1 _ rfl
    have q0 : Z.cell? ⟨u.heap.size + 1, c.id, none⟩ = some (.bool false) := rb.out.c _ _ (by rw [List.getElem?_replicate, if_pos hid])
    have q1 : Z.frozen? ⟨u.heap.size + 1, c.id, none⟩ = false := rb.out.f _ _ (by rw [List.getElem?_replicate, if_pos hid])
    have q2 : u.heap.size + 1 < Z.heap.size := World.block_lt_of_cell? _ _ q0
    have zb2 : b < Z.heap.size := HZ.out.lt
    have n1 : ¬ (u.heap.size + 1 = b) := by omega
    have n2 : ¬ (b = u.heap.size + 1) := by omega
    have S0 : Hid (StN (Z.setCell ⟨u.heap.size + 1, c.id, none⟩ (.bool true)) (u.heap.size) (u.heap.size + 1) 0 c t) := StN.start (Row.far (by omega) ra.out) (Row.put c.id rb.out) hid (by omega)
    have B0 : Hid (Below u.heap.size u (Z.setCell ⟨u.heap.size + 1, c.id, none⟩ (.bool true))) := rbel_put (by omega) BW.out
    go_wp2
    clear q0 q1 q2 y0 y1 c0 c1 ra rb BW HZ n1 n2 zb2
    generalize (Z.setCell ⟨u.heap.size + 1, c.id, none⟩ (.bool true)) = Y at *
    go_loopw [42] (fun vi wr => ∃ i : Nat, i ≤ c.n ∧ vi = .int .i64 i ∧ StN wr (u.heap.size) (u.heap.size + 1) i c t ∧ (∀ j, j < i → c.has j = true → okB (c.alo j t) (c.ahi j t) = true) ∧ PN wr b M c ∧ Below u.heap.size u wr) (fun vi _ => c.n - (intOf vi).toNat)
    case atStart => exact ⟨0, Nat.zero_le _, rfl, S0.out, fun j hj => by omega, PN.on B0.out HR.out, B0.out⟩
    case round =>
      clear S0 B0
      obtain ⟨i, hi, rfl, hS, hok, hN, hw⟩ := hrel
      have HS : Hid (StN wr (u.heap.size) (u.heap.size + 1) i c t) := hS
      have HO : Hid (∀ j, j < i → c.has j = true → okB (c.alo j t) (c.ahi j t) = true) := hok
      have HN : Hid (PN wr b M c) := hN
      have HW : Hid (Below u.heap.size u wr) := hw
      have c4 := hN.r.c 4 _ rfl
      have zb2 := hN.lt
      have z1 : u.heap.size + 1 < wr.heap.size := World.block_lt_of_cell? _ _ (hS.h 0 (by omega))
      have z0 : u.heap.size < wr.heap.size := World.block_lt_of_cell? _ _ (hS.a 0 (by omega))
      by_cases hlt : i < c.n
      · have hl3 : (i : Int) < (c.n : Int) := by omega
        have v4 := hN.look (i := i) (by omega)
        clear hS hok hN hw
        cases hh : c.has i with
        | false =>
          rw [hh] at v4
          go_wp2
          go_roundw
          case rel => exact ⟨i + 1, by omega, by go_num, StN.on (by omega) (rbel_al (Below.refl _ _)) (HS.out.skip hh), fun j hj hj2 => by
            by_cases q : j = i
            · subst q; rw [hh] at hj2; cases hj2
            · exact HO.out j (by omega) hj2, PN.on (rbel_al (Below.refl _ _)) HN.out, rbel_al HW.out⟩
          case measure => simp [intOf]; omega
        | true =>
          rw [hh] at v4
          have cA : Hid (∀ w, Below wr.heap.size wr w → Calls Tryd.prog 40 #[.pointer (some ⟨b, 0, none⟩), .agg #[.int .i64 (vL c i), .int .i64 (vH c i), .int .i64 (vA c i)], .int .i64 t] w fun o w' => o = .returned (.tuple #[.agg #[.int .i64 (c.alo i t), .int .i64 (c.ahi i t)], .nilIface]) ∧ Below w.heap.size w w') := fun w hw => wid_any HI.out HB.out hh w ((PN.on hw HN.out).r.c 2 _ rfl)
          have e1 : c.so t i = (c.alo i t, c.ahi i t) := by unfold Nd.so; rw [if_pos hh]
          have e2 : c.ho i = true := by unfold Nd.ho; rw [hh]; rfl
          have E1 : Hid (c.so t i = (c.alo i t, c.ahi i t)) := e1
          have E2 : Hid (c.ho i = true) := e2
          generalize vL c i = vl at *
          generalize vH c i = vh at *
          generalize vA c i = va at *
          cases hB : okB (c.alo i t) (c.ahi i t) with
          | false =>
            have cS := fun w => check_no (c.alo i t) (c.ahi i t) w hB
            have NO : Hid (SpR c t 1) := Or.inr (Or.inl ⟨HB.out, ⟨i, hlt, hh, hB⟩, rfl⟩)
            clear e1 e2 E1 E2 hB
            generalize c.alo i t = al at *
            generalize c.ahi i t = ah at *
            go_wp2_with (first
              | (go_at_call 40; refine (cA.out _ (rbel_al (Below.refl _ _))).mono ?_; rintro o u2 ⟨rfl, hb⟩; have B2 : Hid (Below u.heap.size u u2) := rbel_on hb (rbel_al HW.out); clear hb)
              | (go_at_call 41; refine (cS _).mono ?_; rintro o u3 ⟨rfl, hb⟩; have B3 : Hid (Below u.heap.size u u3) := rbel_on hb (rbel_al B2.out); clear hb))
            exact bodyPost_ret (v := .tuple #[.slice none 0 0, .slice none 0 0, .iface 85 (.int .i64 1)]) (by simp [results, Tryd.results20, go_sem, *]) rfl ⟨⟨1, NO.out, Or.inr ⟨by decide, rfl⟩⟩, B3.out⟩
          | true =>
            have cS := fun w => check_ok (c.alo i t) (c.ahi i t) w hB
            have HBB : Hid (okB (c.alo i t) (c.ahi i t) = true) := hB
            clear e1 e2 hB
            generalize ea : c.alo i t = al at *
            generalize eh : c.ahi i t = ah at *
            have EA : Hid (c.alo i t = al) := ea
            have EH : Hid (c.ahi i t = ah) := eh
            clear ea eh
            go_wp2_with (first
              | (go_at_call 40; refine (cA.out _ (rbel_al (Below.refl _ _))).mono ?_; rintro o u2 ⟨rfl, hb⟩; have B2 : Hid (Below wr.heap.size wr u2) := rbel_on hb (rbel_al (Below.refl _ _)); clear hb)
              | (go_at_call 41; refine (cS _).mono ?_; rintro o u3 ⟨rfl, hb⟩; have B3 : Hid (Below wr.heap.size wr u3) := rbel_on hb (rbel_al B2.out); have RS : Hid (Row u3 u2.heap.size [.int .i64 al, .int .i64 ah]) := Row.on hb (Row.made rfl); have S3 : Hid (StN u3 (u.heap.size) (u.heap.size + 1) i c t) := HS.out.on (by omega) B3.out; have N3 : Hid (PN u3 b M c) := PN.on B3.out HN.out; have r0 := RS.out.c 0 _ rfl; have r1 := RS.out.c 1 _ rfl; have g0 := S3.out.a i hlt; have g1 := S3.out.b i hlt; have g2 := S3.out.h i hlt; have k0 := S3.out.fa (i * 2) (by omega); have k1 := S3.out.fa (i * 2 + 1) (by omega); have k2 := S3.out.fh i hlt; have z3 : u.heap.size + 1 < u3.heap.size := Nat.lt_of_lt_of_le z1 B3.out.size; have z4 : u2.heap.size < u3.heap.size := RS.out.lt; have z5 : u.heap.size < u3.heap.size := Nat.lt_of_lt_of_le z0 B3.out.size; have B2s : wr.heap.size ≤ u2.heap.size := B2.out.size; have q1 : ¬ (u2.heap.size = u.heap.size) := (by omega); have q2 : ¬ (u2.heap.size = u.heap.size + 1) := (by omega); clear hb))
            go_roundw
            case rel =>
              have hs : c.so t i = (al, ah) := E1.out
              have hM := HR.out.ltM
              refine ⟨i + 1, by omega, by go_num, S3.out.put hlt hs E2.out, fun j hj hj2 => ?_, ?_, rbel_put (by omega) (rbel_put (by omega) (rbel_put (by omega) (rbel_on B3.out HW.out)))⟩
              · by_cases q : j = i
                · subst q; rw [EA.out, EH.out]; exact HBB.out
                · exact HO.out j (by omega) hj2
              · refine PN.on ?_ HR.out
                exact rbel_put (by omega) (rbel_put (by omega) (rbel_put (by omega) (rbel_on B3.out HW.out)))
            case measure => simp [intOf]; omega
      · have hl3 : ¬ ((i : Int) < (c.n : Int)) := by omega
        have e' : i = c.n := by omega
        have HE : Hid (i = c.n) := e'
        clear hS hok hN hw e'
        go_wp2
        exact bodyPost_ret (v := .tuple #[.slice (some ⟨u.heap.size, 0, none⟩) c.n c.n, .slice (some ⟨u.heap.size + 1, 0, none⟩) c.n c.n, .nilIface]) (by simp [results, Tryd.results20, go_sem, *]) rfl ⟨⟨0, Or.inr (Or.inr ⟨HB.out, fun j hj hj2 => HO.out j (by rw [HE.out]; exact hj) hj2, rfl⟩), Or.inl ⟨rfl, _, _, rfl, HE.out ▸ HS.out, by omega, by omega⟩⟩, HW.out⟩
  · have a1 : Array.replicate (c.n * 2) (Value.int .i64 0) = (List.replicate (c.n * 2) (Value.int .i64 0)).toArray := by simp
    have a2 : Array.replicate c.n (Value.bool false) = (List.replicate c.n (Value.bool false)).toArray := by simp
    have ra : Hid (Row (((u.alloc (Obj.cells (Array.replicate c.n (Value.bool false)) 4)).alloc (Obj.cells (Array.replicate (c.n * 2) (Value.int IntKind.i64 0)) 64)).drew) (u.heap.size + 1) (List.replicate (c.n * 2) (Value.int .i64 0))) := by show Row _ _ _; rw [a1, a2]; exact Row.dr (Row.made (by simp))
    have rb : Hid (Row (((u.alloc (Obj.cells (Array.replicate c.n (Value.bool false)) 4)).alloc (Obj.cells (Array.replicate (c.n * 2) (Value.int IntKind.i64 0)) 64)).drew) (u.heap.size) (List.replicate c.n (Value.bool false))) := by show Row _ _ _; rw [a1, a2]; exact Row.dr (Row.al (Row.made rfl))
    have BW : Hid (Below u.heap.size u (((u.alloc (Obj.cells (Array.replicate c.n (Value.bool false)) 4)).alloc (Obj.cells (Array.replicate (c.n * 2) (Value.int IntKind.i64 0)) 64)).drew)) := rbel_dr (rbel_al (rbel_al (Below.refl _ _)))
    clear a1 a2 m1 m2
    generalize (((u.alloc (Obj.cells (Array.replicate c.n (Value.bool false)) 4)).alloc (Obj.cells (Array.replicate (c.n * 2) (Value.int IntKind.i64 0)) 64)).drew) = Z at *
    have HZ : Hid (PN Z b M c) := PN.on BW.out HR.out
    have y0 := HZ.out.r.c 0 _ rfl
    have y1 := HZ.out.r.c 1 _ rfl
    have q0 : Z.cell? ⟨u.heap.size, c.id, none⟩ = some (.bool false) := rb.out.c _ _ (by rw [List.getElem?_replicate, if_pos hid])
    have q1 : Z.frozen? ⟨u.heap.size, c.id, none⟩ = false := rb.out.f _ _ (by rw [List.getElem?_replicate, if_pos hid])
    have q2 : u.heap.size < Z.heap.size := World.block_lt_of_cell? _ _ q0
    have zb2 : b < Z.heap.size := HZ.out.lt
    have n1 : ¬ (u.heap.size = b) := by omega
    have n2 : ¬ (b = u.heap.size) := by omega
    have S0 : Hid (StN (Z.setCell ⟨u.heap.size, c.id, none⟩ (.bool true)) (u.heap.size + 1) (u.heap.size) 0 c t) := StN.start (Row.far (by omega) ra.out) (Row.put c.id rb.out) hid (by omega)
    have B0 : Hid (Below u.heap.size u (Z.setCell ⟨u.heap.size, c.id, none⟩ (.bool true))) := rbel_put (by omega) BW.out
    go_wp2
    clear q0 q1 q2 y0 y1 c0 c1 ra rb BW HZ n1 n2 zb2
    generalize (Z.setCell ⟨u.heap.size, c.id, none⟩ (.bool true)) = Y at *
    go_loopw [42] (fun vi wr => ∃ i : Nat, i ≤ c.n ∧ vi = .int .i64 i ∧ StN wr (u.heap.size + 1) (u.heap.size) i c t ∧ (∀ j, j < i → c.has j = true → okB (c.alo j t) (c.ahi j t) = true) ∧ PN wr b M c ∧ Below u.heap.size u wr) (fun vi _ => c.n - (intOf vi).toNat)
    case atStart => exact ⟨0, Nat.zero_le _, rfl, S0.out, fun j hj => by omega, PN.on B0.out HR.out, B0.out⟩
    case round =>
      clear S0 B0
      obtain ⟨i, hi, rfl, hS, hok, hN, hw⟩ := hrel
      have HS : Hid (StN wr (u.heap.size + 1) (u.heap.size) i c t) := hS
      have HO : Hid (∀ j, j < i → c.has j = true → okB (c.alo j t) (c.ahi j t) = true) := hok
      have HN : Hid (PN wr b M c) := hN
      have HW : Hid (Below u.heap.size u wr) := hw
      have c4 := hN.r.c 4 _ rfl
      have zb2 := hN.lt
      have z1 : u.heap.size < wr.heap.size := World.block_lt_of_cell? _ _ (hS.h 0 (by omega))
      have z0 : u.heap.size + 1 < wr.heap.size := World.block_lt_of_cell? _ _ (hS.a 0 (by omega))
      by_cases hlt : i < c.n
      · have hl3 : (i : Int) < (c.n : Int) := by omega
        have v4 := hN.look (i := i) (by omega)
        clear hS hok hN hw
        cases hh : c.has i with
        | false =>
          rw [hh] at v4
          go_wp2
          go_roundw
          case rel => exact ⟨i + 1, by omega, by go_num, StN.on (by omega) (rbel_al (Below.refl _ _)) (HS.out.skip hh), fun j hj hj2 => by
            by_cases q : j = i
            · subst q; rw [hh] at hj2; cases hj2
            · exact HO.out j (by omega) hj2, PN.on (rbel_al (Below.refl _ _)) HN.out, rbel_al HW.out⟩
          case measure => simp [intOf]; omega
        | true =>
          rw [hh] at v4
          have cA : Hid (∀ w, Below wr.heap.size wr w → Calls Tryd.prog 40 #[.pointer (some ⟨b, 0, none⟩), .agg #[.int .i64 (vL c i), .int .i64 (vH c i), .int .i64 (vA c i)], .int .i64 t] w fun o w' => o = .returned (.tuple #[.agg #[.int .i64 (c.alo i t), .int .i64 (c.ahi i t)], .nilIface]) ∧ Below w.heap.size w w') := fun w hw => wid_any HI.out HB.out hh w ((PN.on hw HN.out).r.c 2 _ rfl)
          have e1 : c.so t i = (c.alo i t, c.ahi i t) := by unfold Nd.so; rw [if_pos hh]
          have e2 : c.ho i = true := by unfold Nd.ho; rw [hh]; rfl
          have E1 : Hid (c.so t i = (c.alo i t, c.ahi i t)) := e1
          have E2 : Hid (c.ho i = true) := e2
          generalize vL c i = vl at *
          generalize vH c i = vh at *
          generalize vA c i = va at *
          cases hB : okB (c.alo i t) (c.ahi i t) with
          | false =>
            have cS := fun w => check_no (c.alo i t) (c.ahi i t) w hB
            have NO : Hid (SpR c t 1) := Or.inr (Or.inl ⟨HB.out, ⟨i, hlt, hh, hB⟩, rfl⟩)
            clear e1 e2 E1 E2 hB
            generalize c.alo i t = al at *
            generalize c.ahi i t = ah at *
            go_wp2_with (first
              | (go_at_call 40; refine (cA.out _ (rbel_al (Below.refl _ _))).mono ?_; rintro o u2 ⟨rfl, hb⟩; have B2 : Hid (Below u.heap.size u u2) := rbel_on hb (rbel_al HW.out); clear hb)
              | (go_at_call 41; refine (cS _).mono ?_; rintro o u3 ⟨rfl, hb⟩; have B3 : Hid (Below u.heap.size u u3) := rbel_on hb (rbel_al B2.out); clear hb))
            exact bodyPost_ret (v := .tuple #[.slice none 0 0, .slice none 0 0, .iface 85 (.int .i64 1)]) (by simp [results, Tryd.results20, go_sem, *]) rfl ⟨⟨1, NO.out, Or.inr ⟨by decide, rfl⟩⟩, B3.out⟩
          | true =>
            have cS := fun w => check_ok (c.alo i t) (c.ahi i t) w hB
            have HBB : Hid (okB (c.alo i t) (c.ahi i t) = true) := hB
            clear e1 e2 hB
            generalize ea : c.alo i t = al at *
            generalize eh : c.ahi i t = ah at *
            have EA : Hid (c.alo i t = al) := ea
            have EH : Hid (c.ahi i t = ah) := eh
            clear ea eh
            go_wp2_with (first
              | (go_at_call 40; refine (cA.out _ (rbel_al (Below.refl _ _))).mono ?_; rintro o u2 ⟨rfl, hb⟩; have B2 : Hid (Below wr.heap.size wr u2) := rbel_on hb (rbel_al (Below.refl _ _)); clear hb)
              | (go_at_call 41; refine (cS _).mono ?_; rintro o u3 ⟨rfl, hb⟩; have B3 : Hid (Below wr.heap.size wr u3) := rbel_on hb (rbel_al B2.out); have RS : Hid (Row u3 u2.heap.size [.int .i64 al, .int .i64 ah]) := Row.on hb (Row.made rfl); have S3 : Hid (StN u3 (u.heap.size + 1) (u.heap.size) i c t) := HS.out.on (by omega) B3.out; have N3 : Hid (PN u3 b M c) := PN.on B3.out HN.out; have r0 := RS.out.c 0 _ rfl; have r1 := RS.out.c 1 _ rfl; have g0 := S3.out.a i hlt; have g1 := S3.out.b i hlt; have g2 := S3.out.h i hlt; have k0 := S3.out.fa (i * 2) (by omega); have k1 := S3.out.fa (i * 2 + 1) (by omega); have k2 := S3.out.fh i hlt; have z3 : u.heap.size < u3.heap.size := Nat.lt_of_lt_of_le z1 B3.out.size; have z4 : u2.heap.size < u3.heap.size := RS.out.lt; have z5 : u.heap.size + 1 < u3.heap.size := Nat.lt_of_lt_of_le z0 B3.out.size; have B2s : wr.heap.size ≤ u2.heap.size := B2.out.size; have q1 : ¬ (u2.heap.size = u.heap.size + 1) := (by omega); have q2 : ¬ (u2.heap.size = u.heap.size) := (by omega); clear hb))
            go_roundw
            case rel =>
              have hs : c.so t i = (al, ah) := E1.out
              have hM := HR.out.ltM
              refine ⟨i + 1, by omega, by go_num, S3.out.put hlt hs E2.out, fun j hj hj2 => ?_, ?_, rbel_put (by omega) (rbel_put (by omega) (rbel_put (by omega) (rbel_on B3.out HW.out)))⟩
              · by_cases q : j = i
                · subst q; rw [EA.out, EH.out]; exact HBB.out
                · exact HO.out j (by omega) hj2
              · refine PN.on ?_ HR.out
                exact rbel_put (by omega) (rbel_put (by omega) (rbel_put (by omega) (rbel_on B3.out HW.out)))
            case measure => simp [intOf]; omega
      · have hl3 : ¬ ((i : Int) < (c.n : Int)) := by omega
        have e' : i = c.n := by omega
        have HE : Hid (i = c.n) := e'
        clear hS hok hN hw e'
        go_wp2
        exact bodyPost_ret (v := .tuple #[.slice (some ⟨u.heap.size + 1, 0, none⟩) c.n c.n, .slice (some ⟨u.heap.size, 0, none⟩) c.n c.n, .nilIface]) (by simp [results, Tryd.results20, go_sem, *]) rfl ⟨⟨0, Or.inr (Or.inr ⟨HB.out, fun j hj hj2 => HO.out j (by rw [HE.out]; exact hj) hj2, rfl⟩), Or.inl ⟨rfl, _, _, rfl, HE.out ▸ HS.out, by omega, by omega⟩⟩, HW.out⟩
end
end Go.Proofs.YtmomcaodmdlnpahDoor
namespace Go.Proofs.YtmomcaodmdlnpahDoor
open Go.ChangeShapes Go.WideShapes Go.ChangeAt Go.RowKit Go.Joins Go.Maps
set_option linter.unusedVariables false
set_option linter.unusedSimpArgs false

section
variable {u : World} {b M : Nat} {c : Nd}
/-- What Spans answers, the fault known. -/
theorem nspans_at (hR : PN u b M c) (hI : c.I) (t e : Int) (h : SpR c t e) :
    Calls Tryd.prog 20 #[.pointer (some ⟨b, 0, none⟩), .int .i64 t] u fun o w' => ((e = 0 ∧ ∃ s g : Nat, o = .returned (.tuple #[.slice (some ⟨s, 0, none⟩) c.n c.n, .slice (some ⟨g, 0, none⟩) c.n c.n, .nilIface]) ∧ StN w' s g c.n c t ∧ u.heap.size ≤ s ∧ u.heap.size ≤ g) ∨ (e ≠ 0 ∧ o = .returned (.tuple #[.slice none 0 0, .slice none 0 0, .iface 85 (.int .i64 e)]))) ∧ Below u.heap.size u w' := by
  by_cases hb : c.bk t
  · refine (nspans_bk hR hI t hb).mono fun _ _ ⟨he, hw⟩ => ⟨Or.inr ?_, hw⟩
    obtain rfl : e = 8 := spR_uniq h (Or.inl ⟨hb, rfl⟩)
    exact ⟨by decide, he⟩
  · refine (nspans_go hR hI t hb).mono fun _ _ ⟨⟨e', h', q⟩, hw⟩ => ⟨?_, hw⟩
    obtain rfl := spR_uniq h h'
    exact q
set_option maxRecDepth 100000 in
set_option maxHeartbeats 4000000 in
theorem nedges_no (hR : PN u b M c) (hI : c.I) (t e : Int) (h : SpR c t e) (hz : e ≠ 0) :
    Calls Tryd.prog 27 #[.pointer (some ⟨b, 0, none⟩), .int .i64 t] u fun o w' => o = .returned (.tuple #[.slice none 0 0, .iface 85 (.int .i64 e)]) ∧ Below u.heap.size u w' := by
  have cS : Calls Tryd.prog 20 #[.pointer (some ⟨b, 0, none⟩), .int .i64 t] u fun o w' => o = .returned (.tuple #[.slice none 0 0, .slice none 0 0, .iface 85 (.int .i64 e)]) ∧ Below u.heap.size u w' := (nspans_at hR hI t e h).mono fun _ _ ⟨q, hw⟩ => by
    rcases q with ⟨q, _⟩ | ⟨_, q⟩
    · exact absurd q hz
    · exact ⟨q, hw⟩
  clear hR hI h hz
  go_enter Tryd.func27, Tryd.ntmps27
  go_wp2_with (go_at_call 20; refine cS.mono ?_; rintro o u1 ⟨rfl, hb⟩; have B1 : Hid _ := hb; clear hb)
  go_ret2
  exact ⟨rfl, B1.out⟩
set_option maxRecDepth 100000 in
set_option maxHeartbeats 8000000 in
theorem nedges_go (hR : PN u b M c) (hI : c.I) (t : Int) (h : SpR c t 0) :
    Calls Tryd.prog 27 #[.pointer (some ⟨b, 0, none⟩), .int .i64 t] u fun o w' => (∃ ea ec, o = .returned (.tuple #[.slice ea (c.eo t).length ec, .nilIface]) ∧ EHanded w' ea (c.eo t).length (egf (c.eo t)) ∧ (ea = none → ec = 0) ∧ (c.eo t).length ≤ ec ∧ ec ≤ maxLen) ∧ Below u.heap.size u w' := by
  have cS : Calls Tryd.prog 20 #[.pointer (some ⟨b, 0, none⟩), .int .i64 t] u fun o w' => ∃ s g : Nat, o = .returned (.tuple #[.slice (some ⟨s, 0, none⟩) c.n c.n, .slice (some ⟨g, 0, none⟩) c.n c.n, .nilIface]) ∧ StN w' s g c.n c t ∧ Below u.heap.size u w' := (nspans_at hR hI t 0 h).mono fun _ _ ⟨q, hw⟩ => by
    rcases q with ⟨_, s, g, q, st, _⟩ | ⟨q, _⟩
    · exact ⟨s, g, q, st, hw⟩
    · exact absurd rfl q
  have HR : Hid (PN u b M c) := hR
  have HI : Hid c.I := hI
  have h6 := hI.n6
  have h0 : 0 < c.n := by have := hI.idn; omega
  obtain ⟨i0, hi0, hz0, hz1, hz2⟩ := info_parts infoEdgeN
  clear hR hI h
  go_enter Tryd.func27, Tryd.ntmps27
  go_wp2_with (go_at_call 20; refine cS.mono ?_; rintro o u1 ⟨s, g, rfl, hs, hb⟩; have S1 : Hid (StN u1 s g c.n c t) := hs; have B1 : Hid (Below u.heap.size u u1) := hb; have s0 : s < u1.heap.size := World.block_lt_of_cell? _ _ (hs.a 0 h0); have s1 : g < u1.heap.size := World.block_lt_of_cell? _ _ (hs.h 0 h0); clear hb hs)
  go_loopw [9, 25] (fun v vi wr => ∃ i : Nat, i ≤ c.n ∧ vi = .int .i64 i ∧ wr.ownsRow u1.heap.size 116 4 v (c.eu t i).length (ecl (c.eu t i)) ∧ Below u1.heap.size u1 wr) (fun _ vi _ => c.n - (intOf vi).toNat)
  case atStart => exact ⟨0, Nat.zero_le _, rfl, own_empty_e u1 _ _ _ (Nat.le_refl _), rbel_al (Below.refl _ _)⟩
  case round =>
    obtain ⟨i, hi, rfl, hown, hw⟩ := hrel
    have HW : Hid (Below u1.heap.size u1 wr) := hw
    have zw := hw.size
    have S2 : Hid (StN wr s g c.n c t) := S1.out.on h0 hw
    have N2 : Hid (PN wr b M c) := PN.on hw (PN.on B1.out HR.out)
    have HOw : Hid (wr.ownsRow u1.heap.size 116 4 u9 (c.eu t i).length (ecl (c.eu t i))) := hown
    by_cases hlt : i < c.n
    · have hl3 : (i : Int) < (c.n : Int) := by omega
      have v0 := N2.out.r.c 0 _ rfl
      have lb := N2.out.lt
      have y0 := S2.out.h i hlt
      rw [if_pos hlt] at y0
      have le := eu_len c t i
      have sw : g < wr.heap.size := by omega
      have sw2 : s < wr.heap.size := by omega
      have z0 := S2.out.a i hlt
      have z1 := S2.out.b i hlt
      rw [if_pos hlt] at z0 z1
      cases hh : c.has i with
      | false =>
        have e1 : c.ho i = decide (i = c.id) := by unfold Nd.ho; rw [hh]; rfl
        rw [e1] at y0
        have HO : Hid (∀ ob, (wr.alloc ob).ownsRow u1.heap.size 116 4 u9 (c.eu t i).length (ecl (c.eu t i))) := fun ob => hown.alloc _
        clear hown hw e1
        generalize (c.so t i).1 = al at *
        generalize (c.so t i).2 = ah at *
        by_cases hid : i = c.id
        · rw [decide_eq_true hid] at y0
          subst hid
          go_wp2
          go_roundw
          case rel => exact ⟨c.id + 1, by omega, by go_num, by rw [eu_no hh]; exact HO.out _, rbel_al HW.out⟩
          case measure => simp [intOf]; omega
        · rw [decide_eq_false hid] at y0
          go_wp2
          go_roundw
          case rel => exact ⟨i + 1, by omega, by go_num, by rw [eu_no hh]; exact HO.out _, rbel_al HW.out⟩
          case measure => simp [intOf]; omega
      | true =>
        obtain ⟨k1, k2, k3, k4, k5⟩ := HI.out.kn i hh
        have e1 : c.ho i = true := by unfold Nd.ho; rw [hh]; rfl
        rw [e1] at y0
        have d1 : ((i : Int) == (c.id : Int)) = false := by simp; omega
        have e2 : c.so t i = (c.alo i t, c.ahi i t) := by unfold Nd.so; rw [if_pos hh]
        rw [e2] at z0 z1
        have HL : Hid (ecl (c.eu t (i + 1)) = ecl (c.eu t i) ++ [.int .i64 c.id, .int .i64 i, .int .i64 (c.alo i t), .int .i64 (c.ahi i t)]) := by show _ = _; rw [eu_yes hh, ecl_app]; rfl
        have HLL : Hid ((c.eu t (i + 1)).length = (c.eu t i).length + 1) := by show _ = _; rw [eu_yes hh, List.length_append]; rfl
        have HB : Hid (∀ j, u9.ownBlock = some j → u1.heap.size ≤ j) := fun j hj => (hown.lt j hj).1
        have HO : Hid (wr.ownsRow u1.heap.size 116 4 u9 (c.eu t i).length (ecl (c.eu t i))) := hown
        have z0' : wr.cell? ⟨s, i * 2, none⟩ = some (.int .i64 (c.alo i t)) := z0
        have z1' : wr.cell? ⟨s, i * 2 + 1, none⟩ = some (.int .i64 (c.ahi i t)) := z1
        clear hown hw e1 e2 z0 z1 k3 k4 k5
        generalize c.alo i t = al at *
        generalize c.ahi i t = ah at *
        go_wp2
        have HO2 : Hid ((wr.alloc (Obj.cells #[.int .i64 al, .int .i64 ah] 64)).ownsRow u1.heap.size 116 4 u9 (c.eu t i).length (ecl (c.eu t i))) := HO.out.alloc _
        have HW2 : Hid (Below u1.heap.size u1 (wr.alloc (Obj.cells #[.int .i64 al, .int .i64 ah] 64))) := rbel_al HW.out
        have R2 : Hid (Row (wr.alloc (Obj.cells #[.int .i64 al, .int .i64 ah] 64)) wr.heap.size [.int .i64 al, .int .i64 ah]) := Row.made rfl
        have N3 : Hid (PN (wr.alloc (Obj.cells #[.int .i64 al, .int .i64 ah] 64)) b M c) := PN.on (rbel_al (Below.refl _ _)) N2.out
        clear v0 y0 z0' z1' lb sw sw2 HO HW
        generalize wr.heap.size = B at *
        generalize (wr.alloc (Obj.cells #[.int .i64 al, .int .i64 ah] 64)) = V at *
        have v0 := N3.out.r.c 0 _ rfl
        have lb := N3.out.lt
        have r0 := R2.out.c 0 _ rfl
        have r1 := R2.out.c 1 _ rfl
        have lB : B < V.heap.size := R2.out.lt
        go_region_law (refine step_append_at rfl (.tmp 42) (.tmp 50) 78 rfl u1.heap.size 116 i0 (.agg #[.int .i64 0, .int .i64 0, .int .i64 0, .int .i64 0]) 4 32 Tryd.underlying78 hi0 hz0 hz1 hz2 rfl (by decide) u9 (c.eu t i).length _ (by simp [Act.eval, Act.put]) (HO2.out.alloc _) ⟨V.heap.size, 0, none⟩ 1 1 [.int .i64 c.id, .int .i64 i, .int .i64 al, .int .i64 ah] (by simp [Act.eval, Act.put]) rfl (fun j q hj => by rw [Addr.add_lit]; exact (Row.made (W := V) (vs := [.int .i64 c.id, .int .i64 i, .int .i64 al, .int .i64 ah]) rfl).c _ _ (by simpa using hj)) (fun q hq => by simp at hq; rcases hq with rfl | rfl | rfl | rfl <;> rfl) (by unfold maxLen; omega) (by omega) (by simp; omega) ?_; intro v' w1 hown1 hgrow1 hat1)
        all_goals
          have ho1 : Hid (w1.ownsRow u1.heap.size 116 4 v' (c.eu t (i + 1)).length (ecl (c.eu t (i + 1)))) := by
            show w1.ownsRow u1.heap.size 116 4 v' (c.eu t (i + 1)).length (ecl (c.eu t (i + 1)))
            rw [HL.out, HLL.out]
            exact hown1
          have hw1 : Hid (Below u1.heap.size u1 w1) := by
            first
              | exact (rbel_al HW2.out).grown hgrow1 (by simp; omega) HB.out
              | exact (rbel_dr (rbel_al HW2.out)).grown hgrow1 (by simp; omega) HB.out
              | exact (rbel_al (rbel_dr HW2.out)).grown hgrow1 (by simp; omega) HB.out
          clear hown1 hgrow1 hat1
          go_wp2
          go_roundw
          case rel => exact ⟨i + 1, by omega, by go_num, ho1.out, hw1.out⟩
          case measure => simp [intOf]; omega
    · have hl3 : ¬ ((i : Int) < (c.n : Int)) := by omega
      have e' : i = c.n := by omega
      subst e'
      have un := eu_len c t c.n
      obtain ⟨a, cap, rfl, hH, hZ⟩ := own_eh hown rfl (by omega)
      have HC : Hid ((c.eu t c.n).length ≤ cap ∧ cap ≤ maxLen) := own_cap hown rfl
      have HZ : Hid (a = none → cap = 0) := hZ
      clear hZ
      have HH : Hid (EHanded wr a (c.eu t c.n).length (egf (c.eu t c.n))) := hH
      clear hown hw hH HOw
      go_wp2
      go_ret2
      first
        | exact ⟨⟨a, cap, rfl, HH.out, HZ.out, HC.out.1, HC.out.2⟩, rbel_on HW.out B1.out⟩
        | exact ⟨⟨a, ⟨cap, rfl⟩, HH.out, HZ.out, HC.out.1, HC.out.2⟩, rbel_on HW.out B1.out⟩
end
end Go.Proofs.YtmomcaodmdlnpahDoor
namespace Go.Proofs.YtmomcaodmdlnpahDoor
open Go.ChangeShapes Go.WideShapes Go.ChangeAt Go.RowKit Go.Joins Go.Maps
set_option linter.unusedVariables false
set_option linter.unusedSimpArgs false

theorem StN.sh {u : World} {s g : Nat} {c : Nd} {t : Int} (h : StN u s g c.n c t) (hn : c.n ≤ 6) : SHanded u (some ⟨s, 0, none⟩) c.n (c.so t) ∧ BHanded u (some ⟨g, 0, none⟩) c.n c.ho := by
  refine ⟨⟨by omega, Or.inr ⟨s, 0, rfl, fun i hi => ?_⟩⟩, ⟨by omega, Or.inr ⟨g, 0, rfl, fun i hi => ?_⟩⟩⟩
  · have a := h.a i hi
    have b := h.b i hi
    rw [if_pos hi] at a b
    rw [Nat.zero_add]
    exact ⟨a, b⟩
  · have a := h.h i hi
    rw [if_pos hi] at a
    rw [Nat.zero_add]
    exact a
def npe (w0 : World) : NpE w0 where
  R := Nkp
  on := Nkp.on
  lt := Nkp.lt
  new := fun id n p u _ h1 h2 h3 h4 => (nnew_ok id n p u h1 h2 h3 h4).mono fun _ _ ⟨b, M, he, hp, hw, l1, l2⟩ => ⟨b, Fn b M, he, ⟨M, hp, rfl⟩, hw, fun k hk => hk.elim (fun e => e ▸ l1) (fun e => e ▸ l2)⟩
  bad := fun id n p u _ _ _ _ h => (nnew_no id n p u h).mono fun _ _ ⟨v, he, hw⟩ => ⟨v, by rw [errc_not (by decide)]; exact he, hw⟩
  hear := fun b F c c' l t e B u hR hI _ _ hh => by
    obtain ⟨M, hP, rfl⟩ := hR
    exact (hear_any hP hI l t e B hh).mono fun _ _ ⟨he, hp, hw⟩ => ⟨Fn b M, he, ⟨M, hp, rfl⟩, hw, fun k hk => Or.inl hk⟩
  spans := fun b F c t e u hR hI _ h => by
    obtain ⟨M, hP, rfl⟩ := hR
    have lb := hP.lt
    have lM := hP.ltM
    refine (nspans_at hP hI t e h).mono fun _ _ ⟨q, hw⟩ => ⟨?_, hw⟩
    rcases q with ⟨rfl, s, g, he, st, hs, hg⟩ | ⟨hz, he⟩
    · obtain ⟨q1, q2⟩ := st.sh hI.n6
      refine ⟨some ⟨s, 0, none⟩, c.n, some ⟨g, 0, none⟩, c.n, by rw [errc_zero]; exact he, q1, q2, fun b' off e => ?_, fun b' off e => ?_⟩
      · injection e with e
        injection e with e
        subst e
        exact fun k => k.elim (fun e => by omega) (fun e => by omega)
      · injection e with e
        injection e with e
        subst e
        exact fun k => k.elim (fun e => by omega) (fun e => by omega)
    · have n0 : nOf e c.n = 0 := if_neg hz
      refine ⟨none, 0, none, 0, by rw [n0, errc_not hz]; exact he, ⟨by omega, Or.inl n0⟩, ⟨by omega, Or.inl n0⟩, fun _ _ e => by (cases e), fun _ _ e => by (cases e)⟩
  edges := fun b F c t e u hR hI _ h => by
    obtain ⟨M, hP, rfl⟩ := hR
    by_cases hz : e = 0
    · subst hz
      exact (nedges_go hP hI t h).mono fun _ _ ⟨⟨ea, ec, he, hE, _⟩, hw⟩ => ⟨⟨ea, ec, by rw [errc_zero]; exact he, hE⟩, hw⟩
    · have n0 : nOf e (c.eo t).length = 0 := if_neg hz
      refine (nedges_no hP hI t e h hz).mono fun _ _ ⟨he, hw⟩ => ⟨⟨none, 0, by rw [n0, errc_not hz]; exact he, ?_⟩, hw⟩
      rw [n0]
      exact ⟨by omega, Or.inl rfl⟩
end Go.Proofs.YtmomcaodmdlnpahDoor
