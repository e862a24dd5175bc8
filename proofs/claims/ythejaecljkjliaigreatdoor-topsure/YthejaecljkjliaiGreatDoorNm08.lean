/- Package net: Do. Package node, as it landed: what is kept of one, by now. Package node, as it landed: whatever it hears. Package net: an act, whatever it is. What package span answers: Check. -/
import Derived.Test.YthejaecljkjliaiGreatDoorNetPkgC
import Derived.Test.YthejaecljkjliaiGreatDoorNm05
import Derived.Test.YthejaecljkjliaiGreatDoorNodePkgH
import Derived.Test.YthejaecljkjliaiGreatDoorNodePkgL
import Derived.Test.YthejaecljkjliaiGreatDoorNodePkgK
import Derived.Test.YthejaecljkjliaiGreatDoorNodePkgB
import Derived.Test.YthejaecljkjliaiGreatDoorNm01
import Derived.Deep.Draws
namespace Go.Proofs.YthejaecljkjliaiGreatDoor
open Go.ChangeShapes Go.WideShapes Go.ChangeAt Go.RowKit Go.Joins
set_option linter.unusedVariables false
set_option linter.unusedSimpArgs false

section
variable {u : World} {mb : Nat} {L : Nly} {N : Nn}
set_option maxRecDepth 100000 in
set_option maxHeartbeats 8000000 in
theorem ndo_err (h : NN u mb L N) (wh x y : Int) (S' : Ws) (hS : S'.n = N.W.n) (pv : Value) (e : Int) (cD : ∀ W : World, PW W L.wb L.cb L.cc N.W L.v → Calls Tryz.prog 29 #[.pointer (some ⟨L.wb, 0, none⟩), .agg #[.int .i64 wh, .int .i64 x, .int .i64 y]] W fun o w' => ∃ v', o = .returned (.tuple #[pv, .iface 85 (.int .i64 e)]) ∧ Gp W w' L.wb L.cb L.cc L.v S' v') :
    Calls Tryz.prog 9 #[.pointer (some ⟨mb, 0, none⟩), .agg #[.int .i64 wh, .int .i64 x, .int .i64 y]] u fun o w' => o = .returned (.iface 85 (.int .i64 e)) ∧ ∃ L', NN w' mb L' ⟨S', N.p, N.nd⟩ ∧ Kpn u w' mb N.W.n L L' := by
  have HR : Hid (NN u mb L N) := h
  have HLW : Hid (∀ j, Fp L.wb L.cb L.v j → j < u.heap.size) := fun j hj => h.w.lt hj
  clear h
  go_enter Tryz.func9, Tryz.ntmps9
  go_wp2
  have BW : Hid (Below u.heap.size u (u.alloc (Obj.cells #[.int .i64 wh, .int .i64 x, .int .i64 y] 35))) := rbel_al (Below.refl _ _)
  have RX : Hid (Row (u.alloc (Obj.cells #[.int .i64 wh, .int .i64 x, .int .i64 y] 35)) u.heap.size [.int .i64 wh, .int .i64 x, .int .i64 y]) := Row.made rfl
  generalize (u.alloc (Obj.cells #[.int .i64 wh, .int .i64 x, .int .i64 y] 35)) = W at *
  have HW : Hid (NN W.drew mb L N) := NN.on (rbel_dr BW.out) HR.out
  have c0 := HW.out.r.c 0 _ rfl
  have x0 := RX.out.c 0 _ rfl
  have x1 := RX.out.c 1 _ rfl
  have x2 := RX.out.c 2 _ rfl
  have lb : mb < W.heap.size := HW.out.r.lt
  have lx : u.heap.size < W.heap.size := RX.out.lt
  go_region_held (fun w' => w'.cell? ⟨mb, 0, none⟩ = some (.pointer (some ⟨L.wb, 0, none⟩)) ∧ w'.cell? ⟨u.heap.size, 0, none⟩ = some (.int .i64 wh) ∧ w'.cell? ⟨u.heap.size, 1, none⟩ = some (.int .i64 x) ∧ w'.cell? ⟨u.heap.size, 2, none⟩ = some (.int .i64 y)) (go_keep) (first
    | (go_at_call 29; go_loud (refine (cD _ HW.out.w).mono ?_; rintro o u2 ⟨v', rfl, hG⟩; have N2 : Hid (NN u2 mb { L with v := v', tg := fun k => if k < W.drew.heap.size then L.tg k else 2 } ⟨S', N.p, N.nd⟩) := NN.world HW.out hS hG.1 hG.2; have K2 : Hid (Kpn u u2 mb N.W.n L { L with v := v', tg := fun k => if k < W.drew.heap.size then L.tg k else 2 }) := (Kpn.same (rbel_dr BW.out)).trans (NN.kpw HW.out rfl hG.2); have R2 : Hid (Row u2 u.heap.size [.int .i64 wh, .int .i64 x, .int .i64 y]) := Keeps.row hG.2.1 (fun q => by have := HLW.out u.heap.size (q.elim Or.inl (fun e => Or.inr (Or.inr e))); omega) (Row.dr RX.out); have d0 := N2.out.r.c 0 _ rfl; have y0 := R2.out.c 0 _ rfl; have y1 := R2.out.c 1 _ rfl; have y2 := R2.out.c 2 _ rfl; clear hG)))
  go_wp2
  go_ret
  exact ⟨rfl, _, N2.out, K2.out⟩
set_option maxRecDepth 100000 in
set_option maxHeartbeats 8000000 in
theorem ndo_nil (h : NN u mb L N) (wh x y : Int) (S' : Ws) (hS : S'.n = N.W.n) (cD : ∀ W : World, PW W L.wb L.cb L.cc N.W L.v → Calls Tryz.prog 29 #[.pointer (some ⟨L.wb, 0, none⟩), .agg #[.int .i64 wh, .int .i64 x, .int .i64 y]] W fun o w' => ∃ v', o = .returned (.tuple #[.pointer none, .nilIface]) ∧ Gp W w' L.wb L.cb L.cc L.v S' v') :
    Calls Tryz.prog 9 #[.pointer (some ⟨mb, 0, none⟩), .agg #[.int .i64 wh, .int .i64 x, .int .i64 y]] u fun o w' => o = .returned .nilIface ∧ ∃ L', NN w' mb L' ⟨S', N.p, N.nd⟩ ∧ Kpn u w' mb N.W.n L L' := by
  have HR : Hid (NN u mb L N) := h
  have HLW : Hid (∀ j, Fp L.wb L.cb L.v j → j < u.heap.size) := fun j hj => h.w.lt hj
  clear h
  go_enter Tryz.func9, Tryz.ntmps9
  go_wp2
  have BW : Hid (Below u.heap.size u (u.alloc (Obj.cells #[.int .i64 wh, .int .i64 x, .int .i64 y] 35))) := rbel_al (Below.refl _ _)
  have RX : Hid (Row (u.alloc (Obj.cells #[.int .i64 wh, .int .i64 x, .int .i64 y] 35)) u.heap.size [.int .i64 wh, .int .i64 x, .int .i64 y]) := Row.made rfl
  generalize (u.alloc (Obj.cells #[.int .i64 wh, .int .i64 x, .int .i64 y] 35)) = W at *
  have HW : Hid (NN W.drew mb L N) := NN.on (rbel_dr BW.out) HR.out
  have c0 := HW.out.r.c 0 _ rfl
  have x0 := RX.out.c 0 _ rfl
  have x1 := RX.out.c 1 _ rfl
  have x2 := RX.out.c 2 _ rfl
  have lb : mb < W.heap.size := HW.out.r.lt
  have lx : u.heap.size < W.heap.size := RX.out.lt
  go_region_held (fun w' => w'.cell? ⟨mb, 0, none⟩ = some (.pointer (some ⟨L.wb, 0, none⟩)) ∧ w'.cell? ⟨u.heap.size, 0, none⟩ = some (.int .i64 wh) ∧ w'.cell? ⟨u.heap.size, 1, none⟩ = some (.int .i64 x) ∧ w'.cell? ⟨u.heap.size, 2, none⟩ = some (.int .i64 y)) (go_keep) (first
    | (go_at_call 29; go_loud (refine (cD _ HW.out.w).mono ?_; rintro o u2 ⟨v', rfl, hG⟩; have N2 : Hid (NN u2 mb { L with v := v', tg := fun k => if k < W.drew.heap.size then L.tg k else 2 } ⟨S', N.p, N.nd⟩) := NN.world HW.out hS hG.1 hG.2; have K2 : Hid (Kpn u u2 mb N.W.n L { L with v := v', tg := fun k => if k < W.drew.heap.size then L.tg k else 2 }) := (Kpn.same (rbel_dr BW.out)).trans (NN.kpw HW.out rfl hG.2); have R2 : Hid (Row u2 u.heap.size [.int .i64 wh, .int .i64 x, .int .i64 y]) := Keeps.row hG.2.1 (fun q => by have := HLW.out u.heap.size (q.elim Or.inl (fun e => Or.inr (Or.inr e))); omega) (Row.dr RX.out); have d0 := N2.out.r.c 0 _ rfl; have y0 := R2.out.c 0 _ rfl; have y1 := R2.out.c 1 _ rfl; have y2 := R2.out.c 2 _ rfl; clear hG)))
  go_wp2
  go_ret
  exact ⟨rfl, _, N2.out, K2.out⟩
set_option maxRecDepth 100000 in
set_option maxHeartbeats 8000000 in
theorem ndo_some (h : NN u mb L N) (wh x y : Int) (S' : Ws) (hS : S'.n = N.W.n) (l1 l2 : Int) (l3 : Bool) (l4 l5 l6 : Int) (ev : Value) (N' : Nn) (cD : ∀ W : World, PW W L.wb L.cb L.cc N.W L.v → Calls Tryz.prog 29 #[.pointer (some ⟨L.wb, 0, none⟩), .agg #[.int .i64 wh, .int .i64 x, .int .i64 y]] W fun o w' => ∃ v' g, o = .returned (.tuple #[.pointer (some ⟨g, 0, none⟩), .nilIface]) ∧ Gp W w' L.wb L.cb L.cc L.v S' v' ∧ Row w' g [.int .i64 l1, .int .i64 l2, .bool l3, .int .i64 l4, .int .i64 l5, .int .i64 l6]) (cC : ∀ (W : World) (L2 : Nly), NN W mb L2 ⟨S', N.p, N.nd⟩ → Calls Tryz.prog 30 #[.pointer (some ⟨mb, 0, none⟩), .agg #[.int .i64 l1, .int .i64 l2, .bool l3, .int .i64 l4, .int .i64 l5, .int .i64 l6]] W fun o w' => o = .returned ev ∧ ∃ L', NN w' mb L' N' ∧ Kpn W w' mb N.W.n L2 L') :
    Calls Tryz.prog 9 #[.pointer (some ⟨mb, 0, none⟩), .agg #[.int .i64 wh, .int .i64 x, .int .i64 y]] u fun o w' => o = .returned ev ∧ ∃ L', NN w' mb L' N' ∧ Kpn u w' mb N.W.n L L' := by
  have HR : Hid (NN u mb L N) := h
  have HLW : Hid (∀ j, Fp L.wb L.cb L.v j → j < u.heap.size) := fun j hj => h.w.lt hj
  clear h
  go_enter Tryz.func9, Tryz.ntmps9
  go_wp2
  have BW : Hid (Below u.heap.size u (u.alloc (Obj.cells #[.int .i64 wh, .int .i64 x, .int .i64 y] 35))) := rbel_al (Below.refl _ _)
  have RX : Hid (Row (u.alloc (Obj.cells #[.int .i64 wh, .int .i64 x, .int .i64 y] 35)) u.heap.size [.int .i64 wh, .int .i64 x, .int .i64 y]) := Row.made rfl
  generalize (u.alloc (Obj.cells #[.int .i64 wh, .int .i64 x, .int .i64 y] 35)) = W at *
  have HW : Hid (NN W.drew mb L N) := NN.on (rbel_dr BW.out) HR.out
  have c0 := HW.out.r.c 0 _ rfl
  have x0 := RX.out.c 0 _ rfl
  have x1 := RX.out.c 1 _ rfl
  have x2 := RX.out.c 2 _ rfl
  have lb : mb < W.heap.size := HW.out.r.lt
  have lx : u.heap.size < W.heap.size := RX.out.lt
  go_region_held (fun w' => w'.cell? ⟨mb, 0, none⟩ = some (.pointer (some ⟨L.wb, 0, none⟩)) ∧ w'.cell? ⟨u.heap.size, 0, none⟩ = some (.int .i64 wh) ∧ w'.cell? ⟨u.heap.size, 1, none⟩ = some (.int .i64 x) ∧ w'.cell? ⟨u.heap.size, 2, none⟩ = some (.int .i64 y)) (go_keep) (first
    | (go_at_call 29; go_loud (refine (cD _ HW.out.w).mono ?_; rintro o u2 ⟨v', g, rfl, hG, hl⟩; have N2 : Hid (NN u2 mb { L with v := v', tg := fun k => if k < W.drew.heap.size then L.tg k else 2 } ⟨S', N.p, N.nd⟩) := NN.world HW.out hS hG.1 hG.2; have K2 : Hid (Kpn u u2 mb N.W.n L { L with v := v', tg := fun k => if k < W.drew.heap.size then L.tg k else 2 }) := (Kpn.same (rbel_dr BW.out)).trans (NN.kpw HW.out rfl hG.2); have R2 : Hid (Row u2 u.heap.size [.int .i64 wh, .int .i64 x, .int .i64 y]) := Keeps.row hG.2.1 (fun q => by have := HLW.out u.heap.size (q.elim Or.inl (fun e => Or.inr (Or.inr e))); omega) (Row.dr RX.out); have d0 := N2.out.r.c 0 _ rfl; have y0 := R2.out.c 0 _ rfl; have y1 := R2.out.c 1 _ rfl; have y2 := R2.out.c 2 _ rfl; have g0 := hl.c 0 _ rfl; have g1 := hl.c 1 _ rfl; have g2 := hl.c 2 _ rfl; have g3 := hl.c 3 _ rfl; have g4 := hl.c 4 _ rfl; have g5 := hl.c 5 _ rfl; clear hl; clear hG)))
  go_wp2_with (go_at_call 30; go_loud (refine (cC _ _ N2.out).mono ?_; rintro o u3 ⟨rfl, L3, hN, hK⟩; have N3 : Hid (NN u3 mb L3 N') := hN; have K3 : Hid (Kpn u u3 mb N.W.n L L3) := K2.out.trans hK; clear hN hK))
  go_ret
  exact ⟨rfl, _, N3.out, K3.out⟩
end
end Go.Proofs.YthejaecljkjliaiGreatDoor
namespace Go.Proofs.YthejaecljkjliaiGreatDoor
open Go.ChangeShapes Go.WideShapes Go.ChangeAt Go.RowKit Go.Joins Go.Maps
set_option linter.unusedVariables false
set_option linter.unusedSimpArgs false

theorem wid_any {c : Nd} {b i : Nat} {t : Int} (g : c.I) (hb : ¬ c.bk t) (hh : c.has i = true) (w : World) (c2 : w.cell? ⟨b, 2, none⟩ = some (.int .i64 c.p)) :
    Calls Tryz.prog 103 #[.pointer (some ⟨b, 0, none⟩), .agg #[.int .i64 (vL c i), .int .i64 (vH c i), .int .i64 (vA c i)], .int .i64 t] w fun o w' => o = .returned (.tuple #[.agg #[.int .i64 (c.alo i t), .int .i64 (c.ahi i t)], .nilIface]) ∧ Below w.heap.size w w' := by
  obtain ⟨k1, k2, k3, k4, k5⟩ := g.kn i hh
  obtain ⟨s1, s2, s3, s4⟩ := Nd.sk_b g hb hh
  obtain ⟨o1, o2, o3⟩ := okB_t k3
  have eL : vL c i = c.lo i := if_pos hh
  have eH : vH c i = c.hi i := if_pos hh
  have eA : vA c i = c.at_ i := if_pos hh
  obtain ⟨m, hm⟩ : ∃ m, m = ((t - c.at_ i) * 3 * c.p + 1000000 - 1) / 1000000 := ⟨_, rfl⟩
  have es : c.sk i t = 2 + m := by rw [hm]; rfl
  have e1 : c.alo i t = c.lo i - (m + 2) := by unfold Nd.alo; omega
  have e2 : c.ahi i t = c.hi i + (m + 2) := by unfold Nd.ahi; omega
  unfold Nd.bk at hb
  rw [eL, eH, eA, e1, e2]
  have := g.h1
  exact widened_at c.p (c.lo i) (c.hi i) (c.at_ i) t m w c2 k4 (by omega) (by omega) g.p0 g.p1 (by omega) (by omega) (by omega) hm (by omega) (by omega)
end Go.Proofs.YthejaecljkjliaiGreatDoor
namespace Go.Proofs.YthejaecljkjliaiGreatDoor
open Go.ChangeShapes Go.WideShapes Go.ChangeAt Go.RowKit Go.Joins Go.Maps
set_option linter.unusedVariables false
set_option linter.unusedSimpArgs false

section
variable {u : World} {b M : Nat} {c c' : Nd}
/-- What a node in memory is behind a letter. -/
def HrO (u : World) (b M : Nat) (c' : Nd) (B : Bool) (e : Int) (o : Ending) (w' : World) : Prop := o = .returned (.tuple #[.bool B, errc e]) ∧ PN w' b M c' ∧ Keeps (Fn b M) u w'
theorem hear_any (h : PN u b M c) (g : c.I) (l : Lt) (t e : Int) (B : Bool) (hh : HearR c l t c' B e) :
    Calls Tryz.prog 53 #[.pointer (some ⟨b, 0, none⟩), ltv l, .int .i64 t] u fun o w' => HrO u b M c' B e o w' := by
  have same : ∀ {v : Int} {X : Calls Tryz.prog 53 #[.pointer (some ⟨b, 0, none⟩), ltv l, .int .i64 t] u fun o w' => o = .returned (.tuple #[.bool false, .iface 85 (.int .i64 v)]) ∧ Below u.heap.size u w'}, v ≠ 0 → Calls Tryz.prog 53 #[.pointer (some ⟨b, 0, none⟩), ltv l, .int .i64 t] u fun o w' => HrO u b M c false v o w' := fun {v X} hv => X.mono fun _ _ ⟨he, hw⟩ => ⟨by rw [errc_not hv]; exact he, PN.on hw h, Keeps.of hw⟩
  obtain ⟨x, y, a, t1, t2, t3⟩ := l
  have frm : ¬ c.bad ⟨x, y, a, t1, t2, t3⟩ → ∃ k : Nat, x = k ∧ k < c.n ∧ k ≠ c.id ∧ y = c.id ∧ k < 6 := fun hb => by
    have n6 := g.n6
    unfold Nd.bad at hb
    have h1 : y = c.id := Classical.byContradiction (fun q => hb (Or.inl q))
    have h2 : x ≠ c.id := fun q => hb (Or.inr (Or.inl q))
    have h3 : ¬ x < 0 := fun q => hb (Or.inr (Or.inr (Or.inl q)))
    have h4 : ¬ (c.n : Int) ≤ x := fun q => hb (Or.inr (Or.inr (Or.inr q)))
    exact ⟨x.toNat, by omega, by omega, by omega, h1, by omega⟩
  rcases hh with ⟨hb, ec, rfl, rfl⟩ | ⟨hb, hd, ec, rfl, rfl⟩ | ⟨hb, hd, ha, ec, rfl, rfl⟩ | ⟨hb, hd, ha, hz, ec, rfl, rfl⟩ | ⟨hb, hd, ha, hz, hc, ec, rfl, rfl⟩ | ⟨hb, hd, ha, hz, hc, ec, rfl, rfl⟩
  all_goals
    rw [ec]
    clear ec
  · exact same (X := hear_bk h g x y t1 t2 t3 t a hb) (by decide)
  · refine same (X := ?_) (by decide)
    by_cases q1 : y = c.id
    · by_cases q2 : x = c.id
      · exact hear_b2 h g x y t1 t2 t3 t a hb q1 q2
      · by_cases q3 : x < 0
        · exact hear_b3 h g x y t1 t2 t3 t a hb q1 q2 q3
        · refine hear_b4 h g x y t1 t2 t3 t a hb q1 q2 q3 ?_
          unfold Nd.bad at hd
          rcases hd with d | d | d | d
          · exact absurd q1 d
          · exact absurd d q2
          · exact absurd d q3
          · exact d
    · exact hear_b1 h g x y t1 t2 t3 t a hb q1
  · obtain ⟨k, ex, hk, hne, h0, kk⟩ := frm hd
    obtain rfl : a = false := ha
    refine (hear_ask h g x y t1 t2 t3 t hb k ex hk hne h0).mono fun _ _ ⟨he, hp, hw⟩ => ⟨by rw [errc_zero]; exact he, hp, hw⟩
  · obtain ⟨k, ex, hk, hne, h0, kk⟩ := frm hd
    obtain rfl : a = true := ha
    refine same (X := ?_) hz
    refine hear_no h g x y t1 t2 t3 t hb k ex hk hne h0 _ hz ?_
    intro w hw
    subst ex
    exact learn_off (PN.on hw h) k y t1 t2 t3 t true _ rfl hz
  · obtain ⟨k, ex, hk, hne, h0, kk⟩ := frm hd
    obtain rfl : a = true := ha
    subst ex
    have hh : c.has k = true := by
      cases q : c.has k with
      | true => rfl
      | false =>
        have e1 : c.bHi k t (c.oU ⟨k, y, true, t1, t2, t3⟩ t) = oH t1 t2 t c.p := by unfold Nd.bHi; rw [q]; rfl
        have e2 : c.bLo k t (Nd.oL ⟨k, y, true, t1, t2, t3⟩ t) = t3 - t := by unfold Nd.bLo; rw [q]; rfl
        have hc' : c.bHi k t (c.oU ⟨k, y, true, t1, t2, t3⟩ t) < c.bLo k t (Nd.oL ⟨k, y, true, t1, t2, t3⟩ t) := hc
        rw [e1, e2] at hc'
        have q9 : t3 - t ≤ oH t1 t2 t c.p := (oE_zero hz).2.2.2.2
        clear hc
        omega
    have e1 : c.bHi k t (oH t1 t2 t c.p) = if c.ahi k t < oH t1 t2 t c.p then c.ahi k t else oH t1 t2 t c.p := by unfold Nd.bHi; rw [if_pos hh]
    have e2 : c.bLo k t (t3 - t) = if t3 - t < c.alo k t then c.alo k t else t3 - t := by unfold Nd.bLo; rw [if_pos hh]
    refine same (X := ?_) (by decide)
    refine hear_no h g (k : Int) y t1 t2 t3 t hb k rfl hk hne h0 _ (by decide) ?_
    intro w hw
    refine learn_clash (PN.on hw h) k y t1 t2 t3 t true kk (t3 - t) (oH t1 t2 t c.p) hz rfl rfl hh (vL c k) (vH c k) (vA c k) (c.alo k t) (c.ahi k t) rfl rfl rfl (fun w' c2 => wid_any g hb hh w' c2) (c.bLo k t (t3 - t)) (c.bHi k t (oH t1 t2 t c.p)) ?_ ?_ hc
    · rw [e2]; split
      · exact Or.inl ⟨by assumption, rfl⟩
      · exact Or.inr ⟨by assumption, rfl⟩
    · rw [e1]; split
      · exact Or.inl ⟨by assumption, rfl⟩
      · exact Or.inr ⟨by assumption, rfl⟩
  · obtain ⟨k, ex, hk, hne, h0, kk⟩ := frm hd
    obtain rfl : a = true := ha
    subst ex
    have fin : ∀ {o : Ending} {w' : World} {p q : Int}, o = .returned (.tuple #[.bool true, .nilIface]) ∧ PN w' b M { (c.put k p q t) with h := t } ∧ Keeps (Fn b M) u w' → p = c.bLo k t (t3 - t) → q = c.bHi k t (oH t1 t2 t c.p) → HrO u b M (c.kept k t (c.bLo k t (t3 - t)) (c.bHi k t (oH t1 t2 t c.p))) true 0 o w' := fun {o w' p q} ⟨he, hp, hw⟩ ep eq => by
      subst ep
      subst eq
      exact ⟨by rw [errc_zero]; exact he, hp, hw⟩
    cases hh : c.has k with
    | false =>
      have e1 : c.bHi k t (oH t1 t2 t c.p) = oH t1 t2 t c.p := by unfold Nd.bHi; rw [hh]; rfl
      have e2 : c.bLo k t (t3 - t) = t3 - t := by unfold Nd.bLo; rw [hh]; rfl
      refine (hear_yes h g (k : Int) y t1 t2 t3 t hb k rfl hk hne h0 (c.put k (t3 - t) (oH t1 t2 t c.p) t) rfl ?_).mono fun _ _ q => fin q e2.symm e1.symm
      intro w hw
      exact learn_new (PN.on hw h) k y t1 t2 t3 t true kk (t3 - t) (oH t1 t2 t c.p) hz rfl rfl hh (oE_zero hz).2.2.2.2
    | true =>
      have e1 : c.bHi k t (oH t1 t2 t c.p) = if c.ahi k t < oH t1 t2 t c.p then c.ahi k t else oH t1 t2 t c.p := by unfold Nd.bHi; rw [if_pos hh]
      have e2 : c.bLo k t (t3 - t) = if t3 - t < c.alo k t then c.alo k t else t3 - t := by unfold Nd.bLo; rw [if_pos hh]
      refine (hear_yes h g (k : Int) y t1 t2 t3 t hb k rfl hk hne h0 (c.put k (c.bLo k t (t3 - t)) (c.bHi k t (oH t1 t2 t c.p)) t) rfl ?_).mono fun _ _ q => fin q rfl rfl
      intro w hw
      refine learn_kept (PN.on hw h) k y t1 t2 t3 t true kk (t3 - t) (oH t1 t2 t c.p) hz rfl rfl hh (vL c k) (vH c k) (vA c k) (c.alo k t) (c.ahi k t) rfl rfl rfl (fun w' c2 => wid_any g hb hh w' c2) (c.bLo k t (t3 - t)) (c.bHi k t (oH t1 t2 t c.p)) ?_ ?_ ?_
      · rw [e2]; split
        · exact Or.inl ⟨by assumption, rfl⟩
        · exact Or.inr ⟨by assumption, rfl⟩
      · rw [e1]; split
        · exact Or.inl ⟨by assumption, rfl⟩
        · exact Or.inr ⟨by assumption, rfl⟩
      · have hc' : c.bLo k t (t3 - t) ≤ c.bHi k t (oH t1 t2 t c.p) := hc
        omega
end
end Go.Proofs.YthejaecljkjliaiGreatDoor
namespace Go.Proofs.YthejaecljkjliaiGreatDoor
open Go.ChangeShapes Go.WideShapes Go.ChangeAt Go.RowKit Go.Joins
set_option linter.unusedVariables false
set_option linter.unusedSimpArgs false

section
variable {u : World} {mb : Nat} {L : Nly} {N N' : Nn}
/-- A letter that came. -/
theorem ncome_any {S' : Ws} {l : Lt} {c' : Nd} {e : Int} (g : N.T) (hn : S'.n = N.W.n) (hi : S'.I) (kn : Kn S' N.p l.to.toNat (N.nd l.to.toNat)) (rt : RtB S' N.p) (lk : Lk S' l) (hh : HearR (N.nd l.to.toNat) l (S'.rd l.to.toNat) c' l.ans 0)
    (q : (l.ans = true ∧ N' = ⟨S', N.p, updN N.nd l.to.toNat c'⟩ ∧ e = 0) ∨ (l.ans = false ∧ ∃ S'', AnR S' l S'' e ∧ N' = ⟨S'', N.p, updN N.nd l.to.toNat c'⟩)) (W : World) (L2 : Nly) (h : NN W mb L2 ⟨S', N.p, N.nd⟩) :
    Calls Tryz.prog 30 #[.pointer (some ⟨mb, 0, none⟩), ltv l] W fun o w' => o = .returned (errc e) ∧ ∃ L', NN w' mb L' N' ∧ Kpn W w' mb N.W.n L2 L' := by
  obtain ⟨a, k, h1, h2, h3, h4, h5, _⟩ := lk
  obtain ⟨x, y, an, t1, t2, t3⟩ := l
  obtain rfl : x = (a : Int) := h1
  obtain rfl : y = (k : Int) := h2
  rw [show (⟨(a : Int), (k : Int), an, t1, t2, t3⟩ : Lt).to.toNat = k from Int.toNat_natCast k] at kn hh q
  have ci : (N.nd k).I := kn.i rt h4
  have hs : S'.hs (k : Int) := ⟨by omega, by omega⟩
  have cR : ∀ V : World, Below W.heap.size W V → Calls Tryz.prog 39 #[.pointer (some ⟨L2.wb, 0, none⟩), .int .i64 (k : Int)] V fun o w' => o = .returned (.tuple #[.int .i64 (S'.rd k), .nilIface]) ∧ Below V.heap.size V w' := fun V hV => by
    have := read_yes (h.on hV).w hi hs
    rwa [errc_zero, Int.toNat_natCast] at this
  have cH : ∀ V : World, Below W.heap.size W V → Calls Tryz.prog 53 #[.pointer (some ⟨L2.b k, 0, none⟩), ltv ⟨(a : Int), (k : Int), an, t1, t2, t3⟩, .int .i64 (S'.rd k)] V fun o w' => o = .returned (.tuple #[.bool an, .nilIface]) ∧ PN w' (L2.b k) (L2.m k) c' ∧ Keeps (Fn (L2.b k) (L2.m k)) V w' := fun V hV => by
    refine (hear_any ((h.on hV).d k h4) ci ⟨(a : Int), (k : Int), an, t1, t2, t3⟩ (S'.rd k) 0 an hh).mono fun _ _ ⟨q1, q2, q3⟩ => ⟨?_, q2, q3⟩
    rw [errc_zero] at q1
    exact q1
  rcases q with ⟨qa, rfl, rfl⟩ | ⟨qa, S'', hA, rfl⟩
  · obtain rfl : an = true := qa
    refine (pcome_ans h hi k h4 (a : Int) t1 t2 t3 (S'.rd k) true c' cR cH).mono fun _ _ ⟨q1, L', q2, q3⟩ => ⟨by rw [errc_zero]; exact q1, L', q2, ?_⟩
    rw [← hn]
    exact q3
  · obtain rfl : an = false := qa
    have sm := hA.same
    refine (pcome_ask h hi k h4 (a : Int) t1 t2 t3 (S'.rd k) false c' cR cH (errc e) S'' sm.1 ?_).mono fun _ _ ⟨q1, L', q2, q3⟩ => ⟨q1, L', q2, ?_⟩
    · intro V hV
      exact (answer_any hV hi ⟨(a : Int), (k : Int), false, t1, t2, t3⟩ hA).mono fun _ _ ⟨q1, v', q2⟩ => ⟨q1, v', q2⟩
    · rw [← hn]
      exact q3
theorem nact_any (h : NN u mb L N) (g : N.T) {wh x y e : Int} (hD : NDoR N wh x y N' e) :
    Calls Tryz.prog 9 #[.pointer (some ⟨mb, 0, none⟩), .agg #[.int .i64 wh, .int .i64 x, .int .i64 y]] u fun o w' => o = .returned (errc e) ∧ ∃ L', NN w' mb L' N' ∧ Kpn u w' mb N.W.n L L' := by
  obtain ⟨S', r, e1, hDo, q⟩ := hD
  have sm := hDo.same
  have hi : S'.I := hDo.i g.g.i
  rcases q with ⟨rfl, rfl, rfl⟩ | ⟨l, c', rfl, rfl, lk, hh, q⟩
  · by_cases he : e = 0
    · subst he
      rw [errc_zero]
      refine ndo_nil h wh x y S' sm.1 ?_
      intro W hW
      refine (do_any hW g.g.i hDo).mono fun _ _ ⟨pv, v', q1, q2, q3⟩ => ⟨v', ?_, q2⟩
      rw [errc_zero] at q1
      rcases q3 with ⟨_, rfl⟩ | ⟨_, _, q, _⟩
      · exact q1
      · cases q
    · rw [errc_not he]
      refine ndo_err h wh x y S' sm.1 (.pointer none) e ?_
      intro W hW
      refine (do_any hW g.g.i hDo).mono fun _ _ ⟨pv, v', q1, q2, q3⟩ => ⟨v', ?_, q2⟩
      rw [errc_not he] at q1
      rcases q3 with ⟨_, rfl⟩ | ⟨_, _, q, _⟩
      · exact q1
      · cases q
  · have rt : RtB S' N.p := g.g.on hi sm.1 sm.2.2.1
    have lt : l.to.toNat < N.W.n := by
      obtain ⟨a, b, _, h2, _, h4, _⟩ := lk
      rw [h2, Int.toNat_natCast, ← sm.1]
      exact h4
    have kn := (g.kn _ lt).on g.g lt sm.1 sm.2.1 sm.2.2.1 (sm.2.2.2 g.g.i)
    refine ndo_some h wh x y S' sm.1 l.frm l.to l.ans l.t1 l.t2 l.t (errc e) N' ?_ ?_
    · intro W hW
      refine (do_any hW g.g.i hDo).mono fun _ _ ⟨pv, v', q1, q2, q3⟩ => ?_
      rw [errc_zero] at q1
      rcases q3 with ⟨q, _⟩ | ⟨l', gg, e2, e3, hr, _⟩
      · cases q
      · obtain rfl := Option.some.inj e2
        exact ⟨v', gg, by rw [e3] at q1; exact q1, q2, hr⟩
    · intro W L2 hN
      exact ncome_any g sm.1 hi kn rt lk hh q W L2 hN
end
end Go.Proofs.YthejaecljkjliaiGreatDoor
namespace Go.Proofs.YthejaecljkjliaiGreatDoor
open Go.ChangeShapes Go.WideShapes Go.ChangeAt Go.RowKit
set_option linter.unusedVariables false

theorem check_ok (lo hi : Int) (w : World) (h : okB lo hi = true) :
    Calls Tryz.prog 46 #[.agg #[.int .i64 lo, .int .i64 hi]] w fun e w' => e = .returned .nilIface ∧ Below w.heap.size w w' := by
  have h' := okB_t h
  obtain ⟨h1, h2, h3⟩ := h'
  clear h
  go_enter Tryz.func46, Tryz.ntmps46
  go_wp2
  go_ret
  exact ⟨rfl, (Below.refl _ _).alloc (Nat.le_refl _) _⟩

theorem check_no (lo hi : Int) (w : World) (h : okB lo hi = false) :
    Calls Tryz.prog 46 #[.agg #[.int .i64 lo, .int .i64 hi]] w fun e w' => e = .returned (.iface 85 (.int .i64 1)) ∧ Below w.heap.size w w' := by
  have h' := okB_f h
  clear h
  by_cases h1 : hi < lo
  · go_enter Tryz.func46, Tryz.ntmps46
    go_wp2
    go_ret
    exact ⟨rfl, (Below.refl _ _).alloc (Nat.le_refl _) _⟩
  · by_cases h2 : lo < -1000000000000
    · go_enter Tryz.func46, Tryz.ntmps46
      go_wp2
      go_ret
      exact ⟨rfl, (Below.refl _ _).alloc (Nat.le_refl _) _⟩
    · have h3 : 1000000000000 < hi := by omega
      clear h'
      go_enter Tryz.func46, Tryz.ntmps46
      go_wp2
      go_ret
      exact ⟨rfl, (Below.refl _ _).alloc (Nat.le_refl _) _⟩
end Go.Proofs.YthejaecljkjliaiGreatDoor
