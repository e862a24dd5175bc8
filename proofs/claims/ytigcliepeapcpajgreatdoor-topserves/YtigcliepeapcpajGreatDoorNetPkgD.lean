/- Package net: Do. -/
import Derived.Test.YtigcliepeapcpajGreatDoorNetPkgC
namespace Go.Proofs.YtigcliepeapcpajGreatDoor
open Go.ChangeShapes Go.WideShapes Go.ChangeAt Go.RowKit Go.Joins
set_option linter.unusedVariables false
set_option linter.unusedSimpArgs false

section
variable {u : World} {mb : Nat} {L : Nly} {N : Nn}
set_option maxRecDepth 100000 in
set_option maxHeartbeats 8000000 in
theorem ndo_err (h : NN u mb L N) (wh x y : Int) (S' : Ws) (hS : S'.n = N.W.n) (pv : Value) (e : Int) (cD : ∀ W : World, PW W L.wb L.cb L.cc N.W L.v → Calls Tryz.prog 22 #[.pointer (some ⟨L.wb, 0, none⟩), .agg #[.int .i64 wh, .int .i64 x, .int .i64 y]] W fun o w' => ∃ v', o = .returned (.tuple #[pv, .iface 71 (.int .i64 e)]) ∧ Gp W w' L.wb L.cb L.cc L.v S' v') :
    Calls Tryz.prog 8 #[.pointer (some ⟨mb, 0, none⟩), .agg #[.int .i64 wh, .int .i64 x, .int .i64 y]] u fun o w' => o = .returned (.iface 71 (.int .i64 e)) ∧ ∃ L', NN w' mb L' ⟨S', N.p, N.nd⟩ ∧ Kpn u w' mb N.W.n L L' := by
  have HR : Hid (NN u mb L N) := h
  have HLW : Hid (∀ j, Fp L.wb L.cb L.v j → j < u.heap.size) := fun j hj => h.w.lt hj
  clear h
  go_enter Tryz.func8, Tryz.ntmps8
  go_wp2
  have BW : Hid (Below u.heap.size u (u.alloc (Obj.cells #[.int .i64 wh, .int .i64 x, .int .i64 y] 37))) := rbel_al (Below.refl _ _)
  have RX : Hid (Row (u.alloc (Obj.cells #[.int .i64 wh, .int .i64 x, .int .i64 y] 37)) u.heap.size [.int .i64 wh, .int .i64 x, .int .i64 y]) := Row.made rfl
  generalize (u.alloc (Obj.cells #[.int .i64 wh, .int .i64 x, .int .i64 y] 37)) = W at *
  have HW : Hid (NN W.drew mb L N) := NN.on (rbel_dr BW.out) HR.out
  have c0 := HW.out.r.c 0 _ rfl
  have x0 := RX.out.c 0 _ rfl
  have x1 := RX.out.c 1 _ rfl
  have x2 := RX.out.c 2 _ rfl
  have lb : mb < W.heap.size := HW.out.r.lt
  have lx : u.heap.size < W.heap.size := RX.out.lt
  go_region_held (fun w' => w'.cell? ⟨mb, 0, none⟩ = some (.pointer (some ⟨L.wb, 0, none⟩)) ∧ w'.cell? ⟨u.heap.size, 0, none⟩ = some (.int .i64 wh) ∧ w'.cell? ⟨u.heap.size, 1, none⟩ = some (.int .i64 x) ∧ w'.cell? ⟨u.heap.size, 2, none⟩ = some (.int .i64 y)) (go_keep) (first
    | (go_at_call 22; go_loud (refine (cD _ HW.out.w).mono ?_; rintro o u2 ⟨v', rfl, hG⟩; have N2 : Hid (NN u2 mb { L with v := v', tg := fun k => if k < W.drew.heap.size then L.tg k else 2 } ⟨S', N.p, N.nd⟩) := NN.world HW.out hS hG.1 hG.2; have K2 : Hid (Kpn u u2 mb N.W.n L { L with v := v', tg := fun k => if k < W.drew.heap.size then L.tg k else 2 }) := (Kpn.same (rbel_dr BW.out)).trans (NN.kpw HW.out rfl hG.2); have R2 : Hid (Row u2 u.heap.size [.int .i64 wh, .int .i64 x, .int .i64 y]) := Keeps.row hG.2.1 (fun q => by have := HLW.out u.heap.size (q.elim Or.inl (fun e => Or.inr (Or.inr e))); omega) (Row.dr RX.out); have d0 := N2.out.r.c 0 _ rfl; have y0 := R2.out.c 0 _ rfl; have y1 := R2.out.c 1 _ rfl; have y2 := R2.out.c 2 _ rfl; clear hG)))
  go_wp2
  go_ret
  exact ⟨rfl, _, N2.out, K2.out⟩
set_option maxRecDepth 100000 in
set_option maxHeartbeats 8000000 in
theorem ndo_nil (h : NN u mb L N) (wh x y : Int) (S' : Ws) (hS : S'.n = N.W.n) (cD : ∀ W : World, PW W L.wb L.cb L.cc N.W L.v → Calls Tryz.prog 22 #[.pointer (some ⟨L.wb, 0, none⟩), .agg #[.int .i64 wh, .int .i64 x, .int .i64 y]] W fun o w' => ∃ v', o = .returned (.tuple #[.pointer none, .nilIface]) ∧ Gp W w' L.wb L.cb L.cc L.v S' v') :
    Calls Tryz.prog 8 #[.pointer (some ⟨mb, 0, none⟩), .agg #[.int .i64 wh, .int .i64 x, .int .i64 y]] u fun o w' => o = .returned .nilIface ∧ ∃ L', NN w' mb L' ⟨S', N.p, N.nd⟩ ∧ Kpn u w' mb N.W.n L L' := by
  have HR : Hid (NN u mb L N) := h
  have HLW : Hid (∀ j, Fp L.wb L.cb L.v j → j < u.heap.size) := fun j hj => h.w.lt hj
  clear h
  go_enter Tryz.func8, Tryz.ntmps8
  go_wp2
  have BW : Hid (Below u.heap.size u (u.alloc (Obj.cells #[.int .i64 wh, .int .i64 x, .int .i64 y] 37))) := rbel_al (Below.refl _ _)
  have RX : Hid (Row (u.alloc (Obj.cells #[.int .i64 wh, .int .i64 x, .int .i64 y] 37)) u.heap.size [.int .i64 wh, .int .i64 x, .int .i64 y]) := Row.made rfl
  generalize (u.alloc (Obj.cells #[.int .i64 wh, .int .i64 x, .int .i64 y] 37)) = W at *
  have HW : Hid (NN W.drew mb L N) := NN.on (rbel_dr BW.out) HR.out
  have c0 := HW.out.r.c 0 _ rfl
  have x0 := RX.out.c 0 _ rfl
  have x1 := RX.out.c 1 _ rfl
  have x2 := RX.out.c 2 _ rfl
  have lb : mb < W.heap.size := HW.out.r.lt
  have lx : u.heap.size < W.heap.size := RX.out.lt
  go_region_held (fun w' => w'.cell? ⟨mb, 0, none⟩ = some (.pointer (some ⟨L.wb, 0, none⟩)) ∧ w'.cell? ⟨u.heap.size, 0, none⟩ = some (.int .i64 wh) ∧ w'.cell? ⟨u.heap.size, 1, none⟩ = some (.int .i64 x) ∧ w'.cell? ⟨u.heap.size, 2, none⟩ = some (.int .i64 y)) (go_keep) (first
    | (go_at_call 22; go_loud (refine (cD _ HW.out.w).mono ?_; rintro o u2 ⟨v', rfl, hG⟩; have N2 : Hid (NN u2 mb { L with v := v', tg := fun k => if k < W.drew.heap.size then L.tg k else 2 } ⟨S', N.p, N.nd⟩) := NN.world HW.out hS hG.1 hG.2; have K2 : Hid (Kpn u u2 mb N.W.n L { L with v := v', tg := fun k => if k < W.drew.heap.size then L.tg k else 2 }) := (Kpn.same (rbel_dr BW.out)).trans (NN.kpw HW.out rfl hG.2); have R2 : Hid (Row u2 u.heap.size [.int .i64 wh, .int .i64 x, .int .i64 y]) := Keeps.row hG.2.1 (fun q => by have := HLW.out u.heap.size (q.elim Or.inl (fun e => Or.inr (Or.inr e))); omega) (Row.dr RX.out); have d0 := N2.out.r.c 0 _ rfl; have y0 := R2.out.c 0 _ rfl; have y1 := R2.out.c 1 _ rfl; have y2 := R2.out.c 2 _ rfl; clear hG)))
  go_wp2
  go_ret
  exact ⟨rfl, _, N2.out, K2.out⟩
set_option maxRecDepth 100000 in
set_option maxHeartbeats 8000000 in
theorem ndo_some (h : NN u mb L N) (wh x y : Int) (S' : Ws) (hS : S'.n = N.W.n) (l1 l2 : Int) (l3 : Bool) (l4 l5 l6 : Int) (ev : Value) (N' : Nn) (cD : ∀ W : World, PW W L.wb L.cb L.cc N.W L.v → Calls Tryz.prog 22 #[.pointer (some ⟨L.wb, 0, none⟩), .agg #[.int .i64 wh, .int .i64 x, .int .i64 y]] W fun o w' => ∃ v' g, o = .returned (.tuple #[.pointer (some ⟨g, 0, none⟩), .nilIface]) ∧ Gp W w' L.wb L.cb L.cc L.v S' v' ∧ Row w' g [.int .i64 l1, .int .i64 l2, .bool l3, .int .i64 l4, .int .i64 l5, .int .i64 l6]) (cC : ∀ (W : World) (L2 : Nly), NN W mb L2 ⟨S', N.p, N.nd⟩ → Calls Tryz.prog 23 #[.pointer (some ⟨mb, 0, none⟩), .agg #[.int .i64 l1, .int .i64 l2, .bool l3, .int .i64 l4, .int .i64 l5, .int .i64 l6]] W fun o w' => o = .returned ev ∧ ∃ L', NN w' mb L' N' ∧ Kpn W w' mb N.W.n L2 L') :
    Calls Tryz.prog 8 #[.pointer (some ⟨mb, 0, none⟩), .agg #[.int .i64 wh, .int .i64 x, .int .i64 y]] u fun o w' => o = .returned ev ∧ ∃ L', NN w' mb L' N' ∧ Kpn u w' mb N.W.n L L' := by
  have HR : Hid (NN u mb L N) := h
  have HLW : Hid (∀ j, Fp L.wb L.cb L.v j → j < u.heap.size) := fun j hj => h.w.lt hj
  clear h
  go_enter Tryz.func8, Tryz.ntmps8
  go_wp2
  have BW : Hid (Below u.heap.size u (u.alloc (Obj.cells #[.int .i64 wh, .int .i64 x, .int .i64 y] 37))) := rbel_al (Below.refl _ _)
  have RX : Hid (Row (u.alloc (Obj.cells #[.int .i64 wh, .int .i64 x, .int .i64 y] 37)) u.heap.size [.int .i64 wh, .int .i64 x, .int .i64 y]) := Row.made rfl
  generalize (u.alloc (Obj.cells #[.int .i64 wh, .int .i64 x, .int .i64 y] 37)) = W at *
  have HW : Hid (NN W.drew mb L N) := NN.on (rbel_dr BW.out) HR.out
  have c0 := HW.out.r.c 0 _ rfl
  have x0 := RX.out.c 0 _ rfl
  have x1 := RX.out.c 1 _ rfl
  have x2 := RX.out.c 2 _ rfl
  have lb : mb < W.heap.size := HW.out.r.lt
  have lx : u.heap.size < W.heap.size := RX.out.lt
  go_region_held (fun w' => w'.cell? ⟨mb, 0, none⟩ = some (.pointer (some ⟨L.wb, 0, none⟩)) ∧ w'.cell? ⟨u.heap.size, 0, none⟩ = some (.int .i64 wh) ∧ w'.cell? ⟨u.heap.size, 1, none⟩ = some (.int .i64 x) ∧ w'.cell? ⟨u.heap.size, 2, none⟩ = some (.int .i64 y)) (go_keep) (first
    | (go_at_call 22; go_loud (refine (cD _ HW.out.w).mono ?_; rintro o u2 ⟨v', g, rfl, hG, hl⟩; have N2 : Hid (NN u2 mb { L with v := v', tg := fun k => if k < W.drew.heap.size then L.tg k else 2 } ⟨S', N.p, N.nd⟩) := NN.world HW.out hS hG.1 hG.2; have K2 : Hid (Kpn u u2 mb N.W.n L { L with v := v', tg := fun k => if k < W.drew.heap.size then L.tg k else 2 }) := (Kpn.same (rbel_dr BW.out)).trans (NN.kpw HW.out rfl hG.2); have R2 : Hid (Row u2 u.heap.size [.int .i64 wh, .int .i64 x, .int .i64 y]) := Keeps.row hG.2.1 (fun q => by have := HLW.out u.heap.size (q.elim Or.inl (fun e => Or.inr (Or.inr e))); omega) (Row.dr RX.out); have d0 := N2.out.r.c 0 _ rfl; have y0 := R2.out.c 0 _ rfl; have y1 := R2.out.c 1 _ rfl; have y2 := R2.out.c 2 _ rfl; have g0 := hl.c 0 _ rfl; have g1 := hl.c 1 _ rfl; have g2 := hl.c 2 _ rfl; have g3 := hl.c 3 _ rfl; have g4 := hl.c 4 _ rfl; have g5 := hl.c 5 _ rfl; clear hl; clear hG)))
  go_wp2_with (go_at_call 23; go_loud (refine (cC _ _ N2.out).mono ?_; rintro o u3 ⟨rfl, L3, hN, hK⟩; have N3 : Hid (NN u3 mb L3 N') := hN; have K3 : Hid (Kpn u u3 mb N.W.n L L3) := K2.out.trans hK; clear hN hK))
  go_ret
  exact ⟨rfl, _, N3.out, K3.out⟩
end
end Go.Proofs.YtigcliepeapcpajGreatDoor
