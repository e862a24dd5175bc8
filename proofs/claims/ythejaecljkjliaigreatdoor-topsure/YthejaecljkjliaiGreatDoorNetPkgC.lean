/- Package net: what a letter does that came. -/
import Derived.Test.YthejaecljkjliaiGreatDoorNetPkgA
import Derived.Test.YthejaecljkjliaiGreatDoorWorldPkgAn
import Derived.Deep.RegionWith
import Derived.Deep.CutRange
import Derived.Deep.CutBlock
namespace Go.Proofs.YthejaecljkjliaiGreatDoor
open Go.ChangeShapes Go.WideShapes Go.ChangeAt Go.RowKit Go.Joins
set_option linter.unusedVariables false
set_option linter.unusedSimpArgs false

section
variable {u : World} {mb : Nat} {L : Nly} {N : Nn}
set_option maxRecDepth 100000 in
set_option maxHeartbeats 8000000 in
theorem pcome_ans (h : NN u mb L N) (g : N.W.I) (k : Nat) (hk : k < N.W.n) (x t1 t2 t3 rd : Int) (B : Bool) (c' : Nd) (cR : ∀ W : World, Below u.heap.size u W → Calls Tryz.prog 39 #[.pointer (some ⟨L.wb, 0, none⟩), .int .i64 (k : Int)] W fun o w' => o = .returned (.tuple #[.int .i64 rd, .nilIface]) ∧ Below W.heap.size W w') (cH : ∀ W : World, Below u.heap.size u W → Calls Tryz.prog 53 #[.pointer (some ⟨L.b k, 0, none⟩), .agg #[.int .i64 x, .int .i64 (k : Int), .bool true, .int .i64 t1, .int .i64 t2, .int .i64 t3], .int .i64 rd] W fun o w' => o = .returned (.tuple #[.bool B, .nilIface]) ∧ PN w' (L.b k) (L.m k) c' ∧ Keeps (Fn (L.b k) (L.m k)) W w')  :
    Calls Tryz.prog 30 #[.pointer (some ⟨mb, 0, none⟩), .agg #[.int .i64 x, .int .i64 (k : Int), .bool true, .int .i64 t1, .int .i64 t2, .int .i64 t3]] u fun o w' => o = .returned .nilIface ∧ ∃ L', NN w' mb L' ⟨N.W, N.p, updN N.nd k c'⟩ ∧ Kpn u w' mb N.W.n L L' := by
  have HR : Hid (NN u mb L N) := h
  have l0 := h.r.lt
  have n6 := g.n6
  have hk3 : (k : Int) < (N.W.n : Int) := by omega
  have hc3 : N.W.n ≤ L.nc := h.c
  clear g
  clear h
  go_enter Tryz.func30, Tryz.ntmps30
  go_wp2
  have BW : Hid (Below u.heap.size u (u.alloc (Obj.cells #[.int .i64 x, .int .i64 (k : Int), .bool true, .int .i64 t1, .int .i64 t2, .int .i64 t3] 98))) := rbel_al (Below.refl _ _)
  have RX : Hid (Row (u.alloc (Obj.cells #[.int .i64 x, .int .i64 (k : Int), .bool true, .int .i64 t1, .int .i64 t2, .int .i64 t3] 98)) u.heap.size [.int .i64 x, .int .i64 (k : Int), .bool true, .int .i64 t1, .int .i64 t2, .int .i64 t3]) := Row.made rfl
  generalize (u.alloc (Obj.cells #[.int .i64 x, .int .i64 (k : Int), .bool true, .int .i64 t1, .int .i64 t2, .int .i64 t3] 98)) = W at *
  have HW : Hid (NN W mb L N) := NN.on BW.out HR.out
  have c0 := HW.out.r.c 0 _ rfl
  have x1 := RX.out.c 1 _ rfl
  have lb : mb < W.heap.size := HW.out.r.lt
  have lx : u.heap.size < W.heap.size := RX.out.lt
  go_region_held (fun w' => w'.cell? ⟨mb, 0, none⟩ = some (.pointer (some ⟨L.wb, 0, none⟩)) ∧ w'.cell? ⟨u.heap.size, 1, none⟩ = some (.int .i64 (k : Int))) (go_keep) (first
    | (go_at_call 39; refine (cR _ (rbel_dr BW.out)).mono ?_; rintro o u2 ⟨rfl, hb⟩; have B2 : Hid (Below u.heap.size u u2) := rbel_on hb (rbel_dr BW.out); have R2 : Hid (Row u2 u.heap.size [.int .i64 x, .int .i64 (k : Int), .bool true, .int .i64 t1, .int .i64 t2, .int .i64 t3]) := Row.on hb (Row.dr RX.out); have H2 : Hid (NN u2 mb L N) := NN.on B2.out HR.out; have d0 := H2.out.r.c 0 _ rfl; have d1 := R2.out.c 1 _ rfl; clear hb))
  go_wp2
  clear c0 x1 d0 d1 lb lx HW RX BW
  have c1 := H2.out.r.c 1 _ rfl
  have pk := H2.out.p k hk
  have y0 := R2.out.c 0 _ rfl
  have y1 := R2.out.c 1 _ rfl
  have y2 := R2.out.c 2 _ rfl
  have y3 := R2.out.c 3 _ rfl
  have y4 := R2.out.c 4 _ rfl
  have y5 := R2.out.c 5 _ rfl
  have lb : mb < u2.heap.size := H2.out.r.lt
  have ln : L.nb < u2.heap.size := H2.out.nl
  have lx : u.heap.size < u2.heap.size := R2.out.lt
  go_region_held (fun w' => w'.cell? ⟨mb, 1, none⟩ = some (.slice (some ⟨L.nb, 0, none⟩) N.W.n L.nc) ∧ w'.cell? ⟨L.nb, k, none⟩ = some (.pointer (some ⟨L.b k, 0, none⟩)) ∧ w'.cell? ⟨u.heap.size, 0, none⟩ = some (.int .i64 x) ∧ w'.cell? ⟨u.heap.size, 1, none⟩ = some (.int .i64 (k : Int)) ∧ w'.cell? ⟨u.heap.size, 2, none⟩ = some (.bool true) ∧ w'.cell? ⟨u.heap.size, 3, none⟩ = some (.int .i64 t1) ∧ w'.cell? ⟨u.heap.size, 4, none⟩ = some (.int .i64 t2) ∧ w'.cell? ⟨u.heap.size, 5, none⟩ = some (.int .i64 t3)) (go_keep) (first
    | (go_at_call 53; refine (cH _ (rbel_dr B2.out)).mono ?_; rintro o u3 ⟨rfl, hP, hK⟩; have K3 : Hid (Keeps (Fn (L.b k) (L.m k)) u2 u3) := Keeps.trans (Keeps.of (rbel_dr (Below.refl _ _))) hK; have P3 : Hid (PN u3 (L.b k) (L.m k) c') := hP; have N3 : Hid (NN u3 mb L { N with nd := updN N.nd k c' }) := NN.node H2.out hk K3.out P3.out; have R3 : Hid (Row u3 u.heap.size [.int .i64 x, .int .i64 (k : Int), .bool true, .int .i64 t1, .int .i64 t2, .int .i64 t3]) := Keeps.row K3.out (fun q => by have q1 := (HR.out.d k hk).lt; have q2 := (HR.out.d k hk).ltM; rcases q with q | q <;> omega) R2.out; have z1 := N3.out.r.c 1 _ rfl; have z2 := N3.out.p k hk; have a0 := R3.out.c 0 _ rfl; have a1 := R3.out.c 1 _ rfl; have a2 := R3.out.c 2 _ rfl; have a3 := R3.out.c 3 _ rfl; have a4 := R3.out.c 4 _ rfl; have a5 := R3.out.c 5 _ rfl; clear hP hK))
  go_wp2
  go_ret
  exact ⟨rfl, L, N3.out, (Kpn.same B2.out).trans (NN.kpn rfl hk K3.out)⟩
set_option maxRecDepth 100000 in
set_option maxHeartbeats 8000000 in
theorem pcome_ask (h : NN u mb L N) (g : N.W.I) (k : Nat) (hk : k < N.W.n) (x t1 t2 t3 rd : Int) (B : Bool) (c' : Nd) (cR : ∀ W : World, Below u.heap.size u W → Calls Tryz.prog 39 #[.pointer (some ⟨L.wb, 0, none⟩), .int .i64 (k : Int)] W fun o w' => o = .returned (.tuple #[.int .i64 rd, .nilIface]) ∧ Below W.heap.size W w') (cH : ∀ W : World, Below u.heap.size u W → Calls Tryz.prog 53 #[.pointer (some ⟨L.b k, 0, none⟩), .agg #[.int .i64 x, .int .i64 (k : Int), .bool false, .int .i64 t1, .int .i64 t2, .int .i64 t3], .int .i64 rd] W fun o w' => o = .returned (.tuple #[.bool B, .nilIface]) ∧ PN w' (L.b k) (L.m k) c' ∧ Keeps (Fn (L.b k) (L.m k)) W w') (ev : Value) (S' : Ws) (hS : S'.n = N.W.n) (cA : ∀ W : World, PW W L.wb L.cb L.cc N.W L.v → Calls Tryz.prog 54 #[.pointer (some ⟨L.wb, 0, none⟩), .agg #[.int .i64 x, .int .i64 (k : Int), .bool false, .int .i64 t1, .int .i64 t2, .int .i64 t3]] W fun o w' => o = .returned ev ∧ ∃ v', Gp W w' L.wb L.cb L.cc L.v S' v') :
    Calls Tryz.prog 30 #[.pointer (some ⟨mb, 0, none⟩), .agg #[.int .i64 x, .int .i64 (k : Int), .bool false, .int .i64 t1, .int .i64 t2, .int .i64 t3]] u fun o w' => o = .returned ev ∧ ∃ L', NN w' mb L' ⟨S', N.p, updN N.nd k c'⟩ ∧ Kpn u w' mb N.W.n L L' := by
  have HR : Hid (NN u mb L N) := h
  have l0 := h.r.lt
  have n6 := g.n6
  have hk3 : (k : Int) < (N.W.n : Int) := by omega
  have hc3 : N.W.n ≤ L.nc := h.c
  clear g
  have hlw : ∀ j, Fp L.wb L.cb L.v j → j < u.heap.size := fun j hj => h.w.lt hj
  have HLW : Hid (∀ j, Fp L.wb L.cb L.v j → j < u.heap.size) := hlw
  clear hlw
  clear h
  go_enter Tryz.func30, Tryz.ntmps30
  go_wp2
  have BW : Hid (Below u.heap.size u (u.alloc (Obj.cells #[.int .i64 x, .int .i64 (k : Int), .bool false, .int .i64 t1, .int .i64 t2, .int .i64 t3] 98))) := rbel_al (Below.refl _ _)
  have RX : Hid (Row (u.alloc (Obj.cells #[.int .i64 x, .int .i64 (k : Int), .bool false, .int .i64 t1, .int .i64 t2, .int .i64 t3] 98)) u.heap.size [.int .i64 x, .int .i64 (k : Int), .bool false, .int .i64 t1, .int .i64 t2, .int .i64 t3]) := Row.made rfl
  generalize (u.alloc (Obj.cells #[.int .i64 x, .int .i64 (k : Int), .bool false, .int .i64 t1, .int .i64 t2, .int .i64 t3] 98)) = W at *
  have HW : Hid (NN W mb L N) := NN.on BW.out HR.out
  have c0 := HW.out.r.c 0 _ rfl
  have x1 := RX.out.c 1 _ rfl
  have lb : mb < W.heap.size := HW.out.r.lt
  have lx : u.heap.size < W.heap.size := RX.out.lt
  go_region_held (fun w' => w'.cell? ⟨mb, 0, none⟩ = some (.pointer (some ⟨L.wb, 0, none⟩)) ∧ w'.cell? ⟨u.heap.size, 1, none⟩ = some (.int .i64 (k : Int))) (go_keep) (first
    | (go_at_call 39; refine (cR _ (rbel_dr BW.out)).mono ?_; rintro o u2 ⟨rfl, hb⟩; have B2 : Hid (Below u.heap.size u u2) := rbel_on hb (rbel_dr BW.out); have R2 : Hid (Row u2 u.heap.size [.int .i64 x, .int .i64 (k : Int), .bool false, .int .i64 t1, .int .i64 t2, .int .i64 t3]) := Row.on hb (Row.dr RX.out); have H2 : Hid (NN u2 mb L N) := NN.on B2.out HR.out; have d0 := H2.out.r.c 0 _ rfl; have d1 := R2.out.c 1 _ rfl; clear hb))
  go_wp2
  clear c0 x1 d0 d1 lb lx HW RX BW
  have c1 := H2.out.r.c 1 _ rfl
  have pk := H2.out.p k hk
  have y0 := R2.out.c 0 _ rfl
  have y1 := R2.out.c 1 _ rfl
  have y2 := R2.out.c 2 _ rfl
  have y3 := R2.out.c 3 _ rfl
  have y4 := R2.out.c 4 _ rfl
  have y5 := R2.out.c 5 _ rfl
  have lb : mb < u2.heap.size := H2.out.r.lt
  have ln : L.nb < u2.heap.size := H2.out.nl
  have lx : u.heap.size < u2.heap.size := R2.out.lt
  go_region_held (fun w' => w'.cell? ⟨mb, 1, none⟩ = some (.slice (some ⟨L.nb, 0, none⟩) N.W.n L.nc) ∧ w'.cell? ⟨L.nb, k, none⟩ = some (.pointer (some ⟨L.b k, 0, none⟩)) ∧ w'.cell? ⟨u.heap.size, 0, none⟩ = some (.int .i64 x) ∧ w'.cell? ⟨u.heap.size, 1, none⟩ = some (.int .i64 (k : Int)) ∧ w'.cell? ⟨u.heap.size, 2, none⟩ = some (.bool false) ∧ w'.cell? ⟨u.heap.size, 3, none⟩ = some (.int .i64 t1) ∧ w'.cell? ⟨u.heap.size, 4, none⟩ = some (.int .i64 t2) ∧ w'.cell? ⟨u.heap.size, 5, none⟩ = some (.int .i64 t3)) (go_keep) (first
    | (go_at_call 53; refine (cH _ (rbel_dr B2.out)).mono ?_; rintro o u3 ⟨rfl, hP, hK⟩; have K3 : Hid (Keeps (Fn (L.b k) (L.m k)) u2 u3) := Keeps.trans (Keeps.of (rbel_dr (Below.refl _ _))) hK; have P3 : Hid (PN u3 (L.b k) (L.m k) c') := hP; have N3 : Hid (NN u3 mb L { N with nd := updN N.nd k c' }) := NN.node H2.out hk K3.out P3.out; have R3 : Hid (Row u3 u.heap.size [.int .i64 x, .int .i64 (k : Int), .bool false, .int .i64 t1, .int .i64 t2, .int .i64 t3]) := Keeps.row K3.out (fun q => by have q1 := (HR.out.d k hk).lt; have q2 := (HR.out.d k hk).ltM; rcases q with q | q <;> omega) R2.out; have z1 := N3.out.r.c 1 _ rfl; have z2 := N3.out.p k hk; have a0 := R3.out.c 0 _ rfl; have a1 := R3.out.c 1 _ rfl; have a2 := R3.out.c 2 _ rfl; have a3 := R3.out.c 3 _ rfl; have a4 := R3.out.c 4 _ rfl; have a5 := R3.out.c 5 _ rfl; clear hP hK))
  go_wp2
  clear c1 pk y0 y1 y2 y3 y4 y5 lb ln lx z1 z2
  have c0 := N3.out.r.c 0 _ rfl
  have lb : mb < u3.heap.size := N3.out.r.lt
  have lx : u.heap.size < u3.heap.size := R3.out.lt
  have N3d : Hid (NN u3.drew mb L { N with nd := updN N.nd k c' }) := NN.on (rbel_dr (Below.refl _ _)) N3.out
  have K3u : Hid (Kpn u u3.drew mb N.W.n L L) := ((Kpn.same B2.out).trans (NN.kpn rfl hk K3.out)).trans (Kpn.same (rbel_dr (Below.refl _ _)))
  go_region_held (fun w' => w'.cell? ⟨mb, 0, none⟩ = some (.pointer (some ⟨L.wb, 0, none⟩)) ∧ w'.cell? ⟨u.heap.size, 0, none⟩ = some (.int .i64 x) ∧ w'.cell? ⟨u.heap.size, 1, none⟩ = some (.int .i64 (k : Int)) ∧ w'.cell? ⟨u.heap.size, 2, none⟩ = some (.bool false) ∧ w'.cell? ⟨u.heap.size, 3, none⟩ = some (.int .i64 t1) ∧ w'.cell? ⟨u.heap.size, 4, none⟩ = some (.int .i64 t2) ∧ w'.cell? ⟨u.heap.size, 5, none⟩ = some (.int .i64 t3)) (go_keep) (first
    | (go_at_call 54; refine (cA _ N3d.out.w).mono ?_; rintro o u4 ⟨rfl, v', hG⟩; have N4 : Hid (NN u4 mb { L with v := v', tg := fun k => if k < u3.drew.heap.size then L.tg k else 2 } ⟨S', N.p, updN N.nd k c'⟩) := NN.world N3d.out hS hG.1 hG.2; have K4 : Hid (Kpn u3.drew u4 mb N.W.n L { L with v := v', tg := fun k => if k < u3.drew.heap.size then L.tg k else 2 }) := NN.kpw (N := { N with nd := updN N.nd k c' }) N3d.out rfl hG.2; have R4 : Hid (Row u4 u.heap.size [.int .i64 x, .int .i64 (k : Int), .bool false, .int .i64 t1, .int .i64 t2, .int .i64 t3]) := Keeps.row hG.2.1 (fun q => by have := HLW.out u.heap.size (q.elim Or.inl (fun e => Or.inr (Or.inr e))); omega) (Row.dr R3.out); have b0 := N4.out.r.c 0 _ rfl; have e0 := R4.out.c 0 _ rfl; have e1 := R4.out.c 1 _ rfl; have e2 := R4.out.c 2 _ rfl; have e3 := R4.out.c 3 _ rfl; have e4 := R4.out.c 4 _ rfl; have e5 := R4.out.c 5 _ rfl; clear hG))
  go_wp2
  go_ret
  exact ⟨rfl, _, N4.out, K3u.out.trans K4.out⟩
end
end Go.Proofs.YthejaecljkjliaiGreatDoor
