/- Package net: what Read of its world answers. Package net: what a letter does that came. Package net: Do. Package net: an act, whatever it is. Package net: New. Package net: New and Do, as the laws want them. Package node, as it landed: Edges. Package net: Edges. Package net: isNode. Package net: Offset. Package net: New, Do and Offset, as the laws want them. Package net: Wide. Package net, as NetAll wants it. Package net: Show. -/
import Derived.Test.YtadkgnbagmnkkakGreatDoorNm14
import Derived.Test.YtadkgnbagmnkkakGreatDoorNm15
import Derived.Lib.SmallJoins
import Derived.Deep.QuietTactic
import Derived.BigQuiet
import Derived.BigRegion
import Derived.IntWalk
import Derived.Deep.RegionWith
import Derived.Deep.CutRange
import Derived.Deep.CutBlock
import Derived.Test.YtadkgnbagmnkkakGreatDoorNm17
import Derived.Test.YtadkgnbagmnkkakGreatDoorNm16
import Derived.Test.YtadkgnbagmnkkakGreatDoorNm05
import Derived.Test.YtadkgnbagmnkkakGreatDoorNm06
import Derived.Test.YtadkgnbagmnkkakGreatDoorNm18
namespace Go.Proofs.YtadkgnbagmnkkakGreatDoor
open Go.ChangeShapes Go.WideShapes Go.ChangeAt Go.RowKit Go.Joins
set_option linter.unusedVariables false
set_option linter.unusedSimpArgs false

section
variable {u : World} {mb : Nat} {L : Nly} {N : Nn}
theorem read_yes {cb cc : Nat} {S : Ws} {v : Value} {wb : Nat} (h : PW u wb cb cc S v) (g : S.I) {i : Int} (hs : S.hs i) : Calls Tryz.prog 121 #[.pointer (some ⟨wb, 0, none⟩), .int .i64 i] u fun o w' => o = .returned (.tuple #[.int .i64 (S.rd i.toNat), errc 0]) ∧ Below u.heap.size u w' :=
 (wread_any h g i).mono fun _ _ ⟨q, hw⟩ => q.elim (fun q => ⟨q.2, hw⟩) (fun q => absurd hs q.1)
theorem read_no {cb cc : Nat} {S : Ws} {v : Value} {wb : Nat} (h : PW u wb cb cc S v) (g : S.I) {i : Int} (hs : ¬ S.hs i) : Calls Tryz.prog 121 #[.pointer (some ⟨wb, 0, none⟩), .int .i64 i] u fun o w' => o = .returned (.tuple #[.int .i64 0, errc 1]) ∧ Below u.heap.size u w' :=
 (wread_any h g i).mono fun _ _ ⟨q, hw⟩ => q.elim (fun q => absurd q.1 hs) (fun q => ⟨q.2, hw⟩)
end
set_option maxHeartbeats 8000000
set_option maxRecDepth 100000
section
variable {u : World} {mb : Nat} {L : Nly} {N : Nn}
theorem pcome_ans (h : NN u mb L N) (g : N.W.I) (k : Nat) (hk : k < N.W.n) (x t1 t2 t3 rd : Int) (B : Bool) (c' : Nd) (cR : ∀ W : World, Below u.heap.size u W → Calls Tryz.prog 121 #[.pointer (some ⟨L.wb, 0, none⟩), .int .i64 (k : Int)] W fun o w' => o = .returned (.tuple #[.int .i64 rd, .nilIface]) ∧ Below W.heap.size W w') (cH : ∀ W : World, Below u.heap.size u W → Calls Tryz.prog 148 #[.pointer (some ⟨L.b k, 0, none⟩), .agg #[.int .i64 x, .int .i64 (k : Int), .bool true, .int .i64 t1, .int .i64 t2, .int .i64 t3], .int .i64 rd] W fun o w' => o = .returned (.tuple #[.bool B, .nilIface]) ∧ PN w' (L.b k) (L.m k) c' ∧ Keeps (Fn (L.b k) (L.m k)) W w')  :
  Calls Tryz.prog 120 #[.pointer (some ⟨mb, 0, none⟩), .agg #[.int .i64 x, .int .i64 (k : Int), .bool true, .int .i64 t1, .int .i64 t2, .int .i64 t3]] u fun o w' => o = .returned .nilIface ∧ ∃ L', NN w' mb L' ⟨N.W, N.p, updN N.nd k c'⟩ ∧ Kpn u w' mb N.W.n L L' := by
 have HR : Hid (NN u mb L N) := h
 have l0 := h.r.lt
 have n6 := g.n6
 have hk3 : (k : Int) < (N.W.n : Int) := by omega
 have hc3 : N.W.n ≤ L.nc := h.c
 clear g
 clear h
 go_enter Tryz.func120, Tryz.ntmps120
 go_wp2
 have BW : Hid (Below u.heap.size u (u.alloc (Obj.cells #[.int .i64 x, .int .i64 (k : Int), .bool true, .int .i64 t1, .int .i64 t2, .int .i64 t3] 113))) := rbel_al (Below.refl _ _)
 have RX : Hid (Row (u.alloc (Obj.cells #[.int .i64 x, .int .i64 (k : Int), .bool true, .int .i64 t1, .int .i64 t2, .int .i64 t3] 113)) u.heap.size [.int .i64 x, .int .i64 (k : Int), .bool true, .int .i64 t1, .int .i64 t2, .int .i64 t3]) := Row.made rfl
 generalize (u.alloc (Obj.cells #[.int .i64 x, .int .i64 (k : Int), .bool true, .int .i64 t1, .int .i64 t2, .int .i64 t3] 113)) = W at *
 have HW : Hid (NN W mb L N) := NN.on BW.out HR.out
 have c0 := HW.out.r.c 0 _ rfl
 have x1 := RX.out.c 1 _ rfl
 have lb : mb < W.heap.size := HW.out.r.lt
 have lx : u.heap.size < W.heap.size := RX.out.lt
 go_region_held (fun w' => w'.cell? ⟨mb, 0, none⟩ = some (.pointer (some ⟨L.wb, 0, none⟩)) ∧ w'.cell? ⟨u.heap.size, 1, none⟩ = some (.int .i64 (k : Int))) (go_keep) (first
  | (go_at_call 121; refine (cR _ (rbel_dr BW.out)).mono ?_; rintro o u2 ⟨rfl, hb⟩; have B2 : Hid (Below u.heap.size u u2) := rbel_on hb (rbel_dr BW.out); have R2 : Hid (Row u2 u.heap.size [.int .i64 x, .int .i64 (k : Int), .bool true, .int .i64 t1, .int .i64 t2, .int .i64 t3]) := Row.on hb (Row.dr RX.out); have H2 : Hid (NN u2 mb L N) := NN.on B2.out HR.out; have d0 := H2.out.r.c 0 _ rfl; have d1 := R2.out.c 1 _ rfl; clear hb))
 go_wp2
 clear c0 x1 d0 d1 lb lx HW RX BW
 have c1 := H2.out.r.c 1 _ rfl
 have pk := H2.out.p k hk
 have y0 := R2.out.c 0 _ rfl
 have y1 := R2.out.c 1 _ rfl
 have y2 := R2.out.c 2 _ rfl
 have y3 := R2.out.c 3 _ rfl
 have y4 := R2.out.c 4 _ rfl
 have y5 := R2.out.c 5 _ rfl
 have lb : mb < u2.heap.size := H2.out.r.lt
 have ln : L.nb < u2.heap.size := H2.out.nl
 have lx : u.heap.size < u2.heap.size := R2.out.lt
 go_region_held (fun w' => w'.cell? ⟨mb, 1, none⟩ = some (.slice (some ⟨L.nb, 0, none⟩) N.W.n L.nc) ∧ w'.cell? ⟨L.nb, k, none⟩ = some (.pointer (some ⟨L.b k, 0, none⟩)) ∧ w'.cell? ⟨u.heap.size, 0, none⟩ = some (.int .i64 x) ∧ w'.cell? ⟨u.heap.size, 1, none⟩ = some (.int .i64 (k : Int)) ∧ w'.cell? ⟨u.heap.size, 2, none⟩ = some (.bool true) ∧ w'.cell? ⟨u.heap.size, 3, none⟩ = some (.int .i64 t1) ∧ w'.cell? ⟨u.heap.size, 4, none⟩ = some (.int .i64 t2) ∧ w'.cell? ⟨u.heap.size, 5, none⟩ = some (.int .i64 t3)) (go_keep) (first
  | (go_at_call 148; refine (cH _ (rbel_dr B2.out)).mono ?_; rintro o u3 ⟨rfl, hP, hK⟩; have K3 : Hid (Keeps (Fn (L.b k) (L.m k)) u2 u3) := Keeps.trans (Keeps.of (rbel_dr (Below.refl _ _))) hK; have P3 : Hid (PN u3 (L.b k) (L.m k) c') := hP; have N3 : Hid (NN u3 mb L { N with nd := updN N.nd k c' }) := NN.node H2.out hk K3.out P3.out; have R3 : Hid (Row u3 u.heap.size [.int .i64 x, .int .i64 (k : Int), .bool true, .int .i64 t1, .int .i64 t2, .int .i64 t3]) := Keeps.row K3.out (fun q => by have q1 := (HR.out.d k hk).lt; have q2 := (HR.out.d k hk).ltM; rcases q with q | q <;> omega) R2.out; have z1 := N3.out.r.c 1 _ rfl; have z2 := N3.out.p k hk; have a0 := R3.out.c 0 _ rfl; have a1 := R3.out.c 1 _ rfl; have a2 := R3.out.c 2 _ rfl; have a3 := R3.out.c 3 _ rfl; have a4 := R3.out.c 4 _ rfl; have a5 := R3.out.c 5 _ rfl; clear hP hK))
 go_wp2
 go_ret
 exact ⟨rfl, L, N3.out, (Kpn.same B2.out).trans (NN.kpn rfl hk K3.out)⟩
theorem pcome_ask (h : NN u mb L N) (g : N.W.I) (k : Nat) (hk : k < N.W.n) (x t1 t2 t3 rd : Int) (B : Bool) (c' : Nd) (cR : ∀ W : World, Below u.heap.size u W → Calls Tryz.prog 121 #[.pointer (some ⟨L.wb, 0, none⟩), .int .i64 (k : Int)] W fun o w' => o = .returned (.tuple #[.int .i64 rd, .nilIface]) ∧ Below W.heap.size W w') (cH : ∀ W : World, Below u.heap.size u W → Calls Tryz.prog 148 #[.pointer (some ⟨L.b k, 0, none⟩), .agg #[.int .i64 x, .int .i64 (k : Int), .bool false, .int .i64 t1, .int .i64 t2, .int .i64 t3], .int .i64 rd] W fun o w' => o = .returned (.tuple #[.bool B, .nilIface]) ∧ PN w' (L.b k) (L.m k) c' ∧ Keeps (Fn (L.b k) (L.m k)) W w') (ev : Value) (S' : Ws) (hS : S'.n = N.W.n) (cA : ∀ W : World, PW W L.wb L.cb L.cc N.W L.v → Calls Tryz.prog 149 #[.pointer (some ⟨L.wb, 0, none⟩), .agg #[.int .i64 x, .int .i64 (k : Int), .bool false, .int .i64 t1, .int .i64 t2, .int .i64 t3]] W fun o w' => o = .returned ev ∧ ∃ v', Gp W w' L.wb L.cb L.cc L.v S' v') :
  Calls Tryz.prog 120 #[.pointer (some ⟨mb, 0, none⟩), .agg #[.int .i64 x, .int .i64 (k : Int), .bool false, .int .i64 t1, .int .i64 t2, .int .i64 t3]] u fun o w' => o = .returned ev ∧ ∃ L', NN w' mb L' ⟨S', N.p, updN N.nd k c'⟩ ∧ Kpn u w' mb N.W.n L L' := by
 have HR : Hid (NN u mb L N) := h
 have l0 := h.r.lt
 have n6 := g.n6
 have hk3 : (k : Int) < (N.W.n : Int) := by omega
 have hc3 : N.W.n ≤ L.nc := h.c
 clear g
 have hlw : ∀ j, Fp L.wb L.cb L.v j → j < u.heap.size := fun j hj => h.w.lt hj
 have HLW : Hid (∀ j, Fp L.wb L.cb L.v j → j < u.heap.size) := hlw
 clear hlw
 clear h
 go_enter Tryz.func120, Tryz.ntmps120
 go_wp2
 have BW : Hid (Below u.heap.size u (u.alloc (Obj.cells #[.int .i64 x, .int .i64 (k : Int), .bool false, .int .i64 t1, .int .i64 t2, .int .i64 t3] 113))) := rbel_al (Below.refl _ _)
 have RX : Hid (Row (u.alloc (Obj.cells #[.int .i64 x, .int .i64 (k : Int), .bool false, .int .i64 t1, .int .i64 t2, .int .i64 t3] 113)) u.heap.size [.int .i64 x, .int .i64 (k : Int), .bool false, .int .i64 t1, .int .i64 t2, .int .i64 t3]) := Row.made rfl
 generalize (u.alloc (Obj.cells #[.int .i64 x, .int .i64 (k : Int), .bool false, .int .i64 t1, .int .i64 t2, .int .i64 t3] 113)) = W at *
 have HW : Hid (NN W mb L N) := NN.on BW.out HR.out
 have c0 := HW.out.r.c 0 _ rfl
 have x1 := RX.out.c 1 _ rfl
 have lb : mb < W.heap.size := HW.out.r.lt
 have lx : u.heap.size < W.heap.size := RX.out.lt
 go_region_held (fun w' => w'.cell? ⟨mb, 0, none⟩ = some (.pointer (some ⟨L.wb, 0, none⟩)) ∧ w'.cell? ⟨u.heap.size, 1, none⟩ = some (.int .i64 (k : Int))) (go_keep) (first
  | (go_at_call 121; refine (cR _ (rbel_dr BW.out)).mono ?_; rintro o u2 ⟨rfl, hb⟩; have B2 : Hid (Below u.heap.size u u2) := rbel_on hb (rbel_dr BW.out); have R2 : Hid (Row u2 u.heap.size [.int .i64 x, .int .i64 (k : Int), .bool false, .int .i64 t1, .int .i64 t2, .int .i64 t3]) := Row.on hb (Row.dr RX.out); have H2 : Hid (NN u2 mb L N) := NN.on B2.out HR.out; have d0 := H2.out.r.c 0 _ rfl; have d1 := R2.out.c 1 _ rfl; clear hb))
 go_wp2
 clear c0 x1 d0 d1 lb lx HW RX BW
 have c1 := H2.out.r.c 1 _ rfl
 have pk := H2.out.p k hk
 have y0 := R2.out.c 0 _ rfl
 have y1 := R2.out.c 1 _ rfl
 have y2 := R2.out.c 2 _ rfl
 have y3 := R2.out.c 3 _ rfl
 have y4 := R2.out.c 4 _ rfl
 have y5 := R2.out.c 5 _ rfl
 have lb : mb < u2.heap.size := H2.out.r.lt
 have ln : L.nb < u2.heap.size := H2.out.nl
 have lx : u.heap.size < u2.heap.size := R2.out.lt
 go_region_held (fun w' => w'.cell? ⟨mb, 1, none⟩ = some (.slice (some ⟨L.nb, 0, none⟩) N.W.n L.nc) ∧ w'.cell? ⟨L.nb, k, none⟩ = some (.pointer (some ⟨L.b k, 0, none⟩)) ∧ w'.cell? ⟨u.heap.size, 0, none⟩ = some (.int .i64 x) ∧ w'.cell? ⟨u.heap.size, 1, none⟩ = some (.int .i64 (k : Int)) ∧ w'.cell? ⟨u.heap.size, 2, none⟩ = some (.bool false) ∧ w'.cell? ⟨u.heap.size, 3, none⟩ = some (.int .i64 t1) ∧ w'.cell? ⟨u.heap.size, 4, none⟩ = some (.int .i64 t2) ∧ w'.cell? ⟨u.heap.size, 5, none⟩ = some (.int .i64 t3)) (go_keep) (first
  | (go_at_call 148; refine (cH _ (rbel_dr B2.out)).mono ?_; rintro o u3 ⟨rfl, hP, hK⟩; have K3 : Hid (Keeps (Fn (L.b k) (L.m k)) u2 u3) := Keeps.trans (Keeps.of (rbel_dr (Below.refl _ _))) hK; have P3 : Hid (PN u3 (L.b k) (L.m k) c') := hP; have N3 : Hid (NN u3 mb L { N with nd := updN N.nd k c' }) := NN.node H2.out hk K3.out P3.out; have R3 : Hid (Row u3 u.heap.size [.int .i64 x, .int .i64 (k : Int), .bool false, .int .i64 t1, .int .i64 t2, .int .i64 t3]) := Keeps.row K3.out (fun q => by have q1 := (HR.out.d k hk).lt; have q2 := (HR.out.d k hk).ltM; rcases q with q | q <;> omega) R2.out; have z1 := N3.out.r.c 1 _ rfl; have z2 := N3.out.p k hk; have a0 := R3.out.c 0 _ rfl; have a1 := R3.out.c 1 _ rfl; have a2 := R3.out.c 2 _ rfl; have a3 := R3.out.c 3 _ rfl; have a4 := R3.out.c 4 _ rfl; have a5 := R3.out.c 5 _ rfl; clear hP hK))
 go_wp2
 clear c1 pk y0 y1 y2 y3 y4 y5 lb ln lx z1 z2
 have c0 := N3.out.r.c 0 _ rfl
 have lb : mb < u3.heap.size := N3.out.r.lt
 have lx : u.heap.size < u3.heap.size := R3.out.lt
 have N3d : Hid (NN u3.drew mb L { N with nd := updN N.nd k c' }) := NN.on (rbel_dr (Below.refl _ _)) N3.out
 have K3u : Hid (Kpn u u3.drew mb N.W.n L L) := ((Kpn.same B2.out).trans (NN.kpn rfl hk K3.out)).trans (Kpn.same (rbel_dr (Below.refl _ _)))
 go_region_held (fun w' => w'.cell? ⟨mb, 0, none⟩ = some (.pointer (some ⟨L.wb, 0, none⟩)) ∧ w'.cell? ⟨u.heap.size, 0, none⟩ = some (.int .i64 x) ∧ w'.cell? ⟨u.heap.size, 1, none⟩ = some (.int .i64 (k : Int)) ∧ w'.cell? ⟨u.heap.size, 2, none⟩ = some (.bool false) ∧ w'.cell? ⟨u.heap.size, 3, none⟩ = some (.int .i64 t1) ∧ w'.cell? ⟨u.heap.size, 4, none⟩ = some (.int .i64 t2) ∧ w'.cell? ⟨u.heap.size, 5, none⟩ = some (.int .i64 t3)) (go_keep) (first
  | (go_at_call 149; refine (cA _ N3d.out.w).mono ?_; rintro o u4 ⟨rfl, v', hG⟩; have N4 : Hid (NN u4 mb { L with v := v', tg := fun k => if k < u3.drew.heap.size then L.tg k else 2 } ⟨S', N.p, updN N.nd k c'⟩) := NN.world N3d.out hS hG.1 hG.2; have K4 : Hid (Kpn u3.drew u4 mb N.W.n L { L with v := v', tg := fun k => if k < u3.drew.heap.size then L.tg k else 2 }) := NN.kpw (N := { N with nd := updN N.nd k c' }) N3d.out rfl hG.2; have R4 : Hid (Row u4 u.heap.size [.int .i64 x, .int .i64 (k : Int), .bool false, .int .i64 t1, .int .i64 t2, .int .i64 t3]) := Keeps.row hG.2.1 (fun q => by have := HLW.out u.heap.size (q.elim Or.inl (fun e => Or.inr (Or.inr e))); omega) (Row.dr R3.out); have b0 := N4.out.r.c 0 _ rfl; have e0 := R4.out.c 0 _ rfl; have e1 := R4.out.c 1 _ rfl; have e2 := R4.out.c 2 _ rfl; have e3 := R4.out.c 3 _ rfl; have e4 := R4.out.c 4 _ rfl; have e5 := R4.out.c 5 _ rfl; clear hG))
 go_wp2
 go_ret
 exact ⟨rfl, _, N4.out, K3u.out.trans K4.out⟩
end
set_option maxHeartbeats 8000000
set_option maxRecDepth 100000
section
variable {u : World} {mb : Nat} {L : Nly} {N : Nn}
theorem ndo_err (h : NN u mb L N) (wh x y : Int) (S' : Ws) (hS : S'.n = N.W.n) (pv : Value) (e : Int) (cD : ∀ W : World, PW W L.wb L.cb L.cc N.W L.v → Calls Tryz.prog 119 #[.pointer (some ⟨L.wb, 0, none⟩), .agg #[.int .i64 wh, .int .i64 x, .int .i64 y]] W fun o w' => ∃ v', o = .returned (.tuple #[pv, .iface 86 (.int .i64 e)]) ∧ Gp W w' L.wb L.cb L.cc L.v S' v') :
  Calls Tryz.prog 89 #[.pointer (some ⟨mb, 0, none⟩), .agg #[.int .i64 wh, .int .i64 x, .int .i64 y]] u fun o w' => o = .returned (.iface 86 (.int .i64 e)) ∧ ∃ L', NN w' mb L' ⟨S', N.p, N.nd⟩ ∧ Kpn u w' mb N.W.n L L' := by
 have HR : Hid (NN u mb L N) := h
 have HLW : Hid (∀ j, Fp L.wb L.cb L.v j → j < u.heap.size) := fun j hj => h.w.lt hj
 clear h
 go_enter Tryz.func89, Tryz.ntmps89
 go_wp2
 have BW : Hid (Below u.heap.size u (u.alloc (Obj.cells #[.int .i64 wh, .int .i64 x, .int .i64 y] 70))) := rbel_al (Below.refl _ _)
 have RX : Hid (Row (u.alloc (Obj.cells #[.int .i64 wh, .int .i64 x, .int .i64 y] 70)) u.heap.size [.int .i64 wh, .int .i64 x, .int .i64 y]) := Row.made rfl
 generalize (u.alloc (Obj.cells #[.int .i64 wh, .int .i64 x, .int .i64 y] 70)) = W at *
 have HW : Hid (NN W.drew mb L N) := NN.on (rbel_dr BW.out) HR.out
 have c0 := HW.out.r.c 0 _ rfl
 have x0 := RX.out.c 0 _ rfl
 have x1 := RX.out.c 1 _ rfl
 have x2 := RX.out.c 2 _ rfl
 have lb : mb < W.heap.size := HW.out.r.lt
 have lx : u.heap.size < W.heap.size := RX.out.lt
 go_region_held (fun w' => w'.cell? ⟨mb, 0, none⟩ = some (.pointer (some ⟨L.wb, 0, none⟩)) ∧ w'.cell? ⟨u.heap.size, 0, none⟩ = some (.int .i64 wh) ∧ w'.cell? ⟨u.heap.size, 1, none⟩ = some (.int .i64 x) ∧ w'.cell? ⟨u.heap.size, 2, none⟩ = some (.int .i64 y)) (go_keep) (first
  | (go_at_call 119; go_loud (refine (cD _ HW.out.w).mono ?_; rintro o u2 ⟨v', rfl, hG⟩; have N2 : Hid (NN u2 mb { L with v := v', tg := fun k => if k < W.drew.heap.size then L.tg k else 2 } ⟨S', N.p, N.nd⟩) := NN.world HW.out hS hG.1 hG.2; have K2 : Hid (Kpn u u2 mb N.W.n L { L with v := v', tg := fun k => if k < W.drew.heap.size then L.tg k else 2 }) := (Kpn.same (rbel_dr BW.out)).trans (NN.kpw HW.out rfl hG.2); have R2 : Hid (Row u2 u.heap.size [.int .i64 wh, .int .i64 x, .int .i64 y]) := Keeps.row hG.2.1 (fun q => by have := HLW.out u.heap.size (q.elim Or.inl (fun e => Or.inr (Or.inr e))); omega) (Row.dr RX.out); have d0 := N2.out.r.c 0 _ rfl; have y0 := R2.out.c 0 _ rfl; have y1 := R2.out.c 1 _ rfl; have y2 := R2.out.c 2 _ rfl; clear hG)))
 go_wp2
 go_ret
 exact ⟨rfl, _, N2.out, K2.out⟩
theorem ndo_nil (h : NN u mb L N) (wh x y : Int) (S' : Ws) (hS : S'.n = N.W.n) (cD : ∀ W : World, PW W L.wb L.cb L.cc N.W L.v → Calls Tryz.prog 119 #[.pointer (some ⟨L.wb, 0, none⟩), .agg #[.int .i64 wh, .int .i64 x, .int .i64 y]] W fun o w' => ∃ v', o = .returned (.tuple #[.pointer none, .nilIface]) ∧ Gp W w' L.wb L.cb L.cc L.v S' v') :
  Calls Tryz.prog 89 #[.pointer (some ⟨mb, 0, none⟩), .agg #[.int .i64 wh, .int .i64 x, .int .i64 y]] u fun o w' => o = .returned .nilIface ∧ ∃ L', NN w' mb L' ⟨S', N.p, N.nd⟩ ∧ Kpn u w' mb N.W.n L L' := by
 have HR : Hid (NN u mb L N) := h
 have HLW : Hid (∀ j, Fp L.wb L.cb L.v j → j < u.heap.size) := fun j hj => h.w.lt hj
 clear h
 go_enter Tryz.func89, Tryz.ntmps89
 go_wp2
 have BW : Hid (Below u.heap.size u (u.alloc (Obj.cells #[.int .i64 wh, .int .i64 x, .int .i64 y] 70))) := rbel_al (Below.refl _ _)
 have RX : Hid (Row (u.alloc (Obj.cells #[.int .i64 wh, .int .i64 x, .int .i64 y] 70)) u.heap.size [.int .i64 wh, .int .i64 x, .int .i64 y]) := Row.made rfl
 generalize (u.alloc (Obj.cells #[.int .i64 wh, .int .i64 x, .int .i64 y] 70)) = W at *
 have HW : Hid (NN W.drew mb L N) := NN.on (rbel_dr BW.out) HR.out
 have c0 := HW.out.r.c 0 _ rfl
 have x0 := RX.out.c 0 _ rfl
 have x1 := RX.out.c 1 _ rfl
 have x2 := RX.out.c 2 _ rfl
 have lb : mb < W.heap.size := HW.out.r.lt
 have lx : u.heap.size < W.heap.size := RX.out.lt
 go_region_held (fun w' => w'.cell? ⟨mb, 0, none⟩ = some (.pointer (some ⟨L.wb, 0, none⟩)) ∧ w'.cell? ⟨u.heap.size, 0, none⟩ = some (.int .i64 wh) ∧ w'.cell? ⟨u.heap.size, 1, none⟩ = some (.int .i64 x) ∧ w'.cell? ⟨u.heap.size, 2, none⟩ = some (.int .i64 y)) (go_keep) (first
  | (go_at_call 119; go_loud (refine (cD _ HW.out.w).mono ?_; rintro o u2 ⟨v', rfl, hG⟩; have N2 : Hid (NN u2 mb { L with v := v', tg := fun k => if k < W.drew.heap.size then L.tg k else 2 } ⟨S', N.p, N.nd⟩) := NN.world HW.out hS hG.1 hG.2; have K2 : Hid (Kpn u u2 mb N.W.n L { L with v := v', tg := fun k => if k < W.drew.heap.size then L.tg k else 2 }) := (Kpn.same (rbel_dr BW.out)).trans (NN.kpw HW.out rfl hG.2); have R2 : Hid (Row u2 u.heap.size [.int .i64 wh, .int .i64 x, .int .i64 y]) := Keeps.row hG.2.1 (fun q => by have := HLW.out u.heap.size (q.elim Or.inl (fun e => Or.inr (Or.inr e))); omega) (Row.dr RX.out); have d0 := N2.out.r.c 0 _ rfl; have y0 := R2.out.c 0 _ rfl; have y1 := R2.out.c 1 _ rfl; have y2 := R2.out.c 2 _ rfl; clear hG)))
 go_wp2
 go_ret
 exact ⟨rfl, _, N2.out, K2.out⟩
theorem ndo_some (h : NN u mb L N) (wh x y : Int) (S' : Ws) (hS : S'.n = N.W.n) (l1 l2 : Int) (l3 : Bool) (l4 l5 l6 : Int) (ev : Value) (N' : Nn) (cD : ∀ W : World, PW W L.wb L.cb L.cc N.W L.v → Calls Tryz.prog 119 #[.pointer (some ⟨L.wb, 0, none⟩), .agg #[.int .i64 wh, .int .i64 x, .int .i64 y]] W fun o w' => ∃ v' g, o = .returned (.tuple #[.pointer (some ⟨g, 0, none⟩), .nilIface]) ∧ Gp W w' L.wb L.cb L.cc L.v S' v' ∧ Row w' g [.int .i64 l1, .int .i64 l2, .bool l3, .int .i64 l4, .int .i64 l5, .int .i64 l6]) (cC : ∀ (W : World) (L2 : Nly), NN W mb L2 ⟨S', N.p, N.nd⟩ → Calls Tryz.prog 120 #[.pointer (some ⟨mb, 0, none⟩), .agg #[.int .i64 l1, .int .i64 l2, .bool l3, .int .i64 l4, .int .i64 l5, .int .i64 l6]] W fun o w' => o = .returned ev ∧ ∃ L', NN w' mb L' N' ∧ Kpn W w' mb N.W.n L2 L') :
  Calls Tryz.prog 89 #[.pointer (some ⟨mb, 0, none⟩), .agg #[.int .i64 wh, .int .i64 x, .int .i64 y]] u fun o w' => o = .returned ev ∧ ∃ L', NN w' mb L' N' ∧ Kpn u w' mb N.W.n L L' := by
 have HR : Hid (NN u mb L N) := h
 have HLW : Hid (∀ j, Fp L.wb L.cb L.v j → j < u.heap.size) := fun j hj => h.w.lt hj
 clear h
 go_enter Tryz.func89, Tryz.ntmps89
 go_wp2
 have BW : Hid (Below u.heap.size u (u.alloc (Obj.cells #[.int .i64 wh, .int .i64 x, .int .i64 y] 70))) := rbel_al (Below.refl _ _)
 have RX : Hid (Row (u.alloc (Obj.cells #[.int .i64 wh, .int .i64 x, .int .i64 y] 70)) u.heap.size [.int .i64 wh, .int .i64 x, .int .i64 y]) := Row.made rfl
 generalize (u.alloc (Obj.cells #[.int .i64 wh, .int .i64 x, .int .i64 y] 70)) = W at *
 have HW : Hid (NN W.drew mb L N) := NN.on (rbel_dr BW.out) HR.out
 have c0 := HW.out.r.c 0 _ rfl
 have x0 := RX.out.c 0 _ rfl
 have x1 := RX.out.c 1 _ rfl
 have x2 := RX.out.c 2 _ rfl
 have lb : mb < W.heap.size := HW.out.r.lt
 have lx : u.heap.size < W.heap.size := RX.out.lt
 go_region_held (fun w' => w'.cell? ⟨mb, 0, none⟩ = some (.pointer (some ⟨L.wb, 0, none⟩)) ∧ w'.cell? ⟨u.heap.size, 0, none⟩ = some (.int .i64 wh) ∧ w'.cell? ⟨u.heap.size, 1, none⟩ = some (.int .i64 x) ∧ w'.cell? ⟨u.heap.size, 2, none⟩ = some (.int .i64 y)) (go_keep) (first
  | (go_at_call 119; go_loud (refine (cD _ HW.out.w).mono ?_; rintro o u2 ⟨v', g, rfl, hG, hl⟩; have N2 : Hid (NN u2 mb { L with v := v', tg := fun k => if k < W.drew.heap.size then L.tg k else 2 } ⟨S', N.p, N.nd⟩) := NN.world HW.out hS hG.1 hG.2; have K2 : Hid (Kpn u u2 mb N.W.n L { L with v := v', tg := fun k => if k < W.drew.heap.size then L.tg k else 2 }) := (Kpn.same (rbel_dr BW.out)).trans (NN.kpw HW.out rfl hG.2); have R2 : Hid (Row u2 u.heap.size [.int .i64 wh, .int .i64 x, .int .i64 y]) := Keeps.row hG.2.1 (fun q => by have := HLW.out u.heap.size (q.elim Or.inl (fun e => Or.inr (Or.inr e))); omega) (Row.dr RX.out); have d0 := N2.out.r.c 0 _ rfl; have y0 := R2.out.c 0 _ rfl; have y1 := R2.out.c 1 _ rfl; have y2 := R2.out.c 2 _ rfl; have g0 := hl.c 0 _ rfl; have g1 := hl.c 1 _ rfl; have g2 := hl.c 2 _ rfl; have g3 := hl.c 3 _ rfl; have g4 := hl.c 4 _ rfl; have g5 := hl.c 5 _ rfl; clear hl; clear hG)))
 go_wp2_with (go_at_call 120; go_loud (refine (cC _ _ N2.out).mono ?_; rintro o u3 ⟨rfl, L3, hN, hK⟩; have N3 : Hid (NN u3 mb L3 N') := hN; have K3 : Hid (Kpn u u3 mb N.W.n L L3) := K2.out.trans hK; clear hN hK))
 go_ret
 exact ⟨rfl, _, N3.out, K3.out⟩
end
section
variable {u : World} {mb : Nat} {L : Nly} {N N' : Nn}
theorem ncome_any {S' : Ws} {l : Lt} {c' : Nd} {e : Int} (g : N.T) (hn : S'.n = N.W.n) (hi : S'.I) (kn : Kn S' N.p l.to.toNat (N.nd l.to.toNat)) (rt : RtB S' N.p) (lk : Lk S' l) (hh : HearR (N.nd l.to.toNat) l (S'.rd l.to.toNat) c' l.ans 0)
  (q : (l.ans = true ∧ N' = ⟨S', N.p, updN N.nd l.to.toNat c'⟩ ∧ e = 0) ∨ (l.ans = false ∧ ∃ S'', AnR S' l S'' e ∧ N' = ⟨S'', N.p, updN N.nd l.to.toNat c'⟩)) (W : World) (L2 : Nly) (h : NN W mb L2 ⟨S', N.p, N.nd⟩) :
  Calls Tryz.prog 120 #[.pointer (some ⟨mb, 0, none⟩), ltv l] W fun o w' => o = .returned (errc e) ∧ ∃ L', NN w' mb L' N' ∧ Kpn W w' mb N.W.n L2 L' := by
 obtain ⟨a, k, h1, h2, h3, h4, h5, _⟩ := lk
 obtain ⟨x, y, an, t1, t2, t3⟩ := l
 obtain rfl : x = (a : Int) := h1
 obtain rfl : y = (k : Int) := h2
 rw [show (⟨(a : Int), (k : Int), an, t1, t2, t3⟩ : Lt).to.toNat = k from Int.toNat_natCast k] at kn hh q
 have ci : (N.nd k).I := kn.i rt h4
 have hs : S'.hs (k : Int) := ⟨by omega, by omega⟩
 have cR : ∀ V : World, Below W.heap.size W V → Calls Tryz.prog 121 #[.pointer (some ⟨L2.wb, 0, none⟩), .int .i64 (k : Int)] V fun o w' => o = .returned (.tuple #[.int .i64 (S'.rd k), .nilIface]) ∧ Below V.heap.size V w' := fun V hV => by
  have := read_yes (h.on hV).w hi hs
  rwa [errc_zero, Int.toNat_natCast] at this
 have cH : ∀ V : World, Below W.heap.size W V → Calls Tryz.prog 148 #[.pointer (some ⟨L2.b k, 0, none⟩), ltv ⟨(a : Int), (k : Int), an, t1, t2, t3⟩, .int .i64 (S'.rd k)] V fun o w' => o = .returned (.tuple #[.bool an, .nilIface]) ∧ PN w' (L2.b k) (L2.m k) c' ∧ Keeps (Fn (L2.b k) (L2.m k)) V w' := fun V hV => by
  refine (hear_any ((h.on hV).d k h4) ci ⟨(a : Int), (k : Int), an, t1, t2, t3⟩ (S'.rd k) 0 an hh).mono fun _ _ ⟨q1, q2, q3⟩ => ⟨?_, q2, q3⟩
  rw [errc_zero] at q1
  exact q1
 rcases q with ⟨qa, rfl, rfl⟩ | ⟨qa, S'', hA, rfl⟩
 ·obtain rfl : an = true := qa
  refine (pcome_ans h hi k h4 (a : Int) t1 t2 t3 (S'.rd k) true c' cR cH).mono fun _ _ ⟨q1, L', q2, q3⟩ => ⟨by rw [errc_zero]; exact q1, L', q2, ?_⟩
  rw [← hn]
  exact q3
 ·obtain rfl : an = false := qa
  have sm := hA.same
  refine (pcome_ask h hi k h4 (a : Int) t1 t2 t3 (S'.rd k) false c' cR cH (errc e) S'' sm.1 ?_).mono fun _ _ ⟨q1, L', q2, q3⟩ => ⟨q1, L', q2, ?_⟩
  ·intro V hV
   exact (answer_any hV hi ⟨(a : Int), (k : Int), false, t1, t2, t3⟩ hA).mono fun _ _ ⟨q1, v', q2⟩ => ⟨q1, v', q2⟩
  ·rw [← hn]
   exact q3
theorem nact_any (h : NN u mb L N) (g : N.T) {wh x y e : Int} (hD : NDoR N wh x y N' e) :
  Calls Tryz.prog 89 #[.pointer (some ⟨mb, 0, none⟩), .agg #[.int .i64 wh, .int .i64 x, .int .i64 y]] u fun o w' => o = .returned (errc e) ∧ ∃ L', NN w' mb L' N' ∧ Kpn u w' mb N.W.n L L' := by
 obtain ⟨S', r, e1, hDo, q⟩ := hD
 have sm := hDo.same
 have hi : S'.I := hDo.i g.g.i
 rcases q with ⟨rfl, rfl, rfl⟩ | ⟨l, c', rfl, rfl, lk, hh, q⟩
 ·by_cases he : e = 0
  ·subst he
   rw [errc_zero]
   refine ndo_nil h wh x y S' sm.1 ?_
   intro W hW
   refine (do_any hW g.g.i hDo).mono fun _ _ ⟨pv, v', q1, q2, q3⟩ => ⟨v', ?_, q2⟩
   rw [errc_zero] at q1
   rcases q3 with ⟨_, rfl⟩ | ⟨_, _, q, _⟩
   ·exact q1
   ·cases q
  ·rw [errc_not he]
   refine ndo_err h wh x y S' sm.1 (.pointer none) e ?_
   intro W hW
   refine (do_any hW g.g.i hDo).mono fun _ _ ⟨pv, v', q1, q2, q3⟩ => ⟨v', ?_, q2⟩
   rw [errc_not he] at q1
   rcases q3 with ⟨_, rfl⟩ | ⟨_, _, q, _⟩
   ·exact q1
   ·cases q
 ·have rt : RtB S' N.p := g.g.on hi sm.1 sm.2.2.1
  have lt : l.to.toNat < N.W.n := by
   obtain ⟨a, b, _, h2, _, h4, _⟩ := lk
   rw [h2, Int.toNat_natCast, ← sm.1]
   exact h4
  have kn := (g.kn _ lt).on g.g lt sm.1 sm.2.1 sm.2.2.1 (sm.2.2.2 g.g.i)
  refine ndo_some h wh x y S' sm.1 l.frm l.to l.ans l.t1 l.t2 l.t (errc e) N' ?_ ?_
  ·intro W hW
   refine (do_any hW g.g.i hDo).mono fun _ _ ⟨pv, v', q1, q2, q3⟩ => ?_
   rw [errc_zero] at q1
   rcases q3 with ⟨q, _⟩ | ⟨l', gg, e2, e3, hr, _⟩
   ·cases q
   ·obtain rfl := Option.some.inj e2
    exact ⟨v', gg, by rw [e3] at q1; exact q1, q2, hr⟩
  ·intro W L2 hN
   exact ncome_any g sm.1 hi kn rt lk hh q W L2 hN
end
set_option maxHeartbeats 8000000
set_option maxRecDepth 100000
theorem infoNodeP : (Tryz.prog.info? 140).map (fun i => (i.zero, i.size, i.bytes)) = some (some (.pointer none), 1, 8) := by kernel_rfl
def npcs (nb : Nat → Nat) (k : Nat) : List Value := (List.range k).map (fun i => Value.pointer (some ⟨nb i, 0, none⟩))
theorem npcs_more (nb : Nat → Nat) (k b : Nat) : npcs (updN nb k b) (k + 1) = npcs nb k ++ [.pointer (some ⟨b, 0, none⟩)] := by
 unfold npcs
 rw [List.range_succ, List.map_append]
 congr 1
 ·refine List.map_congr_left (fun i hi => ?_)
  have := List.mem_range.1 hi
  rw [updN_ne (by omega)]
 ·simp [updN_at]
theorem npcs_at (nb : Nat → Nat) {k i : Nat} (hi : i < k) : (npcs nb k)[i]? = some (.pointer (some ⟨nb i, 0, none⟩)) := by
 unfold npcs
 rw [List.getElem?_map, List.getElem?_range hi]
 rfl
structure Mkn (x1 wr : World) (wb n : Nat) (p : Int) (v : Value) (k : Nat) (nb nM tg : Nat → Nat) : Prop where
 r : Row wr x1.heap.size [.pointer (some ⟨wb, 0, none⟩), v]
 o : wr.ownsRow (x1.heap.size + 1) 140 1 v k (npcs nb k)
 d : ∀ i, i < k → PN wr (nb i) (nM i) (Nd.made i n p) ∧ tg (nb i) = 3 + i ∧ tg (nM i) = 3 + i ∧ x1.heap.size < nb i ∧ x1.heap.size < nM i
 g : ∀ j, v.ownBlock = some j → tg j = 1
 b : Below x1.heap.size x1 wr
theorem Mkn.start (x1 : World) (wb n : Nat) (p : Int) (t : TypeId) : Mkn x1 (x1.alloc (.cells #[.pointer (some ⟨wb, 0, none⟩), .slice none 0 0] t)) wb n p (.slice none 0 0) 0 (fun _ => 0) (fun _ => 0) (fun _ => 1) :=
 ⟨Row.made rfl, ⟨by simp [npcs], Or.inl ⟨rfl, rfl⟩⟩, fun i hi => by omega, fun _ _ => rfl, rbel_al (Below.refl _ _)⟩
theorem Mkn.next {x1 wr y W w1 : World} {wb n k b M : Nat} {p : Int} {v v' : Value} {nb nM tg : Nat → Nat} (h : Mkn x1 wr wb n p v k nb nM tg) (hy : Below wr.heap.size wr y) (hp : PN y b M (Nd.made k n p)) (lb : wr.heap.size ≤ b) (lM : wr.heap.size ≤ M) (hW : Below y.heap.size y W)
  (ho : w1.ownsRow (x1.heap.size + 1) 140 1 v' (k + 1) (npcs nb k ++ [.pointer (some ⟨b, 0, none⟩)])) (hg : W.grownBy w1 v.ownBlock) (hl : v'.ownBlock = v.ownBlock ∨ v'.ownBlock = some W.heap.size) : ∃ nb' nM' tg', Mkn x1 (w1.setCell ⟨x1.heap.size, 1, none⟩ v') wb n p v' (k + 1) nb' nM' tg' := by
 have zx := h.r.lt
 have zy := hy.size
 have zW := hW.size
 have z1 := hg.size
 have bl := hp.lt
 have Ml := hp.ltM
 have vl : ∀ j, v.ownBlock = some j → j < wr.heap.size := fun j hj => (h.o.lt j hj).2
 have vx : ∀ j, v.ownBlock = some j → x1.heap.size + 1 ≤ j := fun j hj => (h.o.lt j hj).1
 have kS : Keeps (fun j => j = x1.heap.size) w1 (w1.setCell ⟨x1.heap.size, 1, none⟩ v') := Keeps.put rfl (Keeps.refl _ _)
 have zs := kS.size
 have same : ∀ j, j < y.heap.size → j ≠ x1.heap.size → v.ownBlock ≠ some j → (w1.setCell ⟨x1.heap.size, 1, none⟩ v').heap[j]? = y.heap[j]? := fun j q1 q2 q3 =>
  (kS.block j (by omega) q2).trans ((hg.block j (by omega) (fun e => q3 e.symm)).trans (hW.block j q1))
 refine ⟨updN nb k b, updN nM k M, fun j => if j < wr.heap.size then tg j else if j = b ∨ j = M then 3 + k else 1, ?_, ?_, fun i hi => ?_, fun j hj => ?_, ?_⟩
 ·exact Row.put 1 (row_grown hg (by omega) (fun e => by have := vx _ e; omega) (Row.on hW (Row.on hy h.r)))
 ·rw [npcs_more]
  exact own_keepN kS (fun g hg' e => by have := (ho.lt g hg').1; omega) ho
 ·by_cases e : i = k
  ·subst e
   rw [updN_at, updN_at]
   refine ⟨?_, ?_, ?_, by omega, by omega⟩
   ·refine PN.keep (u := y) (by omega) (fun j hj => ?_) hp
    have jl : wr.heap.size ≤ j ∧ j < y.heap.size := by rcases hj with q | q <;> omega
    exact same j jl.2 (by omega) (fun q => by have := vl j q; omega)
   ·rw [if_neg (by omega), if_pos (Or.inl rfl)]
   ·rw [if_neg (by omega), if_pos (Or.inr rfl)]
  ·rw [updN_ne e, updN_ne e]
   obtain ⟨d1, d2, d3, d4, d5⟩ := h.d i (by omega)
   have q1 := d1.lt
   have q2 := d1.ltM
   refine ⟨?_, ?_, ?_, d4, d5⟩
   ·refine PN.keep (u := y) (by omega) (fun j hj => ?_) (d1.on hy)
    have jl : j < wr.heap.size ∧ tg j = 3 + i ∧ j ≠ x1.heap.size := by rcases hj with q | q <;> (subst q; exact ⟨by omega, by assumption, by omega⟩)
    exact same j (by omega) jl.2.2 (fun q => by have := h.g j q; omega)
   ·rw [if_pos q1]; exact d2
   ·rw [if_pos q2]; exact d3
 ·rcases hl with q | q
  ·rw [q] at hj
   show (if j < wr.heap.size then tg j else _) = 1
   rw [if_pos (vl j hj)]
   exact h.g j hj
  ·rw [q] at hj
   obtain rfl := Option.some.inj hj
   show (if W.heap.size < wr.heap.size then _ else if W.heap.size = b ∨ W.heap.size = M then _ else 1) = 1
   rw [if_neg (by omega), if_neg (by omega)]
 ·exact rbel_put (Nat.le_refl _) ((rbel_on hW (rbel_on hy h.b)).grown hg (by omega) (fun j hj => by have := vx j hj; omega))
theorem Mkn.net {x1 wr : World} {n : Nat} {p : Int} {v : Value} {nb nM tg : Nat → Nat} {z r : Nat → Int} {wb cb cc : Nat} (h : Mkn x1 wr wb n p v n nb nM tg) (hn : 1 ≤ n) (hw : PW x1 wb cb cc (ws0 n z r) (.slice none 0 0)) :
  ∃ L : Nly, NN wr x1.heap.size L (Nn.made n z r p) ∧ L.wb = wb ∧ L.cb = cb ∧ L.v = .slice none 0 0 ∧ ∀ i, i < n → x1.heap.size ≤ L.b i ∧ x1.heap.size ≤ L.m i ∧ x1.heap.size ≤ L.nb := by
 have zx := h.r.lt
 rcases h.o.2 with ⟨_, e⟩ | ⟨g, cap, cur, e, hb, hg, hc, hm, hcs, htk⟩
 ·omega
 have gl : g < wr.heap.size := (h.o.lt g (by rw [e]; rfl)).2
 have tgg : tg g = 1 := h.g g (by rw [e]; rfl)
 have wl : wb < x1.heap.size := hw.r.lt
 have cl : cb < x1.heap.size := hw.kl
 refine ⟨⟨wb, cb, cc, .slice none 0 0, g, cap, nb, nM, fun j => if j = x1.heap.size then 0 else if j < x1.heap.size then 2 else tg j⟩, ⟨?_, hw.on h.b, hc, gl, fun i hi => ?_, fun i hi => (h.d i hi).1, if_pos rfl, ?_, fun k hk => ?_, fun i hi => ?_⟩, rfl, rfl, rfl, fun i hi => ⟨Nat.le_of_lt (h.d i hi).2.2.2.1, Nat.le_of_lt (h.d i hi).2.2.2.2, by show x1.heap.size ≤ g; omega⟩⟩
 ·have := h.r
  rw [e] at this
  exact this
 ·have c := h.o.cells (g := g) (by rw [e]; rfl) i _ (npcs_at nb hi)
  rw [Addr.add_lit, Nat.zero_add] at c
  exact c
 ·show (if g = x1.heap.size then 0 else if g < x1.heap.size then 2 else tg g) = 1
  rw [if_neg (by omega), if_neg (by omega)]; exact tgg
 ·show (if k = x1.heap.size then 0 else if k < x1.heap.size then 2 else tg k) = 2
  have kl : k < x1.heap.size := by
   rcases hk with q | q | q
   ·show k < _; rw [q]; exact wl
   ·show k < _; rw [q]; exact cl
   ·cases q
  rw [if_neg (by omega), if_pos kl]
 ·obtain ⟨d1, d2, d3, d4, d5⟩ := h.d i hi
  show (if nb i = x1.heap.size then 0 else if nb i < x1.heap.size then 2 else tg (nb i)) = 3 + i ∧ (if nM i = x1.heap.size then 0 else if nM i < x1.heap.size then 2 else tg (nM i)) = 3 + i
  rw [if_neg (by omega), if_neg (by omega), if_neg (by omega), if_neg (by omega)]
  exact ⟨d2, d3⟩
theorem nnet_bad (sa : Option Addr) (n sc : Nat) (z : Nat → Int) (ra : Option Addr) (m rc : Nat) (r : Nat → Int) (p e : Int) (u : World) (hS : NHanded u sa n z) (hr : NHanded u ra m r) (hE : BeE n z m r p e) (he : e ≠ 0) :
  Calls Tryz.prog 33 #[.slice sa n sc, .slice ra m rc, .int .i64 p] u fun o w' => o = .returned (.tuple #[.pointer none, .iface 86 (.int .i64 e)]) ∧ Below u.heap.size u w' := by
 have cW : Calls Tryz.prog 57 #[.slice sa n sc, .slice ra m rc, .int .i64 p] u fun o w' => ∃ pv, o = .returned (.tuple #[pv, .iface 86 (.int .i64 e)]) ∧ Below u.heap.size u w' := (wnew_any sa n sc z ra m rc r p u hS hr).mono fun _ _ ⟨e', pv, hE', q, hb, _⟩ => by
  obtain rfl := beE_one hE hE'
  exact ⟨pv, by rw [errc_not he] at q; exact q, hb⟩
 clear hS hr hE he
 go_enter Tryz.func33, Tryz.ntmps33
 go_wp2_with (go_at_call 57; refine cW.mono ?_; rintro o u1 ⟨pv, rfl, hb⟩; have HB : Hid _ := hb; clear hb)
 go_ret2
 exact ⟨rfl, HB.out⟩
theorem nnet_ok (sa : Option Addr) (n sc : Nat) (z : Nat → Int) (ra : Option Addr) (m rc : Nat) (r : Nat → Int) (p : Int) (u : World) (hS : NHanded u sa n z) (hr : NHanded u ra m r) (hE : BeE n z m r p 0) :
  Calls Tryz.prog 33 #[.slice sa n sc, .slice ra m rc, .int .i64 p] u fun o w' => ∃ (b : Nat) (L : Nly), o = .returned (.tuple #[.pointer (some ⟨b, 0, none⟩), .nilIface]) ∧ NN w' b L (Nn.made n z r p) ∧ Below u.heap.size u w' ∧ ∀ k, L.F b n k → u.heap.size ≤ k := by
 have cW : Calls Tryz.prog 57 #[.slice sa n sc, .slice ra m rc, .int .i64 p] u fun o w' => ∃ wb cb cc : Nat, o = .returned (.tuple #[.pointer (some ⟨wb, 0, none⟩), .nilIface]) ∧ Below u.heap.size u w' ∧ PW w' wb cb cc (ws0 n z r) (.slice none 0 0) ∧ u.heap.size ≤ wb ∧ u.heap.size ≤ cb := (wnew_any sa n sc z ra m rc r p u hS hr).mono fun _ _ ⟨e', pv, hE', q, hb, q2⟩ => by
  obtain rfl := beE_one hE hE'
  obtain ⟨b, cb, cc, rfl, h1, h2, h3⟩ := q2 rfl
  exact ⟨b, cb, cc, by rw [errc_zero] at q; exact q, hb, h1, h2, h3⟩
 have hN : (0 ≤ p ∧ p ≤ 1000 ∧ 1 ≤ n ∧ n ≤ 6) := by
  rcases hE with ⟨_, e⟩ | ⟨_, _, e⟩ | ⟨_, _, _, e⟩ | ⟨q, _⟩
  ·cases e
  ·cases e
  ·cases e
  ·exact q
 obtain ⟨p0, p1, n1, n6⟩ := hN
 obtain ⟨i0, hi0, hz0, hz1, hz2⟩ := info_parts infoNodeP
 have cN : Hid (∀ (k : Nat) (W : World), k < n → Calls Tryz.prog 58 #[.int .i64 (k : Int), .int .i64 (n : Int), .int .i64 p] W fun o w' => ∃ b M, o = .returned (.tuple #[.pointer (some ⟨b, 0, none⟩), .nilIface]) ∧ PN w' b M (Nd.made k n p) ∧ Below W.heap.size W w' ∧ W.heap.size ≤ b ∧ W.heap.size ≤ M) := fun k W hk => nnew_ok k n p W hk n6 p0 p1
 clear hS hr hE
 go_enter Tryz.func33, Tryz.ntmps33
 go_wp2_with (go_at_call 57; refine cW.mono ?_; rintro o x1 ⟨wb, cb, cc, rfl, hb, hP, l1, l2⟩; have B1 : Hid (Below u.heap.size u x1) := hb; have P1 : Hid (PW x1 wb cb cc (ws0 n z r) (.slice none 0 0)) := hP; have L1 : Hid (u.heap.size ≤ wb ∧ u.heap.size ≤ cb) := ⟨l1, l2⟩; clear hb hP l1 l2)
 go_loopw [29, 11, 12, 13] (fun vi _ _ _ wr => ∃ (k : Nat) (v : Value) (nb nM tg : Nat → Nat), k ≤ n ∧ vi = .int .i64 k ∧ Mkn x1 wr wb n p v k nb nM tg) (fun vi _ _ _ _ => n - (intOf vi).toNat)
 case atStart => exact ⟨0, _, _, _, _, Nat.zero_le _, rfl, Mkn.start x1 wb n p _⟩
 case round =>
  clear cW
  obtain ⟨k, v, nb, nM, tg, hk, rfl, hM⟩ := hrel
  have zw : x1.heap.size < wr.heap.size := hM.r.lt
  obtain ⟨va, vc, ev⟩ := own_slice hM.o
  subst ev
  have HM : Hid (Mkn x1 wr wb n p (.slice va k vc) k nb nM tg) := hM
  by_cases hlt : k < n
  ·have hl : (k : Int) < n := by omega
   have cK := cN.out k wr hlt
   clear hM
   go_upto_region 11 with (go_at_call 58; refine cK.mono ?_; rintro o y ⟨b, M, rfl, hp, hb, l1, l2⟩; have HP : Hid (PN y b M (Nd.made k n p)) := hp; have HB : Hid (Below wr.heap.size wr y) := hb; have HL : Hid (wr.heap.size ≤ b ∧ wr.heap.size ≤ M) := ⟨l1, l2⟩; clear hp hb l1 l2)
   have O2 : Hid (y.ownsRow (x1.heap.size + 1) 140 1 (.slice va k vc) k (npcs nb k)) := own_onN HB.out HM.out.o
   have R2 : Hid (Row y x1.heap.size [.pointer (some ⟨wb, 0, none⟩), .slice va k vc]) := Row.on HB.out HM.out.r
   have NE : Hid ((Value.slice va k vc).ownBlock ≠ some x1.heap.size) := fun e => by have := (HM.out.o.lt _ e).1; omega
   have zy := HB.out.size
   have lx : x1.heap.size < y.heap.size := R2.out.lt
   have k1 := R2.out.c 1 _ rfl
   clear cK
   go_wp2_with (at_builtin; go_loud (refine wpList_append_own_at _ rfl _ _ 137 rfl (x1.heap.size + 1) 140 i0 _ 1 8 Tryz.underlying137 hi0 hz0 hz1 hz2 rfl (by decide) (.slice va k vc) _ _ rfl (O2.out.alloc _) ⟨y.heap.size, 0, none⟩ 1 1 [.pointer (some ⟨b, 0, none⟩)] rfl rfl (fun j q hj => by rw [Addr.add_lit]; exact (Row.made (W := y) (vs := [.pointer (some ⟨b, 0, none⟩)]) rfl).c _ _ (by simpa using hj)) (fun q hq => by simp at hq; subst hq; rfl) (by unfold maxLen; omega) (by omega) (by simp; omega) ?_; intro v' w1 hown1 hgrow1 hnn1 hat1; obtain ⟨va', vc', rfl⟩ := own_slice hown1; have mr1 : Row w1 x1.heap.size [.pointer (some ⟨wb, 0, none⟩), .slice va k vc] := row_grown hgrow1 (by simp; omega) NE.out (Row.al R2.out); have m1 := mr1.c 1 _ rfl; have q1 := mr1.f 1 _ rfl; have lw1 := mr1.lt; have HX : Hid (∃ nb' nM' tg', Mkn x1 (w1.setCell ⟨x1.heap.size, 1, none⟩ (.slice va' (k + 1) vc')) wb n p (.slice va' (k + 1) vc') (k + 1) nb' nM' tg') := HM.out.next HB.out HP.out HL.out.1 HL.out.2 (rbel_al (Below.refl _ _)) hown1 hgrow1 hat1; clear hown1 hgrow1 hnn1 hat1 mr1))
   obtain ⟨nb', nM', tg', hM'⟩ := HX.out
   have HM2 : Hid (Mkn x1 (w1.setCell ⟨x1.heap.size, 1, none⟩ (.slice va' (k + 1) vc')) wb n p (.slice va' (k + 1) vc') (k + 1) nb' nM' tg') := hM'
   clear hM'
   go_roundw
   case rel => exact ⟨k + 1, _, _, _, _, by omega, by go_num, HM2.out⟩
   case measure => simp [intOf]; omega
  ·have hl : ¬ ((k : Int) < n) := by omega
   obtain rfl : k = n := by omega
   clear HM
   obtain ⟨L, hL, e1, e2, e3, hF⟩ := Mkn.net hM n1 P1.out
   have HNN : Hid (NN wr x1.heap.size L (Nn.made k z r p)) := hL
   have HF : Hid (∀ j, L.F x1.heap.size k j → u.heap.size ≤ j) := fun j hj => by
    have q0 := B1.out.size
    rcases hj with q | q | q | ⟨i, hi, q⟩
    ·omega
    ·have := (hF 0 (by omega)).2.2; omega
    ·rcases q with q | q | q
     ·rw [e1] at q; have := L1.out; omega
     ·rw [e2] at q; have := L1.out; omega
     ·rw [e3] at q; cases q
    ·have := hF i hi
     rcases q with q | q <;> omega
   have HBW : Hid (Below u.heap.size u wr) := rbel_on hM.b B1.out
   clear hM hL hF e1 e2 e3
   go_wp2
   go_ret2
   first
    | exact ⟨x1.heap.size, L, rfl, HNN.out, HBW.out, HF.out⟩
    | exact ⟨x1.heap.size, rfl, L, HNN.out, HBW.out, HF.out⟩
def ntt (w : World) : Nt w where
 R := Nkn
 on := Nkn.on
 lt := Nkn.lt
 new := fun sa n sc z ra m rc r ppm e u _ h1 h2 _ hE => by
  by_cases he : e = 0
  ·subst he
   refine (nnet_ok sa n sc z ra m rc r ppm u h1 h2 hE).mono fun _ _ ⟨b, L, q1, q2, q3, q4⟩ => ⟨_, by rw [errc_zero]; exact q1, q3, fun _ => ⟨b, L.F b n, rfl, ⟨L, q2, rfl⟩, q4⟩⟩
  ·refine (nnet_bad sa n sc z ra m rc r ppm e u h1 h2 hE he).mono fun _ _ ⟨q1, q2⟩ => ⟨_, by rw [errc_not he]; exact q1, q2, fun q => absurd q he⟩
 act := fun b F N N' wh x y e u hR hT _ _ _ hD => by
  obtain ⟨L, hP, rfl⟩ := hR
  have sm := (hD.t hT).2.1
  refine (nact_any hP hT hD).mono fun _ _ ⟨q1, L', q2, q3⟩ => ⟨L'.F b N'.W.n, q1, ⟨L', q2, rfl⟩, q3.1, ?_⟩
  rw [sm]
  exact q3.2
end Go.Proofs.YtadkgnbagmnkkakGreatDoor
namespace Go.Proofs.YtadkgnbagmnkkakGreatDoor
open Go.ChangeShapes Go.WideShapes Go.ChangeAt Go.RowKit Go.Joins Go.Maps
set_option linter.unusedVariables false
set_option linter.unusedSimpArgs false

section
variable {u : World} {b M : Nat} {c : Nd}
theorem nspans_at (hR : PN u b M c) (hI : c.I) (t e : Int) (h : SpR c t e) :
  Calls Tryz.prog 180 #[.pointer (some ⟨b, 0, none⟩), .int .i64 t] u fun o w' => ((e = 0 ∧ ∃ s g : Nat, o = .returned (.tuple #[.slice (some ⟨s, 0, none⟩) c.n c.n, .slice (some ⟨g, 0, none⟩) c.n c.n, .nilIface]) ∧ StN w' s g c.n c t ∧ u.heap.size ≤ s ∧ u.heap.size ≤ g) ∨ (e ≠ 0 ∧ o = .returned (.tuple #[.slice none 0 0, .slice none 0 0, .iface 86 (.int .i64 e)]))) ∧ Below u.heap.size u w' := by
 by_cases hb : c.bk t
 ·refine (nspans_bk hR hI t hb).mono fun _ _ ⟨he, hw⟩ => ⟨Or.inr ?_, hw⟩
  obtain rfl : e = 8 := spR_uniq h (Or.inl ⟨hb, rfl⟩)
  exact ⟨by decide, he⟩
 ·refine (nspans_go hR hI t hb).mono fun _ _ ⟨⟨e', h', q⟩, hw⟩ => ⟨?_, hw⟩
  obtain rfl := spR_uniq h h'
  exact q
set_option maxRecDepth 100000 in
set_option maxHeartbeats 8000000 in
theorem nedges_go (hR : PN u b M c) (hI : c.I) (t : Int) (h : SpR c t 0) :
  Calls Tryz.prog 152 #[.pointer (some ⟨b, 0, none⟩), .int .i64 t] u fun o w' => (∃ ea ec, o = .returned (.tuple #[.slice ea (c.eo t).length ec, .nilIface]) ∧ EHanded w' ea (c.eo t).length (egf (c.eo t)) ∧ (ea = none → ec = 0) ∧ (c.eo t).length ≤ ec ∧ ec ≤ maxLen) ∧ Below u.heap.size u w' := by
 have cS : Calls Tryz.prog 180 #[.pointer (some ⟨b, 0, none⟩), .int .i64 t] u fun o w' => ∃ s g : Nat, o = .returned (.tuple #[.slice (some ⟨s, 0, none⟩) c.n c.n, .slice (some ⟨g, 0, none⟩) c.n c.n, .nilIface]) ∧ StN w' s g c.n c t ∧ Below u.heap.size u w' := (nspans_at hR hI t 0 h).mono fun _ _ ⟨q, hw⟩ => by
  rcases q with ⟨_, s, g, q, st, _⟩ | ⟨q, _⟩
  ·exact ⟨s, g, q, st, hw⟩
  ·exact absurd rfl q
 have HR : Hid (PN u b M c) := hR
 have HI : Hid c.I := hI
 have h6 := hI.n6
 have h0 : 0 < c.n := by have := hI.idn; omega
 obtain ⟨i0, hi0, hz0, hz1, hz2⟩ := info_parts infoEdgeN
 clear hR hI h
 go_enter Tryz.func152, Tryz.ntmps152
 go_wp2_with (go_at_call 180; refine cS.mono ?_; rintro o u1 ⟨s, g, rfl, hs, hb⟩; have S1 : Hid (StN u1 s g c.n c t) := hs; have B1 : Hid (Below u.heap.size u u1) := hb; have s0 : s < u1.heap.size := World.block_lt_of_cell? _ _ (hs.a 0 h0); have s1 : g < u1.heap.size := World.block_lt_of_cell? _ _ (hs.h 0 h0); clear hb hs)
 go_loopw [9, 25] (fun v vi wr => ∃ i : Nat, i ≤ c.n ∧ vi = .int .i64 i ∧ wr.ownsRow u1.heap.size 212 4 v (c.eu t i).length (ecl (c.eu t i)) ∧ Below u1.heap.size u1 wr) (fun _ vi _ => c.n - (intOf vi).toNat)
 case atStart => exact ⟨0, Nat.zero_le _, rfl, own_empty_e u1 _ _ _ (Nat.le_refl _), rbel_al (Below.refl _ _)⟩
 case round =>
  obtain ⟨i, hi, rfl, hown, hw⟩ := hrel
  have HW : Hid (Below u1.heap.size u1 wr) := hw
  have zw := hw.size
  have S2 : Hid (StN wr s g c.n c t) := S1.out.on h0 hw
  have N2 : Hid (PN wr b M c) := PN.on hw (PN.on B1.out HR.out)
  have HOw : Hid (wr.ownsRow u1.heap.size 212 4 u9 (c.eu t i).length (ecl (c.eu t i))) := hown
  by_cases hlt : i < c.n
  ·have hl3 : (i : Int) < (c.n : Int) := by omega
   have v0 := N2.out.r.c 0 _ rfl
   have lb := N2.out.lt
   have y0 := S2.out.h i hlt
   rw [if_pos hlt] at y0
   have le := eu_len c t i
   have sw : g < wr.heap.size := by omega
   have sw2 : s < wr.heap.size := by omega
   have z0 := S2.out.a i hlt
   have z1 := S2.out.b i hlt
   rw [if_pos hlt] at z0 z1
   cases hh : c.has i with
   | false =>
    have e1 : c.ho i = decide (i = c.id) := by unfold Nd.ho; rw [hh]; rfl
    rw [e1] at y0
    have HO : Hid (∀ ob, (wr.alloc ob).ownsRow u1.heap.size 212 4 u9 (c.eu t i).length (ecl (c.eu t i))) := fun ob => hown.alloc _
    clear hown hw e1
    generalize (c.so t i).1 = al at *
    generalize (c.so t i).2 = ah at *
    by_cases hid : i = c.id
    ·rw [decide_eq_true hid] at y0
     subst hid
     go_wp2
     go_roundw
     case rel => exact ⟨c.id + 1, by omega, by go_num, by rw [eu_no hh]; exact HO.out _, rbel_al HW.out⟩
     case measure => simp [intOf]; omega
    ·rw [decide_eq_false hid] at y0
     go_wp2
     go_roundw
     case rel => exact ⟨i + 1, by omega, by go_num, by rw [eu_no hh]; exact HO.out _, rbel_al HW.out⟩
     case measure => simp [intOf]; omega
   | true =>
    obtain ⟨k1, k2, k3, k4, k5⟩ := HI.out.kn i hh
    have e1 : c.ho i = true := by unfold Nd.ho; rw [hh]; rfl
    rw [e1] at y0
    have d1 : ((i : Int) == (c.id : Int)) = false := by simp; omega
    have e2 : c.so t i = (c.alo i t, c.ahi i t) := by unfold Nd.so; rw [if_pos hh]
    rw [e2] at z0 z1
    have HL : Hid (ecl (c.eu t (i + 1)) = ecl (c.eu t i) ++ [.int .i64 c.id, .int .i64 i, .int .i64 (c.alo i t), .int .i64 (c.ahi i t)]) := by show _ = _; rw [eu_yes hh, ecl_app]; rfl
    have HLL : Hid ((c.eu t (i + 1)).length = (c.eu t i).length + 1) := by show _ = _; rw [eu_yes hh, List.length_append]; rfl
    have HB : Hid (∀ j, u9.ownBlock = some j → u1.heap.size ≤ j) := fun j hj => (hown.lt j hj).1
    have HO : Hid (wr.ownsRow u1.heap.size 212 4 u9 (c.eu t i).length (ecl (c.eu t i))) := hown
    have z0' : wr.cell? ⟨s, i * 2, none⟩ = some (.int .i64 (c.alo i t)) := z0
    have z1' : wr.cell? ⟨s, i * 2 + 1, none⟩ = some (.int .i64 (c.ahi i t)) := z1
    clear hown hw e1 e2 z0 z1 k3 k4 k5
    generalize c.alo i t = al at *
    generalize c.ahi i t = ah at *
    go_wp2
    have HO2 : Hid ((wr.alloc (Obj.cells #[.int .i64 al, .int .i64 ah] 34)).ownsRow u1.heap.size 212 4 u9 (c.eu t i).length (ecl (c.eu t i))) := HO.out.alloc _
    have HW2 : Hid (Below u1.heap.size u1 (wr.alloc (Obj.cells #[.int .i64 al, .int .i64 ah] 34))) := rbel_al HW.out
    have R2 : Hid (Row (wr.alloc (Obj.cells #[.int .i64 al, .int .i64 ah] 34)) wr.heap.size [.int .i64 al, .int .i64 ah]) := Row.made rfl
    have N3 : Hid (PN (wr.alloc (Obj.cells #[.int .i64 al, .int .i64 ah] 34)) b M c) := PN.on (rbel_al (Below.refl _ _)) N2.out
    clear v0 y0 z0' z1' lb sw sw2 HO HW
    generalize wr.heap.size = B at *
    generalize (wr.alloc (Obj.cells #[.int .i64 al, .int .i64 ah] 34)) = V at *
    have v0 := N3.out.r.c 0 _ rfl
    have lb := N3.out.lt
    have r0 := R2.out.c 0 _ rfl
    have r1 := R2.out.c 1 _ rfl
    have lB : B < V.heap.size := R2.out.lt
    go_region_law (refine step_append_at rfl (.tmp 42) (.tmp 50) 120 rfl u1.heap.size 212 i0 (.agg #[.int .i64 0, .int .i64 0, .int .i64 0, .int .i64 0]) 4 32 Tryz.underlying120 hi0 hz0 hz1 hz2 rfl (by decide) u9 (c.eu t i).length _ (by simp [Act.eval, Act.put]) (HO2.out.alloc _) ⟨V.heap.size, 0, none⟩ 1 1 [.int .i64 c.id, .int .i64 i, .int .i64 al, .int .i64 ah] (by simp [Act.eval, Act.put]) rfl (fun j q hj => by rw [Addr.add_lit]; exact (Row.made (W := V) (vs := [.int .i64 c.id, .int .i64 i, .int .i64 al, .int .i64 ah]) rfl).c _ _ (by simpa using hj)) (fun q hq => by simp at hq; rcases hq with rfl | rfl | rfl | rfl <;> rfl) (by unfold maxLen; omega) (by omega) (by simp; omega) ?_; intro v' w1 hown1 hgrow1 hat1)
    all_goals
     have ho1 : Hid (w1.ownsRow u1.heap.size 212 4 v' (c.eu t (i + 1)).length (ecl (c.eu t (i + 1)))) := by
      show w1.ownsRow u1.heap.size 212 4 v' (c.eu t (i + 1)).length (ecl (c.eu t (i + 1)))
      rw [HL.out, HLL.out]
      exact hown1
     have hw1 : Hid (Below u1.heap.size u1 w1) := by
      first
       | exact (rbel_al HW2.out).grown hgrow1 (by simp; omega) HB.out
       | exact (rbel_dr (rbel_al HW2.out)).grown hgrow1 (by simp; omega) HB.out
       | exact (rbel_al (rbel_dr HW2.out)).grown hgrow1 (by simp; omega) HB.out
     clear hown1 hgrow1 hat1
     go_wp2
     go_roundw
     case rel => exact ⟨i + 1, by omega, by go_num, ho1.out, hw1.out⟩
     case measure => simp [intOf]; omega
  ·have hl3 : ¬ ((i : Int) < (c.n : Int)) := by omega
   have e' : i = c.n := by omega
   subst e'
   have un := eu_len c t c.n
   obtain ⟨a, cap, rfl, hH, hZ⟩ := own_eh hown rfl (by omega)
   have HC : Hid ((c.eu t c.n).length ≤ cap ∧ cap ≤ maxLen) := own_cap hown rfl
   have HZ : Hid (a = none → cap = 0) := hZ
   clear hZ
   have HH : Hid (EHanded wr a (c.eu t c.n).length (egf (c.eu t c.n))) := hH
   clear hown hw hH HOw
   go_wp2
   go_ret2
   first
    | exact ⟨⟨a, cap, rfl, HH.out, HZ.out, HC.out.1, HC.out.2⟩, rbel_on HW.out B1.out⟩
    | exact ⟨⟨a, ⟨cap, rfl⟩, HH.out, HZ.out, HC.out.1, HC.out.2⟩, rbel_on HW.out B1.out⟩
end
end Go.Proofs.YtadkgnbagmnkkakGreatDoor
namespace Go.Proofs.YtadkgnbagmnkkakGreatDoor
open Go.ChangeShapes Go.WideShapes Go.ChangeAt Go.RowKit Go.Joins
set_option linter.unusedVariables false
set_option linter.unusedSimpArgs false

set_option maxRecDepth 100000 in
set_option maxHeartbeats 8000000 in
theorem nedges_net {u : World} {mb : Nat} {L : Nly} {N : Nn} (hR : NN u mb L N) (hT : N.T) :
  Calls Tryz.prog 123 #[.pointer (some ⟨mb, 0, none⟩)] u fun o w' => ∃ (ea : Option Addr) (ec : Nat), o = .returned (.tuple #[.slice ea (eoN N).length ec, .nilIface]) ∧ EHanded w' ea (eoN N).length (egf (eoN N)) ∧ Below u.heap.size u w' ∧ (eoN N).length ≤ ec ∧ ec ≤ 9223372036854775807 := by
 obtain ⟨i0, hi0, hz0, hz1, hz2⟩ := info_parts infoEdgeN
 have HR : Hid (NN u mb L N) := hR
 have HT : Hid N.T := hT
 have h6 := hT.g.i.n6
 have c1 := hR.r.c 1 _ rfl
 have l0 := hR.r.lt
 have hc3 : N.W.n ≤ L.nc := hR.c
 clear hR hT
 go_enter Tryz.func123, Tryz.ntmps123
 go_wp2
 clear c1
 go_loopw [4, 16, 5, 6, 7, 8, 9] (fun vo vi _ _ _ _ _ wr => ∃ k : Nat, k ≤ N.W.n ∧ vi = .int .i64 k ∧ wr.ownsRow u.heap.size 212 4 vo (eoK N k).length (ecl (eoK N k)) ∧ Below u.heap.size u wr) (fun _ vi _ _ _ _ _ _ => N.W.n - (intOf vi).toNat)
 case atStart => exact ⟨0, Nat.zero_le _, rfl, own_empty_e u _ _ _ (Nat.le_refl _), rbel_al (Below.refl _ _)⟩
 case round =>
  obtain ⟨k, hk, rfl, hown, hw⟩ := hrel
  have HW : Hid (Below u.heap.size u wr) := hw
  have G : Hid (NN wr mb L N) := HR.out.on hw
  have m0 := G.out.r.c 0 _ rfl
  have zM := G.out.r.lt
  have zw := hw.size
  by_cases hlt : k < N.W.n
  ·have hl : (k : Int) < N.W.n := by omega
   have lk := G.out.p k hlt
   have zL := G.out.nl
   have le1 := eoK_len HT.out (Nat.le_of_lt hlt)
   have le2 := eoK_len HT.out (k := k + 1) hlt
   have kn := HT.out.kn k hlt
   have cR : Calls Tryz.prog 121 #[.pointer (some ⟨L.wb, 0, none⟩), .int .i64 (k : Int)] wr fun o w' => o = .returned (.tuple #[.int .i64 (N.W.rd k), .nilIface]) ∧ Below wr.heap.size wr w' := by
    have := read_yes G.out.w HT.out.g.i (i := (k : Int)) ⟨by omega, by omega⟩
    rwa [errc_zero, Int.toNat_natCast] at this
   have HE : Hid (eoK N (k + 1) = eoK N k ++ (N.nd k).eo (N.W.rd k)) := eoK_more N k
   have cE : Hid (∀ W, Below wr.heap.size wr W → Calls Tryz.prog 152 #[.pointer (some ⟨L.b k, 0, none⟩), .int .i64 (N.W.rd k)] W fun o w' => (∃ ea ec, o = .returned (.tuple #[.slice ea ((N.nd k).eo (N.W.rd k)).length ec, .nilIface]) ∧ EHanded w' ea ((N.nd k).eo (N.W.rd k)).length (egf ((N.nd k).eo (N.W.rd k))) ∧ (ea = none → ec = 0)) ∧ Below W.heap.size W w') := fun W hW => (nedges_go ((G.out.on hW).d k hlt) (kn.i HT.out.g hlt) (N.W.rd k) (kn.sp HT.out.g hlt)).mono fun _ _ ⟨⟨ea, ec, e, h1, h2, _⟩, h3⟩ => ⟨⟨ea, ec, e, h1, h2⟩, h3⟩
   have HO : Hid (wr.ownsRow u.heap.size 212 4 u4 (eoK N k).length (ecl (eoK N k))) := hown
   have HL : Hid (∀ g, u4.ownBlock = some g → u.heap.size ≤ g) := fun g hg => (hown.lt g hg).1
   rw [HE.out, List.length_append] at le2
   clear hown hw kn
   generalize (N.nd k).eo (N.W.rd k) = EL at *
   generalize eoK N k = EK at *
   generalize N.W.rd k = rv at *
   go_upto_region 11 with (first
    | (go_at_call 121; refine cR.mono ?_; rintro o x1 ⟨rfl, hb⟩; have B1 : Hid (Below wr.heap.size wr x1) := hb; clear hb)
    | (go_at_call 152; refine (cE.out _ B1.out).mono ?_; rintro o x2 ⟨⟨ea, ec, rfl, hE, hz⟩, hb⟩; have B2 : Hid (Below wr.heap.size wr x2) := rbel_on hb B1.out; have HH : Hid (EHanded x2 ea EL.length (egf EL)) := hE; have HZ : Hid (ea = none → ec = 0) := hz; clear hb hE hz))
   have O2 : Hid (x2.ownsRow u.heap.size 212 4 u4 EK.length (ecl EK)) := own_onN B2.out HO.out
   have W2 : Hid (Below u.heap.size u x2) := rbel_on B2.out HW.out
   have z2 := W2.out.size
   clear cR cE m0 lk B1 HO HW G zM zL
   cases ea with
   | none =>
    have ec0 : ec = 0 := HZ.out rfl
    subst ec0
    have el0 : EL = [] := by
     rcases HH.out.2 with e | ⟨b, off, e, _⟩
     ·exact List.eq_nil_of_length_eq_zero e
     ·cases e
    subst el0
    have R2 : Hid (x2.ownsRow u.heap.size 212 4 u4 (eoK N (k + 1)).length (ecl (eoK N (k + 1)))) := by
     show x2.ownsRow u.heap.size 212 4 u4 (eoK N (k + 1)).length (ecl (eoK N (k + 1)))
     rw [HE.out, List.append_nil]
     exact O2.out
    clear HE HZ HH
    go_wp2_with (at_builtin; refine wpList_append_own_none rfl _ _ 120 rfl u.heap.size 212 i0 4 Tryz.underlying120 hi0 u4 _ _ rfl O2.out rfl ?_)
    go_wp2
    go_roundw
    case rel => exact ⟨k + 1, by omega, by go_num, R2.out, W2.out⟩
    case measure => simp [intOf]; omega
   | some ad =>
    have HC : Hid (∀ j x, (ecl EL)[j]? = some x → x2.cell? (ad.add j) = some x) := by
     rcases HH.out.2 with e | ⟨b, off, e, hs⟩
     ·have e' := List.eq_nil_of_length_eq_zero e
      subst e'
      intro j x hx
      cases hx
     ·obtain rfl := Option.some.inj e
      exact esp_cells hs
    have HLn : Hid ((ecl EL).length = EL.length * 4) := ecl_len EL
    have HOn : Hid (∀ u ∈ ecl EL, u.oneCell' = true) := ecl_one EL
    clear HZ HH
    go_wp2_with (at_builtin; refine wpList_append_own_at _ rfl _ _ 120 rfl u.heap.size 212 i0 _ 4 32 Tryz.underlying120 hi0 hz0 hz1 hz2 rfl (by decide) u4 _ _ rfl O2.out ad _ _ (ecl EL) rfl HLn.out HC.out HOn.out (by unfold maxLen; omega) (by omega) (by omega) ?_)
    intro v' x3 own' hgrow hnn hat
    have R3 : Hid (x3.ownsRow u.heap.size 212 4 v' (eoK N (k + 1)).length (ecl (eoK N (k + 1)))) := by
     show x3.ownsRow u.heap.size 212 4 v' (eoK N (k + 1)).length (ecl (eoK N (k + 1)))
     rw [HE.out, List.length_append, ecl_app]
     exact own'
    have W3 : Hid (Below u.heap.size u x3) := W2.out.grown hgrow (by omega) HL.out
    clear own' hgrow hnn hat HE HC HLn HOn
    go_wp2
    go_roundw
    case rel => exact ⟨k + 1, by omega, by go_num, R3.out, W3.out⟩
    case measure => simp [intOf]; omega
  ·have hl : ¬ ((k : Int) < N.W.n) := by omega
   obtain rfl : k = N.W.n := by omega
   rw [eoK_all] at hown
   have le := eoN_len HT.out
   obtain ⟨a, cap, rfl, hH, hZ⟩ := own_eh hown rfl (by omega)
   have HC : Hid ((eoN N).length ≤ cap ∧ cap ≤ 9223372036854775807) := own_cap hown rfl
   have HH : Hid (EHanded wr a (eoN N).length (egf (eoN N))) := hH
   clear hown hw hH hZ m0 zM
   go_wp2
   go_ret2
   first
    | exact ⟨a, cap, rfl, HH.out, HW.out, HC.out.1, HC.out.2⟩
    | exact ⟨a, ⟨cap, rfl⟩, HH.out, HW.out, HC.out.1, HC.out.2⟩
section
variable {u : World} {mb : Nat} {L : Nly} {N : Nn}
set_option maxRecDepth 100000 in
set_option maxHeartbeats 4000000 in
theorem nisn (h : NN u mb L N) (g : N.W.I) (i : Int) (b : Bool) (hb : b = decide (0 ≤ i ∧ i < (N.W.n : Int))) :
  Calls Tryz.prog 122 #[.pointer (some ⟨mb, 0, none⟩), .int .i64 i] u fun o w' => o = .returned (.bool b) ∧ w' = u := by
 have c1 := h.r.c 1 _ rfl
 have l0 := h.r.lt
 have n6 := g.n6
 clear h g
 subst hb
 generalize N.W.n = n at *
 by_cases h : 0 ≤ i
 ·by_cases h2 : i < n
  ·rw [show decide (0 ≤ i ∧ i < (n : Int)) = true from decide_eq_true ⟨h, h2⟩]
   have d1 : decide (i < (n : Int)) = true := decide_eq_true h2
   go_enter Tryz.func122, Tryz.ntmps122
   go_wp2
   go_ret
   exact ⟨rfl, rfl⟩
  ·rw [show decide (0 ≤ i ∧ i < (n : Int)) = false from decide_eq_false (fun q => h2 q.2)]
   have d1 : decide (i < (n : Int)) = false := decide_eq_false h2
   go_enter Tryz.func122, Tryz.ntmps122
   go_wp2
   go_ret
   exact ⟨rfl, rfl⟩
 ·rw [show decide (0 ≤ i ∧ i < (n : Int)) = false from decide_eq_false (fun q => h q.1)]
  have d1 : decide (0 ≤ i) = false := decide_eq_false h
  go_enter Tryz.func122, Tryz.ntmps122
  go_wp2
  go_ret
  exact ⟨rfl, rfl⟩
end
set_option maxHeartbeats 4000000
set_option maxRecDepth 100000
section
variable {u : World} {mb : Nat} {L : Nly} {N : Nn}
theorem noff_no (h : NN u mb L N) (g : N.W.I) (x y : Int) (X Y : Bool) (hX : Hid (X = decide (0 ≤ x ∧ x < (N.W.n : Int)))) (hY : Hid (Y = decide (0 ≤ y ∧ y < (N.W.n : Int)))) (hn : X = false ∨ (X = true ∧ Y = false)) :
  Calls Tryz.prog 92 #[.pointer (some ⟨mb, 0, none⟩), .int .i64 x, .int .i64 y] u fun o w' => o = .returned (.tuple #[sp 0 0, .iface 86 (.int .i64 1)]) ∧ Below u.heap.size u w' := by
 have cX : Hid (∀ W, Below u.heap.size u W → Calls Tryz.prog 122 #[.pointer (some ⟨mb, 0, none⟩), .int .i64 x] W fun o w' => o = .returned (.bool X) ∧ w' = W) := fun W hW => nisn (h.on hW) g x X hX.out
 have cY : Hid (∀ W, Below u.heap.size u W → Calls Tryz.prog 122 #[.pointer (some ⟨mb, 0, none⟩), .int .i64 y] W fun o w' => o = .returned (.bool Y) ∧ w' = W) := fun W hW => nisn (h.on hW) g y Y hY.out
 clear h g hX hY
 have cnt : Mark 0 := .mk _
 rcases hn with rfl | ⟨rfl, rfl⟩
 ·go_enter Tryz.func92, Tryz.ntmps92
  go_wp2_with (go_at_call 122; refine (cX.out _ (rbel_al (Below.refl _ _))).mono ?_; rintro o u1 ⟨rfl, hu⟩; rw [hu]; clear hu)
  exact bodyPost_ret (v := .tuple #[sp 0 0, .iface 86 (.int .i64 1)]) (by simp [results, Tryz.results92, go_sem, *]) rfl ⟨rfl, by first | exact rbel_al (Below.refl _ _) | exact rbel_put (Nat.le_refl _) (rbel_put (Nat.le_refl _) (rbel_al (Below.refl _ _)))⟩
 ·go_enter Tryz.func92, Tryz.ntmps92
  go_wp2_with (first
   | (go_at_call 122; have cq : Mark 0 := cnt; refine (cX.out _ (rbel_al (Below.refl _ _))).mono ?_; clear cq cnt; have cnt : Mark 1 := .mk _; rintro o u1 ⟨rfl, hu⟩; rw [hu]; clear hu)
   | (go_at_call 122; have cq : Mark 1 := cnt; refine (cY.out _ (rbel_al (Below.refl _ _))).mono ?_; clear cq cnt; rintro o u1 ⟨rfl, hu⟩; rw [hu]; clear hu))
  exact bodyPost_ret (v := .tuple #[sp 0 0, .iface 86 (.int .i64 1)]) (by simp [results, Tryz.results92, go_sem, *]) rfl ⟨rfl, by first | exact rbel_al (Below.refl _ _) | exact rbel_put (Nat.le_refl _) (rbel_put (Nat.le_refl _) (rbel_al (Below.refl _ _)))⟩
theorem noff_go (h : NN u mb L N) (g : N.T) (x y lo hi e : Int) (hx : 0 ≤ x ∧ x < (N.W.n : Int)) (hy : 0 ≤ y ∧ y < (N.W.n : Int)) (hB : BetA N.W.n (egf (eoN N)) (eoN N).length x y lo hi e) :
  Calls Tryz.prog 92 #[.pointer (some ⟨mb, 0, none⟩), .int .i64 x, .int .i64 y] u fun o w' => o = .returned (.tuple #[sp lo hi, errc e]) ∧ Below u.heap.size u w' := by
 have cX : Hid (∀ W, Below u.heap.size u W → Calls Tryz.prog 122 #[.pointer (some ⟨mb, 0, none⟩), .int .i64 x] W fun o w' => o = .returned (.bool true) ∧ w' = W) := fun W hW => nisn (h.on hW) g.g.i x true (decide_eq_true hx).symm
 have cY : Hid (∀ W, Below u.heap.size u W → Calls Tryz.prog 122 #[.pointer (some ⟨mb, 0, none⟩), .int .i64 y] W fun o w' => o = .returned (.bool true) ∧ w' = W) := fun W hW => nisn (h.on hW) g.g.i y true (decide_eq_true hy).symm
 have cE : Hid (∀ W, Below u.heap.size u W → Calls Tryz.prog 123 #[.pointer (some ⟨mb, 0, none⟩)] W fun o w' => ∃ (ea : Option Addr) (ec : Nat), o = .returned (.tuple #[.slice ea (eoN N).length ec, .nilIface]) ∧ EHanded w' ea (eoN N).length (egf (eoN N)) ∧ Below W.heap.size W w') := fun W hW => (nedges_net (h.on hW) g).mono fun _ _ ⟨ea, ec, e, h1, h2, _⟩ => ⟨ea, ec, e, h1, h2⟩
 have cB : Hid (∀ (a : Option Addr) (cap : Nat) (W : World), EHanded W a (eoN N).length (egf (eoN N)) → Calls Tryz.prog 124 #[.int .i64 N.W.n, .slice a (eoN N).length cap, .int .i64 x, .int .i64 y] W fun r w' => r = .returned (.tuple #[sp lo hi, errc e]) ∧ Below W.heap.size W w') := fun a cap W hH => between_any N.W.n a (eoN N).length cap (egf (eoN N)) x y lo hi e W hH hB
 have HR : Hid (NN u mb L N) := h
 clear h g hx hy hB
 generalize (eoN N).length = m at *
 generalize errc e = ev at *
 have cnt : Mark 0 := .mk _
 go_enter Tryz.func92, Tryz.ntmps92
 go_wp2_with (first
  | (go_at_call 122; have cq : Mark 0 := cnt; refine (cX.out _ (rbel_al (Below.refl _ _))).mono ?_; clear cq cnt; have cnt : Mark 1 := .mk _; rintro o u1 ⟨rfl, hu⟩; rw [hu]; clear hu)
  | (go_at_call 122; have cq : Mark 1 := cnt; refine (cY.out _ (rbel_al (Below.refl _ _))).mono ?_; clear cq cnt; rintro o u1 ⟨rfl, hu⟩; rw [hu]; clear hu)
  | (go_at_call 123; refine (cE.out _ (rbel_al (Below.refl _ _))).mono ?_; rintro o u2 ⟨ea, ec, rfl, hE, hb⟩; have HE : Hid (EHanded u2 ea m (egf (eoN N))) := hE; have B2 : Hid (Below u.heap.size u u2) := rbel_on hb (rbel_al (Below.refl _ _)); have R2 : Hid (Row u2 u.heap.size [.int .i64 0, .int .i64 0]) := Row.on hb (Row.made rfl); have N2 : Hid (NN u2 mb L N) := HR.out.on B2.out; have c1 := N2.out.r.c 1 _ rfl; have l2 := N2.out.r.lt; clear hE hb)
  | (go_at_call 124; refine (cB.out _ _ _ HE.out).mono ?_; rintro o u3 ⟨rfl, hb⟩; have B3 : Hid (Below u.heap.size u u3) := rbel_on hb B2.out; have r := Row.on hb R2.out; have r0 := r.c 0 _ rfl; have r1 := r.c 1 _ rfl; have f0 := r.f 0 _ rfl; have f1 := r.f 1 _ rfl; have lr := r.lt; clear hb r))
 exact bodyPost_ret (v := .tuple #[sp lo hi, ev]) (by simp [results, Tryz.results92, go_sem, *]) rfl ⟨rfl, rbel_put (Nat.le_refl _) (rbel_put (Nat.le_refl _) B3.out)⟩
theorem noff_any (h : NN u mb L N) (g : N.T) (x y lo hi e : Int) (hB : BetA N.W.n (egf (eoN N)) (eoN N).length x y lo hi e) :
  Calls Tryz.prog 92 #[.pointer (some ⟨mb, 0, none⟩), .int .i64 x, .int .i64 y] u fun o w' => o = .returned (.tuple #[.agg #[.int .i64 lo, .int .i64 hi], errc e]) ∧ Below u.heap.size u w' := by
 have hE := egs_e (eoN_egs g)
 by_cases hn : (0 ≤ x ∧ x < (N.W.n : Int)) ∧ (0 ≤ y ∧ y < (N.W.n : Int))
 ·exact noff_go h g x y lo hi e hn.1 hn.2 hB
 ·have hb : lo = 0 ∧ hi = 0 ∧ e = 1 := by
   rcases hB with ⟨q, _⟩ | ⟨_, _, q1, q2, q3⟩ | ⟨_, q, _⟩
   ·exact absurd hE q
   ·exact ⟨q1, q2, q3⟩
   ·exact absurd ⟨⟨q.1, q.2.1⟩, q.2.2.1, q.2.2.2⟩ hn
  obtain ⟨rfl, rfl, rfl⟩ := hb
  rw [errc_not (by decide)]
  refine noff_no h g.g.i x y _ _ rfl rfl ?_
  cases q : decide (0 ≤ x ∧ x < (N.W.n : Int)) with
  | false => exact Or.inl rfl
  | true => exact Or.inr ⟨rfl, decide_eq_false (fun q' => hn ⟨of_decide_eq_true q, q'⟩)⟩
end
def nto (w : World) : NtO w := { ntt w with
 off := fun b F N x y lo hi e u hR hT _ _ hB => by
  obtain ⟨L, hP, rfl⟩ := hR
  exact noff_any hP hT x y lo hi e hB
 }
set_option maxRecDepth 100000 in
set_option maxHeartbeats 8000000 in
theorem nwide_at {u : World} {mb : Nat} {L : Nly} {N : Nn} (hR : NN u mb L N) (hT : N.T) (T : Tb) (hA : AllA (egf (eoN N)) (eoN N).length N.W.n 0 T) :
  Calls Tryz.prog 94 #[.pointer (some ⟨mb, 0, none⟩)] u fun o w' => o = .returned (.tuple #[.int .i64 (wid N.W.n T), .nilIface]) ∧ Below u.heap.size u w' := by
 have HR : Hid (NN u mb L N) := hR
 have h6 := hT.g.i.n6
 have cE : Calls Tryz.prog 123 #[.pointer (some ⟨mb, 0, none⟩)] u fun o w' => ∃ (ea : Option Addr) (ec : Nat), o = .returned (.tuple #[.slice ea (eoN N).length ec, .nilIface]) ∧ EHanded w' ea (eoN N).length (egf (eoN N)) ∧ Below u.heap.size u w' := (nedges_net hR hT).mono fun _ _ ⟨ea, ec, e, h1, h2, _⟩ => ⟨ea, ec, e, h1, h2⟩
 have cB : Hid (∀ (W : World) (ea : Option Addr) (ec : Nat), EHanded W ea (eoN N).length (egf (eoN N)) → Calls Tryz.prog 125 #[.int .i64 N.W.n, .slice ea (eoN N).length ec] W fun o w' => ∃ s h, o = .returned (.tuple #[s, h, .nilIface]) ∧ STab w' s h N.W.n T ∧ Below W.heap.size W w') := fun W ea ec hE => (all_any N.W.n ea (eoN N).length ec (egf (eoN N)) 0 T W hE (Or.inr ⟨egs_e (eoN_egs hT), by rw [Int.toNat_natCast]; exact hA⟩)).mono fun _ _ ⟨s, h, e, h1, h2⟩ => ⟨s, h, by rw [errc_zero] at e; exact e, by have := h1 rfl; rwa [Int.toNat_natCast] at this, h2⟩
 have HA : Hid (AllA (egf (eoN N)) (eoN N).length N.W.n 0 T) := hA
 have HWI : Hid (wid N.W.n T = csum T N.W.n) := (wid_is N.W.n T).trans (csum_is T N.W.n).symm
 clear hR hT hA
 go_enter Tryz.func94, Tryz.ntmps94
 go_upto_region 7 with (first
  | (go_at_call 123; refine cE.mono ?_; rintro o x1 ⟨ea, ec, rfl, hE, hb⟩; have B1 : Hid (Below u.heap.size u x1) := hb; have HE : Hid (EHanded x1 ea (eoN N).length (egf (eoN N))) := hE; have N1 : Hid (NN x1 mb L N) := HR.out.on hb; have n1 := N1.out.r.c 1 _ rfl; have zM1 : mb < x1.heap.size := N1.out.r.lt; clear hb hE)
  | (go_at_call 125; refine (cB.out _ _ _ HE.out).mono ?_; rintro o x2 ⟨s, hh, rfl, hS, hb⟩; have B2 : Hid (Below u.heap.size u x2) := rbel_on hb B1.out; have HS : Hid (STab x2 s hh N.W.n T) := hS; clear hb hS))
 obtain ⟨sb, so, scc, hb, ho, hc, rb, ro, rcc, gb, go, gc, e1, e2, r1, r2⟩ := (show STab x2 s hh N.W.n T from HS.out)
 subst e1
 subst e2
 have Q1 : Hid (∀ i, i < N.W.n → x2.cell? ⟨sb, so + i, none⟩ = some (.slice (some ⟨rb i, ro i, none⟩) N.W.n (rcc i)) ∧ x2.cell? ⟨hb, ho + i, none⟩ = some (.slice (some ⟨gb i, go i, none⟩) N.W.n (gc i))) := r1
 have Q2 : Hid (∀ i k, i < N.W.n → k < N.W.n → x2.cell? ⟨rb i, ro i + k * 2, none⟩ = some (.int .i64 (spLo T i k)) ∧ x2.cell? ⟨rb i, ro i + k * 2 + 1, none⟩ = some (.int .i64 (spHi T i k)) ∧ x2.cell? ⟨gb i, go i + k, none⟩ = some (.bool (T i k).isSome)) := r2
 clear r1 r2 HS B1 HE n1 zM1 cE cB N1
 go_wp2
 go_loopw [8, 35, 9, 10] (fun vs vb _ _ wr => ∃ b : Nat, b ≤ N.W.n ∧ vb = .int .i64 b ∧ vs = .int .i64 (csum T b) ∧ Below x2.heap.size x2 wr) (fun _ vb _ _ _ => N.W.n - (intOf vb).toNat)
 case atStart => exact ⟨0, Nat.zero_le _, rfl, rfl, Below.refl _ _⟩
 case round =>
  obtain ⟨b, hbn, rfl, rfl, hw⟩ := hrel
  have HW : Hid (Below x2.heap.size x2 wr) := hw
  by_cases hlt : b < N.W.n
  ·have hl : (b : Int) < N.W.n := by omega
   have sb1 := csum_b HA.out h6 b hbn
   have I0 : Hid (csum T b = csum T b + wcol T b 0) := by
    show csum T b = csum T b + wcol T b 0
    rw [show wcol T b 0 = 0 from rfl]; omega
   have I1 : Hid (csum T (b + 1) = csum T b + wcol T b b) := csum_succ T b
   clear hw
   go_wp2
   go_loopw [8, 39, 10] (fun vs va _ wr => ∃ a : Nat, a ≤ b ∧ va = .int .i64 a ∧ vs = .int .i64 (csum T b + wcol T b a) ∧ Below x2.heap.size x2 wr) (fun _ va _ _ => b - (intOf va).toNat)
   case atStart => exact ⟨0, Nat.zero_le _, rfl, by rw [← I0.out], HW.out⟩
   case round =>
    clear HW
    obtain ⟨a, hab, rfl, rfl, hw⟩ := hrel
    have HW : Hid (Below x2.heap.size x2 wr) := hw
    have on : ∀ (p : Addr) (x : Value), x2.cell? p = some x → wr.cell? p = some x := fun p x e => by rw [hw.cell (World.block_lt_of_cell? _ _ e)]; exact e
    by_cases hlc : a < b
    ·have hl2 : (a : Int) < (b : Int) := by omega
     have han : a < N.W.n := by omega
     have hl3 : (a : Int) < N.W.n := by omega
     have a1 := on _ _ (Q1.out a han).1
     have a2 := on _ _ (Q1.out a han).2
     have y1 := World.block_lt_of_cell? _ _ a1
     have y2 := World.block_lt_of_cell? _ _ a2
     obtain ⟨q1, q2, q3⟩ := Q2.out a b han hlt
     have b1 := on _ _ q1
     have b2 := on _ _ q2
     have b3 := on _ _ q3
     have y3 := World.block_lt_of_cell? _ _ b1
     have y4 := World.block_lt_of_cell? _ _ b3
     have rw1 := wcol_b HA.out hlt a (by omega)
     have tb := wt_b HA.out han hlt
     have I2 : Hid (wcol T b (a + 1) = wcol T b a + wt T a b) := wcol_succ T b a
     cases e : (T a b).isSome with
     | false =>
      rw [e] at b3
      have I3 : Hid (wcol T b (a + 1) = wcol T b a) := by
       show wcol T b (a + 1) = wcol T b a
       rw [I2.out]
       unfold wt
       rw [if_neg (by rw [e]; exact fun q => by cases q.2)]
       omega
      clear hw on q1 q2 q3 b1 b2 tb I2
      go_wp2
      go_roundw
      case rel => exact ⟨a + 1, by omega, by go_num, by rw [I3.out], HW.out⟩
      case measure => simp [intOf]; omega
     | true =>
      rw [e] at b3
      obtain ⟨t1, t2, t3⟩ := tb.2.2 e
      have I3 : Hid (wcol T b (a + 1) = wcol T b a + (spHi T a b - spLo T a b)) := by
       show wcol T b (a + 1) = wcol T b a + (spHi T a b - spLo T a b)
       rw [I2.out]
       unfold wt
       rw [if_pos ⟨hlc, e⟩]
      clear hw on q1 q2 q3 tb I2
      generalize spHi T a b = hi at *
      generalize spLo T a b = lo at *
      have w1 : IntKind.i64.wrap (hi - lo) = hi - lo := IntWalk.i64_in _ (by omega)
      have w2 : IntKind.i64.wrap (csum T b + wcol T b a + (hi - lo)) = csum T b + wcol T b a + (hi - lo) := IntWalk.i64_in _ (by omega)
      go_wp2
      go_quiet (fail)
      go_wp2
      go_roundw
      case rel => exact ⟨a + 1, by omega, by go_num, by rw [I3.out, show csum T b + wcol T b a + (hi - lo) = csum T b + (wcol T b a + (hi - lo)) by omega], rbel_drn HW.out⟩
      case measure => simp [intOf]; omega
    ·have hl2 : ¬ ((a : Int) < (b : Int)) := by omega
     obtain rfl : a = b := by omega
     clear hw on
     go_wp2
     go_roundw
     case rel => exact ⟨a + 1, by omega, by go_num, by rw [I1.out], HW.out⟩
     case measure => simp [intOf]; omega
  ·have hl : ¬ ((b : Int) < N.W.n) := by omega
   obtain rfl : b = N.W.n := by omega
   clear hw
   go_wp2
   go_ret2
   exact ⟨by rw [HWI.out]; rfl, rbel_on HW.out B2.out⟩
def ntw (w : World) : NtW w := { nto w with
 wide := fun b F N T u hR hT hA => by
  obtain ⟨L, hP, rfl⟩ := hR
  exact nwide_at hP hT T hA
 }
section
variable {u : World} {mb : Nat} {L : Nly} {N : Nn}
set_option maxRecDepth 100000 in
set_option maxHeartbeats 4000000 in
theorem nshow_at (h : NN u mb L N) (i x e : Int) (cR : Calls Tryz.prog 121 #[.pointer (some ⟨L.wb, 0, none⟩), .int .i64 i] u fun o w' => o = .returned (.tuple #[.int .i64 x, errc e]) ∧ Below u.heap.size u w') :
  Calls Tryz.prog 91 #[.pointer (some ⟨mb, 0, none⟩), .int .i64 i] u fun o w' => o = .returned (.tuple #[.int .i64 x, errc e]) ∧ Below u.heap.size u w' := by
 have c0 := h.r.c 0 _ rfl
 have l0 := h.r.lt
 clear h
 generalize errc e = ev at *
 go_enter Tryz.func91, Tryz.ntmps91
 go_wp2_with (go_at_call 121; refine cR.mono ?_; rintro o u1 ⟨rfl, hb⟩; have HB : Hid _ := hb; clear hb)
 go_ret2
 exact ⟨rfl, HB.out⟩
theorem nshow_any (h : NN u mb L N) (g : N.W.I) (i : Int) :
  Calls Tryz.prog 91 #[.pointer (some ⟨mb, 0, none⟩), .int .i64 i] u fun o w' => ((N.W.hs i ∧ o = .returned (.tuple #[.int .i64 (N.W.rd i.toNat), errc 0])) ∨ (¬ N.W.hs i ∧ o = .returned (.tuple #[.int .i64 0, errc 1]))) ∧ Below u.heap.size u w' := by
 by_cases hs : N.W.hs i
 ·exact (nshow_at h i _ 0 (read_yes h.w g hs)).mono fun _ _ ⟨q, hw⟩ => ⟨Or.inl ⟨hs, q⟩, hw⟩
 ·exact (nshow_at h i _ 1 (read_no h.w g hs)).mono fun _ _ ⟨q, hw⟩ => ⟨Or.inr ⟨hs, q⟩, hw⟩
end
end Go.Proofs.YtadkgnbagmnkkakGreatDoor
