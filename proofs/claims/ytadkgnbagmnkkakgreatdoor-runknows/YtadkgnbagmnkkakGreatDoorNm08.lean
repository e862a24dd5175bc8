/- What the other packages must answer a desk. What a desk does for an act, for a number, for an offset, for a date. What package run must answer. What the document's own reckoning (package noonref1) answers of a text that is cut: Cut. -/
import Derived.Test.YtadkgnbagmnkkakGreatDoorNm07
import Derived.Test.YtadkgnbagmnkkakGreatDoorNm06
import Derived.Lib.SmallJoins
import Derived.Deep.RegionHeld
import Derived.BigQuiet
import Derived.Test.YtadkgnbagmnkkakGreatDoorNm03
import Derived.Test.YtadkgnbagmnkkakGreatDoorNm05
import Derived.Laws.IdiomStrings
import Derived.IntWalk
namespace Go.Proofs.YtadkgnbagmnkkakGreatDoor.rn
open Go.ChangeShapes Go.WideShapes Go.ChangeAt Go.RowKit Go.Joins
set_option linter.unusedVariables false
set_option linter.unusedSimpArgs false

def txt (x : List UInt8) : ByteArray := ⟨x.toArray⟩
structure DkC (w0 : World) extends NtW w0 where
 show_ : ∀ (b : Nat) (F : Nat → Prop) (N : Nn) (i : Int) (u : World), R u b F N → N.T → In64 i → Calls Tryz.prog 91 #[.pointer (some ⟨b, 0, none⟩), .int .i64 i] u fun o w' => ((N.W.hs i ∧ o = .returned (.tuple #[.int .i64 (N.W.rd i.toNat), errc 0])) ∨ (¬ N.W.hs i ∧ o = .returned (.tuple #[.int .i64 0, errc 1]))) ∧ Below u.heap.size u w'
 itoa : ∀ (v : Int) (u : World), Below w0.heap.size w0 u → -9223372036854775808 ≤ v ∧ v ≤ 9223372036854775807 → Calls Tryz.prog 102 #[.int .i64 v] u fun o w' => o = .returned (.string (txt (Lib.itoa v))) ∧ Below u.heap.size u w'
 sprint : ∀ (lo hi : Int) (u : World), Below w0.heap.size w0 u → okB lo hi = true → Calls Tryz.prog 93 #[.agg #[.int .i64 lo, .int .i64 hi]] u fun o w' => o = .returned (.tuple #[.string (txt (printL lo hi)), .nilIface]) ∧ Below u.heap.size u w'
 utc : ∀ (x y m d h i s : Int) (u : World), Below w0.heap.size w0 u → 0 ≤ x → x ≤ 9999999 → UtcL q00 0 x y m d h i s → Calls Tryz.prog 95 #[.slice none 0 0, .int .i64 x] u fun r w' => r = .returned (.tuple #[lbl y m d h i s, .nilIface]) ∧ Below u.heap.size u w'
 print : ∀ (y m d h i s : Int) (u : World), Below w0.heap.size w0 u → okD y m d = true → okH h i s = true → Calls Tryz.prog 96 #[lbl y m d h i s] u fun r w' => r = .returned (.tuple #[.string (ltext y m d h i s), .nilIface]) ∧ Below u.heap.size u w'
def lineV : Value := .iface 98 (.agg #[.int .i64 2])
def Tl {w0 : World} (C : DkC w0) (u : World) (nb : Nat) (F : Nat → Prop) (N' : Nn) (x : List UInt8) (o : Ending) (w' : World) : Prop := ∃ (F' : Nat → Prop) (e : Int) (t : ByteArray), o = .returned (.tuple #[.string t, errc e]) ∧ 0 ≤ e ∧ e ≤ 8 ∧ x = (if e = 0 then t.data.toList else nameB e) ∧ Nv w0 C.toNt w' nb F' N' ∧ Keeps F u w' ∧ ∀ k, F' k → F k ∨ u.heap.size ≤ k
section
variable {w0 u : World} {nb M Z : Nat} {F : Nat → Prop} {N N' : Nn}
theorem Tl.same (C : DkC w0) {w' : World} (e : Int) (t : ByteArray) (x : List UInt8) (g : Nv w0 C.toNt u nb F N) (h0 : 0 ≤ e) (h8 : e ≤ 8) (hx : x = (if e = 0 then t.data.toList else nameB e)) (hb : Below u.heap.size u w') : Tl C u nb F N x (.returned (.tuple #[.string t, errc e])) w' := ⟨F, e, t, rfl, h0, h8, hx, g.on hb, Keeps.of hb, fun k h => Or.inl h⟩
set_option maxRecDepth 100000 in
set_option maxHeartbeats 8000000 in
theorem wri_ok (C : DkC w0) (v : Int) (u : World) (hu : Below w0.heap.size w0 u) (hv : -9223372036854775808 ≤ v ∧ v ≤ 9223372036854775807) : Calls Tryz.prog 90 #[.int .i64 v, .nilIface] u fun o w' => o = .returned (.tuple #[.string (txt (Lib.itoa v)), .nilIface]) ∧ Below u.heap.size u w' := by
  have c := fun (w : World) (hw : Below u.heap.size u w) => C.itoa v w (rbel_on hw hu) hv
  clear hu
  go_enter Tryz.func90, Tryz.ntmps90
  go_wp2_with (go_at_call 102; refine (c _ (by (repeat first | exact Below.refl _ _ | refine rbel_put (by omega) ?_ | refine rbel_drn ?_ | refine rbel_dr ?_ | refine rbel_al ?_))).mono ?_; rintro o u1 ⟨rfl, hb⟩; have B1 : Hid (Below u.heap.size u u1) := rbel_on hb (by (repeat first | exact Below.refl _ _ | refine rbel_put (by omega) ?_ | refine rbel_drn ?_ | refine rbel_dr ?_ | refine rbel_al ?_)); clear hb)
  go_ret2
  exact ⟨rfl, B1.out⟩
set_option maxRecDepth 100000 in
set_option maxHeartbeats 8000000 in
theorem wri_no (v e : Int) (he : e ≠ 0) (u : World) : Calls Tryz.prog 90 #[.int .i64 v, .iface 86 (.int .i64 e)] u fun o w' => o = .returned (.tuple #[.string ⟨#[]⟩, .iface 86 (.int .i64 e)]) ∧ Below u.heap.size u w' := by
  go_enter Tryz.func90, Tryz.ntmps90
  go_wp2
  go_ret2
  exact ⟨rfl, (by (repeat first | exact Below.refl _ _ | refine rbel_put (by omega) ?_ | refine rbel_drn ?_ | refine rbel_dr ?_ | refine rbel_al ?_))⟩
set_option maxRecDepth 100000 in
set_option maxHeartbeats 8000000 in
theorem do_act (C : DkC w0) (g : Nv w0 C.toNt u nb F N) (d : Row u Z [.pointer (some ⟨nb, 0, none⟩), .map (some M)]) (nFZ : ¬ F Z) (c k : Nat) (hc : Row u c [.int .i64 (k : Int)]) (nFc : ¬ F c) (a b : Nat) (ha : a ≤ 9999999) (hb : b ≤ 9999999) (hk : k ≤ 9) (e : Int) (x : List UInt8) (hD : NDoR N k (a : Int) (b : Int) N' e) (hx : x = if e = 0 then [111, 107] else nameB e) : Calls Tryz.prog 88 #[.pointer (some ⟨Z, 0, none⟩), .agg #[.int .i64 (a : Int), .int .i64 (b : Int)], .pointer (some ⟨c, 0, none⟩)] u (Tl C u nb F N' x) := by
  obtain ⟨e0, e8⟩ := nDoR_e hD
  have cD := fun (v : World) (hv : Below u.heap.size u v) => (g.on hv).act (WalkArith.wf_i64 (by omega)) (WalkArith.wf_i64 (by omega)) (WalkArith.wf_i64 (by omega)) hD
  have nFu : ¬ F u.heap.size := fun h => by have := C.lt g.h _ h; omega
  have HX : Hid (x = if e = 0 then [111, 107] else nameB e) := hx
  have D0 : Hid (Row u Z [.pointer (some ⟨nb, 0, none⟩), .map (some M)]) := d
  have C0 : Hid (Row u c [.int .i64 (k : Int)]) := hc
  clear hD g hx d hc
  by_cases z : e = 0
  · subst z
    rw [errc_zero] at cD
    go_enter Tryz.func88, Tryz.ntmps88
    go_wp2
    have BW : Hid (Below u.heap.size u (u.alloc (.cells #[.int .i64 (a : Int), .int .i64 (b : Int)] 107))) := rbel_al (Below.refl _ _)
    have RX : Hid (Row (u.alloc (.cells #[.int .i64 (a : Int), .int .i64 (b : Int)] 107)) u.heap.size [.int .i64 (a : Int), .int .i64 (b : Int)]) := Row.made rfl
    generalize (u.alloc (.cells #[.int .i64 (a : Int), .int .i64 (b : Int)] 107)) = W at *
    have DW := Row.on BW.out D0.out
    have CW := Row.on BW.out C0.out
    have d0 := DW.c 0 _ rfl
    have c0 := CW.c 0 _ rfl
    have x0 := RX.out.c 0 _ rfl
    have x1 := RX.out.c 1 _ rfl
    have lb : Z < W.heap.size := DW.lt
    have lc : c < W.heap.size := CW.lt
    have lx : u.heap.size < W.heap.size := RX.out.lt
    have HDW : Hid (Row W Z [.pointer (some ⟨nb, 0, none⟩), .map (some M)]) := DW
    have HCW : Hid (Row W c [.int .i64 (k : Int)]) := CW
    clear DW CW
    go_region_held (fun w' => w'.cell? ⟨Z, 0, none⟩ = some (.pointer (some ⟨nb, 0, none⟩)) ∧ w'.cell? ⟨c, 0, none⟩ = some (.int .i64 (k : Int)) ∧ w'.cell? ⟨u.heap.size, 0, none⟩ = some (.int .i64 (a : Int)) ∧ w'.cell? ⟨u.heap.size, 1, none⟩ = some (.int .i64 (b : Int))) (go_keep) (first
      | (go_at_call 89; go_loud (refine (cD _ (rbel_dr BW.out)).mono ?_; rintro o u1 ⟨F', rfl, g', hK, hF⟩; have G1 : Hid (Nv w0 C.toNt u1 nb F' N') := g'; have K1 : Hid (Keeps F u u1) := (Keeps.of (rbel_dr BW.out)).trans hK; have F1 : Hid (∀ k, F' k → F k ∨ u.heap.size ≤ k) := (fun k hk => (hF k hk).imp id (fun q => Nat.le_trans (rbel_dr BW.out).size q)); have D2 := hK.row nFZ (Row.dr HDW.out); have C2 := hK.row nFc (Row.dr HCW.out); have X2 := hK.row nFu (Row.dr RX.out); have w0 := D2.c 0 _ rfl; have w1 := C2.c 0 _ rfl; have w2 := X2.c 0 _ rfl; have w3 := X2.c 1 _ rfl; clear g' hK hF D2 C2 X2)))
    go_wp2
    go_ret2
    exact ⟨F', 0, ⟨#[111, 107]⟩, rfl, by omega, by omega, HX.out, G1.out, K1.out, F1.out⟩
  · rw [errc_not z] at cD
    have lE := errc_not z
    go_enter Tryz.func88, Tryz.ntmps88
    go_wp2
    have BW : Hid (Below u.heap.size u (u.alloc (.cells #[.int .i64 (a : Int), .int .i64 (b : Int)] 107))) := rbel_al (Below.refl _ _)
    have RX : Hid (Row (u.alloc (.cells #[.int .i64 (a : Int), .int .i64 (b : Int)] 107)) u.heap.size [.int .i64 (a : Int), .int .i64 (b : Int)]) := Row.made rfl
    generalize (u.alloc (.cells #[.int .i64 (a : Int), .int .i64 (b : Int)] 107)) = W at *
    have DW := Row.on BW.out D0.out
    have CW := Row.on BW.out C0.out
    have d0 := DW.c 0 _ rfl
    have c0 := CW.c 0 _ rfl
    have x0 := RX.out.c 0 _ rfl
    have x1 := RX.out.c 1 _ rfl
    have lb : Z < W.heap.size := DW.lt
    have lc : c < W.heap.size := CW.lt
    have lx : u.heap.size < W.heap.size := RX.out.lt
    have HDW : Hid (Row W Z [.pointer (some ⟨nb, 0, none⟩), .map (some M)]) := DW
    have HCW : Hid (Row W c [.int .i64 (k : Int)]) := CW
    clear DW CW
    go_region_held (fun w' => w'.cell? ⟨Z, 0, none⟩ = some (.pointer (some ⟨nb, 0, none⟩)) ∧ w'.cell? ⟨c, 0, none⟩ = some (.int .i64 (k : Int)) ∧ w'.cell? ⟨u.heap.size, 0, none⟩ = some (.int .i64 (a : Int)) ∧ w'.cell? ⟨u.heap.size, 1, none⟩ = some (.int .i64 (b : Int))) (go_keep) (first
      | (go_at_call 89; go_loud (refine (cD _ (rbel_dr BW.out)).mono ?_; rintro o u1 ⟨F', rfl, g', hK, hF⟩; have G1 : Hid (Nv w0 C.toNt u1 nb F' N') := g'; have K1 : Hid (Keeps F u u1) := (Keeps.of (rbel_dr BW.out)).trans hK; have F1 : Hid (∀ k, F' k → F k ∨ u.heap.size ≤ k) := (fun k hk => (hF k hk).imp id (fun q => Nat.le_trans (rbel_dr BW.out).size q)); have D2 := hK.row nFZ (Row.dr HDW.out); have C2 := hK.row nFc (Row.dr HCW.out); have X2 := hK.row nFu (Row.dr RX.out); have w0 := D2.c 0 _ rfl; have w1 := C2.c 0 _ rfl; have w2 := X2.c 0 _ rfl; have w3 := X2.c 1 _ rfl; clear g' hK hF D2 C2 X2)))
    go_wp2
    go_ret2
    rw [← lE]
    exact ⟨F', e, ⟨#[]⟩, rfl, e0, e8, by rw [HX.out, if_neg z, if_neg z], G1.out, K1.out, F1.out⟩
set_option maxRecDepth 100000 in
set_option maxHeartbeats 8000000 in
theorem do_show (C : DkC w0) (g : Nv w0 C.toNt u nb F N) (d : Row u Z [.pointer (some ⟨nb, 0, none⟩), .map (some M)]) (a b : Nat) (ha : a ≤ 9999999) (hb : b ≤ 9999999) (x : List UInt8) (hI : (N.W.hs (a : Int) ∧ x = Lib.itoa (N.W.rd (a : Int).toNat)) ∨ (¬ N.W.hs (a : Int) ∧ x = nameB 1)) : Calls Tryz.prog 60 #[.pointer (some ⟨Z, 0, none⟩), .agg #[.int .i64 (a : Int), .int .i64 (b : Int)]] u (Tl C u nb F N x) := by
  have cS := fun (v : World) (hv : Below u.heap.size u v) => C.show_ nb F N (a : Int) v (g.on hv).h g.t (WalkArith.wf_i64 (by omega))
  have D0 : Hid (Row u Z [.pointer (some ⟨nb, 0, none⟩), .map (some M)]) := d
  have HW := g.hw
  have HG : Hid (Nv w0 C.toNt u nb F N) := g
  rcases hI with ⟨q, hx⟩ | ⟨q, hx⟩
  · replace cS := fun (v : World) (hv : Below u.heap.size u v) => (cS v hv).mono (fun o w' h => (⟨h.1.elim (fun z => z.2) (fun z => absurd q z.1), h.2⟩ : o = .returned (.tuple #[.int .i64 (N.W.rd (a : Int).toNat), errc 0]) ∧ Below _ _ w'))
    rw [errc_zero] at cS
    have rb := rd_t g.t (i := (a : Int).toNat) (by have : (a : Int) < N.W.n := q.2; omega)
    have cT := fun (v : World) (hv : Below u.heap.size u v) => wri_ok C (N.W.rd (a : Int).toNat) v (rbel_on hv HW) (by omega)
    have HX : Hid (x = Lib.itoa (N.W.rd (a : Int).toNat)) := hx
    generalize N.W.rd (a : Int).toNat = v at *
    clear q hx g d
    go_enter Tryz.func60, Tryz.ntmps60
    go_wp2
    have BW : Hid (Below u.heap.size u (u.alloc (.cells #[.int .i64 (a : Int), .int .i64 (b : Int)] 107))) := rbel_al (Below.refl _ _)
    have RX : Hid (Row (u.alloc (.cells #[.int .i64 (a : Int), .int .i64 (b : Int)] 107)) u.heap.size [.int .i64 (a : Int), .int .i64 (b : Int)]) := Row.made rfl
    generalize (u.alloc (.cells #[.int .i64 (a : Int), .int .i64 (b : Int)] 107)) = W at *
    have DW : Hid (Row W Z [.pointer (some ⟨nb, 0, none⟩), .map (some M)]) := Row.on BW.out D0.out
    have d0 := DW.out.c 0 _ rfl
    have x0 := RX.out.c 0 _ rfl
    have x1 := RX.out.c 1 _ rfl
    have lb : Z < W.heap.size := DW.out.lt
    have lx : u.heap.size < W.heap.size := RX.out.lt
    go_region_held (fun w' => w'.cell? ⟨Z, 0, none⟩ = some (.pointer (some ⟨nb, 0, none⟩)) ∧ w'.cell? ⟨u.heap.size, 0, none⟩ = some (.int .i64 (a : Int)) ∧ w'.cell? ⟨u.heap.size, 1, none⟩ = some (.int .i64 (b : Int))) (go_keep) (first
      | (go_at_call 91; go_loud (refine (cS _ (rbel_dr BW.out)).mono ?_; rintro o u1 ⟨rfl, hb⟩; have B1 : Hid (Below W.heap.size W u1) := rbel_on hb (rbel_dr (Below.refl _ _)); have D1 := Row.on B1.out DW.out; have X1 := Row.on B1.out RX.out; have w10 := D1.c 0 _ rfl; have w11 := X1.c 0 _ rfl; have w12 := X1.c 1 _ rfl; clear hb D1 X1))
      | (go_at_call 90; go_loud (refine (cT _ (rbel_on B1.out BW.out)).mono ?_; rintro o u2 ⟨rfl, hb⟩; have B2 : Hid (Below W.heap.size W u2) := rbel_on hb B1.out; have D2 := Row.on B2.out DW.out; have X2 := Row.on B2.out RX.out; have w20 := D2.c 0 _ rfl; have w21 := X2.c 0 _ rfl; have w22 := X2.c 1 _ rfl; clear hb D2 X2)))
    go_wp2
    go_ret2
    exact Tl.same C 0 _ _ HG.out (by omega) (by omega) (by rw [HX.out]; rfl) (rbel_on B2.out BW.out)
  · replace cS := fun (v : World) (hv : Below u.heap.size u v) => (cS v hv).mono (fun o w' h => (⟨h.1.elim (fun z => absurd z.1 q) (fun z => z.2), h.2⟩ : o = .returned (.tuple #[.int .i64 0, errc 1]) ∧ Below _ _ w'))
    rw [errc_not (by decide)] at cS
    have cT := fun (v : World) => wri_no 0 1 (by decide) v
    have lE : errc 1 = _ := errc_not (by decide)
    clear q g d
    go_enter Tryz.func60, Tryz.ntmps60
    go_wp2
    have BW : Hid (Below u.heap.size u (u.alloc (.cells #[.int .i64 (a : Int), .int .i64 (b : Int)] 107))) := rbel_al (Below.refl _ _)
    have RX : Hid (Row (u.alloc (.cells #[.int .i64 (a : Int), .int .i64 (b : Int)] 107)) u.heap.size [.int .i64 (a : Int), .int .i64 (b : Int)]) := Row.made rfl
    generalize (u.alloc (.cells #[.int .i64 (a : Int), .int .i64 (b : Int)] 107)) = W at *
    have DW : Hid (Row W Z [.pointer (some ⟨nb, 0, none⟩), .map (some M)]) := Row.on BW.out D0.out
    have d0 := DW.out.c 0 _ rfl
    have x0 := RX.out.c 0 _ rfl
    have x1 := RX.out.c 1 _ rfl
    have lb : Z < W.heap.size := DW.out.lt
    have lx : u.heap.size < W.heap.size := RX.out.lt
    go_region_held (fun w' => w'.cell? ⟨Z, 0, none⟩ = some (.pointer (some ⟨nb, 0, none⟩)) ∧ w'.cell? ⟨u.heap.size, 0, none⟩ = some (.int .i64 (a : Int)) ∧ w'.cell? ⟨u.heap.size, 1, none⟩ = some (.int .i64 (b : Int))) (go_keep) (first
      | (go_at_call 91; go_loud (refine (cS _ (rbel_dr BW.out)).mono ?_; rintro o u1 ⟨rfl, hb⟩; have B1 : Hid (Below W.heap.size W u1) := rbel_on hb (rbel_dr (Below.refl _ _)); have D1 := Row.on B1.out DW.out; have X1 := Row.on B1.out RX.out; have w10 := D1.c 0 _ rfl; have w11 := X1.c 0 _ rfl; have w12 := X1.c 1 _ rfl; clear hb D1 X1))
      | (go_at_call 90; go_loud (refine (cT _).mono ?_; rintro o u2 ⟨rfl, hb⟩; have B2 : Hid (Below W.heap.size W u2) := rbel_on hb B1.out; have D2 := Row.on B2.out DW.out; have X2 := Row.on B2.out RX.out; have w20 := D2.c 0 _ rfl; have w21 := X2.c 0 _ rfl; have w22 := X2.c 1 _ rfl; clear hb D2 X2)))
    go_wp2
    go_ret2
    rw [← lE]
    exact Tl.same C 1 _ _ HG.out (by omega) (by omega) (by rw [hx]; rfl) (rbel_on B2.out BW.out)
set_option maxRecDepth 100000 in
set_option maxHeartbeats 8000000 in
theorem do_wide (C : DkC w0) (g : Nv w0 C.toNt u nb F N) (d : Row u Z [.pointer (some ⟨nb, 0, none⟩), .map (some M)]) (a b : Nat) (ha : a ≤ 9999999) (hb : b ≤ 9999999) (x : List UInt8) (T : Tb) (hA : AllA (egf (eoN N)) (eoN N).length N.W.n 0 T) (hx : x = Lib.itoa (wid N.W.n T)) : Calls Tryz.prog 62 #[.pointer (some ⟨Z, 0, none⟩), .agg #[.int .i64 (a : Int), .int .i64 (b : Int)]] u (Tl C u nb F N x) := by
  have cW := fun (v : World) (hv : Below u.heap.size u v) => C.wide nb F N T v (g.on hv).h g.t hA
  have D0 : Hid (Row u Z [.pointer (some ⟨nb, 0, none⟩), .map (some M)]) := d
  have HW := g.hw
  have HG : Hid (Nv w0 C.toNt u nb F N) := g
  have d0 := d.c 0 _ rfl
  have zd := d.lt
  have nZ : ¬ (Z = u.heap.size) := by omega
  have wb := wid_b hA g.t.g.i.n6
  have cT := fun (v : World) (hv : Below u.heap.size u v) => wri_ok C (wid N.W.n T) v (rbel_on hv HW) (by omega)
  have HX : Hid (x = Lib.itoa (wid N.W.n T)) := hx
  generalize wid N.W.n T = v at *
  clear hA hx g d
  go_enter Tryz.func62, Tryz.ntmps62
  go_wp2_with (first
    | (go_at_call 94; refine (cW _ (by (repeat first | exact Below.refl _ _ | refine rbel_put (by omega) ?_ | refine rbel_drn ?_ | refine rbel_dr ?_ | refine rbel_al ?_))).mono ?_; rintro o u1 ⟨rfl, hb1⟩; have B1 : Hid (Below u.heap.size u u1) := rbel_on hb1 (by (repeat first | exact Below.refl _ _ | refine rbel_put (by omega) ?_ | refine rbel_drn ?_ | refine rbel_dr ?_ | refine rbel_al ?_)); clear hb1)
    | (go_at_call 90; refine (cT _ B1.out).mono ?_; rintro o u2 ⟨rfl, hb2⟩; have B2 : Hid (Below u.heap.size u u2) := rbel_on hb2 B1.out; clear hb2))
  go_ret2
  exact Tl.same C 0 _ _ HG.out (by omega) (by omega) (by rw [HX.out]; rfl) B2.out
set_option maxRecDepth 100000 in
set_option maxHeartbeats 8000000 in
theorem do_date (C : DkC w0) (g : Nv w0 C.toNt u nb F N) (d : Row u Z [.pointer (some ⟨nb, 0, none⟩), .map (some M)]) (a b : Nat) (ha : a ≤ 9999999) (hb : b ≤ 9999999) (x : List UInt8) (y m d2 h i s2 : Int) (hU : UtcL q00 0 (a : Int) y m d2 h i s2) (hx : x = (ltext y m d2 h i s2).data.toList) : Calls Tryz.prog 63 #[.pointer (some ⟨Z, 0, none⟩), .agg #[.int .i64 (a : Int), .int .i64 (b : Int)]] u (Tl C u nb F N x) := by
  have D0 : Hid (Row u Z [.pointer (some ⟨nb, 0, none⟩), .map (some M)]) := d
  have HW := g.hw
  have HG : Hid (Nv w0 C.toNt u nb F N) := g
  obtain ⟨ok, oh, _, _⟩ := hU.hands q00_lps
  have cU := fun (v : World) (hv : Below u.heap.size u v) => C.utc (a : Int) y m d2 h i s2 v (rbel_on hv HW) (by omega) (by omega) hU
  have cP := fun (v : World) (hv : Below u.heap.size u v) => C.print y m d2 h i s2 v (rbel_on hv HW) ok oh
  clear hU g ok oh d
  go_enter Tryz.func63, Tryz.ntmps63
  go_wp2_with (first
    | (go_at_call 95; refine (cU _ (by (repeat first | exact Below.refl _ _ | refine rbel_put (by omega) ?_ | refine rbel_drn ?_ | refine rbel_dr ?_ | refine rbel_al ?_))).mono ?_; rintro o u1 ⟨rfl, hb1⟩; have B1 : Hid (Below u.heap.size u u1) := rbel_on hb1 (by (repeat first | exact Below.refl _ _ | refine rbel_put (by omega) ?_ | refine rbel_drn ?_ | refine rbel_dr ?_ | refine rbel_al ?_)); clear hb1)
    | (go_at_call 96; refine (cP _ (by (repeat first | exact B1.out | refine rbel_put (by omega) ?_ | refine rbel_drn ?_ | refine rbel_dr ?_ | refine rbel_al ?_))).mono ?_; rintro o u2 ⟨rfl, hb2⟩; have B2 : Hid (Below u.heap.size u u2) := rbel_on hb2 (by (repeat first | exact B1.out | refine rbel_put (by omega) ?_ | refine rbel_drn ?_ | refine rbel_dr ?_ | refine rbel_al ?_)); clear hb2))
  go_ret2
  exact Tl.same C 0 _ _ HG.out (by omega) (by omega) (by rw [hx]; rfl) B2.out
set_option maxRecDepth 100000 in
set_option maxHeartbeats 8000000 in
theorem do_off (C : DkC w0) (g : Nv w0 C.toNt u nb F N) (d : Row u Z [.pointer (some ⟨nb, 0, none⟩), .map (some M)]) (a b : Nat) (ha : a ≤ 9999999) (hb : b ≤ 9999999) (x : List UInt8) (lo hi e : Int) (hB : BetA N.W.n (egf (eoN N)) (eoN N).length (a : Int) (b : Int) lo hi e) (hx : x = if e = 0 then printL lo hi else nameB e) : Calls Tryz.prog 61 #[.pointer (some ⟨Z, 0, none⟩), .agg #[.int .i64 (a : Int), .int .i64 (b : Int)]] u (Tl C u nb F N x) := by
  have hE := bet_e g.t hB
  have cO := fun (v : World) (hv : Below u.heap.size u v) => C.off nb F N (a : Int) (b : Int) lo hi e v (g.on hv).h g.t (WalkArith.wf_i64 (by omega)) (WalkArith.wf_i64 (by omega)) hB
  have D0 : Hid (Row u Z [.pointer (some ⟨nb, 0, none⟩), .map (some M)]) := d
  have HW := g.hw
  have HG : Hid (Nv w0 C.toNt u nb F N) := g
  have cP := fun (v : World) (hv : Below u.heap.size u v) (ok : okB lo hi = true) => C.sprint lo hi v (rbel_on hv HW) ok
  clear hB g d
  go_enter Tryz.func61, Tryz.ntmps61
  go_wp2
  have BW : Hid (Below u.heap.size u (u.alloc (.cells #[.int .i64 (a : Int), .int .i64 (b : Int)] 107))) := rbel_al (Below.refl _ _)
  have RX : Hid (Row (u.alloc (.cells #[.int .i64 (a : Int), .int .i64 (b : Int)] 107)) u.heap.size [.int .i64 (a : Int), .int .i64 (b : Int)]) := Row.made rfl
  generalize (u.alloc (.cells #[.int .i64 (a : Int), .int .i64 (b : Int)] 107)) = W at *
  have DW : Hid (Row W Z [.pointer (some ⟨nb, 0, none⟩), .map (some M)]) := Row.on BW.out D0.out
  have d0 := DW.out.c 0 _ rfl
  have x0 := RX.out.c 0 _ rfl
  have x1 := RX.out.c 1 _ rfl
  have lb : Z < W.heap.size := DW.out.lt
  have lx : u.heap.size < W.heap.size := RX.out.lt
  have nz1 : ¬ (Z = W.heap.size) := by omega
  have nz2 : ¬ (W.heap.size = Z) := by omega
  have nu1 : ¬ (u.heap.size = W.heap.size) := by omega
  have nu2 : ¬ (W.heap.size = u.heap.size) := by omega
  go_region_held (fun w' => w'.cell? ⟨Z, 0, none⟩ = some (.pointer (some ⟨nb, 0, none⟩)) ∧ w'.cell? ⟨u.heap.size, 0, none⟩ = some (.int .i64 (a : Int)) ∧ w'.cell? ⟨u.heap.size, 1, none⟩ = some (.int .i64 (b : Int))) (go_keep) (first
    | (go_at_call 92; first
      | (go_loud (refine (cO _ (rbel_dr BW.out)).mono ?_; rintro o u2 ⟨rfl, hb⟩; have B2 : Hid (Below u.heap.size u u2) := rbel_on hb (rbel_dr BW.out); have D2 := Row.on hb (Row.dr DW.out); have X2 := Row.on hb (Row.dr RX.out); have w0 := D2.c 0 _ rfl; have w1 := X2.c 0 _ rfl; have w2 := X2.c 1 _ rfl; clear hb D2 X2))
      | (go_loud (refine (cO _ (rbel_dr (rbel_al BW.out))).mono ?_; rintro o u2 ⟨rfl, hb⟩; have B2 : Hid (Below u.heap.size u u2) := rbel_on hb (rbel_dr (rbel_al BW.out)); have D2 := Row.on hb (Row.dr (Row.al DW.out)); have X2 := Row.on hb (Row.dr (Row.al RX.out)); have w0 := D2.c 0 _ rfl; have w1 := X2.c 0 _ rfl; have w2 := X2.c 1 _ rfl; have RT : Hid (Row u2 W.heap.size [.int .i64 0, .int .i64 0]) := Row.on hb (Row.dr (Row.made rfl)); have p0 := RT.out.c 0 _ rfl; have p1 := RT.out.c 1 _ rfl; have p2 := RT.out.f 0 _ rfl; have p3 := RT.out.f 1 _ rfl; clear hb D2 X2))
      | (go_loud (refine (cO _ (rbel_al (rbel_dr BW.out))).mono ?_; rintro o u2 ⟨rfl, hb⟩; have B2 : Hid (Below u.heap.size u u2) := rbel_on hb (rbel_al (rbel_dr BW.out)); have D2 := Row.on hb (Row.al (Row.dr DW.out)); have X2 := Row.on hb (Row.al (Row.dr RX.out)); have w0 := D2.c 0 _ rfl; have w1 := X2.c 0 _ rfl; have w2 := X2.c 1 _ rfl; have RT : Hid (Row u2 W.heap.size [.int .i64 0, .int .i64 0]) := Row.on hb (Row.made rfl); have p0 := RT.out.c 0 _ rfl; have p1 := RT.out.c 1 _ rfl; have p2 := RT.out.f 0 _ rfl; have p3 := RT.out.f 1 _ rfl; clear hb D2 X2))))
  all_goals
    first
      | (have q := RT.out
         have RS : Hid (Row ((u2.setCell ⟨W.heap.size, 0, none⟩ (.int .i64 lo)).setCell ⟨W.heap.size, 1, none⟩ (.int .i64 hi)) W.heap.size [.int .i64 lo, .int .i64 hi]) := Row.put 1 (Row.put 0 q)
         have BX : Hid (Below u.heap.size u ((u2.setCell ⟨W.heap.size, 0, none⟩ (.int .i64 lo)).setCell ⟨W.heap.size, 1, none⟩ (.int .i64 hi))) := rbel_put (by omega) (rbel_put (by omega) B2.out)
         clear q RT p0 p1 p2 p3 B2 w0 w1 w2
         generalize ((u2.setCell ⟨W.heap.size, 0, none⟩ (.int .i64 lo)).setCell ⟨W.heap.size, 1, none⟩ (.int .i64 hi)) = V at *
         generalize W.heap.size = T at *)
      | (have RS : Hid (Row (u2.alloc (.cells #[.int .i64 lo, .int .i64 hi] 34)) u2.heap.size [.int .i64 lo, .int .i64 hi]) := Row.made rfl
         have BX : Hid (Below u.heap.size u (u2.alloc (.cells #[.int .i64 lo, .int .i64 hi] 34))) := rbel_al B2.out
         clear B2 w0 w1 w2
         generalize (u2.alloc (.cells #[.int .i64 lo, .int .i64 hi] 34)) = V at *
         generalize u2.heap.size = T at *)
    have y0 := RS.out.c 0 _ rfl
    have y1 := RS.out.c 1 _ rfl
    by_cases z : e = 0
    · subst z
      have okb : okB lo hi = true := by
        rcases hE with ⟨_, q⟩ | q | q
        · exact q
        · cases q
        · cases q
      rw [if_pos rfl] at hx
      rw [errc_zero]
      go_wp2_with (go_at_call 93; refine (cP _ BX.out okb).mono ?_; rintro o u4 ⟨rfl, hb⟩; have B4 : Hid (Below u.heap.size u u4) := rbel_on hb BX.out; clear hb)
      go_ret2
      exact Tl.same C 0 _ _ HG.out (by omega) (by omega) (by rw [hx]; rfl) B4.out
    · have e1 : 0 ≤ e ∧ e ≤ 8 := by
        rcases hE with ⟨q, _⟩ | q | q
        · exact absurd q z
        · omega
        · omega
      rw [if_neg z] at hx
      have lE := errc_not z
      rw [lE]
      go_wp2
      go_ret2
      rw [← lE]
      exact Tl.same C e _ _ HG.out e1.1 e1.2 (by rw [hx, if_neg z]) BX.out
end
end Go.Proofs.YtadkgnbagmnkkakGreatDoor.rn
namespace Go.Proofs.YtadkgnbagmnkkakGreatDoor.rn
open Go.ChangeShapes Go.WideShapes Go.ChangeAt Go.RowKit
set_option linter.unusedVariables false

structure RnC (w0 : World) : Prop where
 run : ∀ (s : ByteArray) (r : List UInt8) (u : World), s.size ≤ 9223372036854775807 → Below w0.heap.size w0 u → RunR s.data.toList r → Calls Tryz.prog 6 #[.string s] u fun o w' => o = .returned (.string ⟨r.toArray⟩) ∧ Below u.heap.size u w'
end Go.Proofs.YtadkgnbagmnkkakGreatDoor.rn
namespace Go.Proofs.YtadkgnbagmnkkakGreatDoor
open Go.ChangeShapes Go.WideShapes Go.ChangeAt Go.RowKit Go.Joins
set_option linter.unusedVariables false
set_option linter.unusedSimpArgs false

theorem infoStr : (Tryz.prog.info? 9).map (fun i => (i.zero, i.size, i.bytes)) = some (some (.string ⟨#[]⟩), 1, 16) := by kernel_rfl
def scs (l : List (List UInt8)) : List Value := l.map (fun x => .string ⟨x.toArray⟩)
theorem scs_len (l : List (List UInt8)) : (scs l).length = l.length := by simp [scs]
theorem scs_app (l m : List (List UInt8)) : scs (l ++ m) = scs l ++ scs m := by simp [scs]
abbrev OwS (u : World) (base : Nat) (v : Value) (l : List (List UInt8)) : Prop := u.ownsRow base 9 1 v l.length (scs l)
def pcB (l : List UInt8) (f i : Nat) : List UInt8 := (l.take i).drop f
theorem pcB_ex (s : ByteArray) (f i : Nat) : (⟨(pcB s.data.toList f i).toArray⟩ : ByteArray) = s.extract f i := by
 apply ByteArray.ext
 apply Array.toList_inj.1
 unfold pcB
 rw [ByteArray.data_extract, Array.toList_extract, List.extract_eq_take_drop, List.drop_take]
theorem pcB_nil (l : List UInt8) (i : Nat) : pcB l i i = [] := by
 unfold pcB
 apply List.drop_eq_nil_of_le
 rw [List.length_take]; omega
theorem pcB_snoc (l : List UInt8) {f i : Nat} (hf : f ≤ i) (hi : i < l.length) : pcB l f (i + 1) = pcB l f i ++ [l[i]] := by
 unfold pcB
 rw [List.take_succ_eq_append_getElem hi, List.drop_append_of_le_length (by rw [List.length_take]; omega)]
theorem drop_at (l : List UInt8) {i : Nat} (hi : i < l.length) : l.drop i = l[i] :: l.drop (i + 1) := List.drop_eq_getElem_cons hi
def CutI (l : List UInt8) (c : UInt8) (L : List (List UInt8)) (f i : Nat) : Prop := cutB c l = L ++ cutA c (pcB l f i) (l.drop i)
theorem CutI.start (l : List UInt8) (c : UInt8) : CutI l c [] 0 0 := by
 unfold CutI cutB
 rw [pcB_nil]
 simp
theorem CutI.hit {l : List UInt8} {c : UInt8} {L : List (List UInt8)} {f i : Nat} (h : CutI l c L f i) (hi : i < l.length) (e : l[i] = c) : CutI l c (L ++ [pcB l f i]) (i + 1) (i + 1) := by
 unfold CutI at *
 rw [h, drop_at l hi, cutA, if_pos e, pcB_nil]
 simp
theorem CutI.miss {l : List UInt8} {c : UInt8} {L : List (List UInt8)} {f i : Nat} (h : CutI l c L f i) (hf : f ≤ i) (hi : i < l.length) (e : l[i] ≠ c) : CutI l c L f (i + 1) := by
 unfold CutI at *
 rw [h, drop_at l hi, cutA, if_neg e, pcB_snoc l hf hi]
theorem CutI.done {l : List UInt8} {c : UInt8} {L : List (List UInt8)} {f i : Nat} (h : CutI l c L f i) (hi : l.length ≤ i) : cutB c l = L ++ [pcB l f i] := by
 unfold CutI at h
 rw [h, List.drop_eq_nil_of_le hi]
 rfl
theorem CutI.len {l : List UInt8} {c : UInt8} {L : List (List UInt8)} {f i : Nat} (h : CutI l c L f i) : L.length ≤ l.length + 1 := by
 unfold CutI at h
 have e : (cutB c l).length ≤ l.length + 1 := cutA_len c l []
 rw [h, List.length_append] at e
 omega
set_option maxRecDepth 100000 in
set_option maxHeartbeats 8000000 in
theorem rcut (s : ByteArray) (c : UInt8) (u : World) (hs : s.size ≤ 1000000) :
  Calls Tryz.prog 7 #[.string s, .int .u8 (c.toNat : Int)] u fun o w' => ∃ v, o = .returned v ∧ OwS w' u.heap.size v (cutB c s.data.toList) ∧ Below u.heap.size u w' := by
 obtain ⟨i0, hi0, hz0, hz1, hz2⟩ := info_parts infoStr
 have sl : s.data.toList.length = s.size := rfl
 go_enter Tryz.func7, Tryz.ntmps7
 go_wp2
 go_loopw [5, 6, 7] (fun vo vf vi wr => ∃ (i f : Nat) (L : List (List UInt8)), i ≤ s.size ∧ f ≤ i ∧ vi = .int .i64 i ∧ vf = .int .i64 f ∧ OwS wr u.heap.size vo L ∧ CutI s.data.toList c L f i ∧ Below u.heap.size u wr) (fun _ _ vi _ => s.size - (intOf vi).toNat)
 case atStart => exact ⟨0, 0, [], Nat.zero_le _, Nat.zero_le _, rfl, rfl, World.ownsRow_nil _ _ _ _, CutI.start _ _, Below.refl _ _⟩
 case round =>
  obtain ⟨i, f, L, hi, hf, rfl, rfl, hown, hC, hw⟩ := hrel
  have HW : Hid (Below u.heap.size u wr) := hw
  have HC : Hid (CutI s.data.toList c L f i) := hC
  have HO : Hid (OwS wr u.heap.size u5 L) := hown
  have HBk : Hid (∀ j, u5.ownBlock = some j → u.heap.size ≤ j) := fun j hj => (hown.lt j hj).1
  have hL := hC.len
  rw [sl] at hL
  have szw := hw.size
  have hf3 : (f : Int) ≤ i := by omega
  have hi3 : (i : Int) ≤ s.size := by omega
  clear hown hC hw
  by_cases hlt : i < s.size
  ·have hlt3 : (i : Int) < s.size := by omega
   have eg : s.data.toList[i]'(by rw [sl]; exact hlt) = s[i] := rfl
   by_cases e : s[i] = c
   ·have t1 : ((s[i].toNat : Int) == (c.toNat : Int)) = true := by rw [e]; simp
    have t2 : (s[i].toNat : Int) = (c.toNat : Int) := by rw [e]
    have HN : Hid (CutI s.data.toList c (L ++ [pcB s.data.toList f i]) (i + 1) (i + 1)) := HC.out.hit (by rw [sl]; exact hlt) (eg.trans e)
    have ex : s.extract f i = ⟨(pcB s.data.toList f i).toArray⟩ := (pcB_ex s f i).symm
    generalize pcB s.data.toList f i = P at *
    go_wp2_with (at_builtin; refine wpList_append_own _ rfl _ _ 23 rfl u.heap.size 9 i0 (.string ⟨#[]⟩) 1 16 Tryz.underlying23 hi0 hz0 hz1 hz2 rfl (by decide) _ _ _ rfl (HO.out.alloc _) ⟨wr.heap.size, 0, none⟩ 1 1 [.string ⟨P.toArray⟩] rfl rfl (fun j x hj => by rw [Addr.add_lit]; exact (Row.made (W := wr) (vs := [.string ⟨P.toArray⟩]) rfl).c _ _ (by simpa using hj)) (fun x hx => by simp at hx; rw [hx]; rfl) (by unfold maxLen; omega) (by omega) (by simp; omega) ?_)
    intro v' w1 hown' hgrow _
    have HO1 : Hid (OwS w1 u.heap.size v' (L ++ [P])) := by
     show w1.ownsRow u.heap.size 9 1 v' (L ++ [P]).length (scs (L ++ [P]))
     rw [scs_app, List.length_append]
     exact hown'
    have HW1 : Hid (Below u.heap.size u w1) := (HW.out.alloc (by omega) _).grown hgrow (by simp; omega) (fun j hj => HBk.out j hj)
    clear hown' hgrow HO HBk HC HW
    go_wp2
    go_roundw
    case rel => exact ⟨i + 1, i + 1, L ++ [P], by omega, Nat.le_refl _, by go_num, by go_num, HO1.out, HN.out, HW1.out⟩
    case measure => simp [intOf]; omega
   ·have t1 : ((s[i].toNat : Int) == (c.toNat : Int)) = false := by
     rw [beq_eq_false_iff_ne]
     intro q
     exact e (UInt8.toNat_inj.1 (by omega))
    have t2 : ¬ ((s[i].toNat : Int) = (c.toNat : Int)) := by
     intro q
     exact e (UInt8.toNat_inj.1 (by omega))
    have HN : Hid (CutI s.data.toList c L f (i + 1)) := HC.out.miss hf (by rw [sl]; exact hlt) (by rw [eg]; exact e)
    clear HC HBk
    go_wp2
    go_roundw
    case rel => exact ⟨i + 1, f, L, by omega, by omega, by go_num, rfl, HO.out, HN.out, HW.out⟩
    case measure => simp [intOf]; omega
  ·have hge : i = s.size := by omega
   subst hge
   have HD : Hid (cutB c s.data.toList = L ++ [pcB s.data.toList f s.size]) := HC.out.done (by rw [sl]; exact Nat.le_refl _)
   have ex : s.extract f s.size = ⟨(pcB s.data.toList f s.size).toArray⟩ := (pcB_ex s f s.size).symm
   clear HC
   generalize pcB s.data.toList f s.size = P at *
   go_wp2_with (at_builtin; refine wpList_append_own _ rfl _ _ 23 rfl u.heap.size 9 i0 (.string ⟨#[]⟩) 1 16 Tryz.underlying23 hi0 hz0 hz1 hz2 rfl (by decide) _ _ _ rfl (HO.out.alloc _) ⟨wr.heap.size, 0, none⟩ 1 1 [.string ⟨P.toArray⟩] rfl rfl (fun j x hj => by rw [Addr.add_lit]; exact (Row.made (W := wr) (vs := [.string ⟨P.toArray⟩]) rfl).c _ _ (by simpa using hj)) (fun x hx => by simp at hx; rw [hx]; rfl) (by unfold maxLen; omega) (by omega) (by simp; omega) ?_)
   intro v' w1 hown' hgrow _
   have HO1 : Hid (OwS w1 u.heap.size v' (cutB c s.data.toList)) := by
    show w1.ownsRow u.heap.size 9 1 v' (cutB c s.data.toList).length (scs (cutB c s.data.toList))
    rw [HD.out, scs_app, List.length_append]
    exact hown'
   have HW1 : Hid (Below u.heap.size u w1) := (HW.out.alloc (by omega) _).grown hgrow (by simp; omega) (fun j hj => HBk.out j hj)
   clear hown' hgrow HO HBk HW HD
   go_wp2
   go_ret
   exact ⟨v', rfl, HO1.out, HW1.out⟩
end Go.Proofs.YtadkgnbagmnkkakGreatDoor
