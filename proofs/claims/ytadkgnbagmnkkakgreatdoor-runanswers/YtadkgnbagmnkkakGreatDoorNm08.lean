/- What the other packages must answer a desk. What a desk does for an act, for a number, for an offset, for a date. What package run must answer. What the document's own reckoning (package noonref1) answers of a text that is cut: Cut. Numerals: plain mathematics of bytes. What the document's own reckoning (package noonref1) answers of a numeral of at most 7 digits: Number. What the document's own reckoning (package noonref1) answers of a number as text: Digits, SpanText. -/
import Derived.Test.YtadkgnbagmnkkakGreatDoorNm07
import Derived.Test.YtadkgnbagmnkkakGreatDoorNm06
import Derived.Lib.SmallJoins
import Derived.Deep.RegionHeld
import Derived.BigQuiet
import Derived.Test.YtadkgnbagmnkkakGreatDoorNm03
import Derived.Test.YtadkgnbagmnkkakGreatDoorNm05
import Derived.Laws.IdiomStrings
import Derived.IntWalk
import Derived.Lib.ItoaLen
import Derived.Deep.RegionWith
namespace Go.Proofs.YtadkgnbagmnkkakGreatDoor.rn
open Go.ChangeShapes Go.WideShapes Go.ChangeAt Go.RowKit Go.Joins
set_option linter.unusedVariables false
set_option linter.unusedSimpArgs false

def txt (x : List UInt8) : ByteArray := ⟨x.toArray⟩
structure DkC (w0 : World) extends NtW w0 where
 show_ : ∀ (b : Nat) (F : Nat → Prop) (N : Nn) (i : Int) (u : World), R u b F N → N.T → In64 i → Calls Tryz.prog 91 #[.pointer (some ⟨b, 0, none⟩), .int .i64 i] u fun o w' => ((N.W.hs i ∧ o = .returned (.tuple #[.int .i64 (N.W.rd i.toNat), errc 0])) ∨ (¬ N.W.hs i ∧ o = .returned (.tuple #[.int .i64 0, errc 1]))) ∧ Below u.heap.size u w'
 itoa : ∀ (v : Int) (u : World), Below w0.heap.size w0 u → -9223372036854775808 ≤ v ∧ v ≤ 9223372036854775807 → Calls Tryz.prog 102 #[.int .i64 v] u fun o w' => o = .returned (.string (txt (Lib.itoa v))) ∧ Below u.heap.size u w'
 sprint : ∀ (lo hi : Int) (u : World), Below w0.heap.size w0 u → okB lo hi = true → Calls Tryz.prog 93 #[.agg #[.int .i64 lo, .int .i64 hi]] u fun o w' => o = .returned (.tuple #[.string (txt (printL lo hi)), .nilIface]) ∧ Below u.heap.size u w'
 utc : ∀ (x y m d h i s : Int) (u : World), Below w0.heap.size w0 u → 0 ≤ x → x ≤ 9999999 → UtcL q00 0 x y m d h i s → Calls Tryz.prog 95 #[.slice none 0 0, .int .i64 x] u fun r w' => r = .returned (.tuple #[lbl y m d h i s, .nilIface]) ∧ Below u.heap.size u w'
 print : ∀ (y m d h i s : Int) (u : World), Below w0.heap.size w0 u → okD y m d = true → okH h i s = true → Calls Tryz.prog 96 #[lbl y m d h i s] u fun r w' => r = .returned (.tuple #[.string (ltext y m d h i s), .nilIface]) ∧ Below u.heap.size u w'
def lineV : Value := .iface 98 (.agg #[.int .i64 2])
set_option maxHeartbeats 8000000
set_option maxRecDepth 100000
def Tl {w0 : World} (C : DkC w0) (u : World) (nb : Nat) (F : Nat → Prop) (N' : Nn) (x : List UInt8) (o : Ending) (w' : World) : Prop := ∃ (F' : Nat → Prop) (e : Int) (t : ByteArray), o = .returned (.tuple #[.string t, errc e]) ∧ 0 ≤ e ∧ e ≤ 8 ∧ x = (if e = 0 then t.data.toList else nameB e) ∧ Nv w0 C.toNt w' nb F' N' ∧ Keeps F u w' ∧ ∀ k, F' k → F k ∨ u.heap.size ≤ k
section
variable {w0 u : World} {nb M Z : Nat} {F : Nat → Prop} {N N' : Nn}
theorem Tl.same (C : DkC w0) {w' : World} (e : Int) (t : ByteArray) (x : List UInt8) (g : Nv w0 C.toNt u nb F N) (h0 : 0 ≤ e) (h8 : e ≤ 8) (hx : x = (if e = 0 then t.data.toList else nameB e)) (hb : Below u.heap.size u w') : Tl C u nb F N x (.returned (.tuple #[.string t, errc e])) w' := ⟨F, e, t, rfl, h0, h8, hx, g.on hb, Keeps.of hb, fun k h => Or.inl h⟩
theorem wri_ok (C : DkC w0) (v : Int) (u : World) (hu : Below w0.heap.size w0 u) (hv : -9223372036854775808 ≤ v ∧ v ≤ 9223372036854775807) : Calls Tryz.prog 90 #[.int .i64 v, .nilIface] u fun o w' => o = .returned (.tuple #[.string (txt (Lib.itoa v)), .nilIface]) ∧ Below u.heap.size u w' := by
  have c := fun (w : World) (hw : Below u.heap.size u w) => C.itoa v w (rbel_on hw hu) hv
  clear hu
  go_enter Tryz.func90, Tryz.ntmps90
  go_wp2_with (go_at_call 102; refine (c _ (by (repeat first | exact Below.refl _ _ | refine rbel_put (by omega) ?_ | refine rbel_drn ?_ | refine rbel_dr ?_ | refine rbel_al ?_))).mono ?_; rintro o u1 ⟨rfl, hb⟩; have B1 : Hid (Below u.heap.size u u1) := rbel_on hb (by (repeat first | exact Below.refl _ _ | refine rbel_put (by omega) ?_ | refine rbel_drn ?_ | refine rbel_dr ?_ | refine rbel_al ?_)); clear hb)
  go_ret2
  exact ⟨rfl, B1.out⟩
theorem wri_no (v e : Int) (he : e ≠ 0) (u : World) : Calls Tryz.prog 90 #[.int .i64 v, .iface 86 (.int .i64 e)] u fun o w' => o = .returned (.tuple #[.string ⟨#[]⟩, .iface 86 (.int .i64 e)]) ∧ Below u.heap.size u w' := by
  go_enter Tryz.func90, Tryz.ntmps90
  go_wp2
  go_ret2
  exact ⟨rfl, (by (repeat first | exact Below.refl _ _ | refine rbel_put (by omega) ?_ | refine rbel_drn ?_ | refine rbel_dr ?_ | refine rbel_al ?_))⟩
theorem do_act (C : DkC w0) (g : Nv w0 C.toNt u nb F N) (d : Row u Z [.pointer (some ⟨nb, 0, none⟩), .map (some M)]) (nFZ : ¬ F Z) (c k : Nat) (hc : Row u c [.int .i64 (k : Int)]) (nFc : ¬ F c) (a b : Nat) (ha : a ≤ 9999999) (hb : b ≤ 9999999) (hk : k ≤ 9) (e : Int) (x : List UInt8) (hD : NDoR N k (a : Int) (b : Int) N' e) (hx : x = if e = 0 then [111, 107] else nameB e) : Calls Tryz.prog 88 #[.pointer (some ⟨Z, 0, none⟩), .agg #[.int .i64 (a : Int), .int .i64 (b : Int)], .pointer (some ⟨c, 0, none⟩)] u (Tl C u nb F N' x) := by
  obtain ⟨e0, e8⟩ := nDoR_e hD
  have cD := fun (v : World) (hv : Below u.heap.size u v) => (g.on hv).act (WalkArith.wf_i64 (by omega)) (WalkArith.wf_i64 (by omega)) (WalkArith.wf_i64 (by omega)) hD
  have nFu : ¬ F u.heap.size := fun h => by have := C.lt g.h _ h; omega
  have HX : Hid (x = if e = 0 then [111, 107] else nameB e) := hx
  have D0 : Hid (Row u Z [.pointer (some ⟨nb, 0, none⟩), .map (some M)]) := d
  have C0 : Hid (Row u c [.int .i64 (k : Int)]) := hc
  clear hD g hx d hc
  rcases (show (e = 0 ∧ errc e = .nilIface) ∨ (e ≠ 0 ∧ errc e = .iface 86 (.int .i64 e)) from (Classical.em (e = 0)).elim (fun z => Or.inl ⟨z, by rw [z]; exact errc_zero⟩) (fun z => Or.inr ⟨z, errc_not z⟩)) with ⟨z, er⟩ | ⟨z, er⟩
  all_goals
    rw [er] at cD
    have ER : Hid (errc e = _) := er
    clear er
    go_enter Tryz.func88, Tryz.ntmps88
    go_wp2
    have BW : Hid (Below u.heap.size u (u.alloc (.cells #[.int .i64 (a : Int), .int .i64 (b : Int)] 107))) := rbel_al (Below.refl _ _)
    have RX : Hid (Row (u.alloc (.cells #[.int .i64 (a : Int), .int .i64 (b : Int)] 107)) u.heap.size [.int .i64 (a : Int), .int .i64 (b : Int)]) := Row.made rfl
    generalize (u.alloc (.cells #[.int .i64 (a : Int), .int .i64 (b : Int)] 107)) = W at *
    have DW := Row.on BW.out D0.out
    have CW := Row.on BW.out C0.out
    have d0 := DW.c 0 _ rfl
    have c0 := CW.c 0 _ rfl
    have x0 := RX.out.c 0 _ rfl
    have x1 := RX.out.c 1 _ rfl
    have lb : Z < W.heap.size := DW.lt
    have lc : c < W.heap.size := CW.lt
    have lx : u.heap.size < W.heap.size := RX.out.lt
    have HDW : Hid (Row W Z [.pointer (some ⟨nb, 0, none⟩), .map (some M)]) := DW
    have HCW : Hid (Row W c [.int .i64 (k : Int)]) := CW
    clear DW CW
    go_region_held (fun w' => w'.cell? ⟨Z, 0, none⟩ = some (.pointer (some ⟨nb, 0, none⟩)) ∧ w'.cell? ⟨c, 0, none⟩ = some (.int .i64 (k : Int)) ∧ w'.cell? ⟨u.heap.size, 0, none⟩ = some (.int .i64 (a : Int)) ∧ w'.cell? ⟨u.heap.size, 1, none⟩ = some (.int .i64 (b : Int))) (go_keep) (first
      | (go_at_call 89; go_loud (refine (cD _ (rbel_dr BW.out)).mono ?_; rintro o u1 ⟨F', rfl, g', hK, hF⟩; have G1 : Hid (Nv w0 C.toNt u1 nb F' N') := g'; have K1 : Hid (Keeps F u u1) := (Keeps.of (rbel_dr BW.out)).trans hK; have F1 : Hid (∀ k, F' k → F k ∨ u.heap.size ≤ k) := (fun k hk => (hF k hk).imp id (fun q => Nat.le_trans (rbel_dr BW.out).size q)); have D2 := hK.row nFZ (Row.dr HDW.out); have C2 := hK.row nFc (Row.dr HCW.out); have X2 := hK.row nFu (Row.dr RX.out); have w0 := D2.c 0 _ rfl; have w1 := C2.c 0 _ rfl; have w2 := X2.c 0 _ rfl; have w3 := X2.c 1 _ rfl; clear g' hK hF D2 C2 X2)))
    go_wp2
    go_ret2
  · exact ⟨F', e, ⟨#[111, 107]⟩, congrArg (fun v => Ending.returned (.tuple #[.string ⟨#[111, 107]⟩, v])) ER.out.symm, e0, e8, by rw [HX.out, if_pos z], G1.out, K1.out, F1.out⟩
  · exact ⟨F', e, ⟨#[]⟩, congrArg (fun v => Ending.returned (.tuple #[.string ⟨#[]⟩, v])) ER.out.symm, e0, e8, by rw [HX.out, if_neg z, if_neg z], G1.out, K1.out, F1.out⟩
theorem do_show (C : DkC w0) (g : Nv w0 C.toNt u nb F N) (d : Row u Z [.pointer (some ⟨nb, 0, none⟩), .map (some M)]) (a b : Nat) (ha : a ≤ 9999999) (hb : b ≤ 9999999) (x : List UInt8) (hI : (N.W.hs (a : Int) ∧ x = Lib.itoa (N.W.rd (a : Int).toNat)) ∨ (¬ N.W.hs (a : Int) ∧ x = nameB 1)) : Calls Tryz.prog 60 #[.pointer (some ⟨Z, 0, none⟩), .agg #[.int .i64 (a : Int), .int .i64 (b : Int)]] u (Tl C u nb F N x) := by
  have cS := fun (v : World) (hv : Below u.heap.size u v) => C.show_ nb F N (a : Int) v (g.on hv).h g.t (WalkArith.wf_i64 (by omega))
  have D0 : Hid (Row u Z [.pointer (some ⟨nb, 0, none⟩), .map (some M)]) := d
  have HW := g.hw
  have HG : Hid (Nv w0 C.toNt u nb F N) := g
  obtain ⟨v, e, cS, cT, hx, he⟩ : ∃ (v e : Int), (∀ w, Below u.heap.size u w → Calls Tryz.prog 91 #[.pointer (some ⟨nb, 0, none⟩), .int .i64 (a : Int)] w fun o w' => o = .returned (.tuple #[.int .i64 v, errc e]) ∧ Below w.heap.size w w') ∧ (∀ w, Below u.heap.size u w → Calls Tryz.prog 90 #[.int .i64 v, errc e] w fun o w' => o = .returned (.tuple #[.string (if e = 0 then txt (Lib.itoa v) else ⟨#[]⟩), errc e]) ∧ Below w.heap.size w w') ∧ x = (if e = 0 then (if e = 0 then txt (Lib.itoa v) else ⟨#[]⟩ : ByteArray).data.toList else nameB e) ∧ 0 ≤ e ∧ e ≤ 8 := by
    rcases hI with ⟨q, hx⟩ | ⟨q, hx⟩
    · have rb := rd_t g.t (i := (a : Int).toNat) (by have : (a : Int) < N.W.n := q.2; omega)
      exact ⟨_, 0, fun w hw => (cS w hw).mono (fun o w' h => ⟨h.1.elim (fun z => z.2) (fun z => absurd q z.1), h.2⟩), fun w hw => by rw [errc_zero]; exact wri_ok C (N.W.rd (a : Int).toNat) w (rbel_on hw HW) (by omega), hx, by omega, by omega⟩
    · exact ⟨0, 1, fun w hw => (cS w hw).mono (fun o w' h => ⟨h.1.elim (fun z => absurd z.1 q) (fun z => z.2), h.2⟩), fun w _ => by rw [errc_not (by decide)]; exact wri_no 0 1 (by decide) w, hx, by omega, by omega⟩
  obtain ⟨er, hr⟩ : ∃ er, er = errc e := ⟨_, rfl⟩
  obtain ⟨tx, ht⟩ : ∃ tx : ByteArray, tx = if e = 0 then txt (Lib.itoa v) else ⟨#[]⟩ := ⟨_, rfl⟩
  rw [← hr, ← ht] at cT
  rw [← hr] at cS
  rw [← ht] at hx
  have HR : Hid (er = errc e) := hr
  clear hI g d hr ht
  go_enter Tryz.func60, Tryz.ntmps60
  go_wp2
  have BW : Hid (Below u.heap.size u (u.alloc (.cells #[.int .i64 (a : Int), .int .i64 (b : Int)] 107))) := rbel_al (Below.refl _ _)
  have RX : Hid (Row (u.alloc (.cells #[.int .i64 (a : Int), .int .i64 (b : Int)] 107)) u.heap.size [.int .i64 (a : Int), .int .i64 (b : Int)]) := Row.made rfl
  generalize (u.alloc (.cells #[.int .i64 (a : Int), .int .i64 (b : Int)] 107)) = W at *
  have DW : Hid (Row W Z [.pointer (some ⟨nb, 0, none⟩), .map (some M)]) := Row.on BW.out D0.out
  have d0 := DW.out.c 0 _ rfl
  have x0 := RX.out.c 0 _ rfl
  have x1 := RX.out.c 1 _ rfl
  have lb : Z < W.heap.size := DW.out.lt
  have lx : u.heap.size < W.heap.size := RX.out.lt
  go_region_held (fun w' => w'.cell? ⟨Z, 0, none⟩ = some (.pointer (some ⟨nb, 0, none⟩)) ∧ w'.cell? ⟨u.heap.size, 0, none⟩ = some (.int .i64 (a : Int)) ∧ w'.cell? ⟨u.heap.size, 1, none⟩ = some (.int .i64 (b : Int))) (go_keep) (first
    | (go_at_call 91; go_loud (refine (cS _ (rbel_dr BW.out)).mono ?_; rintro o u1 ⟨rfl, hb⟩; have B1 : Hid (Below W.heap.size W u1) := rbel_on hb (rbel_dr (Below.refl _ _)); have D1 := Row.on B1.out DW.out; have X1 := Row.on B1.out RX.out; have w10 := D1.c 0 _ rfl; have w11 := X1.c 0 _ rfl; have w12 := X1.c 1 _ rfl; clear hb D1 X1))
    | (go_at_call 90; go_loud (refine (cT _ (rbel_on B1.out BW.out)).mono ?_; rintro o u2 ⟨rfl, hb⟩; have B2 : Hid (Below W.heap.size W u2) := rbel_on hb B1.out; have D2 := Row.on B2.out DW.out; have X2 := Row.on B2.out RX.out; have w20 := D2.c 0 _ rfl; have w21 := X2.c 0 _ rfl; have w22 := X2.c 1 _ rfl; clear hb D2 X2)))
  go_wp2
  go_ret2
  exact Tl.same C e tx _ HG.out he.1 he.2 hx (rbel_on B2.out BW.out) |> fun h => by rw [← HR.out] at h; exact h
theorem do_wide (C : DkC w0) (g : Nv w0 C.toNt u nb F N) (d : Row u Z [.pointer (some ⟨nb, 0, none⟩), .map (some M)]) (a b : Nat) (ha : a ≤ 9999999) (hb : b ≤ 9999999) (x : List UInt8) (T : Tb) (hA : AllA (egf (eoN N)) (eoN N).length N.W.n 0 T) (hx : x = Lib.itoa (wid N.W.n T)) : Calls Tryz.prog 62 #[.pointer (some ⟨Z, 0, none⟩), .agg #[.int .i64 (a : Int), .int .i64 (b : Int)]] u (Tl C u nb F N x) := by
  have cW := fun (v : World) (hv : Below u.heap.size u v) => C.wide nb F N T v (g.on hv).h g.t hA
  have D0 : Hid (Row u Z [.pointer (some ⟨nb, 0, none⟩), .map (some M)]) := d
  have HW := g.hw
  have HG : Hid (Nv w0 C.toNt u nb F N) := g
  have d0 := d.c 0 _ rfl
  have zd := d.lt
  have nZ : ¬ (Z = u.heap.size) := by omega
  have wb := wid_b hA g.t.g.i.n6
  have cT := fun (v : World) (hv : Below u.heap.size u v) => wri_ok C (wid N.W.n T) v (rbel_on hv HW) (by omega)
  have HX : Hid (x = Lib.itoa (wid N.W.n T)) := hx
  generalize wid N.W.n T = v at *
  clear hA hx g d
  go_enter Tryz.func62, Tryz.ntmps62
  go_wp2_with (first
    | (go_at_call 94; refine (cW _ (by (repeat first | exact Below.refl _ _ | refine rbel_put (by omega) ?_ | refine rbel_drn ?_ | refine rbel_dr ?_ | refine rbel_al ?_))).mono ?_; rintro o u1 ⟨rfl, hb1⟩; have B1 : Hid (Below u.heap.size u u1) := rbel_on hb1 (by (repeat first | exact Below.refl _ _ | refine rbel_put (by omega) ?_ | refine rbel_drn ?_ | refine rbel_dr ?_ | refine rbel_al ?_)); clear hb1)
    | (go_at_call 90; refine (cT _ B1.out).mono ?_; rintro o u2 ⟨rfl, hb2⟩; have B2 : Hid (Below u.heap.size u u2) := rbel_on hb2 B1.out; clear hb2))
  go_ret2
  exact Tl.same C 0 _ _ HG.out (by omega) (by omega) (by rw [HX.out]; rfl) B2.out
theorem do_date (C : DkC w0) (g : Nv w0 C.toNt u nb F N) (d : Row u Z [.pointer (some ⟨nb, 0, none⟩), .map (some M)]) (a b : Nat) (ha : a ≤ 9999999) (hb : b ≤ 9999999) (x : List UInt8) (y m d2 h i s2 : Int) (hU : UtcL q00 0 (a : Int) y m d2 h i s2) (hx : x = (ltext y m d2 h i s2).data.toList) : Calls Tryz.prog 63 #[.pointer (some ⟨Z, 0, none⟩), .agg #[.int .i64 (a : Int), .int .i64 (b : Int)]] u (Tl C u nb F N x) := by
  have D0 : Hid (Row u Z [.pointer (some ⟨nb, 0, none⟩), .map (some M)]) := d
  have HW := g.hw
  have HG : Hid (Nv w0 C.toNt u nb F N) := g
  obtain ⟨ok, oh, _, _⟩ := hU.hands q00_lps
  have cU := fun (v : World) (hv : Below u.heap.size u v) => C.utc (a : Int) y m d2 h i s2 v (rbel_on hv HW) (by omega) (by omega) hU
  have cP := fun (v : World) (hv : Below u.heap.size u v) => C.print y m d2 h i s2 v (rbel_on hv HW) ok oh
  clear hU g ok oh d
  go_enter Tryz.func63, Tryz.ntmps63
  go_wp2_with (first
    | (go_at_call 95; refine (cU _ (by (repeat first | exact Below.refl _ _ | refine rbel_put (by omega) ?_ | refine rbel_drn ?_ | refine rbel_dr ?_ | refine rbel_al ?_))).mono ?_; rintro o u1 ⟨rfl, hb1⟩; have B1 : Hid (Below u.heap.size u u1) := rbel_on hb1 (by (repeat first | exact Below.refl _ _ | refine rbel_put (by omega) ?_ | refine rbel_drn ?_ | refine rbel_dr ?_ | refine rbel_al ?_)); clear hb1)
    | (go_at_call 96; refine (cP _ (by (repeat first | exact B1.out | refine rbel_put (by omega) ?_ | refine rbel_drn ?_ | refine rbel_dr ?_ | refine rbel_al ?_))).mono ?_; rintro o u2 ⟨rfl, hb2⟩; have B2 : Hid (Below u.heap.size u u2) := rbel_on hb2 (by (repeat first | exact B1.out | refine rbel_put (by omega) ?_ | refine rbel_drn ?_ | refine rbel_dr ?_ | refine rbel_al ?_)); clear hb2))
  go_ret2
  exact Tl.same C 0 _ _ HG.out (by omega) (by omega) (by rw [hx]; rfl) B2.out
theorem do_off (C : DkC w0) (g : Nv w0 C.toNt u nb F N) (d : Row u Z [.pointer (some ⟨nb, 0, none⟩), .map (some M)]) (a b : Nat) (ha : a ≤ 9999999) (hb : b ≤ 9999999) (x : List UInt8) (lo hi e : Int) (hB : BetA N.W.n (egf (eoN N)) (eoN N).length (a : Int) (b : Int) lo hi e) (hx : x = if e = 0 then printL lo hi else nameB e) : Calls Tryz.prog 61 #[.pointer (some ⟨Z, 0, none⟩), .agg #[.int .i64 (a : Int), .int .i64 (b : Int)]] u (Tl C u nb F N x) := by
  have hE := bet_e g.t hB
  have cO := fun (v : World) (hv : Below u.heap.size u v) => C.off nb F N (a : Int) (b : Int) lo hi e v (g.on hv).h g.t (WalkArith.wf_i64 (by omega)) (WalkArith.wf_i64 (by omega)) hB
  have D0 : Hid (Row u Z [.pointer (some ⟨nb, 0, none⟩), .map (some M)]) := d
  have HW := g.hw
  have HG : Hid (Nv w0 C.toNt u nb F N) := g
  have cP := fun (v : World) (hv : Below u.heap.size u v) (ok : okB lo hi = true) => C.sprint lo hi v (rbel_on hv HW) ok
  clear hB g d
  go_enter Tryz.func61, Tryz.ntmps61
  go_wp2
  have BW : Hid (Below u.heap.size u (u.alloc (.cells #[.int .i64 (a : Int), .int .i64 (b : Int)] 107))) := rbel_al (Below.refl _ _)
  have RX : Hid (Row (u.alloc (.cells #[.int .i64 (a : Int), .int .i64 (b : Int)] 107)) u.heap.size [.int .i64 (a : Int), .int .i64 (b : Int)]) := Row.made rfl
  generalize (u.alloc (.cells #[.int .i64 (a : Int), .int .i64 (b : Int)] 107)) = W at *
  have DW : Hid (Row W Z [.pointer (some ⟨nb, 0, none⟩), .map (some M)]) := Row.on BW.out D0.out
  have d0 := DW.out.c 0 _ rfl
  have x0 := RX.out.c 0 _ rfl
  have x1 := RX.out.c 1 _ rfl
  have lb : Z < W.heap.size := DW.out.lt
  have lx : u.heap.size < W.heap.size := RX.out.lt
  have nz1 : ¬ (Z = W.heap.size) := by omega
  have nz2 : ¬ (W.heap.size = Z) := by omega
  have nu1 : ¬ (u.heap.size = W.heap.size) := by omega
  have nu2 : ¬ (W.heap.size = u.heap.size) := by omega
  go_region_held (fun w' => w'.cell? ⟨Z, 0, none⟩ = some (.pointer (some ⟨nb, 0, none⟩)) ∧ w'.cell? ⟨u.heap.size, 0, none⟩ = some (.int .i64 (a : Int)) ∧ w'.cell? ⟨u.heap.size, 1, none⟩ = some (.int .i64 (b : Int))) (go_keep) (first
    | (go_at_call 92; first
      | (go_loud (refine (cO _ (rbel_dr BW.out)).mono ?_; rintro o u2 ⟨rfl, hb⟩; have B2 : Hid (Below u.heap.size u u2) := rbel_on hb (rbel_dr BW.out); have D2 := Row.on hb (Row.dr DW.out); have X2 := Row.on hb (Row.dr RX.out); have w0 := D2.c 0 _ rfl; have w1 := X2.c 0 _ rfl; have w2 := X2.c 1 _ rfl; clear hb D2 X2))
      | (go_loud (refine (cO _ (rbel_dr (rbel_al BW.out))).mono ?_; rintro o u2 ⟨rfl, hb⟩; have B2 : Hid (Below u.heap.size u u2) := rbel_on hb (rbel_dr (rbel_al BW.out)); have D2 := Row.on hb (Row.dr (Row.al DW.out)); have X2 := Row.on hb (Row.dr (Row.al RX.out)); have w0 := D2.c 0 _ rfl; have w1 := X2.c 0 _ rfl; have w2 := X2.c 1 _ rfl; have RT : Hid (Row u2 W.heap.size [.int .i64 0, .int .i64 0]) := Row.on hb (Row.dr (Row.made rfl)); have p0 := RT.out.c 0 _ rfl; have p1 := RT.out.c 1 _ rfl; have p2 := RT.out.f 0 _ rfl; have p3 := RT.out.f 1 _ rfl; clear hb D2 X2))
      | (go_loud (refine (cO _ (rbel_al (rbel_dr BW.out))).mono ?_; rintro o u2 ⟨rfl, hb⟩; have B2 : Hid (Below u.heap.size u u2) := rbel_on hb (rbel_al (rbel_dr BW.out)); have D2 := Row.on hb (Row.al (Row.dr DW.out)); have X2 := Row.on hb (Row.al (Row.dr RX.out)); have w0 := D2.c 0 _ rfl; have w1 := X2.c 0 _ rfl; have w2 := X2.c 1 _ rfl; have RT : Hid (Row u2 W.heap.size [.int .i64 0, .int .i64 0]) := Row.on hb (Row.made rfl); have p0 := RT.out.c 0 _ rfl; have p1 := RT.out.c 1 _ rfl; have p2 := RT.out.f 0 _ rfl; have p3 := RT.out.f 1 _ rfl; clear hb D2 X2))))
  all_goals
    first
      | (have q := RT.out
         have RS : Hid (Row ((u2.setCell ⟨W.heap.size, 0, none⟩ (.int .i64 lo)).setCell ⟨W.heap.size, 1, none⟩ (.int .i64 hi)) W.heap.size [.int .i64 lo, .int .i64 hi]) := Row.put 1 (Row.put 0 q)
         have BX : Hid (Below u.heap.size u ((u2.setCell ⟨W.heap.size, 0, none⟩ (.int .i64 lo)).setCell ⟨W.heap.size, 1, none⟩ (.int .i64 hi))) := rbel_put (by omega) (rbel_put (by omega) B2.out)
         clear q RT p0 p1 p2 p3 B2 w0 w1 w2
         generalize ((u2.setCell ⟨W.heap.size, 0, none⟩ (.int .i64 lo)).setCell ⟨W.heap.size, 1, none⟩ (.int .i64 hi)) = V at *
         generalize W.heap.size = T at *)
      | (have RS : Hid (Row (u2.alloc (.cells #[.int .i64 lo, .int .i64 hi] 34)) u2.heap.size [.int .i64 lo, .int .i64 hi]) := Row.made rfl
         have BX : Hid (Below u.heap.size u (u2.alloc (.cells #[.int .i64 lo, .int .i64 hi] 34))) := rbel_al B2.out
         clear B2 w0 w1 w2
         generalize (u2.alloc (.cells #[.int .i64 lo, .int .i64 hi] 34)) = V at *
         generalize u2.heap.size = T at *)
    have y0 := RS.out.c 0 _ rfl
    have y1 := RS.out.c 1 _ rfl
    by_cases z : e = 0
    · subst z
      have okb : okB lo hi = true := by
        rcases hE with ⟨_, q⟩ | q | q
        · exact q
        · cases q
        · cases q
      rw [if_pos rfl] at hx
      rw [errc_zero]
      go_wp2_with (go_at_call 93; refine (cP _ BX.out okb).mono ?_; rintro o u4 ⟨rfl, hb⟩; have B4 : Hid (Below u.heap.size u u4) := rbel_on hb BX.out; clear hb)
      go_ret2
      exact Tl.same C 0 _ _ HG.out (by omega) (by omega) (by rw [hx]; rfl) B4.out
    · have e1 : 0 ≤ e ∧ e ≤ 8 := by
        rcases hE with ⟨q, _⟩ | q | q
        · exact absurd q z
        · omega
        · omega
      rw [if_neg z] at hx
      have lE := errc_not z
      rw [lE]
      go_wp2
      go_ret2
      rw [← lE]
      exact Tl.same C e _ _ HG.out e1.1 e1.2 (by rw [hx, if_neg z]) BX.out
end
end Go.Proofs.YtadkgnbagmnkkakGreatDoor.rn
namespace Go.Proofs.YtadkgnbagmnkkakGreatDoor.rn
open Go.ChangeShapes Go.WideShapes Go.ChangeAt Go.RowKit
set_option linter.unusedVariables false

structure RnC (w0 : World) : Prop where
 run : ∀ (s : ByteArray) (r : List UInt8) (u : World), s.size ≤ 9223372036854775807 → Below w0.heap.size w0 u → RunR s.data.toList r → Calls Tryz.prog 6 #[.string s] u fun o w' => o = .returned (.string ⟨r.toArray⟩) ∧ Below u.heap.size u w'
end Go.Proofs.YtadkgnbagmnkkakGreatDoor.rn
namespace Go.Proofs.YtadkgnbagmnkkakGreatDoor
open Go.ChangeShapes Go.WideShapes Go.ChangeAt Go.RowKit Go.Joins
set_option linter.unusedVariables false
set_option linter.unusedSimpArgs false

theorem infoStr : (Tryz.prog.info? 9).map (fun i => (i.zero, i.size, i.bytes)) = some (some (.string ⟨#[]⟩), 1, 16) := by kernel_rfl
def scs (l : List (List UInt8)) : List Value := l.map (fun x => .string ⟨x.toArray⟩)
theorem scs_len (l : List (List UInt8)) : (scs l).length = l.length := by simp [scs]
theorem scs_app (l m : List (List UInt8)) : scs (l ++ m) = scs l ++ scs m := by simp [scs]
abbrev OwS (u : World) (base : Nat) (v : Value) (l : List (List UInt8)) : Prop := u.ownsRow base 9 1 v l.length (scs l)
def pcB (l : List UInt8) (f i : Nat) : List UInt8 := (l.take i).drop f
theorem pcB_ex (s : ByteArray) (f i : Nat) : (⟨(pcB s.data.toList f i).toArray⟩ : ByteArray) = s.extract f i := by
 apply ByteArray.ext
 apply Array.toList_inj.1
 unfold pcB
 rw [ByteArray.data_extract, Array.toList_extract, List.extract_eq_take_drop, List.drop_take]
theorem pcB_nil (l : List UInt8) (i : Nat) : pcB l i i = [] := by
 unfold pcB
 apply List.drop_eq_nil_of_le
 rw [List.length_take]; omega
theorem pcB_snoc (l : List UInt8) {f i : Nat} (hf : f ≤ i) (hi : i < l.length) : pcB l f (i + 1) = pcB l f i ++ [l[i]] := by
 unfold pcB
 rw [List.take_succ_eq_append_getElem hi, List.drop_append_of_le_length (by rw [List.length_take]; omega)]
theorem drop_at (l : List UInt8) {i : Nat} (hi : i < l.length) : l.drop i = l[i] :: l.drop (i + 1) := List.drop_eq_getElem_cons hi
def CutI (l : List UInt8) (c : UInt8) (L : List (List UInt8)) (f i : Nat) : Prop := cutB c l = L ++ cutA c (pcB l f i) (l.drop i)
theorem CutI.start (l : List UInt8) (c : UInt8) : CutI l c [] 0 0 := by
 unfold CutI cutB
 rw [pcB_nil]
 simp
theorem CutI.hit {l : List UInt8} {c : UInt8} {L : List (List UInt8)} {f i : Nat} (h : CutI l c L f i) (hi : i < l.length) (e : l[i] = c) : CutI l c (L ++ [pcB l f i]) (i + 1) (i + 1) := by
 unfold CutI at *
 rw [h, drop_at l hi, cutA, if_pos e, pcB_nil]
 simp
theorem CutI.miss {l : List UInt8} {c : UInt8} {L : List (List UInt8)} {f i : Nat} (h : CutI l c L f i) (hf : f ≤ i) (hi : i < l.length) (e : l[i] ≠ c) : CutI l c L f (i + 1) := by
 unfold CutI at *
 rw [h, drop_at l hi, cutA, if_neg e, pcB_snoc l hf hi]
theorem CutI.done {l : List UInt8} {c : UInt8} {L : List (List UInt8)} {f i : Nat} (h : CutI l c L f i) (hi : l.length ≤ i) : cutB c l = L ++ [pcB l f i] := by
 unfold CutI at h
 rw [h, List.drop_eq_nil_of_le hi]
 rfl
theorem CutI.len {l : List UInt8} {c : UInt8} {L : List (List UInt8)} {f i : Nat} (h : CutI l c L f i) : L.length ≤ l.length + 1 := by
 unfold CutI at h
 have e : (cutB c l).length ≤ l.length + 1 := cutA_len c l []
 rw [h, List.length_append] at e
 omega
set_option maxRecDepth 100000 in
set_option maxHeartbeats 8000000 in
theorem rcut (s : ByteArray) (c : UInt8) (u : World) (hs : s.size ≤ 1000000) :
  Calls Tryz.prog 7 #[.string s, .int .u8 (c.toNat : Int)] u fun o w' => ∃ v, o = .returned v ∧ OwS w' u.heap.size v (cutB c s.data.toList) ∧ Below u.heap.size u w' := by
 obtain ⟨i0, hi0, hz0, hz1, hz2⟩ := info_parts infoStr
 have sl : s.data.toList.length = s.size := rfl
 go_enter Tryz.func7, Tryz.ntmps7
 go_wp2
 go_loopw [5, 6, 7] (fun vo vf vi wr => ∃ (i f : Nat) (L : List (List UInt8)), i ≤ s.size ∧ f ≤ i ∧ vi = .int .i64 i ∧ vf = .int .i64 f ∧ OwS wr u.heap.size vo L ∧ CutI s.data.toList c L f i ∧ Below u.heap.size u wr) (fun _ _ vi _ => s.size - (intOf vi).toNat)
 case atStart => exact ⟨0, 0, [], Nat.zero_le _, Nat.zero_le _, rfl, rfl, World.ownsRow_nil _ _ _ _, CutI.start _ _, Below.refl _ _⟩
 case round =>
  obtain ⟨i, f, L, hi, hf, rfl, rfl, hown, hC, hw⟩ := hrel
  have HW : Hid (Below u.heap.size u wr) := hw
  have HC : Hid (CutI s.data.toList c L f i) := hC
  have HO : Hid (OwS wr u.heap.size u5 L) := hown
  have HBk : Hid (∀ j, u5.ownBlock = some j → u.heap.size ≤ j) := fun j hj => (hown.lt j hj).1
  have hL := hC.len
  rw [sl] at hL
  have szw := hw.size
  have hf3 : (f : Int) ≤ i := by omega
  have hi3 : (i : Int) ≤ s.size := by omega
  clear hown hC hw
  by_cases hlt : i < s.size
  ·have hlt3 : (i : Int) < s.size := by omega
   have eg : s.data.toList[i]'(by rw [sl]; exact hlt) = s[i] := rfl
   by_cases e : s[i] = c
   ·have t1 : ((s[i].toNat : Int) == (c.toNat : Int)) = true := by rw [e]; simp
    have t2 : (s[i].toNat : Int) = (c.toNat : Int) := by rw [e]
    have HN : Hid (CutI s.data.toList c (L ++ [pcB s.data.toList f i]) (i + 1) (i + 1)) := HC.out.hit (by rw [sl]; exact hlt) (eg.trans e)
    have ex : s.extract f i = ⟨(pcB s.data.toList f i).toArray⟩ := (pcB_ex s f i).symm
    generalize pcB s.data.toList f i = P at *
    go_wp2_with (at_builtin; refine wpList_append_own _ rfl _ _ 23 rfl u.heap.size 9 i0 (.string ⟨#[]⟩) 1 16 Tryz.underlying23 hi0 hz0 hz1 hz2 rfl (by decide) _ _ _ rfl (HO.out.alloc _) ⟨wr.heap.size, 0, none⟩ 1 1 [.string ⟨P.toArray⟩] rfl rfl (fun j x hj => by rw [Addr.add_lit]; exact (Row.made (W := wr) (vs := [.string ⟨P.toArray⟩]) rfl).c _ _ (by simpa using hj)) (fun x hx => by simp at hx; rw [hx]; rfl) (by unfold maxLen; omega) (by omega) (by simp; omega) ?_)
    intro v' w1 hown' hgrow _
    have HO1 : Hid (OwS w1 u.heap.size v' (L ++ [P])) := by
     show w1.ownsRow u.heap.size 9 1 v' (L ++ [P]).length (scs (L ++ [P]))
     rw [scs_app, List.length_append]
     exact hown'
    have HW1 : Hid (Below u.heap.size u w1) := (HW.out.alloc (by omega) _).grown hgrow (by simp; omega) (fun j hj => HBk.out j hj)
    clear hown' hgrow HO HBk HC HW
    go_wp2
    go_roundw
    case rel => exact ⟨i + 1, i + 1, L ++ [P], by omega, Nat.le_refl _, by go_num, by go_num, HO1.out, HN.out, HW1.out⟩
    case measure => simp [intOf]; omega
   ·have t1 : ((s[i].toNat : Int) == (c.toNat : Int)) = false := by
     rw [beq_eq_false_iff_ne]
     intro q
     exact e (UInt8.toNat_inj.1 (by omega))
    have t2 : ¬ ((s[i].toNat : Int) = (c.toNat : Int)) := by
     intro q
     exact e (UInt8.toNat_inj.1 (by omega))
    have HN : Hid (CutI s.data.toList c L f (i + 1)) := HC.out.miss hf (by rw [sl]; exact hlt) (by rw [eg]; exact e)
    clear HC HBk
    go_wp2
    go_roundw
    case rel => exact ⟨i + 1, f, L, by omega, by omega, by go_num, rfl, HO.out, HN.out, HW.out⟩
    case measure => simp [intOf]; omega
  ·have hge : i = s.size := by omega
   subst hge
   have HD : Hid (cutB c s.data.toList = L ++ [pcB s.data.toList f s.size]) := HC.out.done (by rw [sl]; exact Nat.le_refl _)
   have ex : s.extract f s.size = ⟨(pcB s.data.toList f s.size).toArray⟩ := (pcB_ex s f s.size).symm
   clear HC
   generalize pcB s.data.toList f s.size = P at *
   go_wp2_with (at_builtin; refine wpList_append_own _ rfl _ _ 23 rfl u.heap.size 9 i0 (.string ⟨#[]⟩) 1 16 Tryz.underlying23 hi0 hz0 hz1 hz2 rfl (by decide) _ _ _ rfl (HO.out.alloc _) ⟨wr.heap.size, 0, none⟩ 1 1 [.string ⟨P.toArray⟩] rfl rfl (fun j x hj => by rw [Addr.add_lit]; exact (Row.made (W := wr) (vs := [.string ⟨P.toArray⟩]) rfl).c _ _ (by simpa using hj)) (fun x hx => by simp at hx; rw [hx]; rfl) (by unfold maxLen; omega) (by omega) (by simp; omega) ?_)
   intro v' w1 hown' hgrow _
   have HO1 : Hid (OwS w1 u.heap.size v' (cutB c s.data.toList)) := by
    show w1.ownsRow u.heap.size 9 1 v' (cutB c s.data.toList).length (scs (cutB c s.data.toList))
    rw [HD.out, scs_app, List.length_append]
    exact hown'
   have HW1 : Hid (Below u.heap.size u w1) := (HW.out.alloc (by omega) _).grown hgrow (by simp; omega) (fun j hj => HBk.out j hj)
   clear hown' hgrow HO HBk HW HD
   go_wp2
   go_ret
   exact ⟨v', rfl, HO1.out, HW1.out⟩
end Go.Proofs.YtadkgnbagmnkkakGreatDoor
namespace Go.Proofs.YtadkgnbagmnkkakGreatDoor.rn
open Go.ChangeShapes Go.WideShapes Go.ChangeAt Go.RowKit Go.Joins
set_option linter.unusedVariables false
set_option linter.unusedSimpArgs false

theorem take_snoc (s : ByteArray) (k : Nat) (h : k < s.size) : s.data.toList.take (k + 1) = s.data.toList.take k ++ [s[k]] := by
 rw [List.take_succ_eq_append_getElem (by simpa using h)]; rfl
theorem isDig_yes {b : UInt8} (h1 : 48 ≤ (b.toNat : Int)) (h2 : (b.toNat : Int) ≤ 57) : isDig b = true := decide_eq_true (by omega)
theorem size_of {s : ByteArray} {l : List UInt8} (h : s.data.toList = l) : s.size = l.length := by rw [← h, Lib.size_eq]
theorem ba_of (l : List UInt8) : ∃ s : ByteArray, s.data.toList = l := ⟨⟨l.toArray⟩, rfl⟩
theorem toList_data (s : ByteArray) : s.toList = s.data.toList := by
 have := Lib.extract_toList s 0 s.size
 rw [show s.extract 0 s.size = s by simp] at this
 rw [this, Nat.sub_zero, List.drop_zero, List.take_of_length_le]; rw [Lib.size_eq]; exact Nat.le_refl _
theorem head_of (d : ByteArray) (h1 : 1 ≤ d.size) : d.data.toList.head? = some (d[0]'(by omega)) := by
 cases hd : d.data.toList with
 | nil => rw [Lib.size_eq, hd] at h1; simp at h1
 | cons a t =>
  have : d[0]'(by omega) = a := by
   show d.data[0] = a
   have h2 : d.data.toList[0]'(by rw [hd]; simp) = a := by simp [hd]
   exact h2
  rw [this]; rfl
theorem dec_snoc (s : ByteArray) (k v : Nat) (h : k < s.size) (hv : Lib.decFrom 0 (s.data.toList.take k) = some v) (hd : isDig s[k] = true) : Lib.decFrom 0 (s.data.toList.take (k + 1)) = some (v * 10 + (s[k].toNat - 48)) := by
 rw [take_snoc s k h, decFrom_snoc, hv, digitVal_of hd]; rfl
theorem dec_lt (l : List UInt8) : ∀ (n v : Nat), l.length ≤ n → Lib.decFrom 0 l = some v → v < 10 ^ l.length := by
 intro n
 induction n generalizing l with
 | zero => intro v h hv; cases l with
  | nil => simp [Lib.decFrom] at hv; subst hv; simp
  | cons a t => simp at h
 | succ n ih =>
  intro v h hv
  by_cases hne : l = []
  ·subst hne; simp [Lib.decFrom] at hv; subst hv; simp
  ·obtain ⟨p, b, rfl⟩ : ∃ p b, l = p ++ [b] := ⟨l.dropLast, l.getLast hne, (List.dropLast_concat_getLast hne).symm⟩
   rw [decFrom_snoc] at hv
   obtain ⟨m', h1, h2⟩ := Option.bind_eq_some_iff.1 hv
   obtain ⟨d, h3, h4⟩ := Option.map_eq_some_iff.1 h2
   have := ih p m' (by simp at h; omega) h1
   have := (dig_eq h3).1
   simp only [List.length_append, List.length_cons, List.length_nil, Nat.zero_add, Nat.pow_succ]
   omega
theorem dec_bound (s : ByteArray) (k v : Nat) (h : s.size ≤ 13) (hk : k ≤ s.size) (hv : Lib.decFrom 0 (s.data.toList.take k) = some v) : (v : Int) < 10000000000000 := by
 have h1 := dec_lt _ _ v (Nat.le_refl _) hv
 have h2 : (s.data.toList.take k).length ≤ 13 := by
  rw [List.length_take, ← Lib.size_eq]; omega
 have h3 : 10 ^ (s.data.toList.take k).length ≤ 10 ^ 13 := Nat.pow_le_pow_right (by omega) h2
 have : (10 : Nat) ^ 13 = 10000000000000 := by decide
 omega
theorem ret_pair {a b : Int} {c d : Bool} (h : a = b) (g : c = d) : Ending.returned (.tuple #[.int .i64 a, .bool c]) = .returned (.tuple #[.int .i64 b, .bool d]) := by rw [h, g]
theorem dig_of_dec (s : ByteArray) (v k : Nat) (h : Lib.decFrom 0 s.data.toList = some v) (hk : k < s.size) : isDig s[k] = true := by
 have key : ∀ (l : List UInt8) (acc : Nat), Lib.decFrom acc l = some v → l.all isDig = true := by
  intro l
  induction l with
  | nil => intro _ _; rfl
  | cons a t ih =>
   intro acc h
   simp only [Lib.decFrom] at h
   cases hd : Lib.digitVal a with
   | none => rw [hd] at h; cases h
   | some d =>
    rw [hd] at h
    have h1 := Lib.digitVal_eq hd
    simp only [List.all_cons, Bool.and_eq_true]
    exact ⟨decide_eq_true (by omega), ih _ h⟩
 have := key _ _ h
 rw [List.all_eq_true] at this
 exact this _ (by show s.data.toList[k]'(by simpa using hk) ∈ _; exact List.getElem_mem _)
theorem all_of_dec (s : ByteArray) (v : Nat) (h : Lib.decFrom 0 (s.data.toList.take s.size) = some v) : allDig s.data.toList = true := by
 rw [List.take_of_length_le (by rw [Lib.size_eq]; exact Nat.le_refl _)] at h
 unfold allDig
 rw [List.all_eq_true]
 intro b hb
 obtain ⟨k, hk, rfl⟩ := List.getElem_of_mem hb
 exact dig_of_dec s v k h (by simpa using hk)
theorem dec_step (s : ByteArray) (k : Nat) (v : Int) (h : k < s.size) (h0 : 0 ≤ v) (hv : Lib.decFrom 0 (s.data.toList.take k) = some v.toNat) (hd : isDig s[k] = true) : Lib.decFrom 0 (s.data.toList.take (k + 1)) = some (v * 10 + s[k].toNat - 48).toNat := by
 have hb := of_decide_eq_true hd
 rw [dec_snoc s k v.toNat h hv hd]
 congr 1
 omega
theorem dig_bounds {b : UInt8} (h : isDig b = true) : 48 ≤ (b.toNat : Int) ∧ (b.toNat : Int) ≤ 57 := by
 have := of_decide_eq_true h
 omega
theorem get0 {s : ByteArray} {b : UInt8} {r : List UInt8} (h : s.data.toList = b :: r) (h0 : 0 < s.size) : s[0] = b := by
 have := head_of s (by omega)
 rw [h] at this
 simpa using this.symm
theorem get0i {s : ByteArray} {b : UInt8} {r : List UInt8} (h : s.data.toList = b :: r) (h0 : 0 < s.size) (n : Nat) (hb : b.toNat = n) : (s[0].toNat : Int) = n := by
 rw [get0 h h0, hb]
theorem get0n {s : ByteArray} {b : UInt8} {r : List UInt8} (h : s.data.toList = b :: r) (h0 : 0 < s.size) (c : UInt8) (hb : b ≠ c) : ((s[0].toNat : Int) == (c.toNat : Int)) = false := by
 rw [get0 h h0, beq_eq_false_iff_ne]
 intro e
 apply hb
 apply UInt8.toNat_inj.1
 omega
theorem notEmpty {s : ByteArray} (h : 0 < s.size) : s.toList.isEmpty = false := by
 rw [toList_data]
 cases e : s.data.toList with
 | nil => rw [Lib.size_eq, e] at h; simp at h
 | cons a t => rfl
theorem ext1 {s d : ByteArray} {b : UInt8} {r : List UInt8} (h : s.data.toList = b :: r) (hd : d.data.toList = r) : s.extract 1 s.size = d := by
 apply ByteArray.ext
 apply Array.toList_inj.1
 rw [Lib.extract_to_end, h, hd]
 rfl
theorem len_cons {s : ByteArray} {b : UInt8} {r : List UInt8} (h : s.data.toList = b :: r) : s.size = r.length + 1 := by rw [size_of h]; rfl
theorem dec_ge : ∀ (l : List UInt8) (a v : Nat), Lib.decFrom a l = some v → a ≤ v
 | [], a, v, h => by
  have : a = v := Option.some.inj h
  omega
 | x :: t, a, v, h => by
  unfold Lib.decFrom at h
  split at h
  ·have := dec_ge t _ v h
   omega
  ·cases h
theorem dec_pos {x : UInt8} {t : List UInt8} {v : Nat} (h : Lib.decFrom 0 (x :: t) = some v) (hx : x ≠ 48) : 1 ≤ v := by
 unfold Lib.decFrom at h
 split at h
 ·rename_i d hd
  have := dec_ge t _ v h
  have q := dig_eq hd
  have : d ≠ 0 := fun e => hx (by rw [q.2, e]; rfl)
  omega
 ·cases h
theorem dec_all : ∀ (l : List UInt8) (a : Nat), allDig l = true → ∃ v, Lib.decFrom a l = some v
 | [], a, _ => ⟨a, rfl⟩
 | x :: t, a, h => by
  have hx : isDig x = true ∧ allDig t = true := by
   have : (x :: t).all isDig = true := h
   simpa [allDig, List.all_cons] using this
  unfold Lib.decFrom
  cases e : Lib.digitVal x with
  | none =>
   exfalso
   have b := dig_bounds hx.1
   have := e
   unfold Lib.digitVal at this
   split at this
   ·cases this
   ·rename_i c; exact c (by first | omega | (constructor <;> omega))
  | some d => exact dec_all t _ hx.2
theorem dec_none {l : List UInt8} {a : Nat} (h : Lib.decFrom a l = none) : allDig l = false := by
 cases e : allDig l with
 | false => rfl
 | true =>
  obtain ⟨v, hv⟩ := dec_all l a e
  rw [h] at hv
  cases hv
set_option maxHeartbeats 3000000
set_option maxRecDepth 100000
theorem num7_emptyA (s : ByteArray) (w : World) (hs : s.size ≤ 1) (h3 : s.toList.isEmpty = true) :
  Calls Tryz.prog 11 #[.string s, .int .i64 7] w fun e w' => e = .returned (.tuple #[.int .i64 0, .bool false]) ∧ w' = w := by
 go_enter Tryz.func11, Tryz.ntmps11
 go_wp2
 go_ret2
 exact ⟨rfl, rfl⟩

theorem num7_longL (s D : ByteArray) (w : World) (hs : s.size ≤ maxLen) (h1 : 1 < s.size) (h2 : (s[0].toNat : Int) = 45) (hD : s.extract 1 s.size = D) (h3 : D.toList.isEmpty = false) (h4 : 7 < D.size) (hm : D.size ≤ 9223372036854775807) :
  Calls Tryz.prog 11 #[.string s, .int .i64 7] w fun e w' => e = .returned (.tuple #[.int .i64 0, .bool false]) ∧ w' = w := by
 unfold maxLen at hs
 go_enter Tryz.func11, Tryz.ntmps11
 go_wp2
 go_ret2
 exact ⟨rfl, rfl⟩

theorem num7_longB (s : ByteArray) (w : World) (hs : s.size ≤ maxLen) (h1 : 1 < s.size) (h2 : ((s[0].toNat : Int) == 45) = false) (h3 : s.toList.isEmpty = false) (h4 : 7 < s.size) (hm : s.size ≤ 9223372036854775807) :
  Calls Tryz.prog 11 #[.string s, .int .i64 7] w fun e w' => e = .returned (.tuple #[.int .i64 0, .bool false]) ∧ w' = w := by
 unfold maxLen at hs
 go_enter Tryz.func11, Tryz.ntmps11
 go_wp2
 go_ret2
 exact ⟨rfl, rfl⟩

theorem num7_zeroL (s D : ByteArray) (w : World) (hs : s.size ≤ maxLen) (h1 : 1 < s.size) (h2 : (s[0].toNat : Int) = 45) (hD : s.extract 1 s.size = D) (h3 : D.toList.isEmpty = false) (h4 : D.size ≤ 7) (h5 : 0 < D.size) (h6 : (D[0].toNat : Int) = 48) :
  Calls Tryz.prog 11 #[.string s, .int .i64 7] w fun e w' => e = .returned (.tuple #[.int .i64 0, .bool false]) ∧ w' = w := by
 unfold maxLen at hs
 go_enter Tryz.func11, Tryz.ntmps11
 by_cases h7 : 1 < D.size
 ·go_wp2
  go_ret2
  exact ⟨rfl, rfl⟩
 ·have h8 : D.size = 1 := by omega
  clear h7
  go_wp2
  go_ret2
  exact ⟨rfl, rfl⟩

theorem num7_zeroB (s : ByteArray) (w : World) (hs : s.size ≤ maxLen) (h1 : 1 < s.size) (h2 : ((s[0].toNat : Int) == 45) = false) (h3 : s.toList.isEmpty = false) (h4 : s.size ≤ 7) (h6 : (s[0].toNat : Int) = 48) :
  Calls Tryz.prog 11 #[.string s, .int .i64 7] w fun e w' => e = .returned (.tuple #[.int .i64 0, .bool false]) ∧ w' = w := by
 unfold maxLen at hs
 go_enter Tryz.func11, Tryz.ntmps11
 go_wp2
 go_ret2
 exact ⟨rfl, rfl⟩

theorem num7_okL (s D : ByteArray) (V : Nat) (w : World) (hs : s.size ≤ maxLen) (h1 : 1 < s.size) (h2 : (s[0].toNat : Int) = 45) (hD : s.extract 1 s.size = D) (h3 : D.toList.isEmpty = false) (h4 : D.size ≤ 7) (h5 : 0 < D.size) (h6 : ((D[0].toNat : Int) == 48) = false) (hV : Hid (Lib.decFrom 0 D.data.toList = some V)) :
  Calls Tryz.prog 11 #[.string s, .int .i64 7] w fun e w' => e = .returned (.tuple #[.int .i64 (-(V : Int)), .bool true]) ∧ w' = w := by
 unfold maxLen at hs
 go_enter Tryz.func11, Tryz.ntmps11
 go_wp2
 go_loop [4, 5, 7, 8] (fun r4 r5 n i => ∃ (k : Nat) (v : Int), k ≤ D.size ∧ i = .int .i64 k ∧ n = .int .i64 v ∧ r4 = .int .i64 0 ∧ r5 = .bool false ∧ 0 ≤ v ∧ Lib.decFrom 0 (D.data.toList.take k) = some v.toNat) (fun _ _ _ i => D.size - (intOf i).toNat)
 case atStart => exact ⟨0, 0, Nat.zero_le _, rfl, rfl, rfl, rfl, Int.le_refl 0, rfl⟩
 case round =>
  obtain ⟨k, v, hk, rfl, rfl, rfl, rfl, hv0, hv⟩ := hrel
  have hb : v < 10000000000000 := by have := dec_bound D k v.toNat (by omega) hk hv; omega
  have HV : Hid (Lib.decFrom 0 (D.data.toList.take k) = some v.toNat) := hv
  clear hv
  (try clear h6)
  (try clear h2)
  (try clear h3)
  by_cases hlt : k < D.size
  ·have HD : Hid (isDig D[k] = true) := dig_of_dec D V k hV.out hlt
   go_wp2
   ·exfalso; have := dig_bounds HD.out; omega
   ·go_round
    case rel => exact ⟨k + 1, v * 10 + D[k].toNat - 48, by omega, by go_num, by go_num, rfl, rfl, by omega, dec_step D k v hlt hv0 HV.out HD.out⟩
    case measure => simp [intOf]; omega
   ·exfalso; have := dig_bounds HD.out; omega
  ·go_wp2
   go_ret2
   have e : v = (V : Int) := by
    have h := HV.out
    rw [List.take_of_length_le (by rw [← Lib.size_eq]; omega)] at h
    have := Option.some.inj (h.symm.trans hV.out)
    omega
   exact ⟨ret_pair (by rw [e]) rfl, rfl⟩

theorem num7_badL (s D : ByteArray) (w : World) (hs : s.size ≤ maxLen) (h1 : 1 < s.size) (h2 : (s[0].toNat : Int) = 45) (hD : s.extract 1 s.size = D) (h3 : D.toList.isEmpty = false) (h4 : D.size ≤ 7) (h5 : 0 < D.size) (h6 : ((D[0].toNat : Int) == 48) = false) (hV : Hid (allDig D.data.toList = false)) :
  Calls Tryz.prog 11 #[.string s, .int .i64 7] w fun e w' => e = .returned (.tuple #[.int .i64 0, .bool false]) ∧ w' = w := by
 unfold maxLen at hs
 go_enter Tryz.func11, Tryz.ntmps11
 go_wp2
 go_loop [4, 5, 7, 8] (fun r4 r5 n i => ∃ (k : Nat) (v : Int), k ≤ D.size ∧ i = .int .i64 k ∧ n = .int .i64 v ∧ r4 = .int .i64 0 ∧ r5 = .bool false ∧ 0 ≤ v ∧ Lib.decFrom 0 (D.data.toList.take k) = some v.toNat) (fun _ _ _ i => D.size - (intOf i).toNat)
 case atStart => exact ⟨0, 0, Nat.zero_le _, rfl, rfl, rfl, rfl, Int.le_refl 0, rfl⟩
 case round =>
  obtain ⟨k, v, hk, rfl, rfl, rfl, rfl, hv0, hv⟩ := hrel
  have hb : v < 10000000000000 := by have := dec_bound D k v.toNat (by omega) hk hv; omega
  have HV : Hid (Lib.decFrom 0 (D.data.toList.take k) = some v.toNat) := hv
  clear hv
  (try clear h6)
  (try clear h2)
  (try clear h3)
  by_cases hlt : k < D.size
  ·go_wp2
   ·go_ret2
    exact ⟨rfl, rfl⟩
   ·go_round
    case rel => exact ⟨k + 1, v * 10 + D[k].toNat - 48, by omega, by go_num, by go_num, rfl, rfl, by omega, dec_step D k v hlt hv0 HV.out (isDig_yes (by omega) (by omega))⟩
    case measure => simp [intOf]; omega
   ·go_ret2
    exact ⟨rfl, rfl⟩
  ·exfalso
   have e : k = D.size := by omega
   subst e
   have := all_of_dec D v.toNat HV.out
   rw [hV.out] at this
   cases this

theorem num7_okAJ (s : ByteArray) (V : Nat) (w : World) (hp : 0 < s.size) (H : ((s.size ≤ 1) ∧ (s.toList.isEmpty = false) ∧ (s.size ≤ 7) ∧ (((s[0].toNat : Int) == 48) = false) ∧ (Hid (Lib.decFrom 0 s.data.toList = some V))) ∨ ((s.size ≤ 1) ∧ (s.toList.isEmpty = false) ∧ (s.size ≤ 7) ∧ ((s[0].toNat : Int) = 48) ∧ (Hid (Lib.decFrom 0 s.data.toList = some V))) ∨ ((s.size ≤ maxLen) ∧ (1 < s.size) ∧ (((s[0].toNat : Int) == 45) = false) ∧ (s.toList.isEmpty = false) ∧ (s.size ≤ 7) ∧ (((s[0].toNat : Int) == 48) = false) ∧ (Hid (Lib.decFrom 0 s.data.toList = some V)))) :
  Calls Tryz.prog 11 #[.string s, .int .i64 7] w fun e w' => e = .returned (.tuple #[.int .i64 (V : Int), .bool true]) ∧ w' = w := by
 rcases H with ⟨hs, h3, h4, h6, hV⟩ | ⟨hs, h3, h4, h6, hV⟩ | ⟨hs, h1, h2, h3, h4, h6, hV⟩
 all_goals
  try unfold maxLen at hs
  go_enter Tryz.func11, Tryz.ntmps11
  go_wp2
  go_loop [4, 5, 7, 8] (fun r4 r5 n i => ∃ (k : Nat) (v : Int), k ≤ s.size ∧ i = .int .i64 k ∧ n = .int .i64 v ∧ r4 = .int .i64 0 ∧ r5 = .bool false ∧ 0 ≤ v ∧ Lib.decFrom 0 (s.data.toList.take k) = some v.toNat) (fun _ _ _ i => s.size - (intOf i).toNat)
  case atStart => exact ⟨0, 0, Nat.zero_le _, rfl, rfl, rfl, rfl, Int.le_refl 0, rfl⟩
  case round =>
   obtain ⟨k, v, hk, rfl, rfl, rfl, rfl, hv0, hv⟩ := hrel
   have hb : v < 10000000000000 := by have := dec_bound s k v.toNat (by omega) hk hv; omega
   have HV : Hid (Lib.decFrom 0 (s.data.toList.take k) = some v.toNat) := hv
   clear hv
   (try clear h6)
   (try clear h2)
   (try clear h3)
   by_cases hlt : k < s.size
   ·have HD : Hid (isDig s[k] = true) := dig_of_dec s V k hV.out hlt
    go_wp2
    ·exfalso; have := dig_bounds HD.out; omega
    ·go_round
     case rel => exact ⟨k + 1, v * 10 + s[k].toNat - 48, by omega, by go_num, by go_num, rfl, rfl, by omega, dec_step s k v hlt hv0 HV.out HD.out⟩
     case measure => simp [intOf]; omega
    ·exfalso; have := dig_bounds HD.out; omega
   ·go_wp2
    go_ret2
    have e : v = (V : Int) := by
     have h := HV.out
     rw [List.take_of_length_le (by rw [← Lib.size_eq]; omega)] at h
     have := Option.some.inj (h.symm.trans hV.out)
     omega
    exact ⟨ret_pair (by rw [e]) rfl, rfl⟩
theorem num7_okA (s : ByteArray) (V : Nat) (w : World) (hs : s.size ≤ 1) (h3 : s.toList.isEmpty = false) (h4 : s.size ≤ 7) (h5 : 0 < s.size) (h6 : ((s[0].toNat : Int) == 48) = false) (hV : Hid (Lib.decFrom 0 s.data.toList = some V)) : Calls Tryz.prog 11 #[.string s, .int .i64 7] w fun e w' => e = .returned (.tuple #[.int .i64 (V : Int), .bool true]) ∧ w' = w := num7_okAJ s V w h5 (Or.inl ⟨hs, h3, h4, h6, hV⟩)
theorem num7_okZ (s : ByteArray) (V : Nat) (w : World) (hs : s.size ≤ 1) (h3 : s.toList.isEmpty = false) (h4 : s.size ≤ 7) (h5 : 0 < s.size) (h6 : (s[0].toNat : Int) = 48) (hV : Hid (Lib.decFrom 0 s.data.toList = some V)) : Calls Tryz.prog 11 #[.string s, .int .i64 7] w fun e w' => e = .returned (.tuple #[.int .i64 (V : Int), .bool true]) ∧ w' = w := num7_okAJ s V w h5 (Or.inr (Or.inl ⟨hs, h3, h4, h6, hV⟩))
theorem num7_okB (s : ByteArray) (V : Nat) (w : World) (hs : s.size ≤ maxLen) (h1 : 1 < s.size) (h2 : ((s[0].toNat : Int) == 45) = false) (h3 : s.toList.isEmpty = false) (h4 : s.size ≤ 7) (h6 : ((s[0].toNat : Int) == 48) = false) (hV : Hid (Lib.decFrom 0 s.data.toList = some V)) : Calls Tryz.prog 11 #[.string s, .int .i64 7] w fun e w' => e = .returned (.tuple #[.int .i64 (V : Int), .bool true]) ∧ w' = w := num7_okAJ s V w (by omega) (Or.inr (Or.inr (⟨hs, h1, h2, h3, h4, h6, hV⟩)))
theorem num7_badAJ (s : ByteArray) (w : World) (hp : 0 < s.size) (H : ((s.size ≤ 1) ∧ (s.toList.isEmpty = false) ∧ (s.size ≤ 7) ∧ (((s[0].toNat : Int) == 48) = false) ∧ (Hid (allDig s.data.toList = false))) ∨ ((s.size ≤ 1) ∧ (s.toList.isEmpty = false) ∧ (s.size ≤ 7) ∧ ((s[0].toNat : Int) = 48) ∧ (Hid (allDig s.data.toList = false))) ∨ ((s.size ≤ maxLen) ∧ (1 < s.size) ∧ (((s[0].toNat : Int) == 45) = false) ∧ (s.toList.isEmpty = false) ∧ (s.size ≤ 7) ∧ (((s[0].toNat : Int) == 48) = false) ∧ (Hid (allDig s.data.toList = false)))) :
  Calls Tryz.prog 11 #[.string s, .int .i64 7] w fun e w' => e = .returned (.tuple #[.int .i64 0, .bool false]) ∧ w' = w := by
 rcases H with ⟨hs, h3, h4, h6, hV⟩ | ⟨hs, h3, h4, h6, hV⟩ | ⟨hs, h1, h2, h3, h4, h6, hV⟩
 all_goals
  try unfold maxLen at hs
  go_enter Tryz.func11, Tryz.ntmps11
  go_wp2
  go_loop [4, 5, 7, 8] (fun r4 r5 n i => ∃ (k : Nat) (v : Int), k ≤ s.size ∧ i = .int .i64 k ∧ n = .int .i64 v ∧ r4 = .int .i64 0 ∧ r5 = .bool false ∧ 0 ≤ v ∧ Lib.decFrom 0 (s.data.toList.take k) = some v.toNat) (fun _ _ _ i => s.size - (intOf i).toNat)
  case atStart => exact ⟨0, 0, Nat.zero_le _, rfl, rfl, rfl, rfl, Int.le_refl 0, rfl⟩
  case round =>
   obtain ⟨k, v, hk, rfl, rfl, rfl, rfl, hv0, hv⟩ := hrel
   have hb : v < 10000000000000 := by have := dec_bound s k v.toNat (by omega) hk hv; omega
   have HV : Hid (Lib.decFrom 0 (s.data.toList.take k) = some v.toNat) := hv
   clear hv
   (try clear h6)
   (try clear h2)
   (try clear h3)
   by_cases hlt : k < s.size
   ·go_wp2
    ·go_ret2
     exact ⟨rfl, rfl⟩
    ·go_round
     case rel => exact ⟨k + 1, v * 10 + s[k].toNat - 48, by omega, by go_num, by go_num, rfl, rfl, by omega, dec_step s k v hlt hv0 HV.out (isDig_yes (by omega) (by omega))⟩
     case measure => simp [intOf]; omega
    ·go_ret2
     exact ⟨rfl, rfl⟩
   ·exfalso
    have e : k = s.size := by omega
    subst e
    have := all_of_dec s v.toNat HV.out
    rw [hV.out] at this
    cases this
theorem num7_badA (s : ByteArray) (w : World) (hs : s.size ≤ 1) (h3 : s.toList.isEmpty = false) (h4 : s.size ≤ 7) (h5 : 0 < s.size) (h6 : ((s[0].toNat : Int) == 48) = false) (hV : Hid (allDig s.data.toList = false)) : Calls Tryz.prog 11 #[.string s, .int .i64 7] w fun e w' => e = .returned (.tuple #[.int .i64 0, .bool false]) ∧ w' = w := num7_badAJ s w h5 (Or.inl ⟨hs, h3, h4, h6, hV⟩)
theorem num7_badZ (s : ByteArray) (w : World) (hs : s.size ≤ 1) (h3 : s.toList.isEmpty = false) (h4 : s.size ≤ 7) (h5 : 0 < s.size) (h6 : (s[0].toNat : Int) = 48) (hV : Hid (allDig s.data.toList = false)) : Calls Tryz.prog 11 #[.string s, .int .i64 7] w fun e w' => e = .returned (.tuple #[.int .i64 0, .bool false]) ∧ w' = w := num7_badAJ s w h5 (Or.inr (Or.inl ⟨hs, h3, h4, h6, hV⟩))
theorem num7_badB (s : ByteArray) (w : World) (hs : s.size ≤ maxLen) (h1 : 1 < s.size) (h2 : ((s[0].toNat : Int) == 45) = false) (h3 : s.toList.isEmpty = false) (h4 : s.size ≤ 7) (h6 : ((s[0].toNat : Int) == 48) = false) (hV : Hid (allDig s.data.toList = false)) : Calls Tryz.prog 11 #[.string s, .int .i64 7] w fun e w' => e = .returned (.tuple #[.int .i64 0, .bool false]) ∧ w' = w := num7_badAJ s w (by omega) (Or.inr (Or.inr (⟨hs, h1, h2, h3, h4, h6, hV⟩)))
theorem num7_some (s : ByteArray) (n : Nat) (w : World) (hs : s.size ≤ maxLen) (h : numM 7 s.data.toList = some n) :
  Calls Tryz.prog 11 #[.string s, .int .i64 7] w fun e w' => e = .returned (.tuple #[.int .i64 (n : Int), .bool true]) ∧ w' = w := by
 unfold numM at h
 split at h
 ·cases h
 ·rename_i c
  rw [← Lib.size_eq] at c
  have c1 : ¬ s.size < 1 := fun q => c (Or.inl q)
  have c2 : ¬ 7 < s.size := fun q => c (Or.inr (Or.inl q))
  cases el : s.data.toList with
  | nil =>
   have : s.size = 0 := by rw [size_of el]; rfl
   omega
  | cons b r =>
   have hl := len_cons el
   have hd : isDig b = true := by
    have := dig_of_dec s n 0 h (show 0 < s.size by rw [hl]; exact Nat.succ_pos _)
    rwa [get0 el (show 0 < s.size by rw [hl]; exact Nat.succ_pos _)] at this
   have hb1 : b ≠ 45 := (dig_not_minus hd).1
   cases r with
   | nil =>
    simp at hl
    by_cases h48 : b = 48
    ·subst h48
     exact num7_okZ s n w (by omega) (notEmpty (by omega)) (by omega) (by omega) (get0i el (by omega) 48 rfl) h
    ·exact num7_okA s n w (by omega) (notEmpty (by omega)) (by omega) (by omega) (get0n el (by omega) 48 h48) h
   | cons q t =>
    simp only [List.length_cons] at hl
    have h48 : b ≠ 48 := fun e => c (Or.inr (Or.inr ⟨by omega, by rw [el, e]; rfl⟩))
    exact num7_okB s n w hs (by omega) (get0n el (by omega) 45 hb1) (notEmpty (by omega)) (by omega) (get0n el (by omega) 48 h48) h
theorem num7_none (s : ByteArray) (hs : s.size ≤ maxLen) (h : numM 7 s.data.toList = none) :
  ∃ (k : Int) (ok : Bool), (ok = true → k < 0 ∧ -9223372036854775807 ≤ k) ∧ ∀ w : World, Calls Tryz.prog 11 #[.string s, .int .i64 7] w fun e w' => e = .returned (.tuple #[.int .i64 k, .bool ok]) ∧ w' = w := by
 have hs' := hs
 unfold maxLen at hs'
 have F : (∀ w : World, Calls Tryz.prog 11 #[.string s, .int .i64 7] w fun e w' => e = .returned (.tuple #[.int .i64 0, .bool false]) ∧ w' = w) → ∃ (k : Int) (ok : Bool), (ok = true → k < 0 ∧ -9223372036854775807 ≤ k) ∧ ∀ w : World, Calls Tryz.prog 11 #[.string s, .int .i64 7] w fun e w' => e = .returned (.tuple #[.int .i64 k, .bool ok]) ∧ w' = w := fun q => ⟨0, false, (by intro z; cases z), q⟩
 have p : s.size < 1 ∨ 7 < s.size ∨ (1 < s.size ∧ s.data.toList.head? = some 48) ∨ allDig s.data.toList = false := by
  unfold numM at h
  split at h
  ·rename_i c
   rw [← Lib.size_eq] at c
   rcases c with c | c | c
   ·exact Or.inl c
   ·exact Or.inr (Or.inl c)
   ·exact Or.inr (Or.inr (Or.inl c))
  ·exact Or.inr (Or.inr (Or.inr (dec_none h)))
 cases el : s.data.toList with
 | nil =>
  have hl : s.size = 0 := by rw [size_of el]; rfl
  exact F fun w => num7_emptyA s w (by omega) (by rw [toList_data, el]; rfl)
 | cons b r =>
  have hl := len_cons el
  by_cases hb : b = 45
  ·subst hb
   cases r with
   | nil =>
    simp at hl
    exact F fun w => num7_badA s w (by omega) (notEmpty (by omega)) (by omega) (by omega) (get0n el (by omega) 48 (by decide)) (by show _ = _; rw [el]; rfl)
   | cons c t =>
    obtain ⟨D, hD⟩ := ba_of (c :: t)
    have hDs := len_cons hD
    simp only [List.length_cons] at hl
    by_cases q2 : 7 < D.size
    ·exact F fun w => num7_longL s D w hs (by omega) (get0i el (by omega) 45 rfl) (ext1 el hD) (notEmpty (by omega)) q2 (by omega)
    ·by_cases q4 : c = 48
     ·subst q4
      exact F fun w => num7_zeroL s D w hs (by omega) (get0i el (by omega) 45 rfl) (ext1 el hD) (notEmpty (by omega)) (by omega) (by omega) (get0i hD (by omega) 48 rfl)
     ·cases e : Lib.decFrom 0 D.data.toList with
      | none => exact F fun w => num7_badL s D w hs (by omega) (get0i el (by omega) 45 rfl) (ext1 el hD) (notEmpty (by omega)) (by omega) (by omega) (get0n hD (by omega) 48 q4) (dec_none e)
      | some V =>
       have hV : 1 ≤ V := by rw [hD] at e; exact dec_pos e q4
       exact ⟨-(V : Int), true, fun _ => by have := Lib.decFrom_lt D.data.toList 0 V e; have : 10 ^ D.data.toList.length ≤ 10 ^ 13 := Nat.pow_le_pow_right (by omega) (by rw [← Lib.size_eq]; omega); omega, fun w => num7_okL s D V w hs (by omega) (get0i el (by omega) 45 rfl) (ext1 el hD) (notEmpty (by omega)) (by omega) (by omega) (get0n hD (by omega) 48 q4) e⟩
  ·cases r with
   | nil =>
    simp at hl
    have bad : allDig s.data.toList = false := by
     rcases p with p | p | p | p
     ·omega
     ·omega
     ·omega
     ·exact p
    by_cases q4 : b = 48
    ·subst q4
     exact F fun w => num7_badZ s w (by omega) (notEmpty (by omega)) (by omega) (by omega) (get0i el (by omega) 48 rfl) bad
    ·exact F fun w => num7_badA s w (by omega) (notEmpty (by omega)) (by omega) (by omega) (get0n el (by omega) 48 q4) bad
   | cons c t =>
    simp only [List.length_cons] at hl
    by_cases q2 : 7 < s.size
    ·exact F fun w => num7_longB s w hs (by omega) (get0n el (by omega) 45 hb) (notEmpty (by omega)) q2 (by omega)
    ·by_cases q4 : b = 48
     ·subst q4
      exact F fun w => num7_zeroB s w hs (by omega) (get0n el (by omega) 45 hb) (notEmpty (by omega)) (by omega) (get0i el (by omega) 48 rfl)
     ·have bad : allDig s.data.toList = false := by
       rcases p with p | p | p | p
       ·omega
       ·omega
       ·rw [el] at p; exact absurd (by simpa using p.2) q4
       ·exact p
      exact F fun w => num7_badB s w hs (by omega) (get0n el (by omega) 45 hb) (notEmpty (by omega)) (by omega) (get0n el (by omega) 48 q4) bad
set_option maxHeartbeats 4000000
theorem digit_piece (k : Nat) (h : k < 10) : (⟨#[48, 49, 50, 51, 52, 53, 54, 55, 56, 57]⟩ : ByteArray).extract k (k + 1) = ⟨#[UInt8.ofNat (48 + k)]⟩ := by
 have hc : k = 0 ∨ k = 1 ∨ k = 2 ∨ k = 3 ∨ k = 4 ∨ k = 5 ∨ k = 6 ∨ k = 7 ∨ k = 8 ∨ k = 9 := by omega
 rcases hc with rfl | rfl | rfl | rfl | rfl | rfl | rfl | rfl | rfl | rfl <;> decide +kernel

theorem ret_string {a b : ByteArray} (h : a = b) : Ending.returned (.string a) = .returned (.string b) := by rw [h]

theorem digits_one (n : Int) (s : ByteArray) (w : World) (h0 : 0 ≤ n) (h1 : n < 10) (hs : Hid (s.data.toList = Lib.decDigits n.toNat)) :
  Calls Tryz.prog 10 #[.int .i64 n] w fun e w' => e = .returned (.string s) ∧ w' = w := by
 have E : Hid ((⟨#[48, 49, 50, 51, 52, 53, 54, 55, 56, 57]⟩ : ByteArray).extract n.toNat (n.toNat + 1) = s) := by
  show _ = s
  rw [digit_piece n.toNat (by omega)]
  apply ByteArray.ext
  apply Array.toList_inj.1
  rw [hs.out, Lib.decDigits_one (by omega)]
 clear hs
 have hc : n = 0 ∨ n = 1 ∨ n = 2 ∨ n = 3 ∨ n = 4 ∨ n = 5 ∨ n = 6 ∨ n = 7 ∨ n = 8 ∨ n = 9 := by omega
 clear h0 h1
 rcases hc with rfl | rfl | rfl | rfl | rfl | rfl | rfl | rfl | rfl | rfl
 all_goals
  go_enter Tryz.func10, Tryz.ntmps10
  go_wp2
  go_ret
  exact ⟨ret_string E.out, rfl⟩

theorem digits_step (n : Int) (r s : ByteArray) (w : World) (h0 : 10 ≤ n) (h1 : n ≤ 9223372036854775807) (ih : ∀ w, Calls Tryz.prog 10 #[.int .i64 (n / 10)] w fun e w' => e = .returned (.string r) ∧ w' = w) (hr : r.size ≤ 30)
  (hs : Hid (s.data.toList = r.data.toList ++ [UInt8.ofNat (48 + (n % 10).toNat)])) :
  Calls Tryz.prog 10 #[.int .i64 n] w fun e w' => e = .returned (.string s) ∧ w' = w := by
 have E : Hid (r ++ (⟨#[48, 49, 50, 51, 52, 53, 54, 55, 56, 57]⟩ : ByteArray).extract (n % 10).toNat ((n % 10).toNat + 1) = s) := by
  show _ = s
  rw [digit_piece (n % 10).toNat (by omega)]
  apply ByteArray.ext
  apply Array.toList_inj.1
  rw [data_append, hs.out]
 clear hs
 have hc : n % 10 = 0 ∨ n % 10 = 1 ∨ n % 10 = 2 ∨ n % 10 = 3 ∨ n % 10 = 4 ∨ n % 10 = 5 ∨ n % 10 = 6 ∨ n % 10 = 7 ∨ n % 10 = 8 ∨ n % 10 = 9 := by omega
 rcases hc with h | h | h | h | h | h | h | h | h | h
 all_goals
  rw [h] at E
  go_enter Tryz.func10, Tryz.ntmps10
  go_wp2_with (go_at_call 10; refine (ih _).mono ?_; rintro e u ⟨rfl, rfl⟩)
  go_ret
  exact ⟨ret_string E.out, rfl⟩

theorem digits_nat : ∀ (k : Nat) (n : Int), 0 ≤ n → n ≤ 1000000000000000 → n.toNat < k → ∀ (s : ByteArray) (w : World), s.data.toList = Lib.decDigits n.toNat →
  Calls Tryz.prog 10 #[.int .i64 n] w fun e w' => e = .returned (.string s) ∧ w' = w := by
 intro k
 induction k with
 | zero => intro n _ _ h; omega
 | succ k ih =>
  intro n h0 h1 hk s w hs
  by_cases h : n < 10
  ·exact digits_one n s w h0 h hs
  ·obtain ⟨r, hr⟩ := ba_of (Lib.decDigits (n / 10).toNat)
   have e1 : (n / 10).toNat = n.toNat / 10 := by omega
   have e2 : (n % 10).toNat = n.toNat % 10 := by omega
   refine digits_step n r s w (by omega) (by omega) (fun w => ih (n / 10) (by omega) (by omega) (by omega) r w hr) ?_ ?_
   ·rw [size_of hr, Lib.decDigits_length]
    have := Lib.nDigits_le20 (n / 10).toNat (by omega)
    omega
   ·show s.data.toList = _
    rw [hs, Lib.decDigits, dif_neg (by omega), hr, e1, e2]

theorem digits_neg (n : Int) (r s : ByteArray) (w : World) (h0 : n < 0) (h1 : -1000000000000000 ≤ n) (ih : ∀ w, Calls Tryz.prog 10 #[.int .i64 (-n)] w fun e w' => e = .returned (.string r) ∧ w' = w) (hr : r.size ≤ 30) (hs : Hid (⟨#[45]⟩ ++ r = s)) :
  Calls Tryz.prog 10 #[.int .i64 n] w fun e w' => e = .returned (.string s) ∧ w' = w := by
 go_enter Tryz.func10, Tryz.ntmps10
 go_wp2_with (go_at_call 10; refine (ih _).mono ?_; rintro e u ⟨rfl, rfl⟩)
 go_ret
 exact ⟨ret_string hs.out, rfl⟩

theorem digits_any (n : Int) (s : ByteArray) (w : World) (h0 : -1000000000000000 ≤ n) (h1 : n ≤ 1000000000000000) (hs : s.data.toList = Lib.itoa n) :
  Calls Tryz.prog 10 #[.int .i64 n] w fun e w' => e = .returned (.string s) ∧ w' = w := by
 unfold Lib.itoa at hs
 by_cases h : n < 0
 ·rw [if_pos h] at hs
  obtain ⟨r, hr⟩ := ba_of (Lib.decDigits n.natAbs)
  have e1 : (-n).toNat = n.natAbs := by omega
  refine digits_neg n r s w h h0 (fun w => digits_nat (n.natAbs + 1) (-n) (by omega) (by omega) (by omega) r w (by rw [hr, e1])) ?_ ?_
  ·rw [size_of hr, Lib.decDigits_length]
   have := Lib.nDigits_le20 n.natAbs (by omega)
   omega
  ·show _ = s
   apply ByteArray.ext
   apply Array.toList_inj.1
   rw [data_append, hs, hr]
   rfl
 ·rw [if_neg h] at hs
  exact digits_nat (n.toNat + 1) n (by omega) h1 (by omega) s w hs

theorem rtext_s (a b : Int) (x y : ByteArray) (w : World) (ha : ∀ w, Calls Tryz.prog 10 #[.int .i64 a] w fun e w' => e = .returned (.string x) ∧ w' = w) (hb : ∀ w, Calls Tryz.prog 10 #[.int .i64 b] w fun e w' => e = .returned (.string y) ∧ w' = w) (lx : x.size ≤ 21) (ly : y.size ≤ 21) :
  Calls Tryz.prog 25 #[.agg #[.int .i64 a, .int .i64 b]] w fun e w' => e = .returned (.string (x ++ ⟨#[46, 46]⟩ ++ y)) ∧ Below w.heap.size w w' := by
 have cnt : Mark 0 := .mk _
 go_enter Tryz.func25, Tryz.ntmps25
 go_wp2_with (first | (go_at_call 10; have cq : Mark 0 := cnt; refine (ha _).mono ?_; clear cq cnt; have cnt : Mark 1 := .mk _; rintro e u ⟨rfl, rfl⟩) | (go_at_call 10; have cq : Mark 1 := cnt; refine (hb _).mono ?_; clear cq cnt; have cnt : Mark 2 := .mk _; rintro e u ⟨rfl, rfl⟩))
 go_ret
 exact ⟨rfl, (Below.refl _ _).alloc (Nat.le_refl _) _⟩

theorem itoa_len (a b : Int) (h : okB a b = true) : (Lib.itoa a).length ≤ 14 ∧ (Lib.itoa b).length ≤ 14 := by
 have key : ∀ n : Int, -1000000000000 ≤ n → n ≤ 1000000000000 → (Lib.itoa n).length ≤ 14 := by
  intro n h1 h2
  by_cases hneg : n < 0
  ·obtain ⟨u, rfl⟩ : ∃ u : Nat, n = -(u : Int) := ⟨n.natAbs, by omega⟩
   rw [Lib.itoa_neg u (by omega), List.length_cons, Lib.decDigits_length]
   have := nDigits_le13 u (by omega)
   omega
  ·obtain ⟨u, rfl⟩ : ∃ u : Nat, n = u := ⟨n.toNat, by omega⟩
   rw [Lib.itoa_nonneg, Lib.decDigits_length]
   have := nDigits_le13 u (by omega)
   omega
 have q := okB_t h
 exact ⟨key a (by omega) (by omega), key b (by omega) (by omega)⟩

theorem rtext_ok (a b : Int) (r : ByteArray) (w : World) (h : okB a b = true) (hr : r.data.toList = printL a b) :
  Calls Tryz.prog 25 #[.agg #[.int .i64 a, .int .i64 b]] w fun e w' => e = .returned (.string r) ∧ Below w.heap.size w w' := by
 obtain ⟨x, hx⟩ := ba_of (Lib.itoa a)
 obtain ⟨y, hy⟩ := ba_of (Lib.itoa b)
 obtain ⟨l1, l2⟩ := itoa_len a b h
 have q := okB_t h
 have e : x ++ ⟨#[46, 46]⟩ ++ y = r := by
  apply ByteArray.ext
  apply Array.toList_inj.1
  rw [data_append, data_append, hx, hy, hr]
  rfl
 rw [← e]
 exact rtext_s a b x y w (fun w => digits_any a x w (by omega) (by omega) hx) (fun w => digits_any b y w (by omega) (by omega) hy) (by rw [size_of hx]; omega) (by rw [size_of hy]; omega)

end Go.Proofs.YtadkgnbagmnkkakGreatDoor.rn
