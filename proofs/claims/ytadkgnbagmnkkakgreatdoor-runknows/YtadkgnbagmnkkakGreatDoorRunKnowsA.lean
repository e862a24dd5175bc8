/- The ways through the law RunKnows. -/
import Derived.Test.YtadkgnbagmnkkakGreatDoorNm07
import Derived.Test.YtadkgnbagmnkkakGreatDoorNm08
import Derived.Test.YtadkgnbagmnkkakGreatDoorNm24
import Derived.Deep.RegionHeld
import Derived.Deep.CutRange
import Derived.Deep.CutBlock
import Derived.BigQuiet
import Derived.BigRegion
import Derived.IntWalk
namespace Go.Proofs.YtadkgnbagmnkkakGreatDoor.rn
open Go.ChangeShapes Go.WideShapes Go.ChangeAt Go.RowKit Go.Joins
set_option linter.unusedVariables false
set_option linter.unusedSimpArgs false

structure KnV (w0 : World) : Prop where
 parse : ∀ (lo hi : Int) (s : ByteArray) (u : World), Below w0.heap.size w0 u → okB lo hi = true → s.data.toList = printL lo hi → Calls Tryz.prog 12 #[.string s] u fun r w' => r = .returned (.tuple #[.agg #[.int .i64 lo, .int .i64 hi], .nilIface]) ∧ Below u.heap.size u w'
 has : ∀ (lo hi x : Int) (u : World), okB lo hi = true → lo ≤ x → x ≤ hi → Calls Tryz.prog 13 #[.agg #[.int .i64 lo, .int .i64 hi], .int .i64 x] u fun o w' => o = .returned (.tuple #[.bool true, .nilIface]) ∧ Below u.heap.size u w'
theorem texts_atK {u1 : World} {base : Nat} {vc : Value} {L : List (List UInt8)} (ho : OwS u1 base vc L) (hne : L ≠ []) : ∃ g cap, vc = .slice (some ⟨g, 0, none⟩) L.length cap ∧ L.length ≤ cap ∧ g < u1.heap.size ∧ ∀ (j : Nat) (x : List UInt8), L[j]? = some x → u1.cell? ⟨g, j, none⟩ = some (.string ⟨x.toArray⟩) := by
 rcases ho.2 with ⟨e, _⟩ | ⟨g, cap, cur, e, hr⟩
 ·exfalso
  have q := ho.1
  have : (scs L).length = 0 := by simp_all
  rw [scs_len] at this
  exact hne (List.eq_nil_of_length_eq_zero this)
 ·subst e
  refine ⟨g, cap, rfl, hr.2.2.1, (ho.lt g rfl).2, fun j x hj => ?_⟩
  have lj := (List.getElem?_eq_some_iff.1 hj).1
  rw [ho.cellAt j (by rw [Nat.mul_one]; exact lj)]
  show (List.map (fun x => Value.string ⟨x.toArray⟩) L)[j]? = _
  rw [List.getElem?_map, hj]
  rfl
set_option maxRecDepth 100000 in
set_option maxHeartbeats 40000000 in
theorem ways_out (a b c : Int) (w : World) (h : ¬ (0 ≤ a ∧ a ≤ 999999 ∧ 0 ≤ b ∧ b ≤ 999999 ∧ 0 ≤ c ∧ c ≤ 999999)) :
  Calls Tryz.prog 5 #[.int .i64 a, .int .i64 b, .int .i64 c] w fun o w' => o = .returned (.bool true) ∧ Below w.heap.size w w' := by
 by_cases h0 : a < 0
 ·have d0 : decide (a < 0) = true := decide_eq_true h0
  clear h
  go_enter Tryz.func5, Tryz.ntmps5
  go_wp2
  go_ret
  exact ⟨rfl, Below.refl _ _⟩
 have d0 : decide (a < 0) = false := decide_eq_false h0
 by_cases h1 : 999999 < a
 ·have d1 : decide (999999 < a) = true := decide_eq_true h1
  clear h
  go_enter Tryz.func5, Tryz.ntmps5
  go_wp2
  go_ret
  exact ⟨rfl, Below.refl _ _⟩
 have d1 : decide (999999 < a) = false := decide_eq_false h1
 by_cases h2 : b < 0
 ·have d2 : decide (b < 0) = true := decide_eq_true h2
  clear h
  go_enter Tryz.func5, Tryz.ntmps5
  go_wp2
  go_ret
  exact ⟨rfl, Below.refl _ _⟩
 have d2 : decide (b < 0) = false := decide_eq_false h2
 by_cases h3 : 999999 < b
 ·have d3 : decide (999999 < b) = true := decide_eq_true h3
  clear h
  go_enter Tryz.func5, Tryz.ntmps5
  go_wp2
  go_ret
  exact ⟨rfl, Below.refl _ _⟩
 have d3 : decide (999999 < b) = false := decide_eq_false h3
 by_cases h4 : c < 0
 ·have d4 : decide (c < 0) = true := decide_eq_true h4
  clear h
  go_enter Tryz.func5, Tryz.ntmps5
  go_wp2
  go_ret
  exact ⟨rfl, Below.refl _ _⟩
 have d4 : decide (c < 0) = false := decide_eq_false h4
 by_cases h5 : 999999 < c
 ·have d5 : decide (999999 < c) = true := decide_eq_true h5
  clear h
  go_enter Tryz.func5, Tryz.ntmps5
  go_wp2
  go_ret
  exact ⟨rfl, Below.refl _ _⟩
 have d5 : decide (999999 < c) = false := decide_eq_false h5
 exact absurd (by omega) h
theorem know_text (a b c : Nat) (DA DB DC : ByteArray) (ha : DA.data.toList = Lib.decDigits a) (hb : DB.data.toList = Lib.decDigits b) (hc : DC.data.toList = Lib.decDigits c) : (((((((⟨#[97, 115, 107, 32, 48, 32, 49, 10, 103, 111, 32]⟩ : ByteArray) ++ DA) ++ ⟨#[10, 100, 101, 108, 105, 118, 101, 114, 32, 48, 10, 103, 111, 32]⟩) ++ DB) ++ ⟨#[10, 100, 101, 108, 105, 118, 101, 114, 32, 48, 10, 103, 111, 32]⟩) ++ DC) ++ ⟨#[10, 115, 104, 111, 119, 32, 48, 10, 115, 104, 111, 119, 32, 49, 10, 111, 102, 102, 115, 101, 116, 32, 48, 32, 49, 10]⟩).data.toList = knowT a b c := by
 simp only [ByteArray.data_append, Array.toList_append, ha, hb, hc]
 unfold knowT goB askB delB sh0B sh1B offB
 simp
set_option maxRecDepth 100000 in
set_option maxHeartbeats 40000000 in
theorem ways_in (a b c : Nat) (ha : a ≤ 999999) (hb : b ≤ 999999) (hc : c ≤ 999999) (w : World) (O : RnC w) (V : KnV w) :
  Calls Tryz.prog 5 #[.int .i64 (a : Int), .int .i64 (b : Int), .int .i64 (c : Int)] w fun o w' => o = .returned (.bool true) ∧ Below w.heap.size w w' := by
 obtain ⟨x, y, lo, hi, hR, ok, l1, l2, x0, x1, y0, y1⟩ := know_run ha hb hc
 obtain ⟨x, rfl⟩ : ∃ k : Nat, x = k := ⟨x.toNat, by omega⟩
 obtain ⟨y, rfl⟩ : ∃ k : Nat, y = k := ⟨y.toNat, by omega⟩
 have la := dec_len a 6 (by decide) (by omega)
 have lb := dec_len b 6 (by decide) (by omega)
 have lc := dec_len c 6 (by decide) (by omega)
 obtain ⟨DA, eA⟩ := ba_of (Lib.decDigits a)
 obtain ⟨DB, eB⟩ := ba_of (Lib.decDigits b)
 obtain ⟨DC, eC⟩ := ba_of (Lib.decDigits c)
 have sA : DA.size ≤ 6 := by rw [size_of eA]; exact la
 have sB : DB.size ≤ 6 := by rw [size_of eB]; exact lb
 have sC : DC.size ≤ 6 := by rw [size_of eC]; exact lc
 have cA := fun u => digits_any (a : Int) DA u (by omega) (by omega) (by rw [eA, Lib.itoa_nonneg])
 have cB := fun u => digits_any (b : Int) DB u (by omega) (by omega) (by rw [eB, Lib.itoa_nonneg])
 have cC := fun u => digits_any (c : Int) DC u (by omega) (by omega) (by rw [eC, Lib.itoa_nonneg])
 have eT := know_text a b c DA DB DC eA eB eC
 obtain ⟨ANS, eN⟩ : ∃ ANS : ByteArray, ANS = ⟨(knowA x y lo hi).toArray⟩ := ⟨_, rfl⟩
 have cR := fun u hu => O.run (((((((⟨#[97, 115, 107, 32, 48, 32, 49, 10, 103, 111, 32]⟩ : ByteArray) ++ DA) ++ ⟨#[10, 100, 101, 108, 105, 118, 101, 114, 32, 48, 10, 103, 111, 32]⟩) ++ DB) ++ ⟨#[10, 100, 101, 108, 105, 118, 101, 114, 32, 48, 10, 103, 111, 32]⟩) ++ DC) ++ ⟨#[10, 115, 104, 111, 119, 32, 48, 10, 115, 104, 111, 119, 32, 49, 10, 111, 102, 102, 115, 101, 116, 32, 48, 32, 49, 10]⟩) _ u (by rw [Lib.size_eq, eT]; have := know_len (a := a) (b := b) (c := c) (by omega) (by omega) (by omega); omega) hu (by rw [eT]; exact hR)
 rw [← eN] at cR
 have ll := hR.len
 have cK : ∀ u, Calls Tryz.prog 7 #[.string ANS, .int .u8 10] u fun o w' => ∃ v, o = .returned v ∧ OwS w' u.heap.size v [okB2, okB2, okB2, okB2, okB2, okB2, Lib.itoa (x : Int), Lib.itoa (y : Int), printL lo hi, []] ∧ Below u.heap.size u w' := fun u => by
  have := rcut ANS 10 u (by rw [eN]; show (knowA x y lo hi).toArray.size ≤ _; simp; omega)
  rw [eN] at this ⊢
  rw [show (⟨(knowA x y lo hi).toArray⟩ : ByteArray).data.toList = knowA x y lo hi by simp, know_cut] at this
  exact this
 have nx := dec_len x 13 (by decide) (by omega)
 have ny := dec_len y 13 (by decide) (by omega)
 obtain ⟨SX, eX⟩ : ∃ s : ByteArray, s = ⟨(Lib.itoa (x : Int)).toArray⟩ := ⟨_, rfl⟩
 obtain ⟨SY, eY⟩ : ∃ s : ByteArray, s = ⟨(Lib.itoa (y : Int)).toArray⟩ := ⟨_, rfl⟩
 obtain ⟨SP, eP⟩ : ∃ s : ByteArray, s = ⟨(printL lo hi).toArray⟩ := ⟨_, rfl⟩
 have cX := fun u => num13_some SX x u (by rw [eX]; show (Lib.itoa (x : Int)).toArray.size ≤ maxLen; rw [Lib.itoa_nonneg]; unfold maxLen; simp; omega) (by rw [eX]; show numM 13 (Lib.itoa (x : Int)).toArray.toList = _; rw [Lib.itoa_nonneg]; exact numM_dec nx)
 have cY := fun u => num13_some SY y u (by rw [eY]; show (Lib.itoa (y : Int)).toArray.size ≤ maxLen; rw [Lib.itoa_nonneg]; unfold maxLen; simp; omega) (by rw [eY]; show numM 13 (Lib.itoa (y : Int)).toArray.toList = _; rw [Lib.itoa_nonneg]; exact numM_dec ny)
 have cP := fun u hu => V.parse lo hi SP u hu ok (by rw [eP])
 have cH := fun u => V.has lo hi ((y : Int) - (x : Int)) u ok l1 l2
 have HS : Hid (SX = ⟨(Lib.itoa (x : Int)).toArray⟩ ∧ SY = ⟨(Lib.itoa (y : Int)).toArray⟩ ∧ SP = ⟨(printL lo hi).toArray⟩) := ⟨eX, eY, eP⟩
 have wy : IntKind.i64.wrap ((y : Int) - (x : Int)) = (y : Int) - (x : Int) := IntWalk.i64_in _ (by omega)
 have a0 : (0 : Int) ≤ a := by omega
 have a9 : (a : Int) ≤ 999999 := by omega
 have b0 : (0 : Int) ≤ b := by omega
 have b9 : (b : Int) ≤ 999999 := by omega
 have c0 : (0 : Int) ≤ c := by omega
 have c9 : (c : Int) ≤ 999999 := by omega
 clear hR eN eX eY eP eT eA eB eC la lb lc nx ny ll l1 l2 ok
 have cnt : Mark 0 := .mk _
 go_enter Tryz.func5, Tryz.ntmps5
 go_wp2_with (first
  | (go_at_call 10; have cm : Mark 0 := cnt; clear cm cnt; have cnt : Mark 1 := .mk _; refine (cA _).mono ?_; rintro o v1 ⟨rfl, hu⟩; rw [hu]; clear hu)
  | (go_at_call 10; have cm : Mark 1 := cnt; clear cm cnt; have cnt : Mark 2 := .mk _; refine (cB _).mono ?_; rintro o v2 ⟨rfl, hu⟩; rw [hu]; clear hu)
  | (go_at_call 10; have cm : Mark 2 := cnt; clear cm cnt; have cnt : Mark 3 := .mk _; refine (cC _).mono ?_; rintro o v3 ⟨rfl, hu⟩; rw [hu]; clear hu)
  | (go_at_call 6; refine (cR _ (Below.refl _ _)).mono ?_; rintro o u1 ⟨rfl, hb⟩; have B1 : Hid (Below w.heap.size w u1) := hb; clear hb)
  | (go_at_call 7; refine (cK _).mono ?_; rintro o u2 ⟨vc, rfl, hC, hb⟩; have B2 : Hid (Below w.heap.size w u2) := rbel_on hb B1.out; obtain ⟨g, cap, rfl, hcap, gl, hW⟩ := texts_atK hC (by simp); have k6 := (hW 6 _ rfl).trans (congrArg (fun s => some (Value.string s)) HS.out.1.symm); have k7 := (hW 7 _ rfl).trans (congrArg (fun s => some (Value.string s)) HS.out.2.1.symm); have k8 := (hW 8 _ rfl).trans (congrArg (fun s => some (Value.string s)) HS.out.2.2.symm); clear hC hb hW hcap)
  | (go_at_call 11; have cm : Mark 3 := cnt; clear cm cnt; have cnt : Mark 4 := .mk _; refine (cX _).mono ?_; rintro o v4 ⟨rfl, hu⟩; rw [hu]; clear hu)
  | (go_at_call 11; have cm : Mark 4 := cnt; clear cm cnt; have cnt : Mark 5 := .mk _; refine (cY _).mono ?_; rintro o v5 ⟨rfl, hu⟩; rw [hu]; clear hu)
  | (go_at_call 12; refine (cP _ B2.out).mono ?_; rintro o u3 ⟨rfl, hb⟩; have B3 : Hid (Below w.heap.size w u3) := rbel_on hb B2.out; clear hb)
  | (go_at_call 13; refine (cH _).mono ?_; rintro o u4 ⟨rfl, hb⟩; have B4 : Hid (Below w.heap.size w u4) := rbel_on hb (rbel_al B3.out); clear hb))
 go_ret
 exact ⟨rfl, B4.out⟩
theorem all_ways (a b c : Int) (w : World) (O : RnC w) (V : KnV w) :
  Calls Tryz.prog 5 #[.int .i64 a, .int .i64 b, .int .i64 c] w fun o w' => o = .returned (.bool true) ∧ Below w.heap.size w w' := by
 by_cases h : 0 ≤ a ∧ a ≤ 999999 ∧ 0 ≤ b ∧ b ≤ 999999 ∧ 0 ≤ c ∧ c ≤ 999999
 ·obtain ⟨a0, a9, b0, b9, c0, c9⟩ := h
  obtain ⟨a, rfl⟩ : ∃ k : Nat, a = k := ⟨a.toNat, by omega⟩
  obtain ⟨b, rfl⟩ : ∃ k : Nat, b = k := ⟨b.toNat, by omega⟩
  obtain ⟨c, rfl⟩ : ∃ k : Nat, c = k := ⟨c.toNat, by omega⟩
  exact ways_in a b c (by omega) (by omega) (by omega) w O V
 ·exact ways_out a b c w h
end Go.Proofs.YtadkgnbagmnkkakGreatDoor.rn
