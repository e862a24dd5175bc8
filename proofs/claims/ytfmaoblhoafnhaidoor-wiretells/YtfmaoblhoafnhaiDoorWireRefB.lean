/- What the document's own reckoning (package noonref2) answers: the bytes of a letter, and of a span. -/
import Derived.Test.YtfmaoblhoafnhaiDoorWireRefS
import Derived.Laws.OwnMore
import Derived.Deep.CutRange
import Derived.Deep.CutBlock
import Derived.Deep.RegionWith
import Derived.BigRegion
namespace Go.Proofs.YtfmaoblhoafnhaiDoor
open Go.ChangeShapes Go.WideShapes Go.ChangeAt Go.RowKit Go.Joins
set_option linter.unusedVariables false
set_option linter.unusedSimpArgs false

set_option maxRecDepth 100000 in
set_option maxHeartbeats 8000000 in
theorem rbytes_false (f t n n1 n2 : Nat) (hf : f < 6) (ht : t < 6) (hn : n < 281474976710656) (h1 : n1 < 281474976710656) (h2 : n2 < 281474976710656) (L : List UInt8) (hL : L = [UInt8.ofNat f, UInt8.ofNat t, 0] ++ six n) (q : Nat) (hq : q = smB L % 251) (u : World) :
    Calls Tryd.prog 7 #[.agg #[.int .i64 f, .int .i64 t, .bool false, .int .i64 n1, .int .i64 n2, .int .i64 n]] u fun o w' => o = .returned (.string (wst (L ++ [UInt8.ofNat q]))) ∧ Below u.heap.size u w' := by
  obtain ⟨i0, hi0, hz0, hz1, hz2⟩ := info_parts infoByte
  have c1 : IntKind.u8.wrap (f : Int) = (f : Int) := by rw [IntKind.wrap_u8]; omega
  have c2 : IntKind.u8.wrap (t : Int) = (t : Int) := by rw [IntKind.wrap_u8]; omega
  have eb : ∀ b : UInt8, bcs [UInt8.ofNat f, UInt8.ofNat t, b] = [.int .u8 (f : Int), .int .u8 (t : Int), .int .u8 (b.toNat : Int)] := fun b => by
    show [Value.int .u8 ((UInt8.ofNat f).toNat : Int), .int .u8 ((UInt8.ofNat t).toNat : Int), .int .u8 (b.toNat : Int)] = _
    rw [ofNat_toNat, ofNat_toNat, Nat.mod_eq_of_lt (by omega), Nat.mod_eq_of_lt (by omega)]
  have BW : Hid (Below u.heap.size u (u.alloc (Obj.cells #[.int .i64 (f : Int), .int .i64 (t : Int), .bool false, .int .i64 (n1 : Int), .int .i64 (n2 : Int), .int .i64 (n : Int)] 23))) := rbel_al (Below.refl _ _)
  have RB : Hid (Row (u.alloc (Obj.cells #[.int .i64 (f : Int), .int .i64 (t : Int), .bool false, .int .i64 (n1 : Int), .int .i64 (n2 : Int), .int .i64 (n : Int)] 23)) u.heap.size [.int .i64 (f : Int), .int .i64 (t : Int), .bool false, .int .i64 (n1 : Int), .int .i64 (n2 : Int), .int .i64 (n : Int)]) := Row.made rfl
  have cS : Hid (∀ (v : Value) (base : Nat) (l : List UInt8) (n : Nat) (u : World), l.length ≤ 100 → n < 281474976710656 → base ≤ u.heap.size → OwB u base v l → Calls Tryd.prog 19 #[v, .int .i64 n] u fun o w' => ∃ v', o = .returned v' ∧ OwB w' base v' (l ++ six n) ∧ Below base u w') := rsix
  have HL : Hid (L = [UInt8.ofNat f, UInt8.ofNat t, 0] ++ six n) := hL
  have l100 : L.length ≤ 100 := by rw [hL]; simp [six_len]
  have l1 : 1 ≤ L.length := by rw [hL]; simp [six_len]
  have sL := smB_le L
  clear hL
  go_enter Tryd.func7, Tryd.ntmps7
  go_upto_region 1 with (fail)
  generalize hW : u.alloc (Obj.cells #[.int .i64 (f : Int), .int .i64 (t : Int), .bool false, .int .i64 (n1 : Int), .int .i64 (n2 : Int), .int .i64 (n : Int)] 23) = W at *
  have zs : u.heap.size < W.heap.size := RB.out.lt
  have r0 := RB.out.c 0 _ rfl
  have r1 := RB.out.c 1 _ rfl
  have r2 := RB.out.c 2 _ rfl
  go_upto_region 4 with (fail)
  have O0 : Hid (OwB (W.alloc (Obj.cells #[.int .u8 (f : Int), .int .u8 (t : Int), .int .u8 0] 5)) W.heap.size (.slice (some ⟨W.heap.size, 0, none⟩) 3 3) [UInt8.ofNat f, UInt8.ofNat t, 0]) := by
    show World.ownsRow _ _ _ _ _ 3 (bcs [UInt8.ofNat f, UInt8.ofNat t, 0])
    rw [eb 0]
    exact World.ownsRow_lit (base := W.heap.size) (e := 5) (size := 1) W #[.int .u8 (f : Int), .int .u8 (t : Int), .int .u8 0] 3 (Nat.le_refl _) (by unfold maxLen; omega) rfl
  have B0 : Hid (Below W.heap.size W (W.alloc (Obj.cells #[.int .u8 (f : Int), .int .u8 (t : Int), .int .u8 0] 5))) := rbel_al (Below.refl _ _)
  have R0 : Hid (Row (W.alloc (Obj.cells #[.int .u8 (f : Int), .int .u8 (t : Int), .int .u8 0] 5)) u.heap.size [.int .i64 (f : Int), .int .i64 (t : Int), .bool false, .int .i64 (n1 : Int), .int .i64 (n2 : Int), .int .i64 (n : Int)]) := Row.on B0.out RB.out
  generalize (W.alloc (Obj.cells #[.int .u8 (f : Int), .int .u8 (t : Int), .int .u8 0] 5)) = X at *
  have w2 := R0.out.c 2 _ rfl
  have w5 := R0.out.c 5 _ rfl
  have zx : u.heap.size < X.heap.size := R0.out.lt
  have hX := B0.out.size
  clear r0 r1 r2
  have cnt : Mark 0 := .mk _
  go_upto_region 8 with (first
    | (go_at_call 19; have cm : Mark 0 := cnt; refine (cS.out _ W.heap.size _ n _ (by simp [six_len]) hn (by have := B0.out.size; omega) O0.out).mono ?_; clear cm cnt; have cnt : Mark 1 := .mk _; rintro o x1 ⟨v1, rfl, ho, hb⟩; have O1 : Hid (OwB x1 W.heap.size v1 ([UInt8.ofNat f, UInt8.ofNat t, 0] ++ six n)) := ho; have B1 : Hid (Below W.heap.size W x1) := B0.out.trans hb; have R1 : Hid (Row x1 u.heap.size [.int .i64 (f : Int), .int .i64 (t : Int), .bool false, .int .i64 (n1 : Int), .int .i64 (n2 : Int), .int .i64 (n : Int)]) := Row.on (B1.out.mono (by omega)) RB.out; have y1_3 := R1.out.c 3 _ rfl; have y1_4 := R1.out.c 4 _ rfl; have y1_2 := R1.out.c 2 _ rfl; have zx1 := R1.out.lt; clear ho hb))
  have OL : OwB x1 W.heap.size v1 L := O1.out.put HL.out.symm
  obtain ⟨g, cap, rfl, g1, g2, g3, gc⟩ := OL.form l1
  have HO : Hid (OwB x1 W.heap.size (.slice (some ⟨g, 0, none⟩) L.length cap) L) := OL
  have HC : Hid (∀ i (hi : i < L.length), x1.cell? ⟨g, i, none⟩ = some (.int .u8 (L[i].toNat : Int))) := gc
  have HB : Hid (Below u.heap.size u x1) := (B1.out.mono (by omega)) |> fun h => BW.out.trans h
  clear OL gc
  go_wp2
  go_loopw [4, 5] (fun vn vi wr => ∃ i : Nat, i ≤ L.length ∧ vi = .int .i64 i ∧ vn = .int .i64 (smB (L.take i)) ∧ wr = x1) (fun _ i _ => L.length - (intOf i).toNat)
  case atStart => exact ⟨0, Nat.zero_le _, rfl, rfl, rfl⟩
  case round =>
    obtain ⟨i, hi, rfl, rfl, hw⟩ := hrel
    subst hw
    by_cases hlt : i < L.length
    · have hl3 : (i : Int) < (L.length : Int) := by omega
      have ci := HC.out i hlt
      have hb := L[i].toNat_lt
      have e1 : smB (L.take (i + 1)) = smB (L.take i) + L[i].toNat := fold_take (f := fun v b => v + b.toNat) hlt
      have HN : Hid (smB (L.take (i + 1)) = smB (L.take i) + L[i].toNat) := e1
      have sl := smB_le (L.take i)
      have sl2 : (L.take i).length ≤ 100 := by rw [List.length_take]; omega
      have hV2 : smB (L.take i) ≤ 25500 := by omega
      clear e1 sl sl2
      generalize smB (L.take i) = V at *
      generalize L[i].toNat = c at *
      go_wp2
      go_roundw
      case rel => exact ⟨i + 1, by omega, by go_num, by rw [HN.out]; go_num, trivial⟩
      case measure => simp [intOf]; omega
    · have hl3 : ¬ ((i : Int) < (L.length : Int)) := by omega
      obtain rfl : i = L.length := by omega
      rw [List.take_length]
      have q1 : q < 251 := by rw [hq]; exact Nat.mod_lt _ (by decide)
      have sm : smB L ≤ 25500 := by omega
      have e2 : (smB L : Int).tmod 251 = (q : Int) := by rw [Int.tmod_eq_emod_of_nonneg (Int.natCast_nonneg _), hq]; rfl
      have w2' : IntKind.i64.wrap (q : Int) = (q : Int) := IntWalk.i64_in _ (by omega)
      have w4 : IntKind.u8.wrap (q : Int) = (q : Int) := by rw [IntKind.wrap_u8]; omega
      generalize smB L = V at *
      clear hq sL
      go_wp2_with (at_builtin; refine wpList_append_own _ rfl _ _ 49 rfl W.heap.size 5 i0 (.int .u8 0) 1 1 Tryd.underlying49 hi0 hz0 hz1 hz2 rfl (by decide) _ _ _ rfl (HO.out.alloc _) ⟨wr.heap.size, 0, none⟩ 1 1 [.int .u8 (q : Int)] rfl rfl (fun j u hj => by rw [Addr.add_lit]; exact (Row.made (W := wr) (vs := [.int .u8 (q : Int)]) rfl).c _ _ (by simpa using hj)) (fun u hu => by simp at hu; rw [hu]; rfl) (by unfold maxLen; omega) (by omega) (by simp; omega) ?_)
      intro v' w1 hown' hgrow _
      have OF : OwB w1 W.heap.size v' (L ++ [UInt8.ofNat q]) := by
        show w1.ownsRow W.heap.size 5 1 v' (L ++ [UInt8.ofNat q]).length (bcs (L ++ [UInt8.ofNat q]))
        rw [List.length_append, bcs_app]
        have e : bcs [UInt8.ofNat q] = [.int .u8 (q : Int)] := by
          show [Value.int .u8 ((UInt8.ofNat q).toNat : Int)] = _
          rw [ofNat_toNat, Nat.mod_eq_of_lt (by omega)]
        rw [e]
        exact hown'
      have tx := OF.text (by simp)
      have HW1 : Hid (Below u.heap.size u w1) := (rbel_al HB.out).grown hgrow (by simp; omega) (fun j hj => by have := (HO.out.lt j hj).1; omega)
      clear hown' hgrow OF HO HC
      go_wp2
      go_ret
      exact ⟨rfl, HW1.out⟩
set_option maxRecDepth 100000 in
set_option maxHeartbeats 8000000 in
theorem rbytes_true (f t n n1 n2 : Nat) (hf : f < 6) (ht : t < 6) (hn : n < 281474976710656) (h1 : n1 < 281474976710656) (h2 : n2 < 281474976710656) (L : List UInt8) (hL : L = [UInt8.ofNat f, UInt8.ofNat t, 1] ++ six n ++ six n1 ++ six n2) (q : Nat) (hq : q = smB L % 251) (u : World) :
    Calls Tryd.prog 7 #[.agg #[.int .i64 f, .int .i64 t, .bool true, .int .i64 n1, .int .i64 n2, .int .i64 n]] u fun o w' => o = .returned (.string (wst (L ++ [UInt8.ofNat q]))) ∧ Below u.heap.size u w' := by
  obtain ⟨i0, hi0, hz0, hz1, hz2⟩ := info_parts infoByte
  have c1 : IntKind.u8.wrap (f : Int) = (f : Int) := by rw [IntKind.wrap_u8]; omega
  have c2 : IntKind.u8.wrap (t : Int) = (t : Int) := by rw [IntKind.wrap_u8]; omega
  have eb : ∀ b : UInt8, bcs [UInt8.ofNat f, UInt8.ofNat t, b] = [.int .u8 (f : Int), .int .u8 (t : Int), .int .u8 (b.toNat : Int)] := fun b => by
    show [Value.int .u8 ((UInt8.ofNat f).toNat : Int), .int .u8 ((UInt8.ofNat t).toNat : Int), .int .u8 (b.toNat : Int)] = _
    rw [ofNat_toNat, ofNat_toNat, Nat.mod_eq_of_lt (by omega), Nat.mod_eq_of_lt (by omega)]
  have BW : Hid (Below u.heap.size u (u.alloc (Obj.cells #[.int .i64 (f : Int), .int .i64 (t : Int), .bool true, .int .i64 (n1 : Int), .int .i64 (n2 : Int), .int .i64 (n : Int)] 23))) := rbel_al (Below.refl _ _)
  have RB : Hid (Row (u.alloc (Obj.cells #[.int .i64 (f : Int), .int .i64 (t : Int), .bool true, .int .i64 (n1 : Int), .int .i64 (n2 : Int), .int .i64 (n : Int)] 23)) u.heap.size [.int .i64 (f : Int), .int .i64 (t : Int), .bool true, .int .i64 (n1 : Int), .int .i64 (n2 : Int), .int .i64 (n : Int)]) := Row.made rfl
  have cS : Hid (∀ (v : Value) (base : Nat) (l : List UInt8) (n : Nat) (u : World), l.length ≤ 100 → n < 281474976710656 → base ≤ u.heap.size → OwB u base v l → Calls Tryd.prog 19 #[v, .int .i64 n] u fun o w' => ∃ v', o = .returned v' ∧ OwB w' base v' (l ++ six n) ∧ Below base u w') := rsix
  have HL : Hid (L = [UInt8.ofNat f, UInt8.ofNat t, 1] ++ six n ++ six n1 ++ six n2) := hL
  have l100 : L.length ≤ 100 := by rw [hL]; simp [six_len]
  have l1 : 1 ≤ L.length := by rw [hL]; simp [six_len]
  have sL := smB_le L
  clear hL
  go_enter Tryd.func7, Tryd.ntmps7
  go_upto_region 1 with (fail)
  generalize hW : u.alloc (Obj.cells #[.int .i64 (f : Int), .int .i64 (t : Int), .bool true, .int .i64 (n1 : Int), .int .i64 (n2 : Int), .int .i64 (n : Int)] 23) = W at *
  have zs : u.heap.size < W.heap.size := RB.out.lt
  have r0 := RB.out.c 0 _ rfl
  have r1 := RB.out.c 1 _ rfl
  have r2 := RB.out.c 2 _ rfl
  go_upto_region 4 with (fail)
  have O0 : Hid (OwB (W.alloc (Obj.cells #[.int .u8 (f : Int), .int .u8 (t : Int), .int .u8 1] 5)) W.heap.size (.slice (some ⟨W.heap.size, 0, none⟩) 3 3) [UInt8.ofNat f, UInt8.ofNat t, 1]) := by
    show World.ownsRow _ _ _ _ _ 3 (bcs [UInt8.ofNat f, UInt8.ofNat t, 1])
    rw [eb 1]
    exact World.ownsRow_lit (base := W.heap.size) (e := 5) (size := 1) W #[.int .u8 (f : Int), .int .u8 (t : Int), .int .u8 1] 3 (Nat.le_refl _) (by unfold maxLen; omega) rfl
  have B0 : Hid (Below W.heap.size W (W.alloc (Obj.cells #[.int .u8 (f : Int), .int .u8 (t : Int), .int .u8 1] 5))) := rbel_al (Below.refl _ _)
  have R0 : Hid (Row (W.alloc (Obj.cells #[.int .u8 (f : Int), .int .u8 (t : Int), .int .u8 1] 5)) u.heap.size [.int .i64 (f : Int), .int .i64 (t : Int), .bool true, .int .i64 (n1 : Int), .int .i64 (n2 : Int), .int .i64 (n : Int)]) := Row.on B0.out RB.out
  generalize (W.alloc (Obj.cells #[.int .u8 (f : Int), .int .u8 (t : Int), .int .u8 1] 5)) = X at *
  have w2 := R0.out.c 2 _ rfl
  have w5 := R0.out.c 5 _ rfl
  have zx : u.heap.size < X.heap.size := R0.out.lt
  have hX := B0.out.size
  clear r0 r1 r2
  have cnt : Mark 0 := .mk _
  go_upto_region 8 with (first
    | (go_at_call 19; have cm : Mark 0 := cnt; refine (cS.out _ W.heap.size _ n _ (by simp [six_len]) hn (by have := B0.out.size; omega) O0.out).mono ?_; clear cm cnt; have cnt : Mark 1 := .mk _; rintro o x1 ⟨v1, rfl, ho, hb⟩; have O1 : Hid (OwB x1 W.heap.size v1 ([UInt8.ofNat f, UInt8.ofNat t, 1] ++ six n)) := ho; have B1 : Hid (Below W.heap.size W x1) := B0.out.trans hb; have R1 : Hid (Row x1 u.heap.size [.int .i64 (f : Int), .int .i64 (t : Int), .bool true, .int .i64 (n1 : Int), .int .i64 (n2 : Int), .int .i64 (n : Int)]) := Row.on (B1.out.mono (by omega)) RB.out; have y1_3 := R1.out.c 3 _ rfl; have y1_4 := R1.out.c 4 _ rfl; have y1_2 := R1.out.c 2 _ rfl; have zx1 := R1.out.lt; clear ho hb)
    | (go_at_call 19; have cm : Mark 1 := cnt; refine (cS.out _ W.heap.size _ n1 _ (by simp [six_len]) h1 (by have := B1.out.size; omega) O1.out).mono ?_; clear cm cnt; have cnt : Mark 2 := .mk _; rintro o x2 ⟨v2, rfl, ho, hb⟩; have O2 : Hid (OwB x2 W.heap.size v2 ([UInt8.ofNat f, UInt8.ofNat t, 1] ++ six n ++ six n1)) := ho; have B2 : Hid (Below W.heap.size W x2) := B1.out.trans hb; have R2 : Hid (Row x2 u.heap.size [.int .i64 (f : Int), .int .i64 (t : Int), .bool true, .int .i64 (n1 : Int), .int .i64 (n2 : Int), .int .i64 (n : Int)]) := Row.on (B2.out.mono (by omega)) RB.out; have y2_3 := R2.out.c 3 _ rfl; have y2_4 := R2.out.c 4 _ rfl; have y2_2 := R2.out.c 2 _ rfl; have zx2 := R2.out.lt; clear ho hb)
    | (go_at_call 19; have cm : Mark 2 := cnt; refine (cS.out _ W.heap.size _ n2 _ (by simp [six_len]) h2 (by have := B2.out.size; omega) O2.out).mono ?_; clear cm cnt; have cnt : Mark 3 := .mk _; rintro o x3 ⟨v3, rfl, ho, hb⟩; have O3 : Hid (OwB x3 W.heap.size v3 ([UInt8.ofNat f, UInt8.ofNat t, 1] ++ six n ++ six n1 ++ six n2)) := ho; have B3 : Hid (Below W.heap.size W x3) := B2.out.trans hb; have R3 : Hid (Row x3 u.heap.size [.int .i64 (f : Int), .int .i64 (t : Int), .bool true, .int .i64 (n1 : Int), .int .i64 (n2 : Int), .int .i64 (n : Int)]) := Row.on (B3.out.mono (by omega)) RB.out; have y3_3 := R3.out.c 3 _ rfl; have y3_4 := R3.out.c 4 _ rfl; have y3_2 := R3.out.c 2 _ rfl; have zx3 := R3.out.lt; clear ho hb))
  have OL : OwB x3 W.heap.size v3 L := O3.out.put HL.out.symm
  obtain ⟨g, cap, rfl, g1, g2, g3, gc⟩ := OL.form l1
  have HO : Hid (OwB x3 W.heap.size (.slice (some ⟨g, 0, none⟩) L.length cap) L) := OL
  have HC : Hid (∀ i (hi : i < L.length), x3.cell? ⟨g, i, none⟩ = some (.int .u8 (L[i].toNat : Int))) := gc
  have HB : Hid (Below u.heap.size u x3) := (B3.out.mono (by omega)) |> fun h => BW.out.trans h
  clear OL gc
  go_wp2
  go_loopw [4, 5] (fun vn vi wr => ∃ i : Nat, i ≤ L.length ∧ vi = .int .i64 i ∧ vn = .int .i64 (smB (L.take i)) ∧ wr = x3) (fun _ i _ => L.length - (intOf i).toNat)
  case atStart => exact ⟨0, Nat.zero_le _, rfl, rfl, rfl⟩
  case round =>
    obtain ⟨i, hi, rfl, rfl, hw⟩ := hrel
    subst hw
    by_cases hlt : i < L.length
    · have hl3 : (i : Int) < (L.length : Int) := by omega
      have ci := HC.out i hlt
      have hb := L[i].toNat_lt
      have e1 : smB (L.take (i + 1)) = smB (L.take i) + L[i].toNat := fold_take (f := fun v b => v + b.toNat) hlt
      have HN : Hid (smB (L.take (i + 1)) = smB (L.take i) + L[i].toNat) := e1
      have sl := smB_le (L.take i)
      have sl2 : (L.take i).length ≤ 100 := by rw [List.length_take]; omega
      have hV2 : smB (L.take i) ≤ 25500 := by omega
      clear e1 sl sl2
      generalize smB (L.take i) = V at *
      generalize L[i].toNat = c at *
      go_wp2
      go_roundw
      case rel => exact ⟨i + 1, by omega, by go_num, by rw [HN.out]; go_num, trivial⟩
      case measure => simp [intOf]; omega
    · have hl3 : ¬ ((i : Int) < (L.length : Int)) := by omega
      obtain rfl : i = L.length := by omega
      rw [List.take_length]
      have q1 : q < 251 := by rw [hq]; exact Nat.mod_lt _ (by decide)
      have sm : smB L ≤ 25500 := by omega
      have e2 : (smB L : Int).tmod 251 = (q : Int) := by rw [Int.tmod_eq_emod_of_nonneg (Int.natCast_nonneg _), hq]; rfl
      have w2' : IntKind.i64.wrap (q : Int) = (q : Int) := IntWalk.i64_in _ (by omega)
      have w4 : IntKind.u8.wrap (q : Int) = (q : Int) := by rw [IntKind.wrap_u8]; omega
      generalize smB L = V at *
      clear hq sL
      go_wp2_with (at_builtin; refine wpList_append_own _ rfl _ _ 49 rfl W.heap.size 5 i0 (.int .u8 0) 1 1 Tryd.underlying49 hi0 hz0 hz1 hz2 rfl (by decide) _ _ _ rfl (HO.out.alloc _) ⟨wr.heap.size, 0, none⟩ 1 1 [.int .u8 (q : Int)] rfl rfl (fun j u hj => by rw [Addr.add_lit]; exact (Row.made (W := wr) (vs := [.int .u8 (q : Int)]) rfl).c _ _ (by simpa using hj)) (fun u hu => by simp at hu; rw [hu]; rfl) (by unfold maxLen; omega) (by omega) (by simp; omega) ?_)
      intro v' w1 hown' hgrow _
      have OF : OwB w1 W.heap.size v' (L ++ [UInt8.ofNat q]) := by
        show w1.ownsRow W.heap.size 5 1 v' (L ++ [UInt8.ofNat q]).length (bcs (L ++ [UInt8.ofNat q]))
        rw [List.length_append, bcs_app]
        have e : bcs [UInt8.ofNat q] = [.int .u8 (q : Int)] := by
          show [Value.int .u8 ((UInt8.ofNat q).toNat : Int)] = _
          rw [ofNat_toNat, Nat.mod_eq_of_lt (by omega)]
        rw [e]
        exact hown'
      have tx := OF.text (by simp)
      have HW1 : Hid (Below u.heap.size u w1) := (rbel_al HB.out).grown hgrow (by simp; omega) (fun j hj => by have := (HO.out.lt j hj).1; omega)
      clear hown' hgrow OF HO HC
      go_wp2
      go_ret
      exact ⟨rfl, HW1.out⟩
theorem rbytes (l : Lt) (h : ltE l = 0) (u : World) : Calls Tryd.prog 7 #[ltv l] u fun o w' => o = .returned (.string (wst (wb l))) ∧ Below u.heap.size u w' := by
  obtain ⟨f, t, a, b, c, _, e⟩ := ltE_zero h
  obtain ⟨l1, l2, l3, l4, l5, l6⟩ := l
  simp only at f t a b c e
  obtain ⟨l1, rfl⟩ : ∃ k : Nat, l1 = k := ⟨l1.toNat, by omega⟩
  obtain ⟨l2, rfl⟩ : ∃ k : Nat, l2 = k := ⟨l2.toNat, by omega⟩
  obtain ⟨l4, rfl⟩ : ∃ k : Nat, l4 = k := ⟨l4.toNat, by omega⟩
  obtain ⟨l5, rfl⟩ : ∃ k : Nat, l5 = k := ⟨l5.toNat, by omega⟩
  obtain ⟨l6, rfl⟩ : ∃ k : Nat, l6 = k := ⟨l6.toNat, by omega⟩
  cases l3 with
  | false => exact rbytes_false l1 l2 l6 l4 l5 (by omega) (by omega) (by omega) (by omega) (by omega) (wbs ⟨l1, l2, false, l4, l5, l6⟩) (by unfold wbs; simp) _ rfl u
  | true => exact rbytes_true l1 l2 l6 l4 l5 (by omega) (by omega) (by omega) (by omega) (by omega) (wbs ⟨l1, l2, true, l4, l5, l6⟩) (by unfold wbs; simp) _ rfl u
set_option maxRecDepth 100000 in
set_option maxHeartbeats 8000000 in
theorem rspanBytes (lo hi : Int) (h : okB lo hi = true) (u : World) : Calls Tryd.prog 12 #[.agg #[.int .i64 lo, .int .i64 hi]] u fun o w' => o = .returned (.string (wst (sb lo hi))) ∧ Below u.heap.size u w' := by
  obtain ⟨k1, k2, k3⟩ := okB_t h
  obtain ⟨a, ha⟩ : ∃ a : Nat, lo + 1000000000000 = a := ⟨(lo + 1000000000000).toNat, by omega⟩
  obtain ⟨b, hb⟩ : ∃ a : Nat, hi + 1000000000000 = a := ⟨(hi + 1000000000000).toNat, by omega⟩
  have HE : Hid (sb lo hi = six a ++ six b) := by
    show sb lo hi = six a ++ six b
    unfold sb
    rw [ha, hb]
    rfl
  have wa : IntKind.i64.wrap (lo + 1000000000000) = (a : Int) := by rw [ha]; exact IntWalk.i64_in _ (by omega)
  have wb : IntKind.i64.wrap (hi + 1000000000000) = (b : Int) := by rw [hb]; exact IntWalk.i64_in _ (by omega)
  rw [HE.out]
  have a1 : a < 281474976710656 := by omega
  have b1 : b < 281474976710656 := by omega
  have cS : Hid (∀ (v : Value) (base : Nat) (l : List UInt8) (n : Nat) (u : World), l.length ≤ 100 → n < 281474976710656 → base ≤ u.heap.size → OwB u base v l → Calls Tryd.prog 19 #[v, .int .i64 n] u fun o w' => ∃ v', o = .returned v' ∧ OwB w' base v' (l ++ six n) ∧ Below base u w') := rsix
  have cnt : Mark 0 := .mk _
  clear h
  go_enter Tryd.func12, Tryd.ntmps12
  go_upto_region 1 with (fail)
  have BW : Hid (Below u.heap.size u (u.alloc (Obj.cells #[.int .i64 lo, .int .i64 hi] 25))) := rbel_al (Below.refl _ _)
  have RB : Hid (Row (u.alloc (Obj.cells #[.int .i64 lo, .int .i64 hi] 25)) u.heap.size [.int .i64 lo, .int .i64 hi]) := Row.made rfl
  generalize u.alloc (Obj.cells #[.int .i64 lo, .int .i64 hi] 25) = W at *
  have zs : u.heap.size < W.heap.size := RB.out.lt
  have r0 := RB.out.c 0 _ rfl
  go_upto_region 3 with (first
    | (go_at_call 19; have cm : Mark 0 := cnt; refine (cS.out _ W.heap.size [] a _ (by simp) a1 (Nat.le_refl _) (World.ownsRow_nil _ _ _ _)).mono ?_; clear cm cnt; rintro o x1 ⟨v1, rfl, ho, hb⟩; have O1 : Hid (OwB x1 W.heap.size v1 (six a)) := ho; have B1 : Hid (Below W.heap.size W x1) := hb; have R1 : Hid (Row x1 u.heap.size [.int .i64 lo, .int .i64 hi]) := Row.on hb RB.out; have y1 := R1.out.c 1 _ rfl; have z1 := R1.out.lt; clear ho hb)
    | (go_at_call 19; refine (cS.out _ W.heap.size _ b _ (by simp [six_len]) b1 B1.out.size O1.out).mono ?_; rintro o x2 ⟨v2, rfl, ho, hb⟩; have O2 : Hid (OwB x2 W.heap.size v2 (six a ++ six b)) := ho; have B2 : Hid (Below u.heap.size u x2) := BW.out.trans ((B1.out.trans hb).mono (by omega)); clear ho hb))
  have tx := O2.out.text (by simp [six_len])
  go_wp2
  go_ret
  exact ⟨rfl, B2.out⟩
end Go.Proofs.YtfmaoblhoafnhaiDoor
