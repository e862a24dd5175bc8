/- What package wire answers: Letter. -/
import Derived.Test.YtfmaoblhoafnhajWirePkgA
import Derived.Test.YtfmaoblhoafnhajWirePkgB
import Derived.Test.YtfmaoblhoafnhajNm03
import Derived.Deep.RegionHeldLaw
import Derived.Deep.RegionLaw
namespace Go.Proofs.Ytfmaoblhoafnhaj
open Go.ChangeShapes Go.WideShapes Go.ChangeAt Go.RowKit Go.Joins
set_option linter.unusedVariables false
set_option linter.unusedSimpArgs false

theorem tmb1 (n : Nat) : tmb [n] = six n := by simp [tmb]
theorem tmb3 (n n1 n2 : Nat) : tmb [n, n1, n2] = six n ++ (six n1 ++ six n2) := by simp [tmb]
theorem app1 (v : Value) (base : Nat) (l : List UInt8) (n : Nat) (g : Nat) (u : World) (hl : l.length ≤ 40) (h6 : n < 281474976710656) (hb : base ≤ u.heap.size) (ho : OwB u base v l) (hr : Row u g [.int .i64 (n : Int)]) (hne : v.ownBlock ≠ some g) :
    Calls Try.prog 16 #[v, .slice (some ⟨g, 0, none⟩) 1 1] u fun o w' => ∃ v', o = .returned v' ∧ OwB w' base v' (l ++ six n) ∧ Below base u w' := by
  have := app_any v base l [n] g 1 u hl (by simp) (by simpa using h6) hb ho hr hr.lt hne
  rw [tmb1] at this
  exact this
theorem app3 (v : Value) (base : Nat) (l : List UInt8) (n n1 n2 : Nat) (g : Nat) (u : World) (hl : l.length ≤ 40) (h6 : n < 281474976710656) (h1 : n1 < 281474976710656) (h2 : n2 < 281474976710656) (hb : base ≤ u.heap.size) (ho : OwB u base v l) (hr : Row u g [.int .i64 (n : Int), .int .i64 (n1 : Int), .int .i64 (n2 : Int)]) (hne : v.ownBlock ≠ some g) :
    Calls Try.prog 16 #[v, .slice (some ⟨g, 0, none⟩) 3 3] u fun o w' => ∃ v', o = .returned v' ∧ OwB w' base v' (l ++ (six n ++ (six n1 ++ six n2))) ∧ Below base u w' := by
  have := app_any v base l [n, n1, n2] g 3 u hl (by simp) (by simp; omega) hb ho hr hr.lt hne
  rw [tmb3] at this
  exact this
theorem own_drB {w : World} {base size n : Nat} {e : TypeId} {v : Value} {xs : List Value} (h : w.ownsRow base e size v n xs) : w.drew.ownsRow base e size v n xs := h
theorem tms_kept {U w1 : World} {v1 : Value} {xb cap g : Nat} {n : Nat} {x : Value} {vs : List Value} (hg : U.grownBy w1 (Value.slice (some ⟨xb, 0, none⟩) n cap).ownBlock) (hat : v1.ownBlock = (Value.slice (some ⟨xb, 0, none⟩) n cap).ownBlock ∨ v1.ownBlock = some U.heap.size) (hr : Row U g (x :: vs)) (hn : g ≠ xb) : Row w1 g (x :: vs) ∧ v1.ownBlock ≠ some g := by
  have lt := hr.lt
  refine ⟨row_grown hg lt (fun e => hn (Option.some.inj e).symm) hr, fun e => ?_⟩
  rcases hat with a | a
  · exact hn (Option.some.inj (a.symm.trans e)).symm
  · have := Option.some.inj (a.symm.trans e)
    omega
/-- An append of one byte, with the times that lie ahead of it: they are as they were. -/
theorem ownB_ne {w : World} {base : Nat} {v : Value} {l : List UInt8} (h : OwB w base v l) {g : Nat} (hg : w.heap.size ≤ g) : v.ownBlock ≠ some g := fun e => by have := (h.lt g e).2; omega
set_option maxRecDepth 100000 in
set_option maxHeartbeats 8000000 in
theorem wletter_no (l : Lt) (h : ltE l ≠ 0) (u : World) : Calls Try.prog 5 #[ltv l] u fun o w' => o = .returned (.tuple #[.string (wst []), errc (ltE l)]) ∧ Below u.heap.size u w' := by
  have cC := fun W => wcheck_any l W
  have n : errc (ltE l) = .iface 73 (.int .i64 (ltE l)) := errc_not h
  rw [n] at cC ⊢
  generalize ltE l = e at *
  clear h n
  obtain ⟨l1, l2, l3, l4, l5, l6⟩ := l
  unfold ltv at *
  go_enter Try.func5, Try.ntmps5
  go_wp2_with (go_at_call 15; refine (cC _).mono ?_; rintro o x ⟨rfl, hb⟩; have HB : Hid (Below u.heap.size u x) := rbel_on hb (rbel_al (Below.refl _ _)); clear hb)
  go_ret2
  exact ⟨rfl, HB.out⟩
set_option maxRecDepth 100000 in
set_option maxHeartbeats 8000000 in
theorem wletter_false (f t n : Nat) (hf : f < 6) (ht : t < 6) (hn : n < 281474976710656) (L : List UInt8) (hL : L = [UInt8.ofNat f, UInt8.ofNat t, 0] ++ six n) (q : Nat) (hq : q = smB L % 251) (u : World) (hc : ∀ W, Calls Try.prog 15 #[.agg #[.int .i64 (f : Int), .int .i64 (t : Int), .bool false, .int .i64 0, .int .i64 0, .int .i64 (n : Int)]] W fun o w' => o = .returned .nilIface ∧ Below W.heap.size W w') :
    Calls Try.prog 5 #[.agg #[.int .i64 (f : Int), .int .i64 (t : Int), .bool false, .int .i64 0, .int .i64 0, .int .i64 (n : Int)]] u fun o w' => o = .returned (.tuple #[.string (wst (L ++ [UInt8.ofNat q])), .nilIface]) ∧ Below u.heap.size u w' := by
  obtain ⟨i0, hi0, hz0, hz1, hz2⟩ := info_parts infoByte
  have c1 : IntKind.u8.wrap (f : Int) = (f : Int) := by rw [IntKind.wrap_u8]; omega
  have c2 : IntKind.u8.wrap (t : Int) = (t : Int) := by rw [IntKind.wrap_u8]; omega
  have eb : ∀ l : List UInt8, bcs (UInt8.ofNat f :: UInt8.ofNat t :: l) = .int .u8 (f : Int) :: .int .u8 (t : Int) :: bcs l := fun l => by
    show Value.int .u8 ((UInt8.ofNat f).toNat : Int) :: .int .u8 ((UInt8.ofNat t).toNat : Int) :: bcs l = _
    rw [ofNat_toNat, ofNat_toNat, Nat.mod_eq_of_lt (by omega), Nat.mod_eq_of_lt (by omega)]
  have HC : Hid (∀ W, Calls Try.prog 15 #[.agg #[.int .i64 (f : Int), .int .i64 (t : Int), .bool false, .int .i64 0, .int .i64 0, .int .i64 (n : Int)]] W fun o w' => o = .returned .nilIface ∧ Below W.heap.size W w') := hc
  have HL : Hid (L = [UInt8.ofNat f, UInt8.ofNat t, 0] ++ six n) := hL
  have l100 : L.length ≤ 100 := by rw [hL]; simp [six_len]
  have l1 : 1 ≤ L.length := by rw [hL]; simp [six_len]
  have HQ : Hid (∀ (g cap : Nat) (u : World), (∀ i (hi : i < L.length), u.cell? ⟨g, i, none⟩ = some (.int .u8 (L[i].toNat : Int))) → Calls Try.prog 17 #[.slice (some ⟨g, 0, none⟩) L.length cap] u fun o w' => o = .returned (.int .u8 q) ∧ w' = u) := fun g cap u h => sum_any L g cap u l100 h q hq
  have q1 : q < 251 := by rw [hq]; exact Nat.mod_lt _ (by decide)
  clear hL hq hc
  go_enter Try.func5, Try.ntmps5
  go_upto_region 5 with (go_at_call 15; refine (HC.out _).mono ?_; rintro o x ⟨rfl, hb⟩; have BX : Hid (Below u.heap.size u x) := rbel_on hb (rbel_al (Below.refl _ _)); have RX : Hid (Row x u.heap.size [.int .i64 (f : Int), .int .i64 (t : Int), .bool false, .int .i64 0, .int .i64 0, .int .i64 (n : Int)]) := Row.on hb (Row.made rfl); have x0 := RX.out.c 0 _ rfl; have x1 := RX.out.c 1 _ rfl; have zx := RX.out.lt; clear hb)
  have O0 : Hid (OwB (x.alloc (Obj.cells #[.int .u8 (f : Int), .int .u8 (t : Int)] 5)) x.heap.size (.slice (some ⟨x.heap.size, 0, none⟩) 2 2) [UInt8.ofNat f, UInt8.ofNat t]) := by
    show World.ownsRow _ _ _ _ _ 2 (bcs [UInt8.ofNat f, UInt8.ofNat t])
    rw [eb []]
    exact World.ownsRow_lit (base := x.heap.size) (e := 5) (size := 1) x #[.int .u8 (f : Int), .int .u8 (t : Int)] 2 (Nat.le_refl _) (by unfold maxLen; omega) rfl
  have B0 : Hid (Below x.heap.size x (x.alloc (Obj.cells #[.int .u8 (f : Int), .int .u8 (t : Int)] 5))) := rbel_al (Below.refl _ _)
  have R0 : Hid (Row (x.alloc (Obj.cells #[.int .u8 (f : Int), .int .u8 (t : Int)] 5)) u.heap.size [.int .i64 (f : Int), .int .i64 (t : Int), .bool false, .int .i64 0, .int .i64 0, .int .i64 (n : Int)]) := Row.on B0.out RX.out
  have ZX : (x.alloc (Obj.cells #[.int .u8 (f : Int), .int .u8 (t : Int)] 5)).heap.size = x.heap.size + 1 := by simp
  generalize (x.alloc (Obj.cells #[.int .u8 (f : Int), .int .u8 (t : Int)] 5)) = X at *
  generalize x.heap.size = xb at *
  have y2 := R0.out.c 2 _ rfl
  clear x0 x1
  go_upto_region 7 with (fail)
  clear y2
  have y5 := R0.out.c 5 _ rfl
  have PK : Hid (∀ {U w1 : World} {v1 : Value}, w1.ownsRow xb 5 1 v1 3 (bcs [UInt8.ofNat f, UInt8.ofNat t] ++ [.int .u8 0]) → U.grownBy w1 (some xb) → Below X.heap.size X U → OwB w1 xb v1 [UInt8.ofNat f, UInt8.ofNat t, 0] ∧ Below xb X w1 ∧ Row w1 u.heap.size [.int .i64 (f : Int), .int .i64 (t : Int), .bool false, .int .i64 0, .int .i64 0, .int .i64 (n : Int)] ∧ U.heap.size ≤ w1.heap.size) := by
    intro U w1 v1 ho hg hU
    have hs := hU.size
    refine ⟨?_, (hU.mono (by omega)).grown hg (by omega) (fun j e => by injection e with e; omega), row_grown hg (by have := R0.out.lt; omega) (fun e => by injection e with e; omega) (Row.on hU R0.out), hg.size⟩
    show w1.ownsRow xb 5 1 v1 3 (bcs [UInt8.ofNat f, UInt8.ofNat t, 0])
    rw [eb]
    rw [eb] at ho
    exact ho
  go_region_held_law (fun w' => w'.cell? ⟨u.heap.size, 5, none⟩ = some (.int .i64 (n : Int))) (go_keep) (first
    | (refine step_append_at rfl (.tmp 31) (.tmp 32) 54 rfl xb 5 i0 (.int .u8 0) 1 1 Try.underlying54 hi0 hz0 hz1 hz2 rfl (by decide) (.slice (some ⟨xb, 0, none⟩) 2 2) 2 (bcs [UInt8.ofNat f, UInt8.ofNat t]) (by simp [Act.eval, Act.put]) (own_drB (O0.out.alloc _)) ⟨X.heap.size, 0, none⟩ 1 1 [.int .u8 0] (by simp [Act.eval, Act.put]) rfl (fun j u hj => by rw [Addr.add_lit]; exact (Row.dr (Row.made (W := X) (vs := [.int .u8 0]) rfl)).c _ _ (by simpa using hj)) (fun u hu => by simp at hu; rw [hu]; rfl) (by unfold maxLen; omega) (by omega) (by simp; omega) ?_; intro v1 w1 hown1 hgrow1 hat1; have pk := PK.out hown1 hgrow1 (rbel_dr (rbel_al (Below.refl _ _))); have kr := pk.2.2.1; have k5 := kr.c 5 _ rfl; clear kr; have P1 : Hid _ := pk; clear pk hown1 hgrow1 hat1)
    | (refine step_append_at rfl (.tmp 31) (.tmp 32) 54 rfl xb 5 i0 (.int .u8 0) 1 1 Try.underlying54 hi0 hz0 hz1 hz2 rfl (by decide) (.slice (some ⟨xb, 0, none⟩) 2 2) 2 (bcs [UInt8.ofNat f, UInt8.ofNat t]) (by simp [Act.eval, Act.put]) (own_drB ((O0.out.alloc _).alloc _)) ⟨X.heap.size, 0, none⟩ 1 1 [.int .u8 0] (by simp [Act.eval, Act.put]) rfl (fun j u hj => by rw [Addr.add_lit]; exact (Row.dr (Row.al (Row.made (W := X) (vs := [.int .u8 0]) rfl))).c _ _ (by simpa using hj)) (fun u hu => by simp at hu; rw [hu]; rfl) (by unfold maxLen; omega) (by omega) (by simp; omega) ?_; intro v1 w1 hown1 hgrow1 hat1; have T1 : Hid (Row w1 (xb + 1 + 1) [.int .i64 (n : Int)] ∧ v1.ownBlock ≠ some (xb + 1 + 1)) := tms_kept hgrow1 hat1 (Row.dr (Row.made (by simp; omega))) (by omega); have pk := PK.out hown1 hgrow1 (rbel_dr (rbel_al (rbel_al (Below.refl _ _)))); have kr := pk.2.2.1; have k5 := kr.c 5 _ rfl; clear kr; have P1 : Hid _ := pk; clear pk hown1 hgrow1 hat1)
    | (refine step_append_at rfl (.tmp 31) (.tmp 32) 54 rfl xb 5 i0 (.int .u8 0) 1 1 Try.underlying54 hi0 hz0 hz1 hz2 rfl (by decide) (.slice (some ⟨xb, 0, none⟩) 2 2) 2 (bcs [UInt8.ofNat f, UInt8.ofNat t]) (by simp [Act.eval, Act.put]) (own_drB ((O0.out.alloc _).alloc _)) ⟨X.heap.size + 1, 0, none⟩ 1 1 [.int .u8 0] (by simp [Act.eval, Act.put]) rfl (fun j u hj => by rw [Addr.add_lit]; exact (Row.dr (Row.made (W := (X.alloc (Obj.cells #[.int .i64 (n : Int)] 3))) (vs := [.int .u8 0]) (by simp))).c _ _ (by simpa using hj)) (fun u hu => by simp at hu; rw [hu]; rfl) (by unfold maxLen; omega) (by omega) (by simp; omega) ?_; intro v1 w1 hown1 hgrow1 hat1; have T1 : Hid (Row w1 (xb + 1) [.int .i64 (n : Int)] ∧ v1.ownBlock ≠ some (xb + 1)) := tms_kept hgrow1 hat1 (Row.dr (Row.al (Row.made ZX.symm))) (by omega); have pk := PK.out hown1 hgrow1 (rbel_dr (rbel_al (rbel_al (Below.refl _ _)))); have kr := pk.2.2.1; have k5 := kr.c 5 _ rfl; clear kr; have P1 : Hid _ := pk; clear pk hown1 hgrow1 hat1)
    | (go_at_call 16; have t1 := T1.out; refine (app1 _ xb [UInt8.ofNat f, UInt8.ofNat t, 0] n _ _ (by simp) hn (by have := P1.out.2.2.2; simp at this <;> omega) P1.out.1 t1.1 t1.2).mono ?_; clear t1; rintro o w2 ⟨v2, rfl, ho, hb⟩; have O2 : Hid (OwB w2 xb v2 ([UInt8.ofNat f, UInt8.ofNat t, 0] ++ six n)) := ho; have B2 : Hid (Below xb X w2) := P1.out.2.1.trans hb; clear ho hb; have k5_2 : w2.cell? ⟨u.heap.size, 5, none⟩ = some (.int .i64 (n : Int)) := (B2.out.cell (show u.heap.size < xb by omega)).trans y5)
    | (go_at_call 16; refine (app1 _ xb [UInt8.ofNat f, UInt8.ofNat t, 0] n _ _ (by simp) hn (by have := P1.out.2.2.2; simp at this ⊢ <;> omega) (P1.out.1.alloc _) (Row.made rfl) (ownB_ne P1.out.1 (Nat.le_refl _))).mono ?_; rintro o w2 ⟨v2, rfl, ho, hb⟩; have O2 : Hid (OwB w2 xb v2 ([UInt8.ofNat f, UInt8.ofNat t, 0] ++ six n)) := ho; have B2 : Hid (Below xb X w2) := ((P1.out.2.1).alloc (by have z1 := P1.out.2.1.size; omega) _).trans hb; clear ho hb; have k5_2 : w2.cell? ⟨u.heap.size, 5, none⟩ = some (.int .i64 (n : Int)) := (B2.out.cell (show u.heap.size < xb by omega)).trans y5))
  all_goals
    have OL : OwB w2 xb v2 L := O2.out.put HL.out.symm
    obtain ⟨g, cap, rfl, g1, g2, g3, gc⟩ := OL.form l1
    have HO : Hid (OwB w2 xb (.slice (some ⟨g, 0, none⟩) L.length cap) L) := OL
    have HB : Hid (Below u.heap.size u w2) := BX.out.trans ((B0.out.trans B2.out).mono (by omega))
    have cQ := HQ.out g cap w2 gc
    clear OL gc O2
    go_wp2_with (first
      | (go_at_call 17; refine cQ.mono ?_; rintro o w3 ⟨rfl, hu⟩; rw [hu]; clear hu)
      | (at_builtin; refine wpList_append_own _ rfl _ _ 54 rfl xb 5 i0 (.int .u8 0) 1 1 Try.underlying54 hi0 hz0 hz1 hz2 rfl (by decide) _ _ _ rfl (HO.out.alloc _) ⟨w2.heap.size, 0, none⟩ 1 1 [.int .u8 (q : Int)] rfl rfl (fun j u hj => by rw [Addr.add_lit]; exact (Row.made (W := w2) (vs := [.int .u8 (q : Int)]) rfl).c _ _ (by simpa using hj)) (fun u hu => by simp at hu; rw [hu]; rfl) (by unfold maxLen; omega) (by omega) (by simp; omega) ?_))
    intro v' w4 hown' hgrow _
    have OF : OwB w4 xb v' (L ++ [UInt8.ofNat q]) := by
      show w4.ownsRow xb 5 1 v' (L ++ [UInt8.ofNat q]).length (bcs (L ++ [UInt8.ofNat q]))
      rw [List.length_append, bcs_app]
      have e : bcs [UInt8.ofNat q] = [.int .u8 (q : Int)] := by
        show [Value.int .u8 ((UInt8.ofNat q).toNat : Int)] = _
        rw [ofNat_toNat, Nat.mod_eq_of_lt (by omega)]
      rw [e]
      exact hown'
    have tx := OF.text (by simp)
    have HW1 : Hid (Below u.heap.size u w4) := (rbel_al HB.out).grown hgrow (by simp; omega) (fun j hj => by have := (HO.out.lt j hj).1; have := BX.out.size; omega)
    clear hown' hgrow OF HO
    go_wp2
    go_ret2
    exact ⟨rfl, HW1.out⟩
set_option maxRecDepth 100000 in
set_option maxHeartbeats 8000000 in
theorem wletter_true (f t n n1 n2 : Nat) (hf : f < 6) (ht : t < 6) (hn : n < 281474976710656) (h1 : n1 < 281474976710656) (h2 : n2 < 281474976710656) (L : List UInt8) (hL : L = [UInt8.ofNat f, UInt8.ofNat t, 1] ++ (six n ++ (six n1 ++ six n2))) (q : Nat) (hq : q = smB L % 251) (u : World) (hc : ∀ W, Calls Try.prog 15 #[.agg #[.int .i64 (f : Int), .int .i64 (t : Int), .bool true, .int .i64 (n1 : Int), .int .i64 (n2 : Int), .int .i64 (n : Int)]] W fun o w' => o = .returned .nilIface ∧ Below W.heap.size W w') :
    Calls Try.prog 5 #[.agg #[.int .i64 (f : Int), .int .i64 (t : Int), .bool true, .int .i64 (n1 : Int), .int .i64 (n2 : Int), .int .i64 (n : Int)]] u fun o w' => o = .returned (.tuple #[.string (wst (L ++ [UInt8.ofNat q])), .nilIface]) ∧ Below u.heap.size u w' := by
  obtain ⟨i0, hi0, hz0, hz1, hz2⟩ := info_parts infoByte
  have c1 : IntKind.u8.wrap (f : Int) = (f : Int) := by rw [IntKind.wrap_u8]; omega
  have c2 : IntKind.u8.wrap (t : Int) = (t : Int) := by rw [IntKind.wrap_u8]; omega
  have eb : ∀ l : List UInt8, bcs (UInt8.ofNat f :: UInt8.ofNat t :: l) = .int .u8 (f : Int) :: .int .u8 (t : Int) :: bcs l := fun l => by
    show Value.int .u8 ((UInt8.ofNat f).toNat : Int) :: .int .u8 ((UInt8.ofNat t).toNat : Int) :: bcs l = _
    rw [ofNat_toNat, ofNat_toNat, Nat.mod_eq_of_lt (by omega), Nat.mod_eq_of_lt (by omega)]
  have HC : Hid (∀ W, Calls Try.prog 15 #[.agg #[.int .i64 (f : Int), .int .i64 (t : Int), .bool true, .int .i64 (n1 : Int), .int .i64 (n2 : Int), .int .i64 (n : Int)]] W fun o w' => o = .returned .nilIface ∧ Below W.heap.size W w') := hc
  have HL : Hid (L = [UInt8.ofNat f, UInt8.ofNat t, 1] ++ (six n ++ (six n1 ++ six n2))) := hL
  have l100 : L.length ≤ 100 := by rw [hL]; simp [six_len]
  have l1 : 1 ≤ L.length := by rw [hL]; simp [six_len]
  have HQ : Hid (∀ (g cap : Nat) (u : World), (∀ i (hi : i < L.length), u.cell? ⟨g, i, none⟩ = some (.int .u8 (L[i].toNat : Int))) → Calls Try.prog 17 #[.slice (some ⟨g, 0, none⟩) L.length cap] u fun o w' => o = .returned (.int .u8 q) ∧ w' = u) := fun g cap u h => sum_any L g cap u l100 h q hq
  have q1 : q < 251 := by rw [hq]; exact Nat.mod_lt _ (by decide)
  clear hL hq hc
  go_enter Try.func5, Try.ntmps5
  go_upto_region 5 with (go_at_call 15; refine (HC.out _).mono ?_; rintro o x ⟨rfl, hb⟩; have BX : Hid (Below u.heap.size u x) := rbel_on hb (rbel_al (Below.refl _ _)); have RX : Hid (Row x u.heap.size [.int .i64 (f : Int), .int .i64 (t : Int), .bool true, .int .i64 (n1 : Int), .int .i64 (n2 : Int), .int .i64 (n : Int)]) := Row.on hb (Row.made rfl); have x0 := RX.out.c 0 _ rfl; have x1 := RX.out.c 1 _ rfl; have zx := RX.out.lt; clear hb)
  have O0 : Hid (OwB (x.alloc (Obj.cells #[.int .u8 (f : Int), .int .u8 (t : Int)] 5)) x.heap.size (.slice (some ⟨x.heap.size, 0, none⟩) 2 2) [UInt8.ofNat f, UInt8.ofNat t]) := by
    show World.ownsRow _ _ _ _ _ 2 (bcs [UInt8.ofNat f, UInt8.ofNat t])
    rw [eb []]
    exact World.ownsRow_lit (base := x.heap.size) (e := 5) (size := 1) x #[.int .u8 (f : Int), .int .u8 (t : Int)] 2 (Nat.le_refl _) (by unfold maxLen; omega) rfl
  have B0 : Hid (Below x.heap.size x (x.alloc (Obj.cells #[.int .u8 (f : Int), .int .u8 (t : Int)] 5))) := rbel_al (Below.refl _ _)
  have R0 : Hid (Row (x.alloc (Obj.cells #[.int .u8 (f : Int), .int .u8 (t : Int)] 5)) u.heap.size [.int .i64 (f : Int), .int .i64 (t : Int), .bool true, .int .i64 (n1 : Int), .int .i64 (n2 : Int), .int .i64 (n : Int)]) := Row.on B0.out RX.out
  have ZX : (x.alloc (Obj.cells #[.int .u8 (f : Int), .int .u8 (t : Int)] 5)).heap.size = x.heap.size + 1 := by simp
  generalize (x.alloc (Obj.cells #[.int .u8 (f : Int), .int .u8 (t : Int)] 5)) = X at *
  generalize x.heap.size = xb at *
  have y2 := R0.out.c 2 _ rfl
  clear x0 x1
  go_upto_region 6 with (fail)
  clear y2
  have y5 := R0.out.c 5 _ rfl
  have y3 := R0.out.c 3 _ rfl
  have y4 := R0.out.c 4 _ rfl
  have PK : Hid (∀ {U w1 : World} {v1 : Value}, w1.ownsRow xb 5 1 v1 3 (bcs [UInt8.ofNat f, UInt8.ofNat t] ++ [.int .u8 1]) → U.grownBy w1 (some xb) → Below X.heap.size X U → OwB w1 xb v1 [UInt8.ofNat f, UInt8.ofNat t, 1] ∧ Below xb X w1 ∧ Row w1 u.heap.size [.int .i64 (f : Int), .int .i64 (t : Int), .bool true, .int .i64 (n1 : Int), .int .i64 (n2 : Int), .int .i64 (n : Int)] ∧ U.heap.size ≤ w1.heap.size) := by
    intro U w1 v1 ho hg hU
    have hs := hU.size
    refine ⟨?_, (hU.mono (by omega)).grown hg (by omega) (fun j e => by injection e with e; omega), row_grown hg (by have := R0.out.lt; omega) (fun e => by injection e with e; omega) (Row.on hU R0.out), hg.size⟩
    show w1.ownsRow xb 5 1 v1 3 (bcs [UInt8.ofNat f, UInt8.ofNat t, 1])
    rw [eb]
    rw [eb] at ho
    exact ho
  go_region_held_law (fun w' => w'.cell? ⟨u.heap.size, 5, none⟩ = some (.int .i64 (n : Int)) ∧ w'.cell? ⟨u.heap.size, 3, none⟩ = some (.int .i64 (n1 : Int)) ∧ w'.cell? ⟨u.heap.size, 4, none⟩ = some (.int .i64 (n2 : Int))) (go_keep) (first
    | (refine step_append_at rfl (.tmp 20) (.tmp 21) 54 rfl xb 5 i0 (.int .u8 0) 1 1 Try.underlying54 hi0 hz0 hz1 hz2 rfl (by decide) (.slice (some ⟨xb, 0, none⟩) 2 2) 2 (bcs [UInt8.ofNat f, UInt8.ofNat t]) (by simp [Act.eval, Act.put]) (own_drB (O0.out.alloc _)) ⟨X.heap.size, 0, none⟩ 1 1 [.int .u8 1] (by simp [Act.eval, Act.put]) rfl (fun j u hj => by rw [Addr.add_lit]; exact (Row.dr (Row.made (W := X) (vs := [.int .u8 1]) rfl)).c _ _ (by simpa using hj)) (fun u hu => by simp at hu; rw [hu]; rfl) (by unfold maxLen; omega) (by omega) (by simp; omega) ?_; intro v1 w1 hown1 hgrow1 hat1; have pk := PK.out hown1 hgrow1 (rbel_dr (rbel_al (Below.refl _ _))); have kr := pk.2.2.1; have k5 := kr.c 5 _ rfl; have k3 := kr.c 3 _ rfl; have k4 := kr.c 4 _ rfl; clear kr; have P1 : Hid _ := pk; clear pk hown1 hgrow1 hat1)
    | (refine step_append_at rfl (.tmp 20) (.tmp 21) 54 rfl xb 5 i0 (.int .u8 0) 1 1 Try.underlying54 hi0 hz0 hz1 hz2 rfl (by decide) (.slice (some ⟨xb, 0, none⟩) 2 2) 2 (bcs [UInt8.ofNat f, UInt8.ofNat t]) (by simp [Act.eval, Act.put]) (own_drB ((O0.out.alloc _).alloc _)) ⟨X.heap.size, 0, none⟩ 1 1 [.int .u8 1] (by simp [Act.eval, Act.put]) rfl (fun j u hj => by rw [Addr.add_lit]; exact (Row.dr (Row.al (Row.made (W := X) (vs := [.int .u8 1]) rfl))).c _ _ (by simpa using hj)) (fun u hu => by simp at hu; rw [hu]; rfl) (by unfold maxLen; omega) (by omega) (by simp; omega) ?_; intro v1 w1 hown1 hgrow1 hat1; have T1 : Hid (Row w1 (xb + 1 + 1) [.int .i64 (n : Int), .int .i64 (n1 : Int), .int .i64 (n2 : Int)] ∧ v1.ownBlock ≠ some (xb + 1 + 1)) := tms_kept hgrow1 hat1 (Row.dr (Row.made (by simp; omega))) (by omega); have pk := PK.out hown1 hgrow1 (rbel_dr (rbel_al (rbel_al (Below.refl _ _)))); have kr := pk.2.2.1; have k5 := kr.c 5 _ rfl; have k3 := kr.c 3 _ rfl; have k4 := kr.c 4 _ rfl; clear kr; have P1 : Hid _ := pk; clear pk hown1 hgrow1 hat1)
    | (refine step_append_at rfl (.tmp 20) (.tmp 21) 54 rfl xb 5 i0 (.int .u8 0) 1 1 Try.underlying54 hi0 hz0 hz1 hz2 rfl (by decide) (.slice (some ⟨xb, 0, none⟩) 2 2) 2 (bcs [UInt8.ofNat f, UInt8.ofNat t]) (by simp [Act.eval, Act.put]) (own_drB ((O0.out.alloc _).alloc _)) ⟨X.heap.size + 1, 0, none⟩ 1 1 [.int .u8 1] (by simp [Act.eval, Act.put]) rfl (fun j u hj => by rw [Addr.add_lit]; exact (Row.dr (Row.made (W := (X.alloc (Obj.cells #[.int .i64 (n : Int), .int .i64 (n1 : Int), .int .i64 (n2 : Int)] 3))) (vs := [.int .u8 1]) (by simp))).c _ _ (by simpa using hj)) (fun u hu => by simp at hu; rw [hu]; rfl) (by unfold maxLen; omega) (by omega) (by simp; omega) ?_; intro v1 w1 hown1 hgrow1 hat1; have T1 : Hid (Row w1 (xb + 1) [.int .i64 (n : Int), .int .i64 (n1 : Int), .int .i64 (n2 : Int)] ∧ v1.ownBlock ≠ some (xb + 1)) := tms_kept hgrow1 hat1 (Row.dr (Row.al (Row.made ZX.symm))) (by omega); have pk := PK.out hown1 hgrow1 (rbel_dr (rbel_al (rbel_al (Below.refl _ _)))); have kr := pk.2.2.1; have k5 := kr.c 5 _ rfl; have k3 := kr.c 3 _ rfl; have k4 := kr.c 4 _ rfl; clear kr; have P1 : Hid _ := pk; clear pk hown1 hgrow1 hat1)
    | (go_at_call 16; have t1 := T1.out; refine (app3 _ xb [UInt8.ofNat f, UInt8.ofNat t, 1] n n1 n2 _ _ (by simp) hn h1 h2 (by have := P1.out.2.2.2; simp at this <;> omega) P1.out.1 t1.1 t1.2).mono ?_; clear t1; rintro o w2 ⟨v2, rfl, ho, hb⟩; have O2 : Hid (OwB w2 xb v2 ([UInt8.ofNat f, UInt8.ofNat t, 1] ++ (six n ++ (six n1 ++ six n2)))) := ho; have B2 : Hid (Below xb X w2) := P1.out.2.1.trans hb; clear ho hb; have k5_2 : w2.cell? ⟨u.heap.size, 5, none⟩ = some (.int .i64 (n : Int)) := (B2.out.cell (show u.heap.size < xb by omega)).trans y5; have k3_2 : w2.cell? ⟨u.heap.size, 3, none⟩ = some (.int .i64 (n1 : Int)) := (B2.out.cell (show u.heap.size < xb by omega)).trans y3; have k4_2 : w2.cell? ⟨u.heap.size, 4, none⟩ = some (.int .i64 (n2 : Int)) := (B2.out.cell (show u.heap.size < xb by omega)).trans y4)
    | (go_at_call 16; refine (app3 _ xb [UInt8.ofNat f, UInt8.ofNat t, 1] n n1 n2 _ _ (by simp) hn h1 h2 (by have := P1.out.2.2.2; simp at this ⊢ <;> omega) (P1.out.1.alloc _) (Row.made rfl) (ownB_ne P1.out.1 (Nat.le_refl _))).mono ?_; rintro o w2 ⟨v2, rfl, ho, hb⟩; have O2 : Hid (OwB w2 xb v2 ([UInt8.ofNat f, UInt8.ofNat t, 1] ++ (six n ++ (six n1 ++ six n2)))) := ho; have B2 : Hid (Below xb X w2) := ((P1.out.2.1).alloc (by have z1 := P1.out.2.1.size; omega) _).trans hb; clear ho hb; have k5_2 : w2.cell? ⟨u.heap.size, 5, none⟩ = some (.int .i64 (n : Int)) := (B2.out.cell (show u.heap.size < xb by omega)).trans y5; have k3_2 : w2.cell? ⟨u.heap.size, 3, none⟩ = some (.int .i64 (n1 : Int)) := (B2.out.cell (show u.heap.size < xb by omega)).trans y3; have k4_2 : w2.cell? ⟨u.heap.size, 4, none⟩ = some (.int .i64 (n2 : Int)) := (B2.out.cell (show u.heap.size < xb by omega)).trans y4))
  all_goals
    have OL : OwB w2 xb v2 L := O2.out.put HL.out.symm
    obtain ⟨g, cap, rfl, g1, g2, g3, gc⟩ := OL.form l1
    have HO : Hid (OwB w2 xb (.slice (some ⟨g, 0, none⟩) L.length cap) L) := OL
    have HB : Hid (Below u.heap.size u w2) := BX.out.trans ((B0.out.trans B2.out).mono (by omega))
    have cQ := HQ.out g cap w2 gc
    clear OL gc O2
    go_wp2_with (first
      | (go_at_call 17; refine cQ.mono ?_; rintro o w3 ⟨rfl, hu⟩; rw [hu]; clear hu)
      | (at_builtin; refine wpList_append_own _ rfl _ _ 54 rfl xb 5 i0 (.int .u8 0) 1 1 Try.underlying54 hi0 hz0 hz1 hz2 rfl (by decide) _ _ _ rfl (HO.out.alloc _) ⟨w2.heap.size, 0, none⟩ 1 1 [.int .u8 (q : Int)] rfl rfl (fun j u hj => by rw [Addr.add_lit]; exact (Row.made (W := w2) (vs := [.int .u8 (q : Int)]) rfl).c _ _ (by simpa using hj)) (fun u hu => by simp at hu; rw [hu]; rfl) (by unfold maxLen; omega) (by omega) (by simp; omega) ?_))
    intro v' w4 hown' hgrow _
    have OF : OwB w4 xb v' (L ++ [UInt8.ofNat q]) := by
      show w4.ownsRow xb 5 1 v' (L ++ [UInt8.ofNat q]).length (bcs (L ++ [UInt8.ofNat q]))
      rw [List.length_append, bcs_app]
      have e : bcs [UInt8.ofNat q] = [.int .u8 (q : Int)] := by
        show [Value.int .u8 ((UInt8.ofNat q).toNat : Int)] = _
        rw [ofNat_toNat, Nat.mod_eq_of_lt (by omega)]
      rw [e]
      exact hown'
    have tx := OF.text (by simp)
    have HW1 : Hid (Below u.heap.size u w4) := (rbel_al HB.out).grown hgrow (by simp; omega) (fun j hj => by have := (HO.out.lt j hj).1; have := BX.out.size; omega)
    clear hown' hgrow OF HO
    go_wp2
    go_ret2
    exact ⟨rfl, HW1.out⟩
theorem wletter_any (l : Lt) (u : World) : Calls Try.prog 5 #[ltv l] u fun o w' => o = .returned (.tuple #[.string (wst (if ltE l = 0 then wb l else [])), errc (ltE l)]) ∧ Below u.heap.size u w' := by
  by_cases h : ltE l = 0
  case neg =>
    rw [if_neg h]
    exact wletter_no l h u
  rw [if_pos h, h, errc_zero]
  have hc : ∀ W, Calls Try.prog 15 #[ltv l] W fun o w' => o = .returned .nilIface ∧ Below W.heap.size W w' := fun W => by
    have := wcheck_any l W
    rw [h, errc_zero] at this
    exact this
  obtain ⟨f, t, a, b, c, _, e⟩ := ltE_zero h
  clear h
  obtain ⟨l1, l2, l3, l4, l5, l6⟩ := l
  simp only at f t a b c e
  obtain ⟨l1, rfl⟩ : ∃ k : Nat, l1 = k := ⟨l1.toNat, by omega⟩
  obtain ⟨l2, rfl⟩ : ∃ k : Nat, l2 = k := ⟨l2.toNat, by omega⟩
  obtain ⟨l4, rfl⟩ : ∃ k : Nat, l4 = k := ⟨l4.toNat, by omega⟩
  obtain ⟨l5, rfl⟩ : ∃ k : Nat, l5 = k := ⟨l5.toNat, by omega⟩
  obtain ⟨l6, rfl⟩ : ∃ k : Nat, l6 = k := ⟨l6.toNat, by omega⟩
  cases l3 with
  | false =>
    obtain ⟨e4, e5⟩ := e rfl
    obtain rfl : l4 = 0 := by omega
    obtain rfl : l5 = 0 := by omega
    exact wletter_false l1 l2 l6 (by omega) (by omega) (by omega) (wbs ⟨l1, l2, false, (0 : Nat), (0 : Nat), l6⟩) (by unfold wbs; simp) _ rfl u hc
  | true => exact wletter_true l1 l2 l6 l4 l5 (by omega) (by omega) (by omega) (by omega) (by omega) (wbs ⟨l1, l2, true, l4, l5, l6⟩) (by unfold wbs; simp) _ rfl u hc
end Go.Proofs.Ytfmaoblhoafnhaj
