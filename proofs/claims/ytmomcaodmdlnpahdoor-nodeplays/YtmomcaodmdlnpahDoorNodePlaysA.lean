/- The ways through the law NodePlays. -/
import Derived.Test.YtmomcaodmdlnpahDoorNodePlaysS
import Derived.Test.YtmomcaodmdlnpahDoorTold
namespace Go.Proofs.YtmomcaodmdlnpahDoor.nodePlays
open Go.ChangeShapes Go.WideShapes Go.ChangeAt Go.RowKit Go.Joins Go.Proofs.YtmomcaodmdlnpahDoor.told
set_option linter.unusedVariables false
set_option linter.unusedSimpArgs false

theorem error_c (f : Int) (w : World) (he : EnvE w) : Calls Tryd.prog 9 #[errc f, .int .i64 f] w fun e w' => e = .returned (.bool true) ∧ Below w.heap.size w w' := error_same f w he
set_option maxRecDepth 100000 in
set_option maxHeartbeats 8000000 in
theorem bad (id n p : Int) (la : Option Addr) (ln lc : Nat) (lq : Nat → Lt) (ha : Option Addr) (hn hc : Nat) (hz : Nat → Int) (w : World) (he : EnvE w) (C : NpE w) (wi : In64 id) (wn : In64 n) (wp : In64 p) (hb : n < 1 ∨ 6 < n ∨ id < 0 ∨ n ≤ id ∨ p < 0 ∨ 1000 < p) :
    Calls Tryd.prog 6 #[.int .i64 id, .int .i64 n, .int .i64 p, .slice la ln lc, .slice ha hn hc] w fun o w' => o = .returned (.bool true) ∧ Below w.heap.size w w' := by
  have cN := C.bad id n p w (Below.refl _ _) wi wn wp hb
  have cE := fun (u : World) (hu : Below w.heap.size w u) => error_c 1 u (he.below hu)
  have hc2 : n < 1 ∨ (¬ n < 1 ∧ 6 < n) ∨ (¬ n < 1 ∧ ¬ 6 < n ∧ id < 0) ∨ (¬ n < 1 ∧ ¬ 6 < n ∧ ¬ id < 0 ∧ n ≤ id) ∨ (¬ n < 1 ∧ ¬ 6 < n ∧ ¬ id < 0 ∧ ¬ n ≤ id ∧ p < 0) ∨ (¬ n < 1 ∧ ¬ 6 < n ∧ ¬ id < 0 ∧ ¬ n ≤ id ∧ ¬ p < 0 ∧ 1000 < p) := by omega
  clear wi wn wp hb he
  rcases hc2 with d1 | ⟨d1, d2⟩ | ⟨d1, d2, d3⟩ | ⟨d1, d2, d3, d4⟩ | ⟨d1, d2, d3, d4, d5⟩ | ⟨d1, d2, d3, d4, d5, d6⟩
  all_goals
    go_enter Tryd.func6, Tryd.ntmps6
    go_wp2_with (first
      | (go_at_call 19; refine cN.mono ?_; rintro o u1 ⟨pv, rfl, hb⟩; have B1 : Hid (Below w.heap.size w u1) := hb; clear hb)
      | (go_at_call 9; refine (cE _ B1.out).mono ?_; rintro o u2 ⟨rfl, hb⟩; have B2 : Hid (Below w.heap.size w u2) := rbel_on hb B1.out; clear hb))
    go_ret
    exact ⟨rfl, B2.out⟩
set_option maxRecDepth 100000 in
set_option maxHeartbeats 8000000 in
theorem good (id n : Nat) (p : Int) (la : Option Addr) (ln lc : Nat) (lq : Nat → Lt) (ha : Option Addr) (hn hc : Nat) (hz : Nat → Int) (w : World) (he : EnvE w) (C : NpE w) (h1 : id < n) (h2 : n ≤ 6) (h3 : 0 ≤ p) (h4 : p ≤ 1000) (hL : LnHanded w la ln lq) (hH : NHanded w ha hn hz) (hHi : ∀ j, j < hn → In64 (hz j)) :
    Calls Tryd.prog 6 #[.int .i64 id, .int .i64 n, .int .i64 p, .slice la ln lc, .slice ha hn hc] w fun o w' => o = .returned (.bool true) ∧ Below w.heap.size w w' := by
  have cN := C.new id n p w (Below.refl _ _) h1 h2 h3 h4
  have cE0 := fun (u : World) (hu : Below w.heap.size w u) => error_same 0 u (he.below hu)
  have cE := fun (u : World) (hu : Below w.heap.size w u) (e : Int) => error_c e u (he.below hu)
  have HI0 : Hid (Nd.made id n p).I := Nd.made_i h1 h2 h3 h4
  have HL : Hid (ln = 0 ∨ ∃ b off : Nat, la = some ⟨b, off, none⟩ ∧ Lns w b off ln lq) := hL.2
  have HH : Hid (hn = 0 ∨ ∃ b off : Nat, ha = some ⟨b, off, none⟩ ∧ Nrd w b off hn hz) := hH.2
  have HHI : Hid (∀ j, j < hn → In64 (hz j)) := hHi
  have nl := hL.1
  have nh := hH.1
  have d1 : ¬ ((n : Int) < 1) := by omega
  have d2 : ¬ (6 < (n : Int)) := by omega
  have d3 : ¬ ((id : Int) < 0) := by omega
  have d4 : ¬ ((n : Int) ≤ (id : Int)) := by omega
  have d5 : ¬ (p < 0) := by omega
  have d6 : ¬ (1000 < p) := by omega
  clear hL hH hHi he h1 h2 h3 h4
  go_enter Tryd.func6, Tryd.ntmps6
  go_wp2_with (first
    | (go_at_call 19; refine cN.mono ?_; rintro o u1 ⟨b, F, rfl, hR, hb, hF⟩; have B1 : Hid (Below w.heap.size w u1) := hb; have R1 : Hid (C.R u1 b F (Nd.made id n p)) := hR; have F1 : Hid (∀ k, F k → w.heap.size ≤ k) := hF; clear hb hR hF)
    | (go_at_call 9; refine (cE0 _ B1.out).mono ?_; rintro o u2 ⟨rfl, hb⟩; have B2 : Hid (Below w.heap.size w u2) := rbel_on hb B1.out; have R2 : Hid (C.R u2 b F (Nd.made id n p)) := C.on R1.out hb.size (fun k hk => hb.block k (C.lt R1.out k hk)); clear hb))
  have N0 : Hid (Ns w C.toNp (u2.alloc (.cells #[.int .i64 id, .int .i64 n, .int .i64 p, .int .i64 (-1), .bool false, .bool false, .bool false, .bool false, .bool false, .bool false, .int .i64 0, .int .i64 0, .int .i64 0, .int .i64 0, .int .i64 0, .int .i64 0, .int .i64 0, .int .i64 0, .int .i64 0, .int .i64 0, .int .i64 0, .int .i64 0, .int .i64 0, .int .i64 0, .int .i64 0, .int .i64 0, .int .i64 0, .int .i64 0] 71)) b F (Nd.made id n p) u2.heap.size (Nd.made id n p)) := ⟨C.on R2.out (by simp) (fun k hk => Below.heap_alloc _ _ _ (C.lt R2.out k hk)), HI0.out, HI0.out, F1.out, rbel_al B2.out, RN.first, fun h => by (have := C.lt R2.out _ h; omega), B2.out.size⟩
  generalize (u2.alloc (.cells #[.int .i64 id, .int .i64 n, .int .i64 p, .int .i64 (-1), .bool false, .bool false, .bool false, .bool false, .bool false, .bool false, .int .i64 0, .int .i64 0, .int .i64 0, .int .i64 0, .int .i64 0, .int .i64 0, .int .i64 0, .int .i64 0, .int .i64 0, .int .i64 0, .int .i64 0, .int .i64 0, .int .i64 0, .int .i64 0, .int .i64 0, .int .i64 0, .int .i64 0, .int .i64 0] 71)) = u4 at *
  generalize u2.heap.size = mb at *
  clear B1 R1 F1 B2 R2 cN cE0 HI0 d1 d2 d3 d4 d5 d6
  go_loopw [16] (fun vi wr => ∃ (k : Nat) (F : Nat → Prop) (c : Nd), k ≤ ln ∧ k ≤ 40 ∧ k ≤ hn ∧ vi = .int .i64 k ∧ Ns w C.toNp wr b F c mb c) (fun vi _ => 40 - (intOf vi).toNat)
  case atStart => exact ⟨0, F, _, Nat.zero_le _, by omega, Nat.zero_le _, rfl, N0.out⟩
  case round =>
    clear N0
    clear F
    obtain ⟨k, F, c, k1, k2, k3, rfl, hN⟩ := hrel
    have HN : Hid (Ns w C.toNp wr b F c mb c) := hN
    by_cases hlt : k < ln ∧ k < 40 ∧ k < hn
    · obtain ⟨q1, q2, q3⟩ := hlt
      have g1 : (k : Int) < ln := by omega
      have g2 : (k : Int) < 40 := by omega
      have g3 : (k : Int) < hn := by omega
      obtain ⟨lb, lo, rfl, hZ⟩ : ∃ b off : Nat, la = some ⟨b, off, none⟩ ∧ Lns w b off ln lq := HL.out.resolve_left (by omega)
      obtain ⟨hb0, ho, rfl, hX⟩ : ∃ b off : Nat, ha = some ⟨b, off, none⟩ ∧ Nrd w b off hn hz := HH.out.resolve_left (by omega)
      obtain ⟨z1, z2⟩ := hZ k q1
      have z3 := hX k q3
      have z4 := HHI.out k q3
      have Z2 : Hid (lq k).In6 := z2
      have Z4 : Hid (In64 (hz k)) := z4
      have llb : lb < w.heap.size := World.block_lt_of_cell? _ _ (z1 0 _ rfl)
      have lhb : hb0 < w.heap.size := World.block_lt_of_cell? _ _ z3
      generalize lq k = l at *
      generalize hz k = t at *
      obtain ⟨l1, l2, l3, l4, l5, l6⟩ := l
      have K6 : Hid (∀ u : World, Below w.heap.size w u → u.cell? ⟨lb, lo + k * 6, none⟩ = some (.int .i64 l1) ∧ u.cell? ⟨lb, lo + k * 6 + 1, none⟩ = some (.int .i64 l2) ∧ u.cell? ⟨lb, lo + k * 6 + 2, none⟩ = some (.bool l3) ∧ u.cell? ⟨lb, lo + k * 6 + 3, none⟩ = some (.int .i64 l4) ∧ u.cell? ⟨lb, lo + k * 6 + 4, none⟩ = some (.int .i64 l5) ∧ u.cell? ⟨lb, lo + k * 6 + 5, none⟩ = some (.int .i64 l6) ∧ u.cell? ⟨hb0, ho + k, none⟩ = some (.int .i64 t)) := fun u hu => ⟨(hu.cell (p := ⟨lb, lo + k * 6, none⟩) llb).trans (z1 0 _ rfl), (hu.cell (p := ⟨lb, lo + k * 6 + 1, none⟩) llb).trans (z1 1 _ rfl), (hu.cell (p := ⟨lb, lo + k * 6 + 2, none⟩) llb).trans (z1 2 _ rfl), (hu.cell (p := ⟨lb, lo + k * 6 + 3, none⟩) llb).trans (z1 3 _ rfl), (hu.cell (p := ⟨lb, lo + k * 6 + 4, none⟩) llb).trans (z1 4 _ rfl), (hu.cell (p := ⟨lb, lo + k * 6 + 5, none⟩) llb).trans (z1 5 _ rfl), (hu.cell (p := ⟨hb0, ho + k, none⟩) lhb).trans z3⟩
      obtain ⟨c2, B, e, hR⟩ := hearR_some c ⟨l1, l2, l3, l4, l5, l6⟩ t
      have HR : Hid (HearR c ⟨l1, l2, l3, l4, l5, l6⟩ t c2 B e) := hR
      have I2 : Hid c2.I := hR.i hN.i
      obtain ⟨e2, hS⟩ := spR_some c2 t
      have HS : Hid (SpR c2 t e2) := hS
      have lw1 : lb < wr.heap.size := Nat.lt_of_lt_of_le llb hN.hw.size
      have lw2 : hb0 < wr.heap.size := Nat.lt_of_lt_of_le lhb hN.hw.size
      clear hZ hX z1 z2 z3 z4 hR hS hN HL HH HHI
      have a0 := (K6.out wr HN.out.hw).1
      have a1 := (K6.out wr HN.out.hw).2.1
      have a2 := (K6.out wr HN.out.hw).2.2.1
      have a3 := (K6.out wr HN.out.hw).2.2.2.1
      have a4 := (K6.out wr HN.out.hw).2.2.2.2.1
      have a5 := (K6.out wr HN.out.hw).2.2.2.2.2.1
      have a6 := (K6.out wr HN.out.hw).2.2.2.2.2.2
      go_wp2
      go_region_held (fun w' => w'.cell? ⟨lb, lo + k * 6, none⟩ = some (.int .i64 l1) ∧ w'.cell? ⟨lb, lo + k * 6 + 1, none⟩ = some (.int .i64 l2) ∧ w'.cell? ⟨lb, lo + k * 6 + 2, none⟩ = some (.bool l3) ∧ w'.cell? ⟨lb, lo + k * 6 + 3, none⟩ = some (.int .i64 l4) ∧ w'.cell? ⟨lb, lo + k * 6 + 4, none⟩ = some (.int .i64 l5) ∧ w'.cell? ⟨lb, lo + k * 6 + 5, none⟩ = some (.int .i64 l6) ∧ w'.cell? ⟨hb0, ho + k, none⟩ = some (.int .i64 t)) (go_keep) (first
        | (go_at_call 22; refine (rhear_any mb c c2 _ t e B _ (HN.out.on (rbel_dr (Below.refl _ _))).m HN.out.im HR.out).mono ?_; rintro o u1 ⟨rfl, hr, hk⟩; have N1 : Hid (Ns w C.toNp u1 b F c mb c2) := (HN.out.on (rbel_dr (Below.refl _ _))).goM hr I2.out hk; have b0 := (K6.out u1 N1.out.hw).1; have b1 := (K6.out u1 N1.out.hw).2.1; have b2 := (K6.out u1 N1.out.hw).2.2.1; have b3 := (K6.out u1 N1.out.hw).2.2.2.1; have b4 := (K6.out u1 N1.out.hw).2.2.2.2.1; have b5 := (K6.out u1 N1.out.hw).2.2.2.2.2.1; have b6 := (K6.out u1 N1.out.hw).2.2.2.2.2.2; clear hr hk))
      all_goals
        go_wp2
        go_region_held (fun w' => w'.cell? ⟨lb, lo + k * 6, none⟩ = some (.int .i64 l1) ∧ w'.cell? ⟨lb, lo + k * 6 + 1, none⟩ = some (.int .i64 l2) ∧ w'.cell? ⟨lb, lo + k * 6 + 2, none⟩ = some (.bool l3) ∧ w'.cell? ⟨lb, lo + k * 6 + 3, none⟩ = some (.int .i64 l4) ∧ w'.cell? ⟨lb, lo + k * 6 + 4, none⟩ = some (.int .i64 l5) ∧ w'.cell? ⟨lb, lo + k * 6 + 5, none⟩ = some (.int .i64 l6) ∧ w'.cell? ⟨hb0, ho + k, none⟩ = some (.int .i64 t)) (go_keep) (first
          | (go_at_call 21; refine (C.hear b F c c2 _ t e B _ (N1.out.on (rbel_dr (Below.refl _ _))).r N1.out.i Z2.out Z4.out HR.out).mono ?_; rintro o u2 ⟨F2, rfl, hr, hk, hF⟩; have N2 : Hid (Ns w C.toNp u2 b F2 c2 mb c2) := (N1.out.on (rbel_dr (Below.refl _ _))).go hr I2.out hk hF; have s0 := (K6.out u2 N2.out.hw).1; have s1 := (K6.out u2 N2.out.hw).2.1; have s2 := (K6.out u2 N2.out.hw).2.2.1; have s3 := (K6.out u2 N2.out.hw).2.2.2.1; have s4 := (K6.out u2 N2.out.hw).2.2.2.2.1; have s5 := (K6.out u2 N2.out.hw).2.2.2.2.2.1; have s6 := (K6.out u2 N2.out.hw).2.2.2.2.2.2; clear hr hk hF))
        all_goals
          go_wp2_with (first
            | (go_at_call 23; refine (rnspans_h mb c2 t e2 _ N3.out.m I2.out HS.out).mono ?_; rintro o u4 ⟨⟨sa, sc, xa, xc, rfl, hs1, hs2⟩, hb⟩; have N4 : Hid (Ns w C.toNp u4 b F2 c2 mb c2) := N3.out.on hb; have SA4 : Hid (SHanded u4 sa (nOf e2 c2.n) (c2.so t)) := hs1; have XA4 : Hid (BHanded u4 xa (nOf e2 c2.n) c2.ho) := hs2; have d6 := (K6.out _ N4.out.hw).2.2.2.2.2.2; clear hs1 hs2 hb)
            | (go_at_call 20; refine (C.spans b F2 c2 t e2 _ N4.out.r I2.out Z4.out HS.out).mono ?_; rintro o u5 ⟨⟨pa, pc, ya, yc, rfl, hs1, hs2, _⟩, hb⟩; have N5 : Hid (Ns w C.toNp u5 b F2 c2 mb c2) := N4.out.on hb; have SA5 : Hid (SHanded u5 sa (nOf e2 c2.n) (c2.so t)) := SA4.out.on hb; have XA5 : Hid (BHanded u5 xa (nOf e2 c2.n) c2.ho) := XA4.out.on hb; have PA5 : Hid (SHanded u5 pa (nOf e2 c2.n) (c2.so t)) := hs1; have YA5 : Hid (BHanded u5 ya (nOf e2 c2.n) c2.ho) := hs2; have cnt : Mark 1 := .mk _; clear hs1 hs2 hb)
            | (go_at_call 9; have cq : Mark 1 := cnt; refine (cE _ N5.out.hw e2).mono ?_; clear cq cnt; have cnt : Mark 2 := .mk _; rintro o u6 ⟨rfl, hb⟩; have N6 : Hid (Ns w C.toNp u6 b F2 c2 mb c2) := N5.out.on hb; have SA6 : Hid (SHanded u6 sa (nOf e2 c2.n) (c2.so t)) := SA5.out.on hb; have XA6 : Hid (BHanded u6 xa (nOf e2 c2.n) c2.ho) := XA5.out.on hb; have PA6 : Hid (SHanded u6 pa (nOf e2 c2.n) (c2.so t)) := PA5.out.on hb; have YA6 : Hid (BHanded u6 ya (nOf e2 c2.n) c2.ho) := YA5.out.on hb; clear hb)
            | (go_at_call 24; refine (same_spans pa sa (nOf e2 c2.n) pc sc (c2.so t) _ PA6.out SA6.out).mono ?_; rintro o u7 ⟨rfl, hb⟩; have N7 : Hid (Ns w C.toNp u7 b F2 c2 mb c2) := N6.out.on hb; have XA7 : Hid (BHanded u7 xa (nOf e2 c2.n) c2.ho) := XA6.out.on hb; have YA7 : Hid (BHanded u7 ya (nOf e2 c2.n) c2.ho) := YA6.out.on hb; clear hb)
            | (go_at_call 25; refine (same_bools ya xa (nOf e2 c2.n) yc xc c2.ho _ YA7.out XA7.out).mono ?_; rintro o u8 ⟨rfl, hb⟩; have N8 : Hid (Ns w C.toNp u8 b F2 c2 mb c2) := N7.out.on hb; have f6 := (K6.out _ N8.out.hw).2.2.2.2.2.2; clear hb)
            | (go_at_call 26; refine (rnedges_at mb c2 t e2 _ N8.out.m I2.out HS.out).mono ?_; rintro o u9 ⟨⟨ea, ec, rfl, hs1, _⟩, hb⟩; have N9 : Hid (Ns w C.toNp u9 b F2 c2 mb c2) := N8.out.on hb; have EA9 : Hid (EHanded u9 ea (nOf e2 (c2.eo t).length) (egf (c2.eo t))) := hs1; have h6 := (K6.out _ N9.out.hw).2.2.2.2.2.2; clear hs1 hb)
            | (go_at_call 27; refine (C.edges b F2 c2 t e2 _ N9.out.r I2.out Z4.out HS.out).mono ?_; rintro o v1 ⟨⟨ga, gc, rfl, hs1⟩, hb⟩; have M1 : Hid (Ns w C.toNp v1 b F2 c2 mb c2) := N9.out.on hb; have EB1 : Hid (EHanded v1 ea (nOf e2 (c2.eo t).length) (egf (c2.eo t))) := EA9.out.on hb; have GB1 : Hid (EHanded v1 ga (nOf e2 (c2.eo t).length) (egf (c2.eo t))) := hs1; clear hs1 hb)
            | (go_at_call 9; have cq : Mark 2 := cnt; refine (cE _ M1.out.hw e2).mono ?_; clear cq cnt; rintro o v2 ⟨rfl, hb⟩; have M2 : Hid (Ns w C.toNp v2 b F2 c2 mb c2) := M1.out.on hb; have EB2 : Hid (EHanded v2 ea (nOf e2 (c2.eo t).length) (egf (c2.eo t))) := EB1.out.on hb; have GB2 : Hid (EHanded v2 ga (nOf e2 (c2.eo t).length) (egf (c2.eo t))) := GB1.out.on hb; clear hb)
            | (go_at_call 28; refine (same_edges ga ea (nOf e2 (c2.eo t).length) gc ec (egf (c2.eo t)) _ GB2.out EB2.out).mono ?_; rintro o v3 ⟨rfl, hb⟩; have M3 : Hid (Ns w C.toNp v3 b F2 c2 mb c2) := M2.out.on hb; clear hb)
            | (go_at_call 9; refine (cE _ N2.out.hw e).mono ?_; rintro o u3 ⟨rfl, hb⟩; have N3 : Hid (Ns w C.toNp u3 b F2 c2 mb c2) := N2.out.on hb; have r6 := (K6.out _ N3.out.hw).2.2.2.2.2.2; clear hb))
          go_roundw
          case rel => exact ⟨k + 1, F2, c2, by omega, by omega, by omega, by go_num, M3.out⟩
          case measure => simp [intOf]; omega
    · have hc2 : ¬ ((k : Int) < ln) ∨ ((k : Int) < ln ∧ ¬ ((k : Int) < 40)) ∨ ((k : Int) < ln ∧ (k : Int) < 40 ∧ ¬ ((k : Int) < hn)) := by omega
      clear hN hlt
      rcases hc2 with a | ⟨a, a2⟩ | ⟨a, a2, a3⟩
      all_goals
        go_wp2
        go_ret
        exact ⟨rfl, HN.out.hw⟩
theorem all_ways (id n p : Int) (la : Option Addr) (ln lc : Nat) (lq : Nat → Lt) (ha : Option Addr) (hn hc : Nat) (hz : Nat → Int) (w : World) (he : EnvE w) (C : NpE w) (wi : In64 id) (wn : In64 n) (wp : In64 p) (hL : LnHanded w la ln lq) (hH : NHanded w ha hn hz) (hHi : ∀ j, j < hn → In64 (hz j)) :
    Calls Tryd.prog 6 #[.int .i64 id, .int .i64 n, .int .i64 p, .slice la ln lc, .slice ha hn hc] w fun o w' => o = .returned (.bool true) ∧ Below w.heap.size w w' := by
  by_cases hb : n < 1 ∨ 6 < n ∨ id < 0 ∨ n ≤ id ∨ p < 0 ∨ 1000 < p
  · exact bad id n p la ln lc lq ha hn hc hz w he C wi wn wp hb
  · obtain ⟨i, rfl⟩ : ∃ i : Nat, id = i := ⟨id.toNat, by omega⟩
    obtain ⟨m, rfl⟩ : ∃ m : Nat, n = m := ⟨n.toNat, by omega⟩
    exact good i m p la ln lc lq ha hn hc hz w he C (by omega) (by omega) (by omega) (by omega) hL hH hHi
end Go.Proofs.YtmomcaodmdlnpahDoor.nodePlays
