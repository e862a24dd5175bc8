/- What the document's own reckoning (package noonref2) answers of bounds: Bounds. -/
import Derived.Test.YtadkgnbagmnkkakGreatDoorBoundsTight
import Derived.Test.YtadkgnbagmnkkakGreatDoorNm06
import Derived.Test.YtadkgnbagmnkkakGreatDoorNm28
import Derived.Test.YtadkgnbagmnkkakGreatDoorNm26
import Derived.Test.YtadkgnbagmnkkakGreatDoorNm05
import Derived.Lib.SmallJoins
import Derived.BigRegion
namespace Go.Proofs.YtadkgnbagmnkkakGreatDoor
open Go.ChangeShapes Go.WideShapes Go.ChangeAt Go.RowKit Go.Joins
set_option linter.unusedVariables false
set_option linter.unusedSimpArgs false

structure RwS (u : World) (s i n : Nat) (f : Nat → Int × Int) : Prop where
 a : ∀ j, j < n → u.cell? ⟨s, j * 2, none⟩ = some (.int .i64 (if j < i then (f j).1 else 0))
 b : ∀ j, j < n → u.cell? ⟨s, j * 2 + 1, none⟩ = some (.int .i64 (if j < i then (f j).2 else 0))
 fz : ∀ j, u.frozen? ⟨s, j, none⟩ = false
section
variable {u u' : World} {s i n : Nat} {f : Nat → Int × Int}
theorem RwS.block (h1 : u'.heap[s]? = u.heap[s]?) (h : RwS u s i n f) : RwS u' s i n f := by
 have e1 : ∀ j, u'.cell? ⟨s, j, none⟩ = u.cell? ⟨s, j, none⟩ := fun j => World.cell?_of_block (w := u) (a := ⟨s, j, none⟩) h1
 exact ⟨fun j hj => by rw [e1]; exact h.a j hj, fun j hj => by rw [e1]; exact h.b j hj, fun j => (World.frozen?_of_block (w := u) (a := ⟨s, j, none⟩) h1).trans (h.fz j)⟩
theorem RwS.lt (h0 : 0 < n) (h : RwS u s i n f) : s < u.heap.size := World.block_lt_of_cell? _ _ (h.a 0 h0)
theorem RwS.on (h0 : 0 < n) (hb : Below u.heap.size u u') (h : RwS u s i n f) : RwS u' s i n f := h.block (hb.block s (h.lt h0))
theorem RwS.skip (e : f i = (0, 0)) (h : RwS u s i n f) : RwS u s (i + 1) n f := by
 refine ⟨fun j hj => ?_, fun j hj => ?_, h.fz⟩
 ·rw [h.a j hj]
  by_cases q : j = i
  ·subst q; rw [if_neg (by omega), if_pos (by omega), e]
  ·by_cases r : j < i
   ·rw [if_pos r, if_pos (by omega)]
   ·rw [if_neg r, if_neg (by omega)]
 ·rw [h.b j hj]
  by_cases q : j = i
  ·subst q; rw [if_neg (by omega), if_pos (by omega), e]
  ·by_cases r : j < i
   ·rw [if_pos r, if_pos (by omega)]
   ·rw [if_neg r, if_neg (by omega)]
theorem RwS.put {lo hi : Int} (hi' : i < n) (hs : f i = (lo, hi)) (h : RwS u s i n f) : RwS ((u.setCell ⟨s, i * 2, none⟩ (.int .i64 lo)).setCell ⟨s, i * 2 + 1, none⟩ (.int .i64 hi)) s (i + 1) n f := by
 have c1 := h.a i hi'
 have c2 : (u.setCell ⟨s, i * 2, none⟩ (.int .i64 lo)).cell? ⟨s, i * 2 + 1, none⟩ = some (.int .i64 (if i < i then (f i).2 else 0)) := by rw [cell_put c1, if_neg (by omega)]; exact h.b i hi'
 have e1 : ∀ j, ((u.setCell ⟨s, i * 2, none⟩ (.int .i64 lo)).setCell ⟨s, i * 2 + 1, none⟩ (.int .i64 hi)).cell? ⟨s, j, none⟩ = if j = i * 2 + 1 then some (.int .i64 hi) else if j = i * 2 then some (.int .i64 lo) else u.cell? ⟨s, j, none⟩ := fun j => by
  rw [cell_put c2, cell_put c1]
 refine ⟨fun j hj => ?_, fun j hj => ?_, fun j => by simp only [World.frozen?_setCell]; exact h.fz j⟩
 ·rw [e1, if_neg (by omega)]
  by_cases q : j = i
  ·subst q; rw [if_pos rfl, if_pos (by omega), hs]
  ·rw [if_neg (by omega), h.a j hj]
   by_cases r : j < i
   ·rw [if_pos r, if_pos (by omega)]
   ·rw [if_neg r, if_neg (by omega)]
 ·rw [e1]
  by_cases q : j = i
  ·subst q; rw [if_pos rfl, if_pos (by omega), hs]
  ·rw [if_neg (by omega), if_neg (by omega), h.b j hj]
   by_cases r : j < i
   ·rw [if_pos r, if_pos (by omega)]
   ·rw [if_neg r, if_neg (by omega)]
theorem RwS.start (u : World) (n : Nat) (f : Nat → Int × Int) : RwS (u.alloc (.cells (List.replicate (n * 2) (Value.int .i64 0)).toArray 34)) u.heap.size 0 n f := by
 have ra : Row (u.alloc (.cells (List.replicate (n * 2) (Value.int .i64 0)).toArray 34)) u.heap.size (List.replicate (n * 2) (Value.int .i64 0)) := Row.made rfl
 refine ⟨fun j hj => ?_, fun j hj => ?_, fun j => World.frozen?_alloc_at _ _ _ _ rfl⟩
 ·rw [if_neg (by omega)]; exact ra.c _ _ (by rw [List.getElem?_replicate, if_pos (by omega)])
 ·rw [if_neg (by omega)]; exact ra.c _ _ (by rw [List.getElem?_replicate, if_pos (by omega)])
theorem RwS.start' (u : World) (n : Nat) (f : Nat → Int × Int) : RwS (u.alloc (.cells (Array.replicate (n * 2) (Value.int .i64 0)) 34)) u.heap.size 0 n f := by
 have := RwS.start u n f
 rwa [List.toArray_replicate] at this
theorem RwS.far {a k : Nat} {x : Value} (hne : s ≠ a) (h : RwS u s i n f) : RwS (u.setCell ⟨a, k, none⟩ x) s i n f := h.block (Deep.blk_setCell_other u ⟨a, k, none⟩ x s hne)
end
def rcs (n : Nat) (Rb : Nat → Nat) : Nat → List Value
 | 0 => []
 | k + 1 => rcs n Rb k ++ [.slice (some ⟨Rb k, 0, none⟩) n n]
theorem rcs_len (n : Nat) (Rb : Nat → Nat) : ∀ k, (rcs n Rb k).length = k
 | 0 => rfl
 | k + 1 => by simp [rcs, rcs_len n Rb k]
theorem rcs_at (n : Nat) (Rb : Nat → Nat) : ∀ {k i : Nat}, i < k → (rcs n Rb k)[i]? = some (.slice (some ⟨Rb i, 0, none⟩) n n)
 | 0, i, h => by omega
 | k + 1, i, h => by
  simp only [rcs]
  by_cases c : i = k
  ·subst c
   rw [List.getElem?_append_right (by rw [rcs_len]; omega), rcs_len]
   simp
  ·rw [List.getElem?_append_left (by rw [rcs_len]; omega)]
   exact rcs_at n Rb (by omega)
theorem rcs_congr {n : Nat} {Rb Rb' : Nat → Nat} : ∀ k, (∀ i, i < k → Rb i = Rb' i) → rcs n Rb k = rcs n Rb' k
 | 0, _ => rfl
 | k + 1, h => by simp only [rcs]; rw [rcs_congr k (fun i hi => h i (by omega)), h k (by omega)]
theorem infoSpans : (Tryz.prog.info? 128).map (fun i => (i.zero, i.size, i.bytes)) = some (some (.slice none 0 0), 1, 24) := by kernel_rfl
def tT (T : Tb) (a b : Nat) : Int × Int := (spLo T a b, spHi T a b)
structure BnS (u1 wr : World) (n k : Nat) (T : Tb) (v : Value) (Rb : Nat → Nat) : Prop where
 o : wr.ownsRow u1.heap.size 128 1 v k (rcs n Rb k)
 r : ∀ i, i < k → RwS wr (Rb i) n n (tT T i)
 lo : ∀ i, i < k → u1.heap.size ≤ Rb i
 nv : ∀ i, i < k → v.ownBlock ≠ some (Rb i)
 hw : Below u1.heap.size u1 wr
theorem BnS.on {u1 W u : World} {n k : Nat} {T : Tb} {v : Value} {Rb : Nat → Nat} (h0 : 0 < n) (hb : Below W.heap.size W u) (h : BnS u1 W n k T v Rb) : BnS u1 u n k T v Rb := ⟨own_onN hb h.o, fun i hi => (h.r i hi).on h0 hb, h.lo, h.nv, rbel_on hb h.hw⟩
theorem RwS.dr {u : World} {s i n : Nat} {f : Nat → Int × Int} (h : RwS u s i n f) : RwS u.drew s i n f := ⟨h.a, h.b, h.fz⟩
theorem BnS.put {u1 W : World} {n k : Nat} {T : Tb} {v : Value} {Rb : Nat → Nat} {rb i : Nat} {x : Value} (h1 : ∀ i, i < k → Rb i ≠ rb) (h2 : v.ownBlock ≠ some rb) (h3 : u1.heap.size ≤ rb) (h : BnS u1 W n k T v Rb) : BnS u1 (W.setCell ⟨rb, i, none⟩ x) n k T v Rb :=
 ⟨ownsRow_setCell_other h.o (a := ⟨rb, i, none⟩) h2 x, fun j hj => (h.r j hj).far (h1 j hj), h.lo, h.nv, rbel_put h3 h.hw⟩
theorem BnS.dr {u1 W : World} {n k : Nat} {T : Tb} {v : Value} {Rb : Nat → Nat} (h : BnS u1 W n k T v Rb) : BnS u1 W.drew n k T v Rb := ⟨own_onN (rbel_dr (Below.refl _ _)) h.o, fun j hj => (h.r j hj).dr, h.lo, h.nv, rbel_dr h.hw⟩
structure TbC (u : World) (gd gh n : Nat) (Db Hb : Nat → Nat) (T : Tb) : Prop where
 outD : ∀ i, i < n → u.cell? ⟨gd, i, none⟩ = some (.slice (some ⟨Db i, 0, none⟩) n n)
 outH : ∀ i, i < n → u.cell? ⟨gh, i, none⟩ = some (.slice (some ⟨Hb i, 0, none⟩) n n)
 inD : ∀ i k, i < n → k < n → u.cell? ⟨Db i, k, none⟩ = some (.int .i64 ((T i k).getD 0))
 inH : ∀ i k, i < n → k < n → u.cell? ⟨Hb i, k, none⟩ = some (.bool (T i k).isSome)
theorem TbC.on {W u : World} {gd gh n : Nat} {Db Hb : Nat → Nat} {T : Tb} (hb : Below W.heap.size W u) (h : TbC W gd gh n Db Hb T) : TbC u gd gh n Db Hb T := by
 have on : ∀ (a : Addr) (v : Value), W.cell? a = some v → u.cell? a = some v := fun a v e => by rw [hb.cell (World.block_lt_of_cell? _ _ e)]; exact e
 exact ⟨fun i hi => on _ _ (h.outD i hi), fun i hi => on _ _ (h.outH i hi), fun i k hi hk => on _ _ (h.inD i k hi hk), fun i k hi hk => on _ _ (h.inH i k hi hk)⟩
set_option maxRecDepth 100000 in
set_option maxHeartbeats 16000000 in
theorem rbounds_at (n : Nat) (a : Option Addr) (m cap : Nat) (q : Nat → Eg) (w : World) (hE : Egs n q m) (hH : EHanded w a m q) (T : Tb) (hA : AllA q m n 0 T) :
  Calls Tryz.prog 47 #[.int .i64 n, .slice a m cap] w fun o w' => ∃ s h, o = .returned (.tuple #[s, h, .int .i64 0]) ∧ STab w' s h n T ∧ Below w.heap.size w w' := by
 have h1 : 1 ≤ n := by have := hE.n1; omega
 have h6 : n ≤ 6 := by have := hE.n6; omega
 have h0 : 0 < n := by omega
 have nn : ¬ Neg (Arc q m) n := by
  rcases hA with ⟨_, c⟩ | ⟨g, _⟩
  ·cases c
  ·exact g
 obtain ⟨hT, nf⟩ : IsT q m n T ∧ ¬ Far n T := by
  rcases hA with ⟨_, c⟩ | ⟨_, t, ⟨_, c⟩ | ⟨f, _⟩⟩
  ·cases c
  ·cases c
  ·exact ⟨t, f⟩
 have cT : Calls Tryz.prog 79 #[.int .i64 n, .slice a m cap] w fun o w' => ∃ (gd cd gh ch : Nat) (Db Hb : Nat → Nat), o = .returned (.tuple #[.slice (some ⟨gd, 0, none⟩) n cd, .slice (some ⟨gh, 0, none⟩) n ch, .bool true]) ∧ TbC w' gd gh n Db Hb T ∧ Below w.heap.size w w' := (rtight_any n a m cap q w hE hH).mono (by
  rintro o w' ⟨⟨g, _⟩ | ⟨_, gd, cd, gh, ch, Db, Hb, S, e, t, s⟩, hb⟩
  ·exact absurd g nn
  ·have sm : ∀ i, i < n → ∀ k, S i k = T i k := fun i hi k => IsT.one (q := q) (m := m) (n := n) (fun i k hi => s i k hi) hT hi k
   refine ⟨gd, cd, gh, ch, Db, Hb, e, ⟨t.outD, t.outH, fun i k hi hk => ?_, fun i k hi hk => ?_⟩, hb⟩
   ·rw [← sm i hi k]; exact (t.inD i hi).c k _ (rowD_at S n i k hk)
   ·rw [← sm i hi k]; exact (t.inH i hi).c k _ (rowH_at S n i k hk))
 have HT : Hid (∀ i k x, i < n → k < n → T i k = some x → ∃ y, T k i = some y ∧ tT T i k = (-y, x) ∧ -1000000000000 ≤ x ∧ x ≤ 1000000000000 ∧ -1000000000000 ≤ y ∧ y ≤ 1000000000000) := fun i k x hi hk e => by
  obtain ⟨y, e'⟩ := hT.back hi hk e
  have f1 := not_far nf hi hk e
  have f2 := not_far nf hk hi e'
  refine ⟨y, e', ?_, f1.1, f1.2, f2.1, f2.2⟩
  unfold tT spLo spHi
  rw [e, e']
  rfl
 have HN : Hid (∀ i k, T i k = none → tT T i k = (0, 0)) := fun i k e => by unfold tT spLo spHi; rw [e]; rfl
 obtain ⟨i0, hi0, hz0, hz1, hz2⟩ := info_parts infoSpans
 have m1 := nmk_spans n h6
 clear hE hH hA nn hT nf
 go_enter Tryz.func47, Tryz.ntmps47
 go_wp2_with (go_at_call 79; refine cT.mono ?_; rintro o u1 ⟨gd, cd, gh, ch, Db, Hb, rfl, ht, hb⟩; have B1 : Hid (Below w.heap.size w u1) := hb; have C1 : Hid (TbC u1 gd gh n Db Hb T) := ht; clear ht hb)
 go_loopw [10, 11, 12, 13, 14, 15] (fun vo va _ _ _ _ wr => ∃ (k : Nat) (Rb : Nat → Nat), k ≤ n ∧ va = .int .i64 k ∧ BnS u1 wr n k T vo Rb) (fun _ va _ _ _ _ _ => n - (intOf va).toNat)
 case atStart => exact ⟨0, fun _ => 0, Nat.zero_le _, rfl, ⟨World.ownsRow_nil _ _ _ _, fun i hi => by omega, fun i hi => by omega, fun i hi => by omega, Below.refl _ _⟩⟩
 case round =>
  obtain ⟨k, Rb, hk, rfl, hB⟩ := hrel
  have HB : Hid (BnS u1 wr n k T u10 Rb) := hB
  have zz := hB.hw.size
  by_cases hlt : k < n
  ·have hl : (k : Int) < n := by omega
   have HBA : Hid (BnS u1 (wr.alloc (.cells (Array.replicate (n * 2) (Value.int .i64 0)) 34)) n k T u10 Rb) := hB.on h0 (rbel_al (Below.refl _ _))
   have HRA : Hid (RwS (wr.alloc (.cells (Array.replicate (n * 2) (Value.int .i64 0)) 34)) wr.heap.size 0 n (tT T k)) := RwS.start' wr n (tT T k)
   have NR : Hid (∀ i, i < k → Rb i ≠ wr.heap.size) := fun i hi => by have := (hB.r i hi).lt h0; omega
   have NV : Hid (u10.ownBlock ≠ some wr.heap.size) := fun e => by have := (hB.o.lt _ e).2; omega
   have LB : Hid (u1.heap.size ≤ wr.heap.size) := zz
   clear hB HB
   go_wp2
   generalize wr.alloc (.cells (Array.replicate (n * 2) (Value.int .i64 0)) 34) = WA at *
   generalize wr.heap.size = rb at *
   go_loopw [13, 14, 15] (fun vb _ _ wr => ∃ b : Nat, b ≤ n ∧ vb = .int .i64 b ∧ RwS wr rb b n (tT T k) ∧ BnS u1 wr n k T u10 Rb) (fun vb _ _ _ => n - (intOf vb).toNat)
   case atStart => exact ⟨0, Nat.zero_le _, rfl, HRA.out, HBA.out⟩
   case round =>
    clear HRA HBA
    obtain ⟨b, hbn, rfl, hR, hB⟩ := hrel
    have HR : Hid (RwS wr rb b n (tT T k)) := hR
    have HB : Hid (BnS u1 wr n k T u10 Rb) := hB
    have C2 : Hid (TbC wr gd gh n Db Hb T) := C1.out.on hB.hw
    by_cases hlb : b < n
    ·have hl2 : (b : Int) < n := by omega
     have o1 := C2.out.outH k hlt
     have o2 := C2.out.inH k b hlt hlb
     have z1 := World.block_lt_of_cell? _ _ o1
     have z2 := World.block_lt_of_cell? _ _ o2
     cases e : T k b with
     | none =>
      rw [e] at o2
      have hs := HN.out k b e
      clear hR hB
      go_wp2
      go_roundw
      case rel => exact ⟨b + 1, by omega, by go_num, HR.out.skip hs, HB.out⟩
      case measure => simp [intOf]; omega
     | some x =>
      rw [e] at o2
      obtain ⟨y, e', hs, f1, f2, f3, f4⟩ := HT.out k b x hlt hlb e
      have p1 := C2.out.outD b hlb
      have p2 := C2.out.inD b k hlb hlt
      have p3 := C2.out.outD k hlt
      have p4 := C2.out.inD k b hlt hlb
      rw [e'] at p2
      rw [e] at p4
      have z3 := World.block_lt_of_cell? _ _ p1
      have z4 := World.block_lt_of_cell? _ _ p2
      have z5 := World.block_lt_of_cell? _ _ p4
      have r1 := HR.out.a b hlb
      have r2 := HR.out.b b hlb
      have r3 := HR.out.fz (b * 2)
      have r4 := HR.out.fz (b * 2 + 1)
      have z6 := HR.out.lt h0
      have wn : IntKind.i64.wrap (-y) = -y := IntWalk.i64_in _ (by omega)
      have cV1 : Hid (∀ u, Calls Tryz.prog 80 #[.int .i64 (-y)] u fun e w' => e = .returned (.bool true) ∧ w' = u) := fun u => rtime_yes _ u (by omega) (by omega)
      have cV2 : Hid (∀ u, Calls Tryz.prog 80 #[.int .i64 x] u fun e w' => e = .returned (.bool true) ∧ w' = u) := fun u => rtime_yes _ u (by omega) (by omega)
      simp only [Option.getD_some] at p2 p4
      simp only [Option.isSome_some] at o2
      clear hR hB
      go_wp2
      go_region
      have RX : Hid (RwS ((wr.setCell ⟨rb, b * 2, none⟩ (.int .i64 (-y))).setCell ⟨rb, b * 2 + 1, none⟩ (.int .i64 x)).drew rb (b + 1) n (tT T k)) := (HR.out.put hlb hs).dr
      have BX : Hid (BnS u1 ((wr.setCell ⟨rb, b * 2, none⟩ (.int .i64 (-y))).setCell ⟨rb, b * 2 + 1, none⟩ (.int .i64 x)).drew n k T u10 Rb) := (BnS.put NR.out NV.out LB.out (BnS.put NR.out NV.out LB.out HB.out)).dr
      generalize ((wr.setCell ⟨rb, b * 2, none⟩ (.int .i64 (-y))).setCell ⟨rb, b * 2 + 1, none⟩ (.int .i64 x)).drew = X at *
      have t1 := RX.out.a b hlb
      have t2 := RX.out.b b hlb
      rw [if_pos (by omega), hs] at t1 t2
      have z7 := RX.out.lt h0
      clear o1 o2 z1 z2 z3 z4 z5 z6 p1 p2 p3 p4 r1 r2 r3 r4 C2 HR HB e e' hs
      clear wr
      have cnt : Mark 0 := .mk _
      go_wp2_with (first
       | (go_at_call 80; have cq : Mark 0 := cnt; refine (cV1.out _).mono ?_; clear cq cnt; rintro e v ⟨rfl, hv⟩; rw [hv]; clear hv; have cnt : Mark 1 := .mk _)
       | (go_at_call 80; have cq : Mark 1 := cnt; refine (cV2.out _).mono ?_; clear cq cnt; rintro e v ⟨rfl, hv⟩; rw [hv]; clear hv; have cnt : Mark 2 := .mk _))
      go_roundw
      case rel => exact ⟨b + 1, by omega, by go_num, RX.out, BX.out⟩
      case measure => simp [intOf]; omega
    ·have hl2 : ¬ ((b : Int) < n) := by omega
     obtain rfl : b = n := by omega
     have HL : Hid (∀ g, u10.ownBlock = some g → u1.heap.size ≤ g) := fun g hg => (hB.o.lt g hg).1
     have HX : Hid (rcs b (fun i => if i = k then rb else Rb i) (k + 1) = rcs b Rb k ++ [.slice (some ⟨rb, 0, none⟩) b b]) := by
      show rcs b _ k ++ [.slice (some ⟨if k = k then rb else Rb k, 0, none⟩) b b] = _
      rw [rcs_congr (Rb' := Rb) k (fun i hi => if_neg (by omega)), if_pos rfl]
     have HO : Hid (wr.ownsRow u1.heap.size 128 1 u10 k (rcs b Rb k)) := hB.o
     have zw := hB.hw.size
     clear hR hB C2
     generalize rcs b Rb k = xs at *
     go_wp2_with (at_builtin; refine wpList_append_own_at _ rfl _ _ 123 rfl u1.heap.size 128 i0 (.slice none 0 0) 1 24 Tryz.underlying123 hi0 hz0 hz1 hz2 rfl (by decide) u10 _ _ rfl (HO.out.alloc _) ⟨wr.heap.size, 0, none⟩ 1 1 [.slice (some ⟨rb, 0, none⟩) b b] rfl rfl (fun q u hq => by rw [Addr.add_lit]; exact (Row.made (W := wr) (vs := [.slice (some ⟨rb, 0, none⟩) b b]) rfl).c _ _ (by simpa using hq)) (fun u hu => by simp at hu; rw [hu]; rfl) (by unfold maxLen; omega) (by omega) (by simp; omega) ?_)
     intro v' x2 own' hgrow hnn hat
     have rlt := HR.out.lt h0
     have RX : Hid (BnS u1 x2 b (k + 1) T v' (fun i => if i = k then rb else Rb i)) := by
      have NE : ∀ g, g < wr.heap.size → u10.ownBlock ≠ some g → v'.ownBlock ≠ some g := fun g hg hv e => by
       rcases hat with h | h
       ·rw [h] at e; exact hv e
       ·rw [h] at e
        have e2 := Option.some.inj e
        try simp at e2
        omega
      refine ⟨by rw [HX.out]; exact own', fun i hi => ?_, fun i hi => ?_, fun i hi => ?_, (rbel_al HB.out.hw).grown hgrow (by simp; omega) HL.out⟩
      ·by_cases e : i = k
       ·subst e
        simp only [if_true]
        exact RwS.block (hgrow.block _ (by simp; omega) (fun q => NV.out q.symm)) (HR.out.on h0 (rbel_al (Below.refl _ _)))
       ·simp only [if_neg e]
        have hi' : i < k := by omega
        exact RwS.block (hgrow.block _ (by have := (HB.out.r i hi').lt h0; simp; omega) (fun q => HB.out.nv i hi' q.symm)) ((HB.out.r i hi').on h0 (rbel_al (Below.refl _ _)))
      ·by_cases e : i = k
       ·subst e
        simp only [if_true]
        exact LB.out
       ·simp only [if_neg e]
        exact HB.out.lo i (by omega)
      ·by_cases e : i = k
       ·subst e
        simp only [if_true]
        exact NE _ rlt NV.out
       ·simp only [if_neg e]
        have hi' : i < k := by omega
        exact NE _ ((HB.out.r i hi').lt h0) (HB.out.nv i hi')
     clear own' hgrow hnn hat HO HX HL HR HB
     go_wp2
     go_roundw
     case rel => exact ⟨k + 1, _, by omega, by go_num, RX.out⟩
     case measure => simp [intOf]; omega
  ·have hl : ¬ ((k : Int) < n) := by omega
   obtain rfl : k = n := by omega
   obtain ⟨lb, lc, rfl⟩ : ∃ lb lc, u10 = .slice (some ⟨lb, 0, none⟩) k lc := by
    rcases hB.o.2 with ⟨_, e⟩ | ⟨g', c, cur, e, _⟩
    ·omega
    ·exact ⟨g', c, e⟩
   have C2 : Hid (TbC wr gd gh k Db Hb T) := C1.out.on hB.hw
   clear hB
   go_wp2
   have fin : STab wr (.slice (some ⟨lb, 0, none⟩) k lc) (.slice (some ⟨gh, 0, none⟩) k ch) k T := by
    refine ⟨lb, 0, lc, gh, 0, ch, Rb, fun _ => 0, fun _ => k, Hb, fun _ => 0, fun _ => k, rfl, rfl, fun i hi => ⟨?_, ?_⟩, fun i j hi hj => ⟨?_, ?_, ?_⟩⟩
    ·rw [Nat.zero_add, HB.out.o.cellAt i (by omega)]
     exact rcs_at k Rb hi
    ·rw [Nat.zero_add]; exact C2.out.outH i hi
    ·have := (HB.out.r i hi).a j hj
     rw [if_pos hj] at this
     rw [Nat.zero_add]; exact this
    ·have := (HB.out.r i hi).b j hj
     rw [if_pos hj] at this
     rw [Nat.zero_add]; exact this
    ·rw [Nat.zero_add]; exact C2.out.inH i j hi hj
   exact bodyPost_ret (v := .tuple #[.slice (some ⟨lb, 0, none⟩) k lc, .slice (some ⟨gh, 0, none⟩) k ch, .int .i64 0]) (by simp [results, Tryz.results47, go_sem]) rfl ⟨_, _, rfl, fin, rbel_on HB.out.hw B1.out⟩
end Go.Proofs.YtadkgnbagmnkkakGreatDoor
