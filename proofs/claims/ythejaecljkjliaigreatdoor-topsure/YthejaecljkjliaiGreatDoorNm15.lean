/- What package loops' search does when it tries every step. slices.Reverse of a row of numbers of the call's own. What package loops' search does when it goes back. An append to a row of the call's own, and where the row lies behind it; a tree in package tree's memory. What package span answers, call by call: Check, checkBoth, checked, Add, Has. -/
import Derived.Test.YthejaecljkjliaiGreatDoorLoopsSr
import Derived.Test.YthejaecljkjliaiGreatDoorNm13
import Derived.Test.YthejaecljkjliaiGreatDoorNm02
import Derived.Lib.SmallJoins
import Derived.Deep.CutRange
import Derived.BigRegion
import Derived.IntWalk
import Derived.Deep.RegionHeld
import Derived.Test.YthejaecljkjliaiGreatDoorNm10
import Derived.Test.YthejaecljkjliaiGreatDoorTreeRep
import Derived.Deep.RegionLaw
import Derived.Test.YthejaecljkjliaiGreatDoorSpanAddC
import Derived.Deep.Draws
namespace Go.Proofs.YthejaecljkjliaiGreatDoor
open Go.ChangeShapes Go.WideShapes Go.ChangeAt Go.RowKit Go.Joins
set_option linter.unusedVariables false
set_option linter.unusedSimpArgs false

/-- The steps tried: those of the edges ahead, and of this one the first h. -/
def DnS (i h : Nat) (x : Int) : Prop := ixS x < i ∨ (ixS x = i ∧ (2 ≤ h ∨ (1 ≤ h ∧ 0 < x)))
theorem dn_one {m i : Nat} {x : Int} (h : DnS i 1 x) : DnS i 0 x ∨ x = (i : Int) + 1 := by
  rcases h with h | ⟨h, h2 | ⟨_, h2⟩⟩
  · exact Or.inl (Or.inl h)
  · omega
  · refine Or.inr ?_
    unfold ixS at h
    rw [if_pos h2] at h
    omega
theorem dn_two {i : Nat} {x : Int} (hx : x ≠ 0) (h : DnS i 2 x) : DnS i 1 x ∨ x = -((i : Int) + 1) := by
  rcases h with h | ⟨h, _⟩
  · exact Or.inl (Or.inl h)
  · by_cases c : 0 < x
    · exact Or.inl (Or.inr ⟨h, Or.inr ⟨by omega, c⟩⟩)
    · refine Or.inr ?_
      unfold ixS at h
      rw [if_neg c] at h
      omega
/-- What a try of every step does. -/
def TaR (q : Nat → Eg) (bm bb n m k : Nat) (w : World) (e : Ending) (w' : World) : Prop :=
  ∃ (M Y : Nat → Int) (mv : Int), e = .returned (.int .i64 mv) ∧ Srm w' bm bb n M Y ∧ Bf q n m k 80 (fun x => okS m x) M Y mv ∧ Keeps (Sbk bm bb) w w'
/-- The step of a place of the pair. -/
def pairS (i h : Nat) : Int := if h = 0 then (i : Int) + 1 else -((i : Int) + 1)
theorem pair_ok {m i h : Nat} (hi : i < m) : okS m (pairS i h) := by
  unfold pairS
  split
  · exact ⟨by omega, by omega, by omega⟩
  · exact ⟨by omega, by omega, by omega⟩
theorem pair_dn {m i h : Nat} (hh : h < 2) {y : Int} (hy : okS m y ∧ DnS i (h + 1) y) : (okS m y ∧ DnS i h y) ∨ y = pairS i h := by
  obtain ⟨o, d⟩ := hy
  by_cases e : h = 0
  · subst e
    rcases dn_one (m := m) d with d | d
    · exact Or.inl ⟨o, d⟩
    · exact Or.inr d
  · obtain rfl : h = 1 := by omega
    rcases dn_two o.1 d with d | d
    · exact Or.inl ⟨o, d⟩
    · exact Or.inr d
set_option maxRecDepth 100000 in
set_option maxHeartbeats 8000000 in
theorem tryAll_any (a : Option Addr) (m cap : Nat) (q : Nat → Eg) (bm bb n k : Nat) (M0 Y0 : Nat → Int) (w : World) (hE : Egs n q m) (hH : EHanded w a m q) (hne : ∀ b off, 0 < m → a = some ⟨b, off, none⟩ → ¬ Sbk bm bb b) (S0 : Srm w bm bb n M0 Y0) (hk : k < 6) (F0 : Bf q n m k 0 (fun _ => False) M0 Y0 (-1)) :
    Calls Tryz.prog 75 #[.agg #[.slice a m cap, .slice (some ⟨bm, 0, none⟩) n n, .slice (some ⟨bb, 0, none⟩) n n]] w fun e w' => TaR q bm bb n m k w e w' := by
  have h40 := hE.m40
  have l1 := S0.mB.lt
  have l2 := S0.yB.lt
  have NS : Hid (¬ Sbk bm bb w.heap.size) := fun h => by rcases h with h | h <;> omega
  have HE : Hid (Egs n q m) := hE
  have HH : Hid (EHanded w a m q) := hH
  have HN : Hid (∀ b off, 0 < m → a = some ⟨b, off, none⟩ → ¬ Sbk bm bb b) := hne
  have HS : Hid (Srm w bm bb n M0 Y0) := S0
  have HF : Hid (Bf q n m k 0 (fun _ => False) M0 Y0 (-1)) := F0
  have lt' := leg_t
  clear hE hH hne S0 F0 l1 l2
  go_enter Tryz.func75, Tryz.ntmps75
  go_wp2
  go_loopw [3, 10] (fun v vi wr => ∃ (i : Nat) (M Y : Nat → Int) (mv : Int), i ≤ m ∧ vi = .int .i64 i ∧ v = .int .i64 mv ∧ Row wr w.heap.size [.slice a m cap, .slice (some ⟨bm, 0, none⟩) n n, .slice (some ⟨bb, 0, none⟩) n n] ∧ Srm wr bm bb n M Y ∧ Bf q n m k (2 * i) (fun x => okS m x ∧ DnS i 0 x) M Y mv ∧ Keeps (Sbk bm bb) w wr) (fun _ i _ => m - (intOf i).toNat)
  case atStart => exact ⟨0, M0, Y0, -1, Nat.zero_le _, rfl, rfl, Row.made rfl, HS.out.al, HF.out.sub (Nat.le_refl _) (fun x h => by rcases h.2 with d | ⟨_, d | ⟨d, _⟩⟩ <;> omega), (Keeps.refl _ w).al⟩
  case round =>
    clear HS HF
    obtain ⟨i, M, Y, mv, hi, rfl, rfl, hR, hS, hF, hK⟩ := hrel
    have c0 := hR.c 0 _ rfl
    have c1 := hR.c 1 _ rfl
    have c2 := hR.c 2 _ rfl
    have HR : Hid (Row wr w.heap.size [.slice a m cap, .slice (some ⟨bm, 0, none⟩) n n, .slice (some ⟨bb, 0, none⟩) n n]) := hR
    have HS : Hid (Srm wr bm bb n M Y) := hS
    have HF : Hid (Bf q n m k (2 * i) (fun x => okS m x ∧ DnS i 0 x) M Y mv) := hF
    have HK : Hid (Keeps (Sbk bm bb) w wr) := hK
    clear hR hS hF hK
    by_cases hlt : i < m
    · have hl3 : (i : Int) < m := by omega
      obtain ⟨p, hp⟩ : ∃ p : Int, p = (i : Int) + 1 := ⟨_, rfl⟩
      obtain ⟨r, hr⟩ : ∃ r : Int, r = -((i : Int) + 1) := ⟨_, rfl⟩
      have w1 : IntKind.i64.wrap ((i : Int) + 1) = p := by rw [hp]; exact IntWalk.i64_in _ (by omega)
      have w2 : IntKind.i64.wrap (-p) = r := by rw [hp, hr]; exact IntWalk.i64_in _ (by omega)
      have HP : Hid (∀ h, h < 2 → pairS i h = if h = 0 then p else r) := fun h hh => by unfold pairS; rw [hp, hr]
      have ix0 : ∀ u, (Instr.index 195 (.agg #[.int .i64 p, .int .i64 r]) (.int .i64 0)).run Tryz.prog u = .ok (.int .i64 p) u := fun _ => by kernel_rfl
      have ix1 : ∀ u, (Instr.index 195 (.agg #[.int .i64 p, .int .i64 r]) (.int .i64 1)).run Tryz.prog u = .ok (.int .i64 r) u := fun _ => by kernel_rfl
      clear hp hr
      go_wp2
      go_loopw [3, 19] (fun v vh wr => ∃ (h : Nat) (M Y : Nat → Int) (mv : Int), h ≤ 2 ∧ vh = .int .i64 h ∧ v = .int .i64 mv ∧ Row wr w.heap.size [.slice a m cap, .slice (some ⟨bm, 0, none⟩) n n, .slice (some ⟨bb, 0, none⟩) n n] ∧ Srm wr bm bb n M Y ∧ Bf q n m k (2 * i + h) (fun x => okS m x ∧ DnS i h x) M Y mv ∧ Keeps (Sbk bm bb) w wr) (fun _ h _ => 2 - (intOf h).toNat)
      case atStart => exact ⟨0, M, Y, mv, by omega, rfl, rfl, HR.out, HS.out, HF.out, HK.out⟩
      case round =>
        clear HR HS HF HK c0 c1 c2
        obtain ⟨h, M, Y, mv, hh, rfl, rfl, hR, hS, hF, hK⟩ := hrel
        have c0 := hR.c 0 _ rfl
        have c1 := hR.c 1 _ rfl
        have c2 := hR.c 2 _ rfl
        have HR : Hid (Row wr w.heap.size [.slice a m cap, .slice (some ⟨bm, 0, none⟩) n n, .slice (some ⟨bb, 0, none⟩) n n]) := hR
        have HS : Hid (Srm wr bm bb n M Y) := hS
        have HF : Hid (Bf q n m k (2 * i + h) (fun x => okS m x ∧ DnS i h x) M Y mv) := hF
        have HK : Hid (Keeps (Sbk bm bb) w wr) := hK
        by_cases h2 : h < 2
        · have hl4 : (h : Int) < 2 := by omega
          have ok : okS m (pairS i h) := pair_ok hlt
          have cT := try_any a m cap q bm bb n M Y (pairS i h) wr HE.out (HH.out.onK hK HN.out) hS ok (fun v hv => hF.low hk (by omega) hv)
          have cL := fun u (hu : Keeps (Sbk bm bb) w u) => legOf_any n a m cap q (pairS i h) u HE.out (HH.out.onK hu HN.out) ok
          have HQ : Hid (∀ y, okS m y ∧ DnS i (h + 1) y → (okS m y ∧ DnS i h y) ∨ y = pairS i h) := fun y hy => pair_dn h2 hy
          have HO : Hid (okS m (pairS i h)) := ok
          have e := HP.out h h2
          clear hR hS hF hK ok
          obtain ⟨x, hx⟩ : ∃ x, x = pairS i h := ⟨_, rfl⟩
          rw [← hx] at cT cL HQ HO e
          clear hx
          have hh2 : h = 0 ∨ h = 1 := by omega
          have ix : ∀ u, (Instr.index 195 (.agg #[.int .i64 p, .int .i64 r]) (.int .i64 h)).run Tryz.prog u = .ok (.int .i64 x) u := by
            rcases hh2 with rfl | rfl
            · rw [if_pos rfl] at e; rw [e]; exact ix0
            · rw [if_neg (by omega)] at e; rw [e]; exact ix1
          clear ix0 ix1 e hh2 HP
          as_aux_lemma =>
            go_wp2_with (go_at_call 106; refine cT.mono ?_; rintro e u0 ⟨hT, hK0⟩; have HK0 : Hid (Keeps (Sbk bm bb) w u0) := HK.out.trans hK0; have HR0 : Hid _ := hK0.row NS.out HR.out; have d0 := (hK0.row NS.out HR.out).c 0 _ rfl; clear hK0; rcases hT with ⟨hg, rfl, hS0⟩ | ⟨hg, rfl, hS0⟩)
            · have HS0 : Hid _ := hS0
              have HF0 : Hid (Bf q n m k (2 * i + h + 1) (fun x => okS m x ∧ DnS i (h + 1) x) M Y mv) := HF.out.keep HQ.out hg
              clear hS0 hg
              go_wp2
              go_roundw
              case rel => exact ⟨h + 1, M, Y, mv, by omega, by go_num, rfl, HR0.out, HS0.out, HF0.out, HK0.out⟩
              case measure => simp [intOf]; omega
            · have HS0 : Hid _ := hS0
              have HF0 : Hid (Bf q n m k (2 * i + h + 1) (fun x => okS m x ∧ DnS i (h + 1) x) _ _ (toS q x)) := HF.out.move HE.out HO.out HQ.out hg
              have cL0 := cL u0 HK0.out
              clear hS0 hg cL
              generalize frS q x = fx at *
              obtain ⟨tx, htx⟩ : ∃ tx, tx = toS q x := ⟨_, rfl⟩
              rw [← htx] at cL0 HF0
              generalize coS q x = cx at *
              clear htx
              go_wp2_with (go_at_call 107; refine cL0.mono ?_; rintro e u1 ⟨rfl, hb⟩; have HB : Hid _ := hb; clear hb)
              go_roundw
              case rel => exact ⟨h + 1, _, _, tx, by omega, by go_num, rfl, Row.on HB.out HR0.out, HS0.out.on HB.out, HF0.out, HK0.out.on HB.out⟩
              case measure => simp [intOf]; omega
        · have hl4 : ¬ ((h : Int) < 2) := by omega
          obtain rfl : h = 2 := by omega
          have HF2 : Hid (Bf q n m k (2 * (i + 1)) (fun x => okS m x ∧ DnS (i + 1) 0 x) M Y mv) := hF.sub (by omega) (fun x d => ⟨d.1, by rcases d.2 with d | ⟨_, d | ⟨d, _⟩⟩; (by_cases e : ixS x = i; exact Or.inr ⟨e, Or.inl (by omega)⟩; exact Or.inl (by omega)); omega; omega⟩)
          clear hR hS hF hK ix0 ix1 w1 w2
          go_wp2
          go_roundw
          case rel => exact ⟨i + 1, M, Y, mv, by omega, by go_num, rfl, HR.out, HS.out, HF2.out, HK.out⟩
          case measure => simp [intOf]; omega
    · have hl3 : ¬ ((i : Int) < m) := by omega
      have HF2 : Hid (Bf q n m k 80 (fun x => okS m x) M Y mv) := HF.out.sub (by omega) (fun x d => ⟨d, Or.inl (by have := ixS_lt d; omega)⟩)
      go_wp2
      go_ret
      exact ⟨M, Y, mv, rfl, HS.out, HF2.out, HK.out⟩
end Go.Proofs.YthejaecljkjliaiGreatDoor
namespace Go.Proofs.YthejaecljkjliaiGreatDoor
open Go.ChangeShapes Go.WideShapes Go.ChangeAt Go.RowKit Go.Joins
set_option linter.unusedVariables false
set_option linter.unusedSimpArgs false

/-- n numbers lie from the start of a block on, and can be written. -/
structure Wrd (u : World) (g n : Nat) (z : Nat → Int) : Prop where
  c : ∀ i, i < n → u.cell? ⟨g, i, none⟩ = some (.int .i64 (z i))
  f : ∀ i, i < n → u.frozen? ⟨g, i, none⟩ = false
section
variable {W u : World} {g n : Nat} {z z' : Nat → Int}
theorem Wrd.dr (h : Wrd W g n z) : Wrd W.drew g n z := ⟨h.c, h.f⟩
theorem Wrd.put {i : Nat} {x : Int} (hi : i < n) (h : Wrd W g n z) : Wrd (W.setCell ⟨g, i, none⟩ (.int .i64 x)) g n (updI z i x) := by
  refine ⟨fun j hj => ?_, fun j hj => ?_⟩
  · by_cases e : j = i
    · subst e
      rw [updI_at]
      exact World.cell?_setCell_same _ _ _ (h.c j hj)
    · rw [updI_ne _ _ e, World.cell?_setCell_other _ _ _ _ (fun q => e (by injection q with _ q; exact q.symm))]
      exact h.c j hj
  · rw [World.frozen?_setCell]; exact h.f j hj
theorem Wrd.same (h : Wrd W g n z) (e : ∀ i, i < n → z i = z' i) : Wrd W g n z' := ⟨fun i hi => by rw [← e i hi]; exact h.c i hi, h.f⟩
end
/-- The first j and the last j are swapped. -/
def swS (z : Nat → Int) (n j i : Nat) : Int := if i < j ∨ n ≤ i + j then z (n - 1 - i) else z i
theorem sw_next {z : Nat → Int} {n j : Nat} (h : j + j + 1 < n) : ∀ i, i < n → updI (updI (swS z n j) j (swS z n j (n - 1 - j))) (n - 1 - j) (swS z n j j) i = swS z n (j + 1) i := fun i hi => by
  by_cases e1 : i = n - 1 - j
  · subst e1
    rw [updI_at]
    unfold swS
    rw [if_neg (by omega), if_pos (by omega), show n - 1 - (n - 1 - j) = j by omega]
  · rw [updI_ne _ _ e1]
    by_cases e2 : i = j
    · subst e2
      rw [updI_at]
      unfold swS
      rw [if_neg (by omega), if_pos (by omega)]
    · rw [updI_ne _ _ e2]
      unfold swS
      by_cases c : i < j ∨ n ≤ i + j
      · rw [if_pos c, if_pos (by omega)]
      · rw [if_neg c, if_neg (by omega)]
theorem sw_all {z : Nat → Int} {n j : Nat} (h : n ≤ j + j + 1) : ∀ i, i < n → swS z n j i = z (n - 1 - i) := fun i hi => by
  unfold swS
  by_cases c : i < j ∨ n ≤ i + j
  · rw [if_pos c]
  · rw [if_neg c, show n - 1 - i = i by omega]
set_option maxRecDepth 100000 in
set_option maxHeartbeats 8000000 in
theorem reverse_any (g n cap : Nat) (z : Nat → Int) (w : World) (hZ : Wrd w g n z) (h0 : 0 < n) (h6 : n ≤ 6) :
    Calls Tryz.prog 109 #[.slice (some ⟨g, 0, none⟩) n cap] w fun e w' => e = (.returned (.tuple #[])) ∧ Wrd w' g n (fun i => z (n - 1 - i)) ∧ Keeps (fun k => k = g) w w' := by
  have wn : IntKind.i64.wrap ((n : Int) - 1) = (n : Int) - 1 := IntWalk.i64_in _ (by omega)
  have HZ : Hid (Wrd w g n z) := hZ
  clear hZ
  go_enter Tryz.func109, Tryz.ntmps109
  go_wp2
  go_loopw [2, 3] (fun vi vj wr => ∃ j : Nat, j + j ≤ n ∧ vi = .int .i64 j ∧ vj = .int .i64 ((n : Int) - 1 - j) ∧ Wrd wr g n (swS z n j) ∧ Keeps (fun k => k = g) w wr) (fun i _ _ => n - (intOf i).toNat)
  case atStart => exact ⟨0, by omega, rfl, by simp, HZ.out.same (fun i hi => by unfold swS; rw [if_neg (by omega)]), Keeps.refl _ _⟩
  case round =>
    clear HZ wn
    obtain ⟨j, hj, rfl, rfl, hZ, hK⟩ := hrel
    have HK : Hid _ := hK
    have HZ : Hid _ := hZ
    by_cases hlt : j + j + 1 < n
    · obtain ⟨p, hp⟩ : ∃ p : Nat, p = n - 1 - j := ⟨_, rfl⟩
      rw [show (n : Int) - 1 - j = (p : Int) by omega]
      have hjp : (j : Int) < p := by omega
      have c1 := hZ.c j (by omega)
      have c2 := hZ.c p (by omega)
      have f1 := hZ.f j (by omega)
      have f2 := hZ.f p (by omega)
      have hj3 : (j : Int) < n := by omega
      have hp3 : (p : Int) < n := by omega
      have njp : ¬ (j = p) := by omega
      have npj : ¬ (p = j) := by omega
      have HN : Hid (∀ i, i < n → updI (updI (swS z n j) j (swS z n j p)) p (swS z n j j) i = swS z n (j + 1) i) := by show ∀ i, i < n → _; rw [hp]; exact sw_next hlt
      have HP : Hid (p = n - 1 - j) := hp
      clear hK hZ hp
      generalize swS z n j j = zj at *
      generalize swS z n j p = zp at *
      go_wp2
      go_region
      go_wp2
      go_roundw
      case rel => exact ⟨j + 1, by omega, by go_num, by rw [show (n : Int) - 1 - ((j + 1 : Nat) : Int) = (p : Int) - 1 by have := HP.out; omega], (((HZ.out.put (by omega)).put (by omega)).same HN.out).dr, (Keeps.put (S := fun k => k = g) rfl (Keeps.put (S := fun k => k = g) rfl HK.out)).dr⟩
      case measure => simp [intOf]; omega
    · have hl3 : ¬ ((j : Int) < (n : Int) - 1 - j) := by omega
      have HN : Hid (∀ i, i < n → swS z n j i = z (n - 1 - i)) := sw_all (by omega)
      clear hK hZ
      go_wp2
      exact bodyPost_end (v := .tuple #[]) (by simp [results, Tryz.results109, go_sem, *]) rfl ⟨rfl, HZ.out.same HN.out, HK.out⟩
end Go.Proofs.YthejaecljkjliaiGreatDoor
namespace Go.Proofs.YthejaecljkjliaiGreatDoor
open Go.ChangeShapes Go.WideShapes Go.ChangeAt Go.RowKit Go.Joins
set_option linter.unusedVariables false
set_option linter.unusedSimpArgs false

set_option maxRecDepth 100000 in
set_option maxHeartbeats 8000000 in
theorem ahead_any (a : Option Addr) (m cap : Nat) (q : Nat → Eg) (bm bb n v : Nat) (M Y : Nat → Int) (w : World) (hE : Egs n q m) (hH : EHanded w a m q) (S : Srm w bm bb n M Y) (hv : v < n) (ok : okS m (Y v)) :
    Calls Tryz.prog 108 #[.agg #[.slice a m cap, .slice (some ⟨bm, 0, none⟩) n n, .slice (some ⟨bb, 0, none⟩) n n], .int .i64 v] w fun e w' => e = .returned (.int .i64 (frN q (Y v) : Nat)) ∧ Below w.heap.size w w' := by
  have h6 : n ≤ 6 := by have := hE.n6; omega
  have cL : ∀ u, Below w.heap.size w u → Calls Tryz.prog 107 #[.slice a m cap, .int .i64 (Y v)] u fun e w' => e = .returned (.agg #[.int .i64 (frN q (Y v) : Nat), .int .i64 (toS q (Y v)), .int .i64 (coS q (Y v))]) ∧ Below u.heap.size u w' := fun u hu => by
    rw [frN_eq hE ok]
    exact legOf_any n a m cap q (Y v) u hE (hH.on hu) ok
  have c1 := S.yB.c v _ (nums_at Y n v hv)
  have l1 := S.yB.lt
  have hv3 : (v : Int) < n := by omega
  have lf := leg_f
  clear hE hH S ok
  generalize frN q (Y v) = f at *
  generalize toS q (Y v) = t at *
  generalize coS q (Y v) = co at *
  generalize Y v = y at *
  go_enter Tryz.func108, Tryz.ntmps108
  go_wp2
  go_region_held (fun w' => w'.cell? ⟨w.heap.size, 0, none⟩ = some (.slice a m cap) ∧ w'.cell? ⟨w.heap.size, 2, none⟩ = some (.slice (some ⟨bb, 0, none⟩) n n) ∧ w'.cell? ⟨bb, v, none⟩ = some (.int .i64 y)) (go_keep) (first | (go_at_call 107; refine (cL _ (rbel_dr (rbel_al (Below.refl _ _)))).mono ?_; rintro e u0 ⟨rfl, hb⟩; have b0 : Below w.heap.size w u0 := rbel_on hb (rbel_dr (rbel_al (Below.refl _ _))); have r := Row.on hb (Row.dr (Row.made (W := w) (vs := [.slice a m cap, .slice (some ⟨bm, 0, none⟩) n n, .slice (some ⟨bb, 0, none⟩) n n]) rfl)); have r0 := r.c 0 _ rfl; have r2 := r.c 2 _ rfl; have c2 : u0.cell? ⟨bb, v, none⟩ = some (.int .i64 y) := (by rw [b0.cell l1]; exact c1); have HB : Hid (Below w.heap.size w u0) := b0; clear hb b0 r))
  go_wp2
  go_ret
  exact ⟨rfl, HB.out⟩
end Go.Proofs.YthejaecljkjliaiGreatDoor
namespace Go.Proofs.YthejaecljkjliaiGreatDoor
open Go.ChangeShapes Go.WideShapes Go.ChangeAt Go.RowKit Go.Joins
set_option linter.unusedVariables false
set_option linter.unusedSimpArgs false

/-- Where a row lies behind an append: where it was, or in a block that was not there. -/
def Nxt (w : World) (v v' : Value) : Prop := v'.ownBlock = v.ownBlock ∨ ∃ g, v'.ownBlock = some g ∧ w.heap.size ≤ g
theorem run_append_at {P : Program} (w : World) (base : Nat) (t ty e : TypeId) (i : TypeInfo) (z : Value) (size bytes : Nat) (ht : P.underlying t = some (.slice e)) (hi : P.info? e = some i) (hz : i.zero = some z)
    (hsize : i.size = size) (hby : i.bytes = bytes) (hzs : z.cells.size = size) (hsz : 0 < size)
    (v : Value) (n : Nat) (xs : List Value) (hown : w.ownsRow base e size v n xs) (hn0 : 0 < n)
    (a : Addr) (m c : Nat) (news : List Value) (hl : news.length = m * size) (hnews : ∀ j u, news[j]? = some u → w.cell? (a.add j) = some u) (h1 : ∀ u ∈ news, u.oneCell' = true)
    (h63 : n + m ≤ maxLen) (hbytes : (n + m) * bytes ≤ 140737488355328) (hbase : base ≤ w.heap.size) :
    ∃ v' w', (Builtin.append_ #[t, t] ty #[v, .slice (some a) m c]).run P w = .ok v' w' ∧ w'.ownsRow base e size v' (n + m) (xs ++ news) ∧ w.grownBy w' v.ownBlock ∧ Nxt w v v' := by
  obtain ⟨v', w', hr, h2, h3, h4⟩ := run_append_own (P := P) w base t ty e i z size bytes ht hi hz hsize hby hzs hsz v n xs hown a m c news hl hnews h1 h63 hbytes hbase
  refine ⟨v', w', hr, h2, h3, ?_⟩
  rcases hown.2 with ⟨_, h0⟩ | ⟨g, cap, cur, rfl, hb, hg, hnc, hcm, hcs, htk⟩
  · omega
  · have cl : ∀ j u, xs[j]? = some u → w.cell? ((⟨g, 0, none⟩ : Addr).add j) = some u := fun j u hj => by
      rw [Addr.add_lit, Nat.zero_add]
      rw [← htk, List.getElem?_take] at hj
      split at hj
      case isFalse => cases hj
      unfold World.cell?
      rw [show w.heap[(⟨g, j, none⟩ : Addr).block]? = _ from hg]
      simpa using hj
    by_cases room : n + m ≤ cap
    · have nm : (n + m) * size ≤ cap * size := Nat.mul_le_mul_right _ room
      rw [Nat.add_mul] at nm
      subst hsize
      have r := run_append_room_cells (P := P) w t ty e i ht hi g 0 n cap a m c news hl hnews h1 room (fun j hj => by
          unfold World.cell?
          rw [show w.heap[(⟨g, 0 + n * i.size + j, none⟩ : Addr).block]? = _ from hg]
          have : 0 + n * i.size + j < cur.size := by omega
          simpa using this) (fun j hj => by
          unfold World.frozen?
          rw [show w.heap[(⟨g, 0 + n * i.size + j, none⟩ : Addr).block]? = _ from hg]
          simp)
      rw [hr] at r
      injection r with r1 r2
      exact Or.inl (by rw [r1]; rfl)
    · obtain ⟨v2, w2, r, o, _⟩ := run_append_arg_grows (P := P) w t ty e i z size bytes ht hi hz hsize hby hzs hsz ⟨g, 0, none⟩ n cap xs hown.1 cl a m c news hl hnews (by omega) h63 hbytes
      rw [hr] at r
      injection r with r1 r2
      rw [← r1] at o
      rcases o.2 with ⟨_, h0⟩ | ⟨g2, cap2, cur2, e2, hb2, _⟩
      · omega
      · exact Or.inr ⟨g2, by rw [e2]; rfl, hb2⟩
/-- .. as one step of a region that draws its order. -/
theorem step_append_atT {P : Program} {ops : Array Oper} {o : Oper} {a : Act} {w : World} {K : Act → World → Prop} {Q : Exit → Act → World → Prop} {E : Prop}
    (hg : o.guard = none) (s x : Operand) (t : TypeId) (hop : o.op = Op.call { callee := Callee.builtin Builtin.append, args := #[s, x], argTypes := #[t, t] })
    (base : Nat) (e : TypeId) (i : TypeInfo) (z : Value) (size bytes : Nat) (h1 : P.underlying t = some (.slice e)) (h2 : P.info? e = some i) (h3 : i.zero = some z) (h4 : i.size = size) (h5 : i.bytes = bytes) (h6 : z.cells.size = size) (h7 : 0 < size)
    (v : Value) (n : Nat) (xs : List Value) (hs : a.eval s = v) (hown : w.ownsRow base e size v n xs) (hn0 : 0 < n)
    (ad : Addr) (m c : Nat) (news : List Value) (hx : a.eval x = .slice (some ad) m c) (hn : news.length = m * size) (hc : ∀ j u, news[j]? = some u → w.cell? (ad.add j) = some u) (h1c : ∀ u ∈ news, u.oneCell' = true)
    (b1 : n + m ≤ maxLen) (b2 : (n + m) * bytes ≤ 140737488355328) (hbase : base ≤ w.heap.size)
    (hK : ∀ v' w', w'.ownsRow base e size v' (n + m) (xs ++ news) → w.grownBy w' v.ownBlock → Nxt w v v' → K (a.put o.dst v') w') :
    if Region.wanted o (yielded ops a.tmps) = true then Oper.wp P o a w K Q else E := by
  have hw : Region.wanted o (yielded ops a.tmps) = true := by simp [Region.wanted, hg]
  rw [if_pos hw]
  obtain ⟨v', w', hr, r1, r2, r3⟩ := run_append_at (P := P) w base t o.type e i z size bytes h1 h2 h3 h4 h5 h6 h7 v n xs hown hn0 ad m c news hn hc h1c b1 b2 hbase
  unfold Oper.wp execOp
  simp only [hop, resolve, invoke, builtin, Sem.run_bind, Sem.run_pure, Result.andThen_ok, List.map_toArray, List.map_cons, List.map_nil, hs, hx, hr]
  exact hK v' w' r1 r2 r3
/-- A tree while it grows, in package tree's memory. -/
structure Gro (u : World) (s p gb n : Nat) (t : Tr) (v : Value) : Prop where
  st : Blk u 121 p [v, .slice (some ⟨gb, 0, none⟩) n n]
  byB : Blk u 3 gb (byR n t)
  row : u.ownsRow s 3 1 v t.row.length (roR t)
  ne : v.ownBlock ≠ some gb
  sp : s ≤ p
  sg : s ≤ gb
theorem Gro.pg {u : World} {s p gb n : Nat} {t : Tr} {v : Value} (h : Gro u s p gb n t v) : p ≠ gb := h.st.ne h.byB (by decide)
theorem Gro.pv {u : World} {s p gb n : Nat} {t : Tr} {v : Value} (h : Gro u s p gb n t v) : some p ≠ v.ownBlock := by
  rcases h.row.2 with ⟨rfl, _⟩ | ⟨g, cap, cur, rfl, _, hg, _⟩
  · intro e; cases e
  · intro e
    have e' : p = g := Option.some.inj e
    have := h.st
    unfold Blk at this
    rw [e', hg] at this
    simp at this
theorem own_onG {W u : World} {base n size : Nat} {e : TypeId} {v : Value} {xs : List Value} (hb : Below W.heap.size W u) (h : W.ownsRow base e size v n xs) : u.ownsRow base e size v n xs := by
  refine ⟨h.1, ?_⟩
  rcases h.2 with h' | ⟨g, cap, cur, h1, h2, h3, h4⟩
  · exact Or.inl h'
  · refine Or.inr ⟨g, cap, cur, h1, h2, (hb.block g ?_).trans h3, h4⟩
    rcases Nat.lt_or_ge g W.heap.size with hlt | hge
    · exact hlt
    · rw [Array.getElem?_eq_none hge] at h3; cases h3
theorem Gro.on {W u : World} {s p gb n : Nat} {t : Tr} {v : Value} (hb : Below W.heap.size W u) (h : Gro W s p gb n t v) : Gro u s p gb n t v := ⟨h.st.on hb, h.byB.on hb, own_onG hb h.row, h.ne, h.sp, h.sg⟩
theorem own_put {u : World} {base n b i size : Nat} {e : TypeId} {v x : Value} {xs : List Value} (h : u.ownsRow base e size v n xs) (hb : some b ≠ v.ownBlock) : (u.setCell ⟨b, i, none⟩ x).ownsRow base e size v n xs := by
  refine ⟨h.1, ?_⟩
  rcases h.2 with h' | ⟨g, cap, cur, h1, h2, h3, h4⟩
  · exact Or.inl h'
  · refine Or.inr ⟨g, cap, cur, h1, h2, (Deep.blk_setCell_other u ⟨b, i, none⟩ x g ?_).trans h3, h4⟩
    show g ≠ b
    intro e'
    exact hb (by rw [h1, ← e']; rfl)
/-- One node more: appended, and by which edge it came. -/
theorem Gro.add {W u : World} {s p gb n k y : Nat} {t : Tr} {v v' : Value} (h : Gro W s p gb n t v) (hy : y < n) (ho : u.ownsRow s 3 1 v' (t.row.length + 1) (roR t ++ [.int .i64 (y : Nat)])) (hg : W.grownBy u v.ownBlock) (hx : Nxt W v v') :
    Gro ((u.setCell ⟨p, 0, none⟩ v').setCell ⟨gb, y, none⟩ (.int .i64 (k : Nat))) s p gb n (addT t k y) v' := by
  have pg := h.pg
  have lg := h.byB.lt
  have lp := h.st.lt
  have s1 : Blk u 121 p [v, .slice (some ⟨gb, 0, none⟩) n n] := h.st.grown hg h.pv
  have b1 : Blk u 3 gb (byR n t) := h.byB.grown hg (fun e => h.ne e.symm)
  have nb : v'.ownBlock ≠ some gb := by
    rcases hx with e | ⟨g, e, hl⟩
    · rw [e]; exact h.ne
    · rw [e]; intro e'; have := Option.some.inj e'; omega
  have np : some p ≠ v'.ownBlock := by
    rcases hx with e | ⟨g, e, hl⟩
    · rw [e]; exact h.pv
    · rw [e]; intro e'; have := Option.some.inj e'; omega
  refine ⟨(s1.put 0).far pg, ?_, ?_, nb, h.sp, h.sg⟩
  · rw [← byR_add n t k y hy]
    exact (b1.far pg.symm).put y
  · have e1 : (addT t k y).row.length = t.row.length + 1 := by simp [addT]
    have e2 : roR (addT t k y) = roR t ++ [.int .i64 (y : Nat)] := by simp [addT, roR]
    rw [e1, e2]
    exact own_put (own_put ho np) (fun e => nb e.symm)
end Go.Proofs.YthejaecljkjliaiGreatDoor
namespace Go.Proofs.YthejaecljkjliaiGreatDoor
open Go.ChangeShapes Go.WideShapes Go.ChangeAt Go.RowKit
set_option linter.unusedVariables false

set_option maxHeartbeats 400000 in
theorem has_yes (a b n : Int) (w : World) (h : okB a b = true) (h1 : a ≤ n) (h2 : n ≤ b) :
    Calls Tryz.prog 24 #[.agg #[.int .i64 a, .int .i64 b], .int .i64 n] w fun e w' => e = .returned (.tuple #[.bool true, .nilIface]) ∧ Below w.heap.size w w' := by
  have cnt : Mark 0 := .mk _
  go_enter Tryz.func24, Tryz.ntmps24
  go_wp2_with (first | (go_at_call 46; have cq : Mark 0 := cnt; refine (check_ok _ _ _ h).mono ?_; clear cq cnt; have cnt : Mark 1 := .mk _; rintro e u0 ⟨rfl, hb0⟩; obtain ⟨hc0, hf0⟩ := bcell hb0; have hz0 := hb0.size; (try simp only [World.size_alloc, Nat.add_one_le_iff] at hz0); (try (have zb0_0 : w.heap.size < u0.heap.size := by omega))))
  go_ret2
  exact ⟨rfl, by (repeat (first | exact Below.refl _ _ | refine Below.alloc ?_ (by first | (simp; done) | (simp; omega) | omega) _ | refine Below.setCell ?_ (by first | (simp; done) | (simp; omega) | omega) _ | apply Below.drew | refine below_tr (by assumption) ?_))⟩

end Go.Proofs.YthejaecljkjliaiGreatDoor
