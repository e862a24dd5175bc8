/- What package loops' search does when it tries every step. -/
import Derived.Test.YtiebojccnaelbaeDoorLoopsSr
namespace Go.Proofs.YtiebojccnaelbaeDoor
open Go.ChangeShapes Go.WideShapes Go.ChangeAt Go.RowKit Go.Joins
set_option linter.unusedVariables false
set_option linter.unusedSimpArgs false

/-- The steps tried: those of the edges ahead, and of this one the first h. -/
def DnS (i h : Nat) (x : Int) : Prop := ixS x < i ∨ (ixS x = i ∧ (2 ≤ h ∨ (1 ≤ h ∧ 0 < x)))
theorem dn_one {m i : Nat} {x : Int} (h : DnS i 1 x) : DnS i 0 x ∨ x = (i : Int) + 1 := by
  rcases h with h | ⟨h, h2 | ⟨_, h2⟩⟩
  · exact Or.inl (Or.inl h)
  · omega
  · refine Or.inr ?_
    unfold ixS at h
    rw [if_pos h2] at h
    omega
theorem dn_two {i : Nat} {x : Int} (hx : x ≠ 0) (h : DnS i 2 x) : DnS i 1 x ∨ x = -((i : Int) + 1) := by
  rcases h with h | ⟨h, _⟩
  · exact Or.inl (Or.inl h)
  · by_cases c : 0 < x
    · exact Or.inl (Or.inr ⟨h, Or.inr ⟨by omega, c⟩⟩)
    · refine Or.inr ?_
      unfold ixS at h
      rw [if_neg c] at h
      omega
/-- What a try of every step does. -/
def TaR (q : Nat → Eg) (bm bb n m k : Nat) (w : World) (e : Ending) (w' : World) : Prop :=
  ∃ (M Y : Nat → Int) (mv : Int), e = .returned (.int .i64 mv) ∧ Srm w' bm bb n M Y ∧ Bf q n m k 80 (fun x => okS m x) M Y mv ∧ Keeps (Sbk bm bb) w w'
/-- The step of a place of the pair. -/
def pairS (i h : Nat) : Int := if h = 0 then (i : Int) + 1 else -((i : Int) + 1)
theorem pair_ok {m i h : Nat} (hi : i < m) : okS m (pairS i h) := by
  unfold pairS
  split
  · exact ⟨by omega, by omega, by omega⟩
  · exact ⟨by omega, by omega, by omega⟩
theorem pair_dn {m i h : Nat} (hh : h < 2) {y : Int} (hy : okS m y ∧ DnS i (h + 1) y) : (okS m y ∧ DnS i h y) ∨ y = pairS i h := by
  obtain ⟨o, d⟩ := hy
  by_cases e : h = 0
  · subst e
    rcases dn_one (m := m) d with d | d
    · exact Or.inl ⟨o, d⟩
    · exact Or.inr d
  · obtain rfl : h = 1 := by omega
    rcases dn_two o.1 d with d | d
    · exact Or.inl ⟨o, d⟩
    · exact Or.inr d
set_option maxRecDepth 100000 in
set_option maxHeartbeats 8000000 in
theorem tryAll_any (a : Option Addr) (m cap : Nat) (q : Nat → Eg) (bm bb n k : Nat) (M0 Y0 : Nat → Int) (w : World) (hE : Egs n q m) (hH : EHanded w a m q) (hne : ∀ b off, 0 < m → a = some ⟨b, off, none⟩ → ¬ Sbk bm bb b) (S0 : Srm w bm bb n M0 Y0) (hk : k < 6) (F0 : Bf q n m k 0 (fun _ => False) M0 Y0 (-1)) :
    Calls Tryd.prog 35 #[.agg #[.slice a m cap, .slice (some ⟨bm, 0, none⟩) n n, .slice (some ⟨bb, 0, none⟩) n n]] w fun e w' => TaR q bm bb n m k w e w' := by
  have h40 := hE.m40
  have l1 := S0.mB.lt
  have l2 := S0.yB.lt
  have NS : Hid (¬ Sbk bm bb w.heap.size) := fun h => by rcases h with h | h <;> omega
  have HE : Hid (Egs n q m) := hE
  have HH : Hid (EHanded w a m q) := hH
  have HN : Hid (∀ b off, 0 < m → a = some ⟨b, off, none⟩ → ¬ Sbk bm bb b) := hne
  have HS : Hid (Srm w bm bb n M0 Y0) := S0
  have HF : Hid (Bf q n m k 0 (fun _ => False) M0 Y0 (-1)) := F0
  have lt' := leg_t
  clear hE hH hne S0 F0 l1 l2
  go_enter Tryd.func35, Tryd.ntmps35
  go_wp2
  go_loopw [3, 10] (fun v vi wr => ∃ (i : Nat) (M Y : Nat → Int) (mv : Int), i ≤ m ∧ vi = .int .i64 i ∧ v = .int .i64 mv ∧ Row wr w.heap.size [.slice a m cap, .slice (some ⟨bm, 0, none⟩) n n, .slice (some ⟨bb, 0, none⟩) n n] ∧ Srm wr bm bb n M Y ∧ Bf q n m k (2 * i) (fun x => okS m x ∧ DnS i 0 x) M Y mv ∧ Keeps (Sbk bm bb) w wr) (fun _ i _ => m - (intOf i).toNat)
  case atStart => exact ⟨0, M0, Y0, -1, Nat.zero_le _, rfl, rfl, Row.made rfl, HS.out.al, HF.out.sub (Nat.le_refl _) (fun x h => by rcases h.2 with d | ⟨_, d | ⟨d, _⟩⟩ <;> omega), (Keeps.refl _ w).al⟩
  case round =>
    clear HS HF
    obtain ⟨i, M, Y, mv, hi, rfl, rfl, hR, hS, hF, hK⟩ := hrel
    have c0 := hR.c 0 _ rfl
    have c1 := hR.c 1 _ rfl
    have c2 := hR.c 2 _ rfl
    have HR : Hid (Row wr w.heap.size [.slice a m cap, .slice (some ⟨bm, 0, none⟩) n n, .slice (some ⟨bb, 0, none⟩) n n]) := hR
    have HS : Hid (Srm wr bm bb n M Y) := hS
    have HF : Hid (Bf q n m k (2 * i) (fun x => okS m x ∧ DnS i 0 x) M Y mv) := hF
    have HK : Hid (Keeps (Sbk bm bb) w wr) := hK
    clear hR hS hF hK
    by_cases hlt : i < m
    · have hl3 : (i : Int) < m := by omega
      obtain ⟨p, hp⟩ : ∃ p : Int, p = (i : Int) + 1 := ⟨_, rfl⟩
      obtain ⟨r, hr⟩ : ∃ r : Int, r = -((i : Int) + 1) := ⟨_, rfl⟩
      have w1 : IntKind.i64.wrap ((i : Int) + 1) = p := by rw [hp]; exact IntWalk.i64_in _ (by omega)
      have w2 : IntKind.i64.wrap (-p) = r := by rw [hp, hr]; exact IntWalk.i64_in _ (by omega)
      have HP : Hid (∀ h, h < 2 → pairS i h = if h = 0 then p else r) := fun h hh => by unfold pairS; rw [hp, hr]
      have ix0 : ∀ u, (Instr.index 99 (.agg #[.int .i64 p, .int .i64 r]) (.int .i64 0)).run Tryd.prog u = .ok (.int .i64 p) u := fun _ => by kernel_rfl
      have ix1 : ∀ u, (Instr.index 99 (.agg #[.int .i64 p, .int .i64 r]) (.int .i64 1)).run Tryd.prog u = .ok (.int .i64 r) u := fun _ => by kernel_rfl
      clear hp hr
      go_wp2
      go_loopw [3, 19] (fun v vh wr => ∃ (h : Nat) (M Y : Nat → Int) (mv : Int), h ≤ 2 ∧ vh = .int .i64 h ∧ v = .int .i64 mv ∧ Row wr w.heap.size [.slice a m cap, .slice (some ⟨bm, 0, none⟩) n n, .slice (some ⟨bb, 0, none⟩) n n] ∧ Srm wr bm bb n M Y ∧ Bf q n m k (2 * i + h) (fun x => okS m x ∧ DnS i h x) M Y mv ∧ Keeps (Sbk bm bb) w wr) (fun _ h _ => 2 - (intOf h).toNat)
      case atStart => exact ⟨0, M, Y, mv, by omega, rfl, rfl, HR.out, HS.out, HF.out, HK.out⟩
      case round =>
        clear HR HS HF HK c0 c1 c2
        obtain ⟨h, M, Y, mv, hh, rfl, rfl, hR, hS, hF, hK⟩ := hrel
        have c0 := hR.c 0 _ rfl
        have c1 := hR.c 1 _ rfl
        have c2 := hR.c 2 _ rfl
        have HR : Hid (Row wr w.heap.size [.slice a m cap, .slice (some ⟨bm, 0, none⟩) n n, .slice (some ⟨bb, 0, none⟩) n n]) := hR
        have HS : Hid (Srm wr bm bb n M Y) := hS
        have HF : Hid (Bf q n m k (2 * i + h) (fun x => okS m x ∧ DnS i h x) M Y mv) := hF
        have HK : Hid (Keeps (Sbk bm bb) w wr) := hK
        by_cases h2 : h < 2
        · have hl4 : (h : Int) < 2 := by omega
          have ok : okS m (pairS i h) := pair_ok hlt
          have cT := try_any a m cap q bm bb n M Y (pairS i h) wr HE.out (HH.out.onK hK HN.out) hS ok (fun v hv => hF.low hk (by omega) hv)
          have cL := fun u (hu : Keeps (Sbk bm bb) w u) => legOf_any n a m cap q (pairS i h) u HE.out (HH.out.onK hu HN.out) ok
          have HQ : Hid (∀ y, okS m y ∧ DnS i (h + 1) y → (okS m y ∧ DnS i h y) ∨ y = pairS i h) := fun y hy => pair_dn h2 hy
          have HO : Hid (okS m (pairS i h)) := ok
          have e := HP.out h h2
          clear hR hS hF hK ok
          obtain ⟨x, hx⟩ : ∃ x, x = pairS i h := ⟨_, rfl⟩
          rw [← hx] at cT cL HQ HO e
          clear hx
          have hh2 : h = 0 ∨ h = 1 := by omega
          have ix : ∀ u, (Instr.index 99 (.agg #[.int .i64 p, .int .i64 r]) (.int .i64 h)).run Tryd.prog u = .ok (.int .i64 x) u := by
            rcases hh2 with rfl | rfl
            · rw [if_pos rfl] at e; rw [e]; exact ix0
            · rw [if_neg (by omega)] at e; rw [e]; exact ix1
          clear ix0 ix1 e hh2 HP
          as_aux_lemma =>
            go_wp2_with (go_at_call 51; refine cT.mono ?_; rintro e u0 ⟨hT, hK0⟩; have HK0 : Hid (Keeps (Sbk bm bb) w u0) := HK.out.trans hK0; have HR0 : Hid _ := hK0.row NS.out HR.out; have d0 := (hK0.row NS.out HR.out).c 0 _ rfl; clear hK0; rcases hT with ⟨hg, rfl, hS0⟩ | ⟨hg, rfl, hS0⟩)
            · have HS0 : Hid _ := hS0
              have HF0 : Hid (Bf q n m k (2 * i + h + 1) (fun x => okS m x ∧ DnS i (h + 1) x) M Y mv) := HF.out.keep HQ.out hg
              clear hS0 hg
              go_wp2
              go_roundw
              case rel => exact ⟨h + 1, M, Y, mv, by omega, by go_num, rfl, HR0.out, HS0.out, HF0.out, HK0.out⟩
              case measure => simp [intOf]; omega
            · have HS0 : Hid _ := hS0
              have HF0 : Hid (Bf q n m k (2 * i + h + 1) (fun x => okS m x ∧ DnS i (h + 1) x) _ _ (toS q x)) := HF.out.move HE.out HO.out HQ.out hg
              have cL0 := cL u0 HK0.out
              clear hS0 hg cL
              generalize frS q x = fx at *
              obtain ⟨tx, htx⟩ : ∃ tx, tx = toS q x := ⟨_, rfl⟩
              rw [← htx] at cL0 HF0
              generalize coS q x = cx at *
              clear htx
              go_wp2_with (go_at_call 18; refine cL0.mono ?_; rintro e u1 ⟨rfl, hb⟩; have HB : Hid _ := hb; clear hb)
              go_roundw
              case rel => exact ⟨h + 1, _, _, tx, by omega, by go_num, rfl, Row.on HB.out HR0.out, HS0.out.on HB.out, HF0.out, HK0.out.on HB.out⟩
              case measure => simp [intOf]; omega
        · have hl4 : ¬ ((h : Int) < 2) := by omega
          obtain rfl : h = 2 := by omega
          have HF2 : Hid (Bf q n m k (2 * (i + 1)) (fun x => okS m x ∧ DnS (i + 1) 0 x) M Y mv) := hF.sub (by omega) (fun x d => ⟨d.1, by rcases d.2 with d | ⟨_, d | ⟨d, _⟩⟩; (by_cases e : ixS x = i; exact Or.inr ⟨e, Or.inl (by omega)⟩; exact Or.inl (by omega)); omega; omega⟩)
          clear hR hS hF hK ix0 ix1 w1 w2
          go_wp2
          go_roundw
          case rel => exact ⟨i + 1, M, Y, mv, by omega, by go_num, rfl, HR.out, HS.out, HF2.out, HK.out⟩
          case measure => simp [intOf]; omega
    · have hl3 : ¬ ((i : Int) < m) := by omega
      have HF2 : Hid (Bf q n m k 80 (fun x => okS m x) M Y mv) := HF.out.sub (by omega) (fun x d => ⟨d, Or.inl (by have := ixS_lt d; omega)⟩)
      go_wp2
      go_ret
      exact ⟨M, Y, mv, rfl, HS.out, HF2.out, HK.out⟩
end Go.Proofs.YtiebojccnaelbaeDoor
