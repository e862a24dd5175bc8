/- What the document's own net (package noonref2) answers: NewNet. Two lists that are the same: noonsame's Edges. Two nets side by side, the program's and the document's. -/
import Derived.Test.YtnagdjipmpjaaaiGreatDoorNm29
import Derived.Test.YtnagdjipmpjaaaiGreatDoorNm27
import Derived.Test.YtnagdjipmpjaaaiGreatDoorNm02
import Derived.Test.YtnagdjipmpjaaaiGreatDoorNm01
import Derived.Lib.SmallJoins
import Derived.Deep.CutRange
import Derived.BigRegion
import Derived.BigQuiet
import Derived.Deep.QuietTactic
import Derived.IntWalk
import Derived.Test.YtnagdjipmpjaaaiGreatDoorNm31
import Derived.Test.YtnagdjipmpjaaaiGreatDoorNetRefG
import Derived.Test.YtnagdjipmpjaaaiGreatDoorNm30
import Derived.Test.YtnagdjipmpjaaaiGreatDoorNm03
namespace Go.Proofs.YtnagdjipmpjaaaiGreatDoor
open Go.ChangeShapes Go.WideShapes Go.ChangeAt Go.RowKit Go.Joins
set_option linter.unusedVariables false
set_option linter.unusedSimpArgs false

/-- Pointers as cells. -/
def pcs (nb : Nat → Nat) : Nat → List Value
  | 0 => []
  | k + 1 => pcs nb k ++ [.pointer (some ⟨nb k, 0, none⟩)]
theorem pcs_len (nb : Nat → Nat) : ∀ k, (pcs nb k).length = k
  | 0 => rfl
  | k + 1 => by simp [pcs, pcs_len nb k]
theorem pcs_at (nb : Nat → Nat) : ∀ {k i : Nat}, i < k → (pcs nb k)[i]? = some (.pointer (some ⟨nb i, 0, none⟩))
  | 0, i, h => by omega
  | k + 1, i, h => by
    simp only [pcs]
    by_cases c : i = k
    · subst c
      rw [List.getElem?_append_right (by rw [pcs_len]; omega), pcs_len]
      simp
    · rw [List.getElem?_append_left (by rw [pcs_len]; omega)]
      exact pcs_at nb (by omega)
theorem pcs_congr {nb nb' : Nat → Nat} : ∀ k, (∀ i, i < k → nb i = nb' i) → pcs nb k = pcs nb' k
  | 0, _ => rfl
  | k + 1, h => by simp only [pcs]; rw [pcs_congr k (fun i hi => h i (by omega)), h k (by omega)]
theorem infoNode : (Tryz.prog.info? 87).map (fun i => (i.zero, i.size, i.bytes)) = some (some (.pointer none), 1, 8) := by kernel_rfl
/-- The net while it is made. -/
structure NwS (u wr : World) (sa : Option Addr) (sc : Nat) (ra : Option Addr) (rc n : Nat) (p : Int) (k : Nat) (vL : Value) (nb : Nat → Nat) : Prop where
  r : Row wr u.heap.size [.slice sa n sc, .slice ra n rc, .int .i64 0, .slice none 0 0, vL]
  o : wr.ownsRow u.heap.size 87 1 vL k (pcs nb k)
  nd : ∀ i, i < k → RN wr (nb i) (Nd.made i n p)
  lo : ∀ i, i < k → u.heap.size < nb i
  up : ∀ i j, i < j → j < k → nb i < nb j
  nv : ∀ i, i < k → vL.ownBlock ≠ some (nb i)
  ne : vL.ownBlock ≠ some u.heap.size
  hw : Below u.heap.size u wr
set_option maxRecDepth 100000 in
set_option maxHeartbeats 8000000 in
theorem rnew_at {w u : World} {sa : Option Addr} {sc n : Nat} {z : Nat → Int} {ra : Option Addr} {rc : Nat} {r : Nat → Int} {p : Int} (hs : NHanded w sa n z) (hr : NHanded w ra n r) (hu : Below w.heap.size w u) (h1 : 1 ≤ n) (h6 : n ≤ 6) :
    Calls Tryz.prog 8 #[.slice sa n sc, .slice ra n rc, .int .i64 p] u fun o w' => ∃ (mb lb lc : Nat) (nb : Nat → Nat), o = .returned (.pointer (some ⟨mb, 0, none⟩)) ∧ RNt w w' mb sa sc ra rc (Nn.made n z r p) (.slice none 0 0) lb lc nb ∧ Below u.heap.size u w' ∧ ∀ k, FrN mb (.slice none 0 0) lb nb n k → u.heap.size ≤ k := by
  obtain ⟨i0, hi0, hz0, hz1, hz2⟩ := info_parts infoNode
  have HS : Hid (NHanded w sa n z) := hs
  have HR : Hid (NHanded w ra n r) := hr
  have HU : Hid (Below w.heap.size w u) := hu
  have H0 : Hid (NwS u (u.alloc (.cells #[.slice sa n sc, .slice ra n rc, .int .i64 0, .slice none 0 0, .slice none 0 0] 58)) sa sc ra rc n p 0 (.slice none 0 0) (fun _ => 0)) := ⟨Row.made rfl, World.ownsRow_nil _ _ _ _, fun i hi => by omega, fun i hi => by omega, fun i j _ hj => by omega, fun i hi => by omega, (fun e => by cases e), rbel_al (Below.refl _ _)⟩
  clear hs hr hu
  go_enter Tryz.func8, Tryz.ntmps8
  go_wp2
  go_loopw [8] (fun vi wr => ∃ (k : Nat) (vL : Value) (nb : Nat → Nat), k ≤ n ∧ vi = .int .i64 k ∧ NwS u wr sa sc ra rc n p k vL nb) (fun vi _ => n - (intOf vi).toNat)
  case atStart => exact ⟨0, _, _, Nat.zero_le _, rfl, H0.out⟩
  case round =>
    clear H0
    obtain ⟨k, vL, nb, hk, rfl, hN⟩ := hrel
    have HN : Hid (NwS u wr sa sc ra rc n p k vL nb) := hN
    have c4 := hN.r.c 4 _ rfl
    have f4 := hN.r.f 4 _ rfl
    have lz := hN.r.lt
    by_cases hlt : k < n
    · have hl : (k : Int) < n := by omega
      have HO : Hid (wr.ownsRow u.heap.size 87 1 vL k (pcs nb k)) := hN.o
      have HL : Hid (∀ g, vL.ownBlock = some g → u.heap.size ≤ g ∧ g < wr.heap.size) := fun g hg => hN.o.lt g hg
      have HX : Hid (pcs (fun i => if i = k then wr.heap.size else nb i) (k + 1) = pcs nb k ++ [.pointer (some ⟨wr.heap.size, 0, none⟩)]) := by
        show pcs _ k ++ [.pointer (some ⟨if k = k then wr.heap.size else nb k, 0, none⟩)] = _
        rw [pcs_congr (nb' := nb) k (fun i hi => if_neg (by omega)), if_pos rfl]
      clear hN
      generalize pcs nb k = xs at *
      go_wp2_with (at_builtin; refine wpList_append_own_at _ rfl _ _ 56 rfl u.heap.size 87 i0 (.pointer none) 1 8 Tryz.underlying56 hi0 hz0 hz1 hz2 rfl (by decide) vL _ _ rfl ((HO.out.alloc _).alloc _) ⟨wr.heap.size + 1, 0, none⟩ 1 1 [.pointer (some ⟨wr.heap.size, 0, none⟩)] rfl rfl (fun q u hq => by rw [Addr.add_lit]; exact (Row.made (b := wr.heap.size + 1) (vs := [.pointer (some ⟨wr.heap.size, 0, none⟩)]) (by simp)).c _ _ (by simpa using hq)) (fun u hu => by simp at hu; rw [hu]; rfl) (by unfold maxLen; omega) (by omega) (by simp; omega) ?_)
      intro v'0 x2 own' hgrow hnn hat
      obtain ⟨va, vc, rfl⟩ := own_slice own'
      have BA : Hid (Below wr.heap.size wr ((wr.alloc (Obj.cells #[.int .i64 k, .int .i64 n, .int .i64 p, .int .i64 (-1), .bool false, .bool false, .bool false, .bool false, .bool false, .bool false, .int .i64 0, .int .i64 0, .int .i64 0, .int .i64 0, .int .i64 0, .int .i64 0, .int .i64 0, .int .i64 0, .int .i64 0, .int .i64 0, .int .i64 0, .int .i64 0, .int .i64 0, .int .i64 0, .int .i64 0, .int .i64 0, .int .i64 0, .int .i64 0] 92)).alloc (Obj.cells #[.pointer (some ⟨wr.heap.size, 0, none⟩)] 87))) := rbel_al (rbel_al (Below.refl _ _))
      have RA : Hid (RN ((wr.alloc (Obj.cells #[.int .i64 k, .int .i64 n, .int .i64 p, .int .i64 (-1), .bool false, .bool false, .bool false, .bool false, .bool false, .bool false, .int .i64 0, .int .i64 0, .int .i64 0, .int .i64 0, .int .i64 0, .int .i64 0, .int .i64 0, .int .i64 0, .int .i64 0, .int .i64 0, .int .i64 0, .int .i64 0, .int .i64 0, .int .i64 0, .int .i64 0, .int .i64 0, .int .i64 0, .int .i64 0] 92)).alloc (Obj.cells #[.pointer (some ⟨wr.heap.size, 0, none⟩)] 87)) wr.heap.size (Nd.made k n p)) := RN.on (rbel_al (Below.refl _ _)) RN.first
      have sA : ((wr.alloc (Obj.cells #[.int .i64 k, .int .i64 n, .int .i64 p, .int .i64 (-1), .bool false, .bool false, .bool false, .bool false, .bool false, .bool false, .int .i64 0, .int .i64 0, .int .i64 0, .int .i64 0, .int .i64 0, .int .i64 0, .int .i64 0, .int .i64 0, .int .i64 0, .int .i64 0, .int .i64 0, .int .i64 0, .int .i64 0, .int .i64 0, .int .i64 0, .int .i64 0, .int .i64 0, .int .i64 0] 92)).alloc (Obj.cells #[.pointer (some ⟨wr.heap.size, 0, none⟩)] 87)).heap.size = wr.heap.size + 2 := by simp
      generalize ((wr.alloc (Obj.cells #[.int .i64 k, .int .i64 n, .int .i64 p, .int .i64 (-1), .bool false, .bool false, .bool false, .bool false, .bool false, .bool false, .int .i64 0, .int .i64 0, .int .i64 0, .int .i64 0, .int .i64 0, .int .i64 0, .int .i64 0, .int .i64 0, .int .i64 0, .int .i64 0, .int .i64 0, .int .i64 0, .int .i64 0, .int .i64 0, .int .i64 0, .int .i64 0, .int .i64 0, .int .i64 0] 92)).alloc (Obj.cells #[.pointer (some ⟨wr.heap.size, 0, none⟩)] 87)) = A at *
      have RX : Hid (Row x2 u.heap.size [.slice sa n sc, .slice ra n rc, .int .i64 0, .slice none 0 0, vL]) := row_grown hgrow (by omega) HN.out.ne (Row.on BA.out HN.out.r)
      have NX : Hid (∀ i, i < k → RN x2 (nb i) (Nd.made i n p)) := fun i hi => RN.block (hgrow.block _ (by have := (HN.out.nd i hi).lt; omega) (fun e => HN.out.nv i hi e.symm)) (RN.on BA.out (HN.out.nd i hi))
      have NK : Hid (RN x2 wr.heap.size (Nd.made k n p)) := RN.block (hgrow.block _ (by omega) (fun e => by have := (HL.out _ e.symm).2; omega)) RA.out
      have OX : Hid (x2.ownsRow u.heap.size 87 1 (Value.slice va (k + 1) vc) (k + 1) (pcs (fun i => if i = k then wr.heap.size else nb i) (k + 1))) := by
        show x2.ownsRow u.heap.size 87 1 (Value.slice va (k + 1) vc) (k + 1) (pcs (fun i => if i = k then wr.heap.size else nb i) (k + 1))
        rw [HX.out]
        exact own'
      have NE : Hid (∀ g, g < wr.heap.size + 1 → vL.ownBlock ≠ some g → (Value.slice va (k + 1) vc).ownBlock ≠ some g) := fun g hg hv e => by
        rcases hat with h | h
        · rw [h] at e; exact hv e
        · rw [h] at e
          have := Option.some.inj e
          omega
      have BX : Hid (Below u.heap.size u x2) := (rbel_on BA.out HN.out.hw).grown hgrow (by have := HN.out.hw.size; omega) (fun g hg => (HL.out g hg).1)
      have LW : Hid (∀ g, vL.ownBlock = some g → g < wr.heap.size) := fun g hg => (HL.out g hg).2
      have b4 := RX.out.c 4 _ rfl
      have g4 := RX.out.f 4 _ rfl
      have lx := RX.out.lt
      clear own' hgrow hnn hat HO HL HX BA RA sA c4 f4
      clear A
      go_wp2
      go_roundw
      case rel =>
        refine ⟨k + 1, Value.slice va (k + 1) vc, fun i => if i = k then wr.heap.size else nb i, by omega, by go_num, ?_⟩
        have z0 := HN.out.r.lt
        have nem : (Value.slice va (k + 1) vc).ownBlock ≠ some u.heap.size := NE.out _ (by omega) HN.out.ne
        refine ⟨Row.put 4 RX.out, ownsRow_setCell_other OX.out (a := ⟨u.heap.size, 4, none⟩) nem (Value.slice va (k + 1) vc), fun i hi => ?_, fun i hi => ?_, fun i j hij hj => ?_, fun i hi => ?_, nem, rbel_put (Nat.le_refl _) BX.out⟩
        · by_cases e : i = k
          · subst e
            simp only [if_true]
            exact RN.far (by omega) NK.out
          · simp only [if_neg e]
            exact RN.far (by have := HN.out.lo i (by omega); omega) (NX.out i (by omega))
        · by_cases e : i = k
          · subst e
            simp only [if_true]
            exact z0
          · simp only [if_neg e]
            exact HN.out.lo i (by omega)
        · have ei : i ≠ k := by omega
          simp only [if_neg ei]
          by_cases e : j = k
          · subst e
            simp only [if_true]
            exact (HN.out.nd i hij).lt
          · simp only [if_neg e]
            exact HN.out.up i j hij (by omega)
        · by_cases e : i = k
          · subst e
            simp only [if_true]
            exact NE.out _ (by omega) (fun q => by have := LW.out _ q; omega)
          · simp only [if_neg e]
            have := (HN.out.nd i (by omega)).lt
            exact NE.out _ (by omega) (HN.out.nv i (by omega))
      case measure => simp [intOf]; omega
    · have hl : ¬ ((k : Int) < n) := by omega
      obtain rfl : n = k := by omega
      obtain ⟨lb, lc, rfl⟩ : ∃ lb lc, vL = .slice (some ⟨lb, 0, none⟩) n lc := by
        rcases hN.o.2 with ⟨_, e⟩ | ⟨g', c, cur, e, _⟩
        · omega
        · exact ⟨g', c, e⟩
      have HW : Hid (Below w.heap.size w wr) := rbel_on hN.hw HU.out
      clear hN
      go_wp2
      go_ret
      have ol := HN.out.o.lt lb rfl
      have su := HU.out.size
      refine ⟨u.heap.size, rfl, lb, lc, nb, ⟨⟨HN.out.r, World.ownsRow_nil _ _ _ _, HS.out, HR.out, HW.out, (fun e => by cases e), su⟩, fun i hi => ?_, HN.out.nd, fun e => HN.out.ne (by rw [← e]; rfl), (fun e => by cases e), fun i hi => by have := HN.out.lo i hi; omega, fun i hi e => HN.out.nv i hi (by rw [e]; rfl), (fun i hi e => by cases e), fun i j hi hj ne => ?_, fun i hi => by have := HN.out.lo i hi; omega, by omega, ol.2⟩, HN.out.hw, fun k hk => ?_⟩
      · show wr.cell? ⟨lb, i, none⟩ = _
        have hi' : i < n := hi
        rw [HN.out.o.cellAt i (by omega)]
        exact pcs_at nb hi'
      · rcases Nat.lt_or_ge i j with q | q
        · have := HN.out.up i j q hj; omega
        · have := HN.out.up j i (by omega) hi; omega
      · rcases hk with rfl | e | rfl | ⟨i, hi, rfl⟩
        · exact Nat.le_refl _
        · cases e
        · exact ol.1
        · have := HN.out.lo i hi; omega
end Go.Proofs.YtnagdjipmpjaaaiGreatDoor
namespace Go.Proofs.YtnagdjipmpjaaaiGreatDoor
open Go.ChangeShapes Go.WideShapes Go.ChangeAt Go.RowKit Go.Joins
set_option linter.unusedVariables false
set_option linter.unusedSimpArgs false

set_option maxRecDepth 100000 in
set_option maxHeartbeats 4000000 in
theorem same_edges (a b : Option Addr) (n c d : Nat) (f : Nat → Eg) (w : World) (ha : EHanded w a n f) (hb : EHanded w b n f) :
    Calls Tryz.prog 17 #[.slice a n c, .slice b n d] w fun e w' => e = .returned (.bool true) ∧ Below w.heap.size w w' := by
  have hn := ha.1
  have H1 : Hid (n = 0 ∨ ∃ b off : Nat, a = some ⟨b, off, none⟩ ∧ Esp w b off n f) := ha.2
  have H2 : Hid (n = 0 ∨ ∃ c off : Nat, b = some ⟨c, off, none⟩ ∧ Esp w c off n f) := hb.2
  clear ha hb
  go_enter Tryz.func17, Tryz.ntmps17
  go_wp2
  go_loopw [5] (fun i wr => ∃ k : Nat, k ≤ n ∧ i = .int .i64 k ∧ Below w.heap.size w wr) (fun i _ => n - (intOf i).toNat)
  case atStart => exact ⟨0, Nat.zero_le _, rfl, Below.refl _ _⟩
  case round =>
    obtain ⟨k, hk, rfl, hw⟩ := hrel
    have HW : Hid (Below w.heap.size w wr) := hw
    by_cases hlt : k < n
    · have hl3 : (k : Int) < n := by omega
      obtain ⟨g1, o1, rfl, hP1⟩ : ∃ b off : Nat, a = some ⟨b, off, none⟩ ∧ Esp w b off n f := by
        rcases H1.out with e | h
        · omega
        · exact h
      obtain ⟨g2, o2, rfl, hP2⟩ : ∃ c off : Nat, b = some ⟨c, off, none⟩ ∧ Esp w c off n f := by
        rcases H2.out with e | h
        · omega
        · exact h
      have HA : Hid (Esp wr g1 o1 n f) := hP1.on hw
      have HB : Hid (Esp wr g2 o2 n f) := hP2.on hw
      obtain ⟨x0, x1, x2, x3⟩ := HA.out k hlt
      obtain ⟨y0, y1, y2, y3⟩ := HB.out k hlt
      clear hP1 hP2 H1 H2 hw
      generalize (f k).a = v at *
      generalize (f k).b = v2 at *
      generalize (f k).lo = v3 at *
      generalize (f k).hi = v4 at *
      go_wp2
      go_quiet (fail)
      go_wp2
      go_roundw
      case rel => exact ⟨k + 1, by omega, by go_num, rbel_drn HW.out⟩
      case measure => simp [intOf]; omega
    · have hl3 : ¬ ((k : Int) < n) := by omega
      clear hw
      go_wp2
      go_ret
      exact ⟨rfl, HW.out⟩
end Go.Proofs.YtnagdjipmpjaaaiGreatDoor
namespace Go.Proofs.YtnagdjipmpjaaaiGreatDoor
open Go.ChangeShapes Go.WideShapes Go.ChangeAt Go.RowKit Go.Joins
set_option linter.unusedVariables false

/-- Both, side by side. -/
structure Nq (w : World) (C : Nt w) (u : World) (b : Nat) (F : Nat → Prop) (N : Nn) (mb : Nat) (sa : Option Addr) (sc : Nat) (ra : Option Addr) (rc : Nat) (M : Nn) (v : Value) (lb lc : Nat) (nb : Nat → Nat) : Prop where
  p : Nv w C u b F N
  m : RNt w u mb sa sc ra rc M v lb lc nb
  ap : ∀ k, FrN mb v lb nb M.W.n k → ¬ F k
section
variable {w u u' : World} {C : Nt w} {b mb sc rc lb lc : Nat} {sa ra : Option Addr} {F F' : Nat → Prop} {N N' M M' : Nn} {v v' : Value} {nb : Nat → Nat}
theorem Nq.on (g : Nq w C u b F N mb sa sc ra rc M v lb lc nb) (hb : Below u.heap.size u u') : Nq w C u' b F N mb sa sc ra rc M v lb lc nb := ⟨g.p.on hb, g.m.on hb, g.ap⟩
/-- The program's one goes on. -/
theorem Nq.goP (g : Nq w C u b F N mb sa sc ra rc M v lb lc nb) (h : Nv w C u' b F' N') (k : Keeps F u u') (hF : ∀ i, F' i → F i ∨ u.heap.size ≤ i) : Nq w C u' b F' N' mb sa sc ra rc M v lb lc nb :=
  ⟨h, g.m.keep h.hw k.size (fun i hi => k.block i (g.m.flt hi) (g.ap i hi)), fun i hi q => by
    rcases hF i q with e | e
    · exact g.ap i hi e
    · have := g.m.flt hi; omega⟩
/-- The document's one goes on. -/
theorem Nq.goM (g : Nq w C u b F N mb sa sc ra rc M v lb lc nb) (h : RNt w u' mb sa sc ra rc M' v' lb lc nb) (k : KpN u u' mb v v' nb M.W.n) (hn : M'.W.n = M.W.n) : Nq w C u' b F N mb sa sc ra rc M' v' lb lc nb := by
  refine ⟨⟨C.on g.p.h k.1.size (fun i hi => k.1.block i (C.lt g.p.h i hi) (fun e => ?_)), g.p.t, g.p.lo, h.m.hw⟩, h, fun i hi q => ?_⟩
  · rcases e with e | e | e
    · exact g.ap i (Or.inl e) hi
    · exact g.ap i (Or.inr (Or.inl e)) hi
    · exact g.ap i (Or.inr (Or.inr (Or.inr e))) hi
  · have lt := C.lt g.p.h i q
    rcases hi with e | e | e | e
    · exact g.ap i (Or.inl e) q
    · rcases k.2 i e with x | x
      · exact g.ap i (Or.inr (Or.inl x)) q
      · omega
    · exact g.ap i (Or.inr (Or.inr (Or.inl e))) q
    · rw [hn] at e; exact g.ap i (Or.inr (Or.inr (Or.inr e))) q
end
end Go.Proofs.YtnagdjipmpjaaaiGreatDoor
