/- The ways through the law StatMoves. -/
import Derived.Test.YthejaecljkjliakStatDef
import Derived.Test.YthejaecljkjliakOwnInts
import Derived.Lib.SmallJoins
import Derived.IntWalk
import Derived.BigQuiet
import Derived.Deep.QuietTactic
namespace Go.Proofs.Ythejaecljkjliak.statMoves
open Go.ChangeShapes Go.WideShapes Go.ChangeAt Go.RowKit Go.Joins
set_option linter.unusedVariables false
set_option linter.unusedSimpArgs false

/-- The law's own numbers. -/
def zO : Nat → Int
  | 0 => 1
  | 1 => 4
  | _ => 0
theorem zO_row {W : World} {B : Nat} (r : Row W B [.int .i64 1, .int .i64 4]) : NHanded W (some ⟨B, 0, none⟩) 2 zO := row2N r
theorem zO_ok : NmE 2 zO 0 := Or.inr (Or.inr (Or.inr ⟨by decide, by decide, fun i hi => by
  have : i = 0 ∨ i = 1 := by omega
  rcases this with rfl | rfl <;> (show okT _; unfold okT; decide), rfl⟩))
theorem move_e {n : Nat} {z : Nat → Int} {b e e' : Int} (hz : ∀ i, i < n → -1000000 ≤ z i ∧ z i ≤ 1000000) (hb : n = 0 ∨ (-1000000 ≤ b ∧ b ≤ 1000000)) (h : NmE n z e) (g : NmE n (fun i => z i + b) e') : e = e' ∧ (e = 0 → 0 < n ∧ n ≤ 60) ∧ (e ≠ 0 → n = 0 ∨ 60 < n) := by
  have ok : ∀ i, i < n → okT (z i) := fun i hi => by have := hz i hi; unfold okT; omega
  have ok' : ∀ i, i < n → okT (z i + b) := fun i hi => by have := hz i hi; unfold okT; omega
  rcases h with ⟨a, rfl⟩ | ⟨a, rfl⟩ | ⟨_, _, ⟨i, hi, c⟩, _⟩ | ⟨a1, a2, a3, rfl⟩
  · exact ⟨NmE.one (Or.inl ⟨a, rfl⟩) g, fun q => by omega, fun _ => Or.inr a⟩
  · exact ⟨NmE.one (Or.inr (Or.inl ⟨a, rfl⟩)) g, fun q => by omega, fun _ => Or.inl a⟩
  · exact absurd (ok i hi) c
  · exact ⟨NmE.one (Or.inr (Or.inr (Or.inr ⟨a1, a2, ok', rfl⟩))) g, fun _ => ⟨a1, a2⟩, fun q => absurd rfl q⟩
/-- In a law's walk: the two ways of wandering are one. -/
theorem move_w {n : Nat} {z : Nat → Int} {b d e e' : Int} (h0 : NmE n z 0) (g0 : NmE n (fun i => z i + b) 0) (h : WnE n z d e) (g : WnE n (fun i => z i + b) d e') : e = e' := by
  rcases h with ⟨a, q⟩ | ⟨_, a, rfl⟩ | ⟨_, a, a', rfl⟩
  · exact absurd (NmE.one a h0) q
  · rcases g with ⟨c, q⟩ | ⟨_, c, rfl⟩ | ⟨_, c, c', rfl⟩
    · exact absurd (NmE.one c g0) q
    · rfl
    · omega
  · rcases g with ⟨c, q⟩ | ⟨_, c, rfl⟩ | ⟨_, c, c', rfl⟩
    · exact absurd (NmE.one c g0) q
    · omega
    · rfl
set_option maxRecDepth 100000 in
set_option maxHeartbeats 8000000 in
theorem all_ways (a : Option Addr) (n cap : Nat) (z : Nat → Int) (b d : Int) (w : World) (S : StM w) (hH : NHanded w a n z) (hcp : n ≤ cap) (hr : n * 8 ≤ 140737488351232) (wb : In64 b) (wd : In64 d) :
    Calls Try.prog 4 #[.slice a n cap, .int .i64 b, .int .i64 d] w fun o w' => o = .returned (.bool true) ∧ Below w.heap.size w w' := by
  have cO : Hid (∀ u B, Below w.heap.size w u → Row u B [.int .i64 1, .int .i64 4] → Calls Try.prog 6 #[.slice (some ⟨B, 0, none⟩) 2 2] u fun o w' => o = .returned (.tuple #[.int .i64 2, .nilIface]) ∧ Below u.heap.size u w') := fun u B hu r => by
    have h := S.mean (some ⟨B, 0, none⟩) 2 2 zO 0 u hu (zO_row r) (by decide) zO_ok
    rw [if_pos rfl, errc_zero, show mnN zO 2 = 2 by decide] at h
    exact h
  have HH : Hid (∀ u, Below w.heap.size w u → NHanded u a n z) := fun u hu => hH.on hu
  have HCp : Hid (n ≤ cap) := hcp
  obtain ⟨i0, hi0, hz0, hz1, hz2⟩ := info_parts infoIntN
  have nn := hH.1
  clear hH hcp
  go_enter Try.func4, Try.ntmps4
  go_wp2_with (go_at_call 6; refine (cO.out _ w.heap.size (rbel_al (Below.refl _ _)) (Row.made rfl)).mono ?_; rintro o u0 ⟨rfl, hb⟩; have HB0 : Hid (Below w.heap.size w u0) := rbel_on hb (rbel_al (Below.refl _ _)); clear hb)
  clear cO
  go_loopw [9, 10] (fun vm vi wr => ∃ i : Nat, i ≤ n ∧ vi = .int .i64 i ∧ wr.ownsRow w.heap.size 3 1 vm i (icn (fun j => z j + b) i) ∧ (∀ j, j < i → -1000000 ≤ z j ∧ z j ≤ 1000000) ∧ (i = 0 ∨ (-1000000 ≤ b ∧ b ≤ 1000000)) ∧ Below w.heap.size w wr) (fun _ i _ => n - (intOf i).toNat)
  case atStart => exact ⟨0, Nat.zero_le _, rfl, World.ownsRow_nil _ _ _ _, fun j hj => by omega, Or.inl rfl, HB0.out⟩
  case round =>
    clear HB0
    obtain ⟨i, hi, rfl, hown, hz, hbb, hw⟩ := hrel
    have zz := hw.size
    have HW : Hid (Below w.heap.size w wr) := hw
    have HZ : Hid (∀ j, j < i → -1000000 ≤ z j ∧ z j ≤ 1000000) := hz
    have HN : Hid (wr.ownsRow w.heap.size 3 1 u9 i (icn (fun j => z j + b) i)) := hown
    have HBb : Hid (i = 0 ∨ (-1000000 ≤ b ∧ b ≤ 1000000)) := hbb
    clear hz hbb
    by_cases hlt : i < n
    · have hl3 : (i : Int) < n := by omega
      obtain ⟨gb, off, rfl, hP⟩ : ∃ gb off : Nat, a = some ⟨gb, off, none⟩ ∧ Nrd wr gb off n z := by
        rcases (HH.out wr hw).2 with e | h
        · omega
        · exact h
      have x0 := hP i hlt
      clear hP hown hw
      by_cases q : z i < -1000000 ∨ 1000000 < z i ∨ b < -1000000 ∨ 1000000 < b
      · have q' : z i < -1000000 ∨ (¬ z i < -1000000 ∧ 1000000 < z i) ∨ (¬ z i < -1000000 ∧ ¬ 1000000 < z i ∧ b < -1000000) ∨ (¬ z i < -1000000 ∧ ¬ 1000000 < z i ∧ ¬ b < -1000000 ∧ 1000000 < b) := by omega
        clear q HN HZ HBb
        generalize z i = zi at *
        rcases q' with k1 | ⟨k1, k2⟩ | ⟨k1, k2, k3⟩ | ⟨k1, k2, k3, k4⟩
        all_goals
          go_wp2
          go_ret
          exact ⟨rfl, HW.out⟩
      · have k1 : ¬ (z i < -1000000) := by omega
        have k2 : ¬ (1000000 < z i) := by omega
        have k3 : ¬ (b < -1000000) := by omega
        have k4 : ¬ (1000000 < b) := by omega
        have HZ1 : Hid (∀ j, j < i + 1 → -1000000 ≤ z j ∧ z j ≤ 1000000) := fun j hj => by
          by_cases e : j = i
          · subst e; omega
          · exact HZ.out j (by omega)
        have HB1 : Hid (i + 1 = 0 ∨ (-1000000 ≤ b ∧ b ≤ 1000000)) := Or.inr ⟨by omega, by omega⟩
        have w1 : IntKind.i64.wrap (z i + b) = z i + b := IntWalk.i64_in _ (by omega)
        have HIc : Hid (icn (fun j => z j + b) (i + 1) = icn (fun j => z j + b) i ++ [.int .i64 (z i + b)]) := rfl
        have HBk : Hid (∀ j, u9.ownBlock = some j → w.heap.size ≤ j) := fun j hj => (HN.out.lt j hj).1
        have HN' : Hid (wr.ownsRow w.heap.size 3 1 u9 i (icn (fun j => z j + b) i)) := HN.out
        clear HN HZ HBb q
        generalize z i = zi at *
        generalize icn (fun j => z j + b) i = xs at *
        go_wp2_with (at_builtin; refine wpList_append_own _ rfl _ _ 22 rfl w.heap.size 3 i0 (.int .i64 0) 1 8 Try.underlying22 hi0 hz0 hz1 hz2 rfl (by decide) _ _ _ rfl (HN'.out.alloc _) ⟨wr.heap.size, 0, none⟩ 1 1 [.int .i64 (zi + b)] rfl rfl (fun j u hj => by rw [Addr.add_lit]; exact (Row.made (W := wr) (vs := [.int .i64 (zi + b)]) rfl).c _ _ (by simpa using hj)) (fun u hu => by simp at hu; rw [hu]; rfl) (by unfold maxLen; omega) (by omega) (by simp; omega) ?_)
        intro v' w1' hown' hgrow _
        have HO1 : Hid (w1'.ownsRow w.heap.size 3 1 v' (i + 1) (icn (fun j => z j + b) (i + 1))) := by
          show w1'.ownsRow w.heap.size 3 1 v' (i + 1) (icn (fun j => z j + b) (i + 1))
          rw [HIc.out]
          exact hown'
        have HW1 : Hid (Below w.heap.size w w1') := (rbel_al HW.out).grown hgrow (by simp; omega) HBk.out
        clear hown' hgrow HN' HBk HIc HW
        go_wp2
        go_roundw
        case rel => exact ⟨i + 1, by omega, by go_num, HO1.out, HZ1.out, HB1.out, HW1.out⟩
        case measure => simp [intOf]; omega
    · have hl3 : ¬ ((i : Int) < n) := by omega
      have e : n = i := by omega
      subst e
      obtain ⟨ma, mc, rfl, hM, hmc⟩ := own_capN hown (by omega)
      obtain ⟨e, hE⟩ := nmE_some n z
      obtain ⟨e', hE'⟩ := nmE_some n (fun j => z j + b)
      obtain ⟨ee, e1, e2⟩ := move_e HZ.out HBb.out hE hE'
      subst ee
      obtain ⟨v, hv1, hv2⟩ := med_some n z e hE
      obtain ⟨x, hx⟩ := wnE_some n z d
      obtain ⟨x', hx'⟩ := wnE_some n (fun j => z j + b) d
      have HHM : Hid (∀ u, Below wr.heap.size wr u → NHanded u ma n (fun j => z j + b)) := fun u hu => hM.on hu
      have c1 : Hid (∀ u, Below w.heap.size w u → Calls Try.prog 5 #[.slice a n cap] u fun o w' => o = .returned (.tuple #[.int .i64 v, errc e]) ∧ Below u.heap.size u w') := fun u hu => S.median a n cap z e v u hu (HH.out u hu) HCp.out hE hv1 hv2
      have c3 : Hid (∀ u, Below w.heap.size w u → Calls Try.prog 6 #[.slice a n cap] u fun o w' => o = .returned (.tuple #[.int .i64 (if e = 0 then mnN z n else 0), errc e]) ∧ Below u.heap.size u w') := fun u hu => S.mean a n cap z e u hu (HH.out u hu) HCp.out hE
      have c4 : Hid (∀ u, Below wr.heap.size wr u → Calls Try.prog 6 #[.slice ma n mc] u fun o w' => o = .returned (.tuple #[.int .i64 (if e = 0 then mnN (fun j => z j + b) n else 0), errc e]) ∧ Below u.heap.size u w') := fun u hu => S.mean ma n mc (fun j => z j + b) e u (rbel_on hu HW.out) (HHM.out u hu) hmc hE'
      have c5 : Hid (∀ u, Below w.heap.size w u → Calls Try.prog 7 #[.slice a n cap, .int .i64 d] u fun o w' => o = .returned (.tuple #[.int .i64 (if x = 0 then wnN z d.toNat n else 0), errc x]) ∧ Below u.heap.size u w') := fun u hu => S.wander a n cap z d x u hu (HH.out u hu) HCp.out wd hx
      have c6 : Hid (∀ u, Below wr.heap.size wr u → Calls Try.prog 7 #[.slice ma n mc, .int .i64 d] u fun o w' => o = .returned (.tuple #[.int .i64 (if x' = 0 then wnN (fun j => z j + b) d.toNat n else 0), errc x']) ∧ Below u.heap.size u w') := fun u hu => S.wander ma n mc (fun j => z j + b) d x' u (rbel_on hu HW.out) (HHM.out u hu) hmc wd hx'
      have cnt : Mark 0 := .mk _
      by_cases q : e = 0
      · subst q
        obtain ⟨n0, n60⟩ := e1 rfl
        have ew := move_w hE hE' hx hx'
        subst ew
        have c2 : Hid (∀ u, Below wr.heap.size wr u → Calls Try.prog 5 #[.slice ma n mc] u fun o w' => o = .returned (.tuple #[.int .i64 (v + b), .nilIface]) ∧ Below u.heap.size u w') := fun u hu => by
          have h := S.median ma n mc (fun j => z j + b) 0 (v + b) u (rbel_on hu HW.out) (HHM.out u hu) hmc hE' (fun _ => by rw [lsN_move]; exact mid_move (hv1 rfl)) (fun q => absurd rfl q)
          rw [errc_zero] at h
          exact h
        rw [if_pos rfl, mnN_move z b n0] at c4
        rw [if_pos rfl] at c3
        rw [wnN_move] at c6
        rw [errc_zero] at c1 c3 c4
        have vb : -1000000 ≤ v ∧ v ≤ 1000000 := by
          obtain ⟨j, hj, ej⟩ := mem_lsN.1 (hv1 rfl).1
          have := HZ.out j hj
          omega
        have mb := mnN_between (z := z) n0 (fun j hj => (HZ.out j hj).1) (fun j hj => (HZ.out j hj).2)
        have bb : -1000000 ≤ b ∧ b ≤ 1000000 := by
          rcases HBb.out with h | h
          · omega
          · exact h
        have w1 : IntKind.i64.wrap (v + b) = v + b := IntWalk.i64_in _ (by omega)
        have w2 : IntKind.i64.wrap (mnN z n + b) = mnN z n + b := IntWalk.i64_in _ (by omega)
        have t1 : (v + b == v + b) = true := beq_iff_eq.2 rfl
        have t2 : (mnN z n + b == mnN z n + b) = true := beq_iff_eq.2 rfl
        clear hE hE' hv1 hv2 hx hx' e1 e2 hM hmc hown hw HN HZ HBb HHM HH HCp
        generalize mnN z n = mn at *
        generalize (if x = 0 then wnN z d.toNat n else 0) = wv at *
        have t3 : (wv == wv) = true := beq_iff_eq.2 rfl
        by_cases qx : x = 0
        · rw [qx, errc_zero] at c5 c6
          go_wp2_with (first
            | (go_at_call 5; have cq : Mark 0 := cnt; refine (c1.out _ HW.out).mono ?_; clear cq cnt; have cnt : Mark 1 := .mk _; rintro o y1 ⟨rfl, hb⟩; have B1 : Hid (Below wr.heap.size wr y1) := hb; clear hb)
            | (go_at_call 5; have cq : Mark 1 := cnt; refine (c2.out _ B1.out).mono ?_; clear cq cnt; have cnt : Mark 2 := .mk _; rintro o y2 ⟨rfl, hb⟩; have B2 : Hid (Below wr.heap.size wr y2) := rbel_on hb B1.out; clear hb)
            | (go_at_call 6; have cq : Mark 2 := cnt; refine (c3.out _ (rbel_on B2.out HW.out)).mono ?_; clear cq cnt; have cnt : Mark 3 := .mk _; rintro o y3 ⟨rfl, hb⟩; have B3 : Hid (Below wr.heap.size wr y3) := rbel_on hb B2.out; clear hb)
            | (go_at_call 6; have cq : Mark 3 := cnt; refine (c4.out _ B3.out).mono ?_; clear cq cnt; have cnt : Mark 4 := .mk _; rintro o y4 ⟨rfl, hb⟩; have B4 : Hid (Below wr.heap.size wr y4) := rbel_on hb B3.out; clear hb)
            | (go_at_call 7; have cq : Mark 4 := cnt; refine (c5.out _ (rbel_on B4.out HW.out)).mono ?_; clear cq cnt; have cnt : Mark 5 := .mk _; rintro o y5 ⟨rfl, hb⟩; have B5 : Hid (Below wr.heap.size wr y5) := rbel_on hb B4.out; clear hb)
            | (go_at_call 7; have cq : Mark 5 := cnt; refine (c6.out _ B5.out).mono ?_; clear cq cnt; rintro o y6 ⟨rfl, hb⟩; have B6 : Hid (Below wr.heap.size wr y6) := rbel_on hb B5.out; clear hb))
          go_quiet (fail)
          go_wp2
          go_ret
          exact ⟨rfl, rbel_drn (rbel_on B6.out HW.out)⟩
        · rw [errc_not qx] at c5 c6
          go_wp2_with (first
            | (go_at_call 5; have cq : Mark 0 := cnt; refine (c1.out _ HW.out).mono ?_; clear cq cnt; have cnt : Mark 1 := .mk _; rintro o y1 ⟨rfl, hb⟩; have B1 : Hid (Below wr.heap.size wr y1) := hb; clear hb)
            | (go_at_call 5; have cq : Mark 1 := cnt; refine (c2.out _ B1.out).mono ?_; clear cq cnt; have cnt : Mark 2 := .mk _; rintro o y2 ⟨rfl, hb⟩; have B2 : Hid (Below wr.heap.size wr y2) := rbel_on hb B1.out; clear hb)
            | (go_at_call 6; have cq : Mark 2 := cnt; refine (c3.out _ (rbel_on B2.out HW.out)).mono ?_; clear cq cnt; have cnt : Mark 3 := .mk _; rintro o y3 ⟨rfl, hb⟩; have B3 : Hid (Below wr.heap.size wr y3) := rbel_on hb B2.out; clear hb)
            | (go_at_call 6; have cq : Mark 3 := cnt; refine (c4.out _ B3.out).mono ?_; clear cq cnt; have cnt : Mark 4 := .mk _; rintro o y4 ⟨rfl, hb⟩; have B4 : Hid (Below wr.heap.size wr y4) := rbel_on hb B3.out; clear hb)
            | (go_at_call 7; have cq : Mark 4 := cnt; refine (c5.out _ (rbel_on B4.out HW.out)).mono ?_; clear cq cnt; have cnt : Mark 5 := .mk _; rintro o y5 ⟨rfl, hb⟩; have B5 : Hid (Below wr.heap.size wr y5) := rbel_on hb B4.out; clear hb)
            | (go_at_call 7; have cq : Mark 5 := cnt; refine (c6.out _ B5.out).mono ?_; clear cq cnt; rintro o y6 ⟨rfl, hb⟩; have B6 : Hid (Below wr.heap.size wr y6) := rbel_on hb B5.out; clear hb))
          go_quiet (fail)
          go_wp2
          go_ret
          exact ⟨rfl, rbel_drn (rbel_on B6.out HW.out)⟩
      · have c2 : Hid (∀ u, Below wr.heap.size wr u → Calls Try.prog 5 #[.slice ma n mc] u fun o w' => o = .returned (.tuple #[.int .i64 0, errc e]) ∧ Below u.heap.size u w') := fun u hu => S.median ma n mc (fun j => z j + b) e 0 u (rbel_on hu HW.out) (HHM.out u hu) hmc hE' (fun z => absurd z q) (fun _ => rfl)
        have r : n = 0 ∨ (n ≠ 0 ∧ 60 < n) := by have := e2 q; omega
        rw [errc_not q] at c1 c2 c3 c4
        rw [if_neg q] at c3 c4
        generalize hw1 : (if x = 0 then wnN z d.toNat n else 0) = wv1 at c5
        generalize hw2 : (if x' = 0 then wnN (fun j => z j + b) d.toNat n else 0) = wv2 at c6
        generalize hx1 : errc x = E1 at c5
        generalize hx2 : errc x' = E2 at c6
        clear hE hE' hv1 hv2 hx hx' e1 e2 hM hmc hown hw HN HZ HBb HHM HH HCp q hw1 hw2 hx1 hx2
        have r' : ((n : Int) == 0) = true ∨ (((n : Int) == 0) = false ∧ (60 : Int) < n) := by
          rcases r with h | ⟨h1, h2⟩
          · exact Or.inl (by simp [h])
          · exact Or.inr ⟨by simp; omega, by omega⟩
        clear r
        rcases r' with r1 | ⟨r1, r2⟩
        all_goals
          go_wp2_with (first
            | (go_at_call 5; have cq : Mark 0 := cnt; refine (c1.out _ HW.out).mono ?_; clear cq cnt; have cnt : Mark 1 := .mk _; rintro o y1 ⟨rfl, hb⟩; have B1 : Hid (Below wr.heap.size wr y1) := hb; clear hb)
            | (go_at_call 5; have cq : Mark 1 := cnt; refine (c2.out _ B1.out).mono ?_; clear cq cnt; have cnt : Mark 2 := .mk _; rintro o y2 ⟨rfl, hb⟩; have B2 : Hid (Below wr.heap.size wr y2) := rbel_on hb B1.out; clear hb)
            | (go_at_call 6; have cq : Mark 2 := cnt; refine (c3.out _ (rbel_on B2.out HW.out)).mono ?_; clear cq cnt; have cnt : Mark 3 := .mk _; rintro o y3 ⟨rfl, hb⟩; have B3 : Hid (Below wr.heap.size wr y3) := rbel_on hb B2.out; clear hb)
            | (go_at_call 6; have cq : Mark 3 := cnt; refine (c4.out _ B3.out).mono ?_; clear cq cnt; have cnt : Mark 4 := .mk _; rintro o y4 ⟨rfl, hb⟩; have B4 : Hid (Below wr.heap.size wr y4) := rbel_on hb B3.out; clear hb)
            | (go_at_call 7; have cq : Mark 4 := cnt; refine (c5.out _ (rbel_on B4.out HW.out)).mono ?_; clear cq cnt; have cnt : Mark 5 := .mk _; rintro o y5 ⟨rfl, hb⟩; have B5 : Hid (Below wr.heap.size wr y5) := rbel_on hb B4.out; clear hb)
            | (go_at_call 7; have cq : Mark 5 := cnt; refine (c6.out _ B5.out).mono ?_; clear cq cnt; rintro o y6 ⟨rfl, hb⟩; have B6 : Hid (Below wr.heap.size wr y6) := rbel_on hb B5.out; clear hb))
          go_ret
          exact ⟨rfl, rbel_on B6.out HW.out⟩
end Go.Proofs.Ythejaecljkjliak.statMoves
