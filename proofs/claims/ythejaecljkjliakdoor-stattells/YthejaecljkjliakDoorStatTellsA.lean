/- The ways through the law StatTells. -/
import Derived.Test.YthejaecljkjliakDoorStatDefW
import Derived.Test.YthejaecljkjliakDoorStatRefS
import Derived.Test.YthejaecljkjliakDoorStatRefO
import Derived.Test.YthejaecljkjliakDoorSameInts
import Derived.Test.YthejaecljkjliakDoorAppStep
import Derived.Test.YthejaecljkjliakDoorTold
import Derived.Deep.CutRange
import Derived.Deep.CutBlock
namespace Go.Proofs.YthejaecljkjliakDoor.statTells
open Go.ChangeShapes Go.WideShapes Go.ChangeAt Go.RowKit Go.Joins Go.Proofs.YthejaecljkjliakDoor.told
set_option linter.unusedVariables false
set_option linter.unusedSimpArgs false

theorem error_s (f : Int) (w : World) (he : EnvE w) : Calls Tryd.prog 6 #[errc f, .int .i64 f] w fun e w' => e = .returned (.bool true) ∧ Below w.heap.size w w' := error_same f w he
set_option maxRecDepth 100000 in
set_option maxHeartbeats 8000000 in
theorem way_bad (sa : Option Addr) (sn sc : Nat) (q : Nat → Int × Int) (a : Option Addr) (n cap : Nat) (z : Nat → Int) (d e : Int) (w : World) (he : EnvE w) (S : StW w) (hS : SHd w sa sn q) (hsc : sn ≤ sc) (hH : NHanded w a n z) (hcp : n ≤ cap) (wd : In64 d) (hE : NmE n z e) (e0 : e ≠ 0) :
    Calls Tryd.prog 3 #[.slice sa sn sc, .slice a n cap, .int .i64 d] w fun o w' => o = .returned (.bool true) ∧ Below w.heap.size w w' := by
  have HEnv : Hid (EnvE w) := he
  have HSp : Hid (∀ u, Below w.heap.size w u → SHd u sa sn q) := fun u hu => hS.on hu
  have HH : Hid (∀ u, Below w.heap.size w u → NHanded u a n z) := fun u hu => hH.on hu
  have cS := rspans_any sa sn sc q w hS
  have sn1 := hS.1
  have nn := hH.1
  obtain ⟨i0, hi0, hz0, hz1, hz2⟩ := info_parts infoIntN
  have HZ : Hid (svE q sn = 0 → 0 < sn ∧ sn ≤ 40 ∧ ∀ i, i < sn → okB (q i).1 (q i).2 = true) := svE_zero
  have cW0 : Hid (∀ u, Below w.heap.size w u → Calls Tryd.prog 5 #[.slice sa sn sc] u fun o w' => ∃ (ta : Option Addr) (k tc : Nat), o = .returned (.tuple #[.slice ta k tc, errc (svE q sn)]) ∧ NHanded w' ta k (fun i => (q i).2 - (q i).1) ∧ k = (if svE q sn = 0 then sn else 0) ∧ Below u.heap.size u w') := fun u hu => S.widths sa sn sc q u hu (HSp.out u hu) hsc
  obtain ⟨e1, he1⟩ : ∃ e1, e1 = svE q sn := ⟨_, rfl⟩
  rw [← he1] at cS HZ cW0
  obtain ⟨N, hN⟩ : ∃ N : Nat, N = (if e1 = 0 then sn else 0) := ⟨_, rfl⟩
  rw [← hN] at cW0
  have cW : Hid (∀ u, Below w.heap.size w u → Calls Tryd.prog 5 #[.slice sa sn sc] u fun o w' => ∃ (ta : Option Addr) (tc : Nat), o = .returned (.tuple #[.slice ta N tc, errc e1]) ∧ NHanded w' ta N (fun i => (q i).2 - (q i).1) ∧ Below u.heap.size u w') := fun u hu => (cW0.out u hu).mono (by
    rintro o w' ⟨ta, k, tc, rfl, h1, rfl, hb⟩
    exact ⟨ta, tc, rfl, h1, hb⟩)
  have HN : Hid ((e1 = 0 ∧ N = sn ∧ N ≤ 40) ∨ (e1 ≠ 0 ∧ N = 0)) := by
    by_cases c : e1 = 0
    · rw [if_pos c] at hN
      have := (HZ.out c).2.1
      exact Or.inl ⟨c, hN, by omega⟩
    · rw [if_neg c] at hN
      exact Or.inr ⟨c, hN⟩
  clear hS hN cW0 hH he1
  have cNu : Hid (∀ u, Below w.heap.size w u → Calls Tryd.prog 8 #[.slice a n cap] u fun o w' => o = .returned (.int .i64 e) ∧ Below u.heap.size u w') := fun u hu => rnumbers_any a n cap z e u (HH.out u hu) hE
  have cMd : Hid (∀ u, Below w.heap.size w u → Calls Tryd.prog 11 #[.slice a n cap] u fun o w' => o = .returned (.tuple #[.int .i64 0, errc e]) ∧ Below u.heap.size u w') := fun u hu => S.median a n cap z e 0 u hu (HH.out u hu) hcp hE (fun h => absurd h e0) (fun _ => rfl)
  have cMn : Hid (∀ u, Below w.heap.size w u → Calls Tryd.prog 12 #[.slice a n cap] u fun o w' => o = .returned (.tuple #[.int .i64 0, errc e]) ∧ Below u.heap.size u w') := fun u hu => by
    have h := S.mean a n cap z e u hu (HH.out u hu) hcp hE
    rw [if_neg e0] at h
    exact h
  have cWa : Hid (∀ u, Below w.heap.size w u → Calls Tryd.prog 13 #[.slice a n cap, .int .i64 d] u fun o w' => o = .returned (.tuple #[.int .i64 0, errc e]) ∧ Below u.heap.size u w') := fun u hu => by
    have h := S.wander a n cap z d e u hu (HH.out u hu) hcp wd (Or.inl ⟨hE, e0⟩)
    rw [if_neg e0] at h
    exact h
  have d0 : (e == 0) = false := by simpa using e0
  clear hE hcp wd hsc
  go_enter Tryd.func3, Tryd.ntmps3
  go_upto_block 0 with (go_at_call 4; refine cS.mono ?_; rintro o u0 ⟨rfl, hb⟩; have HB0 : Hid (Below w.heap.size w u0) := hb; clear hb)
  go_cut [8, 9] from 25 to 48 (fun v vi w' => w'.ownsRow w.heap.size 3 1 v N (icn (fun i => (q i).2 - (q i).1) N) ∧ Below w.heap.size w w')
  case first =>
    go_wp2
    go_loopw [8, 9] (fun v vi wr => ∃ i : Nat, i ≤ N ∧ vi = .int .i64 i ∧ wr.ownsRow w.heap.size 3 1 v i (icn (fun i => (q i).2 - (q i).1) i) ∧ Below w.heap.size w wr) (fun _ vi _ => N - (intOf vi).toNat)
    case atStart => exact ⟨0, Nat.zero_le _, rfl, World.ownsRow_nil _ _ _ _, HB0.out⟩
    case round =>
      clear HB0
      obtain ⟨i, hi, rfl, hown, hw⟩ := hrel
      have HW : Hid (Below w.heap.size w wr) := hw
      have HO : Hid (wr.ownsRow w.heap.size 3 1 u8 i (icn (fun i => (q i).2 - (q i).1) i)) := hown
      have zw := hw.size
      by_cases hlt : i < N
      · obtain ⟨c1, c2, c3⟩ : e1 = 0 ∧ N = sn ∧ N ≤ 40 := by
          rcases HN.out with h | h
          · exact h
          · omega
        subst c2
        subst c1
        have hl3 : (i : Int) < N := by omega
        obtain ⟨b, off, rfl, hP⟩ : ∃ b off : Nat, sa = some ⟨b, off, none⟩ ∧ SpT wr b off N q := by
          rcases (HSp.out wr hw).2 with e | h
          · omega
          · exact h
        obtain ⟨x1, x2⟩ := hP i hlt
        have zb : b < wr.heap.size := World.block_lt_of_cell? _ _ x1
        have ok := okB_t ((HZ.out rfl).2.2 i hlt)
        have w1 : IntKind.i64.wrap ((q i).2 - (q i).1) = (q i).2 - (q i).1 := IntWalk.i64_in _ (by omega)
        have HIc : Hid (icn (fun i => (q i).2 - (q i).1) (i + 1) = icn (fun i => (q i).2 - (q i).1) i ++ [.int .i64 ((q i).2 - (q i).1)]) := rfl
        have HBk : Hid (∀ j, u8.ownBlock = some j → w.heap.size ≤ j) := fun j hj => (HO.out.lt j hj).1
        clear hP hown hw ok
        generalize (q i).1 = ql at *
        generalize (q i).2 = qh at *
        generalize icn (fun i => (q i).2 - (q i).1) i = xs at *
        go_wp2
        go_region_law (refine step_append_at rfl (.tmp 35) (.tmp 47) 23 rfl w.heap.size 3 i0 (.int .i64 0) 1 8 Tryd.underlying23 hi0 hz0 hz1 hz2 rfl (by decide) u8 i xs (by simp [Act.eval, Act.put]) (HO.out.alloc _) ⟨wr.heap.size, 0, none⟩ 1 1 [.int .i64 (qh - ql)] (by simp [Act.eval, Act.put]) rfl (fun j u hj => by rw [Addr.add_lit]; exact (Row.made (W := wr) (vs := [.int .i64 (qh - ql)]) rfl).c _ _ (by simpa using hj)) (fun u hu => by simp at hu; rw [hu]; rfl) (by unfold maxLen; omega) (by omega) (by simp; omega) ?_; intro v' w1' hown1 hgrow1 _; have HO1 : Hid (w1'.ownsRow w.heap.size 3 1 v' (i + 1) (icn (fun i => (q i).2 - (q i).1) (i + 1))) := (by show w1'.ownsRow w.heap.size 3 1 v' (i + 1) (icn (fun i => (q i).2 - (q i).1) (i + 1)); rw [HIc.out]; exact hown1); have HW1 : Hid (Below w.heap.size w w1') := (rbel_al (rbel_dr HW.out)).grown hgrow1 (by simp; omega) HBk.out; clear hown1 hgrow1)
        all_goals
          go_wp2
          go_roundw
          case rel => exact ⟨i + 1, by omega, by go_num, HO1.out, HW1.out⟩
          case measure => simp [intOf]; omega
      · have e : i = N := by omega
        subst e
        rcases HN.out with ⟨c1, c2, _⟩ | ⟨c1, c2⟩
        · have hl3 : ¬ ((i : Int) < sn) := by omega
          clear hown hw c1 c2
          go_wp2
          go_meet
          case rel => exact ⟨HO.out, HW.out⟩
        · have d0 : (e1 == 0) = false := by simpa using c1
          clear hown hw c1 c2
          by_cases s : (i : Int) < sn
          · go_wp2
            go_meet
            case rel => exact ⟨HO.out, HW.out⟩
          · go_wp2
            go_meet
            case rel => exact ⟨HO.out, HW.out⟩
  case rest =>
    obtain ⟨hown, hw⟩ := hcut
    have nN : N ≤ 40 := by rcases HN.out with h | h <;> omega
    obtain ⟨wa, wcp, hv, hWn, _⟩ := own_capN hown (by omega)
    subst hv
    have HWn : Hid (NHanded wc wa N (fun i => (q i).2 - (q i).1)) := hWn
    have HW : Hid (Below w.heap.size w wc) := hw
    clear hown hw hWn HN HZ HSp cS
    have cE1 := fun u (h : Below w.heap.size w u) => error_s e1 u (HEnv.out.below h)
    generalize hq1 : errc e1 = E1 at *
    have cE4 := fun u (h : Below w.heap.size w u) => error_s e u (HEnv.out.below h)
    clear e0
    generalize hq2 : errc e = E2 at *
    clear hq1 hq2
    have cnt : Mark 0 := .mk _
    go_wp2_with (first
    | (go_at_call 5; refine (cW.out _ HW.out).mono ?_; rintro o y1 ⟨ta, tc, rfl, hN, hb⟩; have T1 : Hid (NHanded y1 ta N (fun i => (q i).2 - (q i).1)) := hN; have V1 : Hid (NHanded y1 wa N (fun i => (q i).2 - (q i).1)) := HWn.out.on hb; have B1 : Hid (Below w.heap.size w y1) := rbel_on hb HW.out; clear hb hN)
    | (go_at_call 6; have cq : Mark 0 := cnt; refine (cE1 _ B1.out).mono ?_; clear cq cnt; have cnt : Mark 1 := .mk _; rintro o y2 ⟨rfl, hb⟩; have T2 : Hid (NHanded y2 ta N (fun i => (q i).2 - (q i).1)) := T1.out.on hb; have V2 : Hid (NHanded y2 wa N (fun i => (q i).2 - (q i).1)) := V1.out.on hb; have B2 : Hid (Below w.heap.size w y2) := rbel_on hb B1.out; clear hb)
    | (go_at_call 7; refine (same_ints ta wa N tc wcp _ _ T2.out V2.out).mono ?_; rintro o y3 ⟨rfl, hb⟩; have B3 : Hid (Below w.heap.size w y3) := rbel_on hb B2.out; clear hb)
    | (go_at_call 8; refine (cNu.out _ B3.out).mono ?_; rintro o y4 ⟨rfl, hb⟩; have B4 : Hid (Below w.heap.size w y4) := rbel_on hb B3.out; clear hb)
    | (go_at_call 11; refine (cMd.out _ B4.out).mono ?_; rintro o y5 ⟨rfl, hb⟩; have B5 : Hid (Below w.heap.size w y5) := rbel_on hb B4.out; clear hb)
    | (go_at_call 6; have cq : Mark 1 := cnt; refine (cE4 _ B5.out).mono ?_; clear cq cnt; have cnt : Mark 2 := .mk _; rintro o y6 ⟨rfl, hb⟩; have B6 : Hid (Below w.heap.size w y6) := rbel_on hb B5.out; clear hb)
    | (go_at_call 12; refine (cMn.out _ B6.out).mono ?_; rintro o y7 ⟨rfl, hb⟩; have B7 : Hid (Below w.heap.size w y7) := rbel_on hb B6.out; clear hb)
    | (go_at_call 6; have cq : Mark 2 := cnt; refine (cE4 _ B7.out).mono ?_; clear cq cnt; have cnt : Mark 3 := .mk _; rintro o y8 ⟨rfl, hb⟩; have B8 : Hid (Below w.heap.size w y8) := rbel_on hb B7.out; clear hb)
    )
    by_cases s : d < (n : Int)
    all_goals
      refine wp_loop_rounds 1 ?_
      rw [rounds_succ]
      go_wp2_with (first
      | (go_at_call 13; refine (cWa.out _ B8.out).mono ?_; rintro o y9 ⟨rfl, hb⟩; have B9 : Hid (Below w.heap.size w y9) := rbel_on hb B8.out; clear hb)
      | (go_at_call 6; have cq : Mark 3 := cnt; refine (cE4 _ B9.out).mono ?_; clear cq cnt; have cnt : Mark 4 := .mk _; rintro o y10 ⟨rfl, hb⟩; have B10 : Hid (Below w.heap.size w y10) := rbel_on hb B9.out; clear hb)
      )
      go_ret
      exact ⟨rfl, B10.out⟩
set_option maxRecDepth 100000 in
set_option maxHeartbeats 8000000 in
theorem way_far (sa : Option Addr) (sn sc : Nat) (q : Nat → Int × Int) (a : Option Addr) (n cap : Nat) (z : Nat → Int) (d : Int) (w : World) (he : EnvE w) (S : StW w) (hS : SHd w sa sn q) (hsc : sn ≤ sc) (hH : NHanded w a n z) (hcp : n ≤ cap) (wd : In64 d) (hE : NmE n z 0) (hd : d < 1 ∨ (n : Int) ≤ d) :
    Calls Tryd.prog 3 #[.slice sa sn sc, .slice a n cap, .int .i64 d] w fun o w' => o = .returned (.bool true) ∧ Below w.heap.size w w' := by
  have HEnv : Hid (EnvE w) := he
  have HSp : Hid (∀ u, Below w.heap.size w u → SHd u sa sn q) := fun u hu => hS.on hu
  have HH : Hid (∀ u, Below w.heap.size w u → NHanded u a n z) := fun u hu => hH.on hu
  have cS := rspans_any sa sn sc q w hS
  have sn1 := hS.1
  have nn := hH.1
  obtain ⟨i0, hi0, hz0, hz1, hz2⟩ := info_parts infoIntN
  have HZ : Hid (svE q sn = 0 → 0 < sn ∧ sn ≤ 40 ∧ ∀ i, i < sn → okB (q i).1 (q i).2 = true) := svE_zero
  have cW0 : Hid (∀ u, Below w.heap.size w u → Calls Tryd.prog 5 #[.slice sa sn sc] u fun o w' => ∃ (ta : Option Addr) (k tc : Nat), o = .returned (.tuple #[.slice ta k tc, errc (svE q sn)]) ∧ NHanded w' ta k (fun i => (q i).2 - (q i).1) ∧ k = (if svE q sn = 0 then sn else 0) ∧ Below u.heap.size u w') := fun u hu => S.widths sa sn sc q u hu (HSp.out u hu) hsc
  obtain ⟨e1, he1⟩ : ∃ e1, e1 = svE q sn := ⟨_, rfl⟩
  rw [← he1] at cS HZ cW0
  obtain ⟨N, hN⟩ : ∃ N : Nat, N = (if e1 = 0 then sn else 0) := ⟨_, rfl⟩
  rw [← hN] at cW0
  have cW : Hid (∀ u, Below w.heap.size w u → Calls Tryd.prog 5 #[.slice sa sn sc] u fun o w' => ∃ (ta : Option Addr) (tc : Nat), o = .returned (.tuple #[.slice ta N tc, errc e1]) ∧ NHanded w' ta N (fun i => (q i).2 - (q i).1) ∧ Below u.heap.size u w') := fun u hu => (cW0.out u hu).mono (by
    rintro o w' ⟨ta, k, tc, rfl, h1, rfl, hb⟩
    exact ⟨ta, tc, rfl, h1, hb⟩)
  have HN : Hid ((e1 = 0 ∧ N = sn ∧ N ≤ 40) ∨ (e1 ≠ 0 ∧ N = 0)) := by
    by_cases c : e1 = 0
    · rw [if_pos c] at hN
      have := (HZ.out c).2.1
      exact Or.inl ⟨c, hN, by omega⟩
    · rw [if_neg c] at hN
      exact Or.inr ⟨c, hN⟩
  clear hS hN cW0 hH he1
  obtain ⟨n0, n60, hok⟩ := hE.zero
  obtain ⟨K, hK⟩ : ∃ K : Nat, K = (n - 1) / 2 := ⟨_, rfl⟩
  obtain ⟨v, hv⟩ := mid_some (l := lsN z n) (k := K) (by rw [lsN_len]; omega)
  have cNu : Hid (∀ u, Below w.heap.size w u → Calls Tryd.prog 8 #[.slice a n cap] u fun o w' => o = .returned (.int .i64 0) ∧ Below u.heap.size u w') := fun u hu => rnumbers_any a n cap z 0 u (HH.out u hu) hE
  have cSo : Hid (∀ u, Below w.heap.size w u → Calls Tryd.prog 9 #[.slice a n cap] u fun o w' => ∃ g c, o = .returned (.slice (some ⟨g, 0, none⟩) n c) ∧ w'.cell? ⟨g, K, none⟩ = some (.int .i64 v) ∧ Below u.heap.size u w') := fun u hu => (rsorted_any a n cap z u n60 (HH.out u hu)).mono (by
    rintro o w' ⟨r, L, rfl, ho, hl, hs, hp, hb⟩
    rcases ho.2 with ⟨_, q⟩ | ⟨g, c, cur, hr, _⟩
    · omega
    · subst hr
      obtain ⟨y, hy⟩ : ∃ y, L[K]? = some y := ⟨_, List.getElem?_eq_getElem (by omega)⟩
      have e : y = v := IsMid.one ((mid_sorted hs hy).perm hp) hv
      subst e
      exact ⟨g, c, rfl, by rw [ho.cellAt K (by omega)]; exact icL_at hy, hb⟩)
  have cRm : Hid (∀ u, Below w.heap.size w u → Calls Tryd.prog 10 #[.slice a n cap] u fun o w' => o = .returned (.int .i64 (mnN z n)) ∧ Below u.heap.size u w') := fun u hu => rmean_any a n cap z u (HH.out u hu) hE
  have cMd : Hid (∀ u, Below w.heap.size w u → Calls Tryd.prog 11 #[.slice a n cap] u fun o w' => o = .returned (.tuple #[.int .i64 v, .nilIface]) ∧ Below u.heap.size u w') := fun u hu => by
    have h := S.median a n cap z 0 v u hu (HH.out u hu) hcp hE (fun _ => by rw [← hK]; exact hv) (fun h => absurd rfl h)
    rw [errc_zero] at h
    exact h
  have cMn : Hid (∀ u, Below w.heap.size w u → Calls Tryd.prog 12 #[.slice a n cap] u fun o w' => o = .returned (.tuple #[.int .i64 (mnN z n), .nilIface]) ∧ Below u.heap.size u w') := fun u hu => by
    have h := S.mean a n cap z 0 u hu (HH.out u hu) hcp hE
    rw [if_pos rfl, errc_zero] at h
    exact h
  have wn : IntKind.i64.wrap ((n : Int) - 1) = (n : Int) - 1 := IntWalk.i64_in _ (by omega)
  have tk : ((n : Int) - 1).tdiv 2 = (K : Int) := by rw [Int.tdiv_eq_ediv_of_nonneg (by omega)]; omega
  have wk : IntKind.i64.wrap (K : Int) = (K : Int) := IntWalk.i64_in _ (by omega)
  have wk2 : IntKind.i64.wrap (((n : Int) - 1).tdiv 2) = (K : Int) := by rw [tk]; exact wk
  have kn : (K : Int) < n := by omega
  have kn2 : K < n := by omega
  clear hv hK
  generalize mnN z n = mn at *
  have cWa : Hid (∀ u, Below w.heap.size w u → Calls Tryd.prog 13 #[.slice a n cap, .int .i64 d] u fun o w' => o = .returned (.tuple #[.int .i64 0, errc 1]) ∧ Below u.heap.size u w') := fun u hu => by
    have h := S.wander a n cap z d 1 u hu (HH.out u hu) hcp wd (Or.inr (Or.inl ⟨hE, hd, rfl⟩))
    rw [if_neg (by decide)] at h
    exact h
  have hd2 : d < 1 ∨ (¬ d < 1 ∧ (n : Int) ≤ d) := by omega
  clear hE hcp wd hsc hd hok
  go_enter Tryd.func3, Tryd.ntmps3
  go_upto_block 0 with (go_at_call 4; refine cS.mono ?_; rintro o u0 ⟨rfl, hb⟩; have HB0 : Hid (Below w.heap.size w u0) := hb; clear hb)
  go_cut [8, 9] from 25 to 48 (fun v vi w' => w'.ownsRow w.heap.size 3 1 v N (icn (fun i => (q i).2 - (q i).1) N) ∧ Below w.heap.size w w')
  case first =>
    go_wp2
    go_loopw [8, 9] (fun v vi wr => ∃ i : Nat, i ≤ N ∧ vi = .int .i64 i ∧ wr.ownsRow w.heap.size 3 1 v i (icn (fun i => (q i).2 - (q i).1) i) ∧ Below w.heap.size w wr) (fun _ vi _ => N - (intOf vi).toNat)
    case atStart => exact ⟨0, Nat.zero_le _, rfl, World.ownsRow_nil _ _ _ _, HB0.out⟩
    case round =>
      clear HB0
      obtain ⟨i, hi, rfl, hown, hw⟩ := hrel
      have HW : Hid (Below w.heap.size w wr) := hw
      have HO : Hid (wr.ownsRow w.heap.size 3 1 u8 i (icn (fun i => (q i).2 - (q i).1) i)) := hown
      have zw := hw.size
      by_cases hlt : i < N
      · obtain ⟨c1, c2, c3⟩ : e1 = 0 ∧ N = sn ∧ N ≤ 40 := by
          rcases HN.out with h | h
          · exact h
          · omega
        subst c2
        subst c1
        have hl3 : (i : Int) < N := by omega
        obtain ⟨b, off, rfl, hP⟩ : ∃ b off : Nat, sa = some ⟨b, off, none⟩ ∧ SpT wr b off N q := by
          rcases (HSp.out wr hw).2 with e | h
          · omega
          · exact h
        obtain ⟨x1, x2⟩ := hP i hlt
        have zb : b < wr.heap.size := World.block_lt_of_cell? _ _ x1
        have ok := okB_t ((HZ.out rfl).2.2 i hlt)
        have w1 : IntKind.i64.wrap ((q i).2 - (q i).1) = (q i).2 - (q i).1 := IntWalk.i64_in _ (by omega)
        have HIc : Hid (icn (fun i => (q i).2 - (q i).1) (i + 1) = icn (fun i => (q i).2 - (q i).1) i ++ [.int .i64 ((q i).2 - (q i).1)]) := rfl
        have HBk : Hid (∀ j, u8.ownBlock = some j → w.heap.size ≤ j) := fun j hj => (HO.out.lt j hj).1
        clear hP hown hw ok
        generalize (q i).1 = ql at *
        generalize (q i).2 = qh at *
        generalize icn (fun i => (q i).2 - (q i).1) i = xs at *
        go_wp2
        go_region_law (refine step_append_at rfl (.tmp 35) (.tmp 47) 23 rfl w.heap.size 3 i0 (.int .i64 0) 1 8 Tryd.underlying23 hi0 hz0 hz1 hz2 rfl (by decide) u8 i xs (by simp [Act.eval, Act.put]) (HO.out.alloc _) ⟨wr.heap.size, 0, none⟩ 1 1 [.int .i64 (qh - ql)] (by simp [Act.eval, Act.put]) rfl (fun j u hj => by rw [Addr.add_lit]; exact (Row.made (W := wr) (vs := [.int .i64 (qh - ql)]) rfl).c _ _ (by simpa using hj)) (fun u hu => by simp at hu; rw [hu]; rfl) (by unfold maxLen; omega) (by omega) (by simp; omega) ?_; intro v' w1' hown1 hgrow1 _; have HO1 : Hid (w1'.ownsRow w.heap.size 3 1 v' (i + 1) (icn (fun i => (q i).2 - (q i).1) (i + 1))) := (by show w1'.ownsRow w.heap.size 3 1 v' (i + 1) (icn (fun i => (q i).2 - (q i).1) (i + 1)); rw [HIc.out]; exact hown1); have HW1 : Hid (Below w.heap.size w w1') := (rbel_al (rbel_dr HW.out)).grown hgrow1 (by simp; omega) HBk.out; clear hown1 hgrow1)
        all_goals
          go_wp2
          go_roundw
          case rel => exact ⟨i + 1, by omega, by go_num, HO1.out, HW1.out⟩
          case measure => simp [intOf]; omega
      · have e : i = N := by omega
        subst e
        rcases HN.out with ⟨c1, c2, _⟩ | ⟨c1, c2⟩
        · have hl3 : ¬ ((i : Int) < sn) := by omega
          clear hown hw c1 c2
          go_wp2
          go_meet
          case rel => exact ⟨HO.out, HW.out⟩
        · have d0 : (e1 == 0) = false := by simpa using c1
          clear hown hw c1 c2
          by_cases s : (i : Int) < sn
          · go_wp2
            go_meet
            case rel => exact ⟨HO.out, HW.out⟩
          · go_wp2
            go_meet
            case rel => exact ⟨HO.out, HW.out⟩
  case rest =>
    obtain ⟨hown, hw⟩ := hcut
    have nN : N ≤ 40 := by rcases HN.out with h | h <;> omega
    obtain ⟨wa, wcp, hv, hWn, _⟩ := own_capN hown (by omega)
    subst hv
    have HWn : Hid (NHanded wc wa N (fun i => (q i).2 - (q i).1)) := hWn
    have HW : Hid (Below w.heap.size w wc) := hw
    clear hown hw hWn HN HZ HSp cS
    have cE1 := fun u (h : Below w.heap.size w u) => error_s e1 u (HEnv.out.below h)
    generalize hq1 : errc e1 = E1 at *
    have cE4 := fun u (h : Below w.heap.size w u) => error_s 1 u (HEnv.out.below h)
    have cE0 := fun u (h : Below w.heap.size w u) => error_s 0 u (HEnv.out.below h)
    rw [errc_zero] at cE0
    rw [errc_not (by decide)] at cE4 cWa
    clear hq1
    have cnt : Mark 0 := .mk _
    rcases hd2 with s1 | ⟨s1, s2⟩
    all_goals
      go_wp2_with (first
      | (go_at_call 5; refine (cW.out _ HW.out).mono ?_; rintro o y1 ⟨ta, tc, rfl, hN, hb⟩; have T1 : Hid (NHanded y1 ta N (fun i => (q i).2 - (q i).1)) := hN; have V1 : Hid (NHanded y1 wa N (fun i => (q i).2 - (q i).1)) := HWn.out.on hb; have B1 : Hid (Below w.heap.size w y1) := rbel_on hb HW.out; clear hb hN)
      | (go_at_call 6; have cq : Mark 0 := cnt; refine (cE1 _ B1.out).mono ?_; clear cq cnt; have cnt : Mark 1 := .mk _; rintro o y2 ⟨rfl, hb⟩; have T2 : Hid (NHanded y2 ta N (fun i => (q i).2 - (q i).1)) := T1.out.on hb; have V2 : Hid (NHanded y2 wa N (fun i => (q i).2 - (q i).1)) := V1.out.on hb; have B2 : Hid (Below w.heap.size w y2) := rbel_on hb B1.out; clear hb)
      | (go_at_call 7; refine (same_ints ta wa N tc wcp _ _ T2.out V2.out).mono ?_; rintro o y3 ⟨rfl, hb⟩; have B3 : Hid (Below w.heap.size w y3) := rbel_on hb B2.out; clear hb)
      | (go_at_call 8; refine (cNu.out _ B3.out).mono ?_; rintro o y4 ⟨rfl, hb⟩; have B4 : Hid (Below w.heap.size w y4) := rbel_on hb B3.out; clear hb)
      | (go_at_call 9; refine (cSo.out _ B4.out).mono ?_; rintro o y41 ⟨g, c, rfl, hc, hb⟩; have B41 : Hid (Below w.heap.size w y41) := rbel_on hb B4.out; have k0 := hc; clear hb hc)
      | (go_at_call 10; refine (cRm.out _ B41.out).mono ?_; rintro o y42 ⟨rfl, hb⟩; have B42 : Hid (Below w.heap.size w y42) := rbel_on hb B41.out; clear hb)
      | (go_at_call 11; refine (cMd.out _ B42.out).mono ?_; rintro o y5 ⟨rfl, hb⟩; have B5 : Hid (Below w.heap.size w y5) := rbel_on hb B42.out; clear hb)
      | (go_at_call 6; have cq : Mark 1 := cnt; refine (cE0 _ B5.out).mono ?_; clear cq cnt; have cnt : Mark 2 := .mk _; rintro o y6 ⟨rfl, hb⟩; have B6 : Hid (Below w.heap.size w y6) := rbel_on hb B5.out; clear hb)
      | (go_at_call 12; refine (cMn.out _ B6.out).mono ?_; rintro o y7 ⟨rfl, hb⟩; have B7 : Hid (Below w.heap.size w y7) := rbel_on hb B6.out; clear hb)
      | (go_at_call 6; have cq : Mark 2 := cnt; refine (cE0 _ B7.out).mono ?_; clear cq cnt; have cnt : Mark 3 := .mk _; rintro o y8 ⟨rfl, hb⟩; have B8 : Hid (Below w.heap.size w y8) := rbel_on hb B7.out; clear hb)
      )
      by_cases s : d < (n : Int)
      all_goals
        first
          | (exfalso; omega)
          | (refine wp_loop_rounds 1 ?_
             rw [rounds_succ]
             go_wp2_with (first
             | (go_at_call 13; refine (cWa.out _ B8.out).mono ?_; rintro o y9 ⟨rfl, hb⟩; have B9 : Hid (Below w.heap.size w y9) := rbel_on hb B8.out; clear hb)
             | (go_at_call 6; have cq : Mark 3 := cnt; refine (cE4 _ B9.out).mono ?_; clear cq cnt; have cnt : Mark 4 := .mk _; rintro o y10 ⟨rfl, hb⟩; have B10 : Hid (Below w.heap.size w y10) := rbel_on hb B9.out; clear hb)
             )
             go_ret
             exact ⟨rfl, B10.out⟩)
set_option maxRecDepth 100000 in
set_option maxHeartbeats 8000000 in
theorem way_good (sa : Option Addr) (sn sc : Nat) (q : Nat → Int × Int) (a : Option Addr) (n cap : Nat) (z : Nat → Int) (d : Int) (w : World) (he : EnvE w) (S : StW w) (hS : SHd w sa sn q) (hsc : sn ≤ sc) (hH : NHanded w a n z) (hcp : n ≤ cap) (wd : In64 d) (hE : NmE n z 0) (hd1 : 1 ≤ d) (hd2 : d < n) :
    Calls Tryd.prog 3 #[.slice sa sn sc, .slice a n cap, .int .i64 d] w fun o w' => o = .returned (.bool true) ∧ Below w.heap.size w w' := by
  have HEnv : Hid (EnvE w) := he
  have HSp : Hid (∀ u, Below w.heap.size w u → SHd u sa sn q) := fun u hu => hS.on hu
  have HH : Hid (∀ u, Below w.heap.size w u → NHanded u a n z) := fun u hu => hH.on hu
  have cS := rspans_any sa sn sc q w hS
  have sn1 := hS.1
  have nn := hH.1
  obtain ⟨i0, hi0, hz0, hz1, hz2⟩ := info_parts infoIntN
  have HZ : Hid (svE q sn = 0 → 0 < sn ∧ sn ≤ 40 ∧ ∀ i, i < sn → okB (q i).1 (q i).2 = true) := svE_zero
  have cW0 : Hid (∀ u, Below w.heap.size w u → Calls Tryd.prog 5 #[.slice sa sn sc] u fun o w' => ∃ (ta : Option Addr) (k tc : Nat), o = .returned (.tuple #[.slice ta k tc, errc (svE q sn)]) ∧ NHanded w' ta k (fun i => (q i).2 - (q i).1) ∧ k = (if svE q sn = 0 then sn else 0) ∧ Below u.heap.size u w') := fun u hu => S.widths sa sn sc q u hu (HSp.out u hu) hsc
  obtain ⟨e1, he1⟩ : ∃ e1, e1 = svE q sn := ⟨_, rfl⟩
  rw [← he1] at cS HZ cW0
  obtain ⟨N, hN⟩ : ∃ N : Nat, N = (if e1 = 0 then sn else 0) := ⟨_, rfl⟩
  rw [← hN] at cW0
  have cW : Hid (∀ u, Below w.heap.size w u → Calls Tryd.prog 5 #[.slice sa sn sc] u fun o w' => ∃ (ta : Option Addr) (tc : Nat), o = .returned (.tuple #[.slice ta N tc, errc e1]) ∧ NHanded w' ta N (fun i => (q i).2 - (q i).1) ∧ Below u.heap.size u w') := fun u hu => (cW0.out u hu).mono (by
    rintro o w' ⟨ta, k, tc, rfl, h1, rfl, hb⟩
    exact ⟨ta, tc, rfl, h1, hb⟩)
  have HN : Hid ((e1 = 0 ∧ N = sn ∧ N ≤ 40) ∨ (e1 ≠ 0 ∧ N = 0)) := by
    by_cases c : e1 = 0
    · rw [if_pos c] at hN
      have := (HZ.out c).2.1
      exact Or.inl ⟨c, hN, by omega⟩
    · rw [if_neg c] at hN
      exact Or.inr ⟨c, hN⟩
  clear hS hN cW0 hH he1
  obtain ⟨n0, n60, hok⟩ := hE.zero
  obtain ⟨K, hK⟩ : ∃ K : Nat, K = (n - 1) / 2 := ⟨_, rfl⟩
  obtain ⟨v, hv⟩ := mid_some (l := lsN z n) (k := K) (by rw [lsN_len]; omega)
  have cNu : Hid (∀ u, Below w.heap.size w u → Calls Tryd.prog 8 #[.slice a n cap] u fun o w' => o = .returned (.int .i64 0) ∧ Below u.heap.size u w') := fun u hu => rnumbers_any a n cap z 0 u (HH.out u hu) hE
  have cSo : Hid (∀ u, Below w.heap.size w u → Calls Tryd.prog 9 #[.slice a n cap] u fun o w' => ∃ g c, o = .returned (.slice (some ⟨g, 0, none⟩) n c) ∧ w'.cell? ⟨g, K, none⟩ = some (.int .i64 v) ∧ Below u.heap.size u w') := fun u hu => (rsorted_any a n cap z u n60 (HH.out u hu)).mono (by
    rintro o w' ⟨r, L, rfl, ho, hl, hs, hp, hb⟩
    rcases ho.2 with ⟨_, q⟩ | ⟨g, c, cur, hr, _⟩
    · omega
    · subst hr
      obtain ⟨y, hy⟩ : ∃ y, L[K]? = some y := ⟨_, List.getElem?_eq_getElem (by omega)⟩
      have e : y = v := IsMid.one ((mid_sorted hs hy).perm hp) hv
      subst e
      exact ⟨g, c, rfl, by rw [ho.cellAt K (by omega)]; exact icL_at hy, hb⟩)
  have cRm : Hid (∀ u, Below w.heap.size w u → Calls Tryd.prog 10 #[.slice a n cap] u fun o w' => o = .returned (.int .i64 (mnN z n)) ∧ Below u.heap.size u w') := fun u hu => rmean_any a n cap z u (HH.out u hu) hE
  have cMd : Hid (∀ u, Below w.heap.size w u → Calls Tryd.prog 11 #[.slice a n cap] u fun o w' => o = .returned (.tuple #[.int .i64 v, .nilIface]) ∧ Below u.heap.size u w') := fun u hu => by
    have h := S.median a n cap z 0 v u hu (HH.out u hu) hcp hE (fun _ => by rw [← hK]; exact hv) (fun h => absurd rfl h)
    rw [errc_zero] at h
    exact h
  have cMn : Hid (∀ u, Below w.heap.size w u → Calls Tryd.prog 12 #[.slice a n cap] u fun o w' => o = .returned (.tuple #[.int .i64 (mnN z n), .nilIface]) ∧ Below u.heap.size u w') := fun u hu => by
    have h := S.mean a n cap z 0 u hu (HH.out u hu) hcp hE
    rw [if_pos rfl, errc_zero] at h
    exact h
  have wn : IntKind.i64.wrap ((n : Int) - 1) = (n : Int) - 1 := IntWalk.i64_in _ (by omega)
  have tk : ((n : Int) - 1).tdiv 2 = (K : Int) := by rw [Int.tdiv_eq_ediv_of_nonneg (by omega)]; omega
  have wk : IntKind.i64.wrap (K : Int) = (K : Int) := IntWalk.i64_in _ (by omega)
  have wk2 : IntKind.i64.wrap (((n : Int) - 1).tdiv 2) = (K : Int) := by rw [tk]; exact wk
  have kn : (K : Int) < n := by omega
  have kn2 : K < n := by omega
  clear hv hK
  generalize mnN z n = mn at *
  obtain ⟨D, rfl⟩ : ∃ D : Nat, d = (D : Int) := ⟨d.toNat, by omega⟩
  have cWa : Hid (∀ u, Below w.heap.size w u → Calls Tryd.prog 13 #[.slice a n cap, .int .i64 D] u fun o w' => o = .returned (.tuple #[.int .i64 (wnN z D n), .nilIface]) ∧ Below u.heap.size u w') := fun u hu => by
    have h := S.wander a n cap z D 0 u hu (HH.out u hu) hcp wd (Or.inr (Or.inr ⟨hE, hd1, hd2, rfl⟩))
    rw [if_pos rfl, errc_zero, Int.toNat_natCast] at h
    exact h
  have s1 : ¬ ((D : Int) < 1) := by omega
  have s2 : ¬ ((n : Int) ≤ D) := by omega
  have HOk : Hid (∀ i, i < n → okT (z i)) := hok
  have Dn : D < n := by omega
  have D1 : 1 ≤ D := by omega
  clear hE hcp wd hsc hok
  go_enter Tryd.func3, Tryd.ntmps3
  go_upto_block 0 with (go_at_call 4; refine cS.mono ?_; rintro o u0 ⟨rfl, hb⟩; have HB0 : Hid (Below w.heap.size w u0) := hb; clear hb)
  go_cut [8, 9] from 25 to 48 (fun v vi w' => w'.ownsRow w.heap.size 3 1 v N (icn (fun i => (q i).2 - (q i).1) N) ∧ Below w.heap.size w w')
  case first =>
    go_wp2
    go_loopw [8, 9] (fun v vi wr => ∃ i : Nat, i ≤ N ∧ vi = .int .i64 i ∧ wr.ownsRow w.heap.size 3 1 v i (icn (fun i => (q i).2 - (q i).1) i) ∧ Below w.heap.size w wr) (fun _ vi _ => N - (intOf vi).toNat)
    case atStart => exact ⟨0, Nat.zero_le _, rfl, World.ownsRow_nil _ _ _ _, HB0.out⟩
    case round =>
      clear HB0
      obtain ⟨i, hi, rfl, hown, hw⟩ := hrel
      have HW : Hid (Below w.heap.size w wr) := hw
      have HO : Hid (wr.ownsRow w.heap.size 3 1 u8 i (icn (fun i => (q i).2 - (q i).1) i)) := hown
      have zw := hw.size
      by_cases hlt : i < N
      · obtain ⟨c1, c2, c3⟩ : e1 = 0 ∧ N = sn ∧ N ≤ 40 := by
          rcases HN.out with h | h
          · exact h
          · omega
        subst c2
        subst c1
        have hl3 : (i : Int) < N := by omega
        obtain ⟨b, off, rfl, hP⟩ : ∃ b off : Nat, sa = some ⟨b, off, none⟩ ∧ SpT wr b off N q := by
          rcases (HSp.out wr hw).2 with e | h
          · omega
          · exact h
        obtain ⟨x1, x2⟩ := hP i hlt
        have zb : b < wr.heap.size := World.block_lt_of_cell? _ _ x1
        have ok := okB_t ((HZ.out rfl).2.2 i hlt)
        have w1 : IntKind.i64.wrap ((q i).2 - (q i).1) = (q i).2 - (q i).1 := IntWalk.i64_in _ (by omega)
        have HIc : Hid (icn (fun i => (q i).2 - (q i).1) (i + 1) = icn (fun i => (q i).2 - (q i).1) i ++ [.int .i64 ((q i).2 - (q i).1)]) := rfl
        have HBk : Hid (∀ j, u8.ownBlock = some j → w.heap.size ≤ j) := fun j hj => (HO.out.lt j hj).1
        clear hP hown hw ok
        generalize (q i).1 = ql at *
        generalize (q i).2 = qh at *
        generalize icn (fun i => (q i).2 - (q i).1) i = xs at *
        go_wp2
        go_region_law (refine step_append_at rfl (.tmp 35) (.tmp 47) 23 rfl w.heap.size 3 i0 (.int .i64 0) 1 8 Tryd.underlying23 hi0 hz0 hz1 hz2 rfl (by decide) u8 i xs (by simp [Act.eval, Act.put]) (HO.out.alloc _) ⟨wr.heap.size, 0, none⟩ 1 1 [.int .i64 (qh - ql)] (by simp [Act.eval, Act.put]) rfl (fun j u hj => by rw [Addr.add_lit]; exact (Row.made (W := wr) (vs := [.int .i64 (qh - ql)]) rfl).c _ _ (by simpa using hj)) (fun u hu => by simp at hu; rw [hu]; rfl) (by unfold maxLen; omega) (by omega) (by simp; omega) ?_; intro v' w1' hown1 hgrow1 _; have HO1 : Hid (w1'.ownsRow w.heap.size 3 1 v' (i + 1) (icn (fun i => (q i).2 - (q i).1) (i + 1))) := (by show w1'.ownsRow w.heap.size 3 1 v' (i + 1) (icn (fun i => (q i).2 - (q i).1) (i + 1)); rw [HIc.out]; exact hown1); have HW1 : Hid (Below w.heap.size w w1') := (rbel_al (rbel_dr HW.out)).grown hgrow1 (by simp; omega) HBk.out; clear hown1 hgrow1)
        all_goals
          go_wp2
          go_roundw
          case rel => exact ⟨i + 1, by omega, by go_num, HO1.out, HW1.out⟩
          case measure => simp [intOf]; omega
      · have e : i = N := by omega
        subst e
        rcases HN.out with ⟨c1, c2, _⟩ | ⟨c1, c2⟩
        · have hl3 : ¬ ((i : Int) < sn) := by omega
          clear hown hw c1 c2
          go_wp2
          go_meet
          case rel => exact ⟨HO.out, HW.out⟩
        · have d0 : (e1 == 0) = false := by simpa using c1
          clear hown hw c1 c2
          by_cases s : (i : Int) < sn
          · go_wp2
            go_meet
            case rel => exact ⟨HO.out, HW.out⟩
          · go_wp2
            go_meet
            case rel => exact ⟨HO.out, HW.out⟩
  case rest =>
    obtain ⟨hown, hw⟩ := hcut
    have nN : N ≤ 40 := by rcases HN.out with h | h <;> omega
    obtain ⟨wa, wcp, hv, hWn, _⟩ := own_capN hown (by omega)
    subst hv
    have HWn : Hid (NHanded wc wa N (fun i => (q i).2 - (q i).1)) := hWn
    have HW : Hid (Below w.heap.size w wc) := hw
    clear hown hw hWn HN HZ HSp cS
    have cE1 := fun u (h : Below w.heap.size w u) => error_s e1 u (HEnv.out.below h)
    generalize hq1 : errc e1 = E1 at *
    have cE0 := fun u (h : Below w.heap.size w u) => error_s 0 u (HEnv.out.below h)
    rw [errc_zero] at cE0
    clear hq1
    have cnt : Mark 0 := .mk _
    go_wp2_with (first
    | (go_at_call 5; refine (cW.out _ HW.out).mono ?_; rintro o y1 ⟨ta, tc, rfl, hN, hb⟩; have T1 : Hid (NHanded y1 ta N (fun i => (q i).2 - (q i).1)) := hN; have V1 : Hid (NHanded y1 wa N (fun i => (q i).2 - (q i).1)) := HWn.out.on hb; have B1 : Hid (Below w.heap.size w y1) := rbel_on hb HW.out; clear hb hN)
    | (go_at_call 6; have cq : Mark 0 := cnt; refine (cE1 _ B1.out).mono ?_; clear cq cnt; have cnt : Mark 1 := .mk _; rintro o y2 ⟨rfl, hb⟩; have T2 : Hid (NHanded y2 ta N (fun i => (q i).2 - (q i).1)) := T1.out.on hb; have V2 : Hid (NHanded y2 wa N (fun i => (q i).2 - (q i).1)) := V1.out.on hb; have B2 : Hid (Below w.heap.size w y2) := rbel_on hb B1.out; clear hb)
    | (go_at_call 7; refine (same_ints ta wa N tc wcp _ _ T2.out V2.out).mono ?_; rintro o y3 ⟨rfl, hb⟩; have B3 : Hid (Below w.heap.size w y3) := rbel_on hb B2.out; clear hb)
    | (go_at_call 8; refine (cNu.out _ B3.out).mono ?_; rintro o y4 ⟨rfl, hb⟩; have B4 : Hid (Below w.heap.size w y4) := rbel_on hb B3.out; clear hb)
    | (go_at_call 9; refine (cSo.out _ B4.out).mono ?_; rintro o y41 ⟨g, c, rfl, hc, hb⟩; have B41 : Hid (Below w.heap.size w y41) := rbel_on hb B4.out; have k0 := hc; clear hb hc)
    | (go_at_call 10; refine (cRm.out _ B41.out).mono ?_; rintro o y42 ⟨rfl, hb⟩; have B42 : Hid (Below w.heap.size w y42) := rbel_on hb B41.out; clear hb)
    | (go_at_call 11; refine (cMd.out _ B42.out).mono ?_; rintro o y5 ⟨rfl, hb⟩; have B5 : Hid (Below w.heap.size w y5) := rbel_on hb B42.out; clear hb)
    | (go_at_call 6; have cq : Mark 1 := cnt; refine (cE0 _ B5.out).mono ?_; clear cq cnt; have cnt : Mark 2 := .mk _; rintro o y6 ⟨rfl, hb⟩; have B6 : Hid (Below w.heap.size w y6) := rbel_on hb B5.out; clear hb)
    | (go_at_call 12; refine (cMn.out _ B6.out).mono ?_; rintro o y7 ⟨rfl, hb⟩; have B7 : Hid (Below w.heap.size w y7) := rbel_on hb B6.out; clear hb)
    | (go_at_call 6; have cq : Mark 2 := cnt; refine (cE0 _ B7.out).mono ?_; clear cq cnt; have cnt : Mark 3 := .mk _; rintro o y8 ⟨rfl, hb⟩; have B8 : Hid (Below w.heap.size w y8) := rbel_on hb B7.out; clear hb)
    )
    clear B1 B2 B3 B4 B41 B5 B6 B7 T1 T2 V1 V2 HW HWn k0 cW cNu cSo cRm cMd cMn
    obtain ⟨bz, oz, rfl, hPz⟩ : ∃ bz oz : Nat, a = some ⟨bz, oz, none⟩ ∧ Nrd y8 bz oz n z := by
      rcases (HH.out y8 B8.out).2 with e | h
      · omega
      · exact h
    have HPz : Hid (Nrd y8 bz oz n z) := hPz
    clear hPz HH
    have g1 : decide (n ≤ D) = false := decide_eq_false (by omega)
    have g2 : decide ((D : Int) < 1) = false := decide_eq_false (by omega)
    simp only [g1, g2, Bool.or_false]
    clear g1 g2
    go_loopw [19, 20] (fun vm vi wr => ∃ (i : Nat) (M : Int), D ≤ i ∧ i ≤ n ∧ vi = .int .i64 i ∧ vm = .int .i64 M ∧ M = wnN z D i ∧ Nrd wr bz oz n z ∧ Below w.heap.size w wr) (fun _ vi _ => n - (intOf vi).toNat)
    case atStart => exact ⟨D, 0, Nat.le_refl _, by omega, rfl, rfl, (wnN_low (Nat.le_refl _)).symm, HPz.out, B8.out⟩
    case round =>
      clear HPz B8
      obtain ⟨i, M, hDi, hi, rfl, rfl, hM, hPz, hw⟩ := hrel
      have HPz : Hid (Nrd wr bz oz n z) := hPz
      have HW : Hid (Below w.heap.size w wr) := hw
      by_cases hlt : i < n
      · have hl3 : (i : Int) < n := by omega
        obtain ⟨J, hJ⟩ : ∃ J : Nat, J = i - D := ⟨_, rfl⟩
        have x0 := hPz i hlt
        have x1 := hPz J (by omega)
        have zb : bz < wr.heap.size := World.block_lt_of_cell? _ _ x0
        have wj : IntKind.i64.wrap ((i : Int) - D) = (J : Int) := by rw [show (i : Int) - D = (J : Int) by omega]; exact IntWalk.i64_in _ (by omega)
        have jn : (J : Int) < n := by omega
        have jn2 : J < n := by omega
        have o1 := HOk.out i hlt
        have o2 := HOk.out J (by omega)
        have db := dst_b o1 o2
        unfold okT at o1 o2
        have wd1 : IntKind.i64.wrap (z i - z J) = z i - z J := IntWalk.i64_in _ (by omega)
        have wd2 : IntKind.i64.wrap (-(z i - z J)) = -(z i - z J) := IntWalk.i64_in _ (by omega)
        have HMn : Hid (wnN z D (i + 1) = if M < dst (z i) (z J) then dst (z i) (z J) else M) := by
          show (if D ≤ i ∧ wnN z D i < dst (z i) (z (i - D)) then dst (z i) (z (i - D)) else wnN z D i) = _
          rw [← hJ, ← hM]
          by_cases c : M < dst (z i) (z J)
          · rw [if_pos ⟨hDi, c⟩, if_pos c]
          · rw [if_neg (fun h => c h.2), if_neg c]
        clear hPz hw hM hJ db
        obtain ⟨df, hdf⟩ : ∃ df, df = z i - z J := ⟨_, rfl⟩
        have HDs : Hid (dst (z i) (z J) = if df < 0 then -df else df) := by rw [hdf]; rfl
        rw [← hdf] at wd1 wd2
        generalize z i = zi at *
        generalize z J = zj at *
        have wd1' : IntKind.i64.wrap (zi - zj) = df := by rw [← hdf]; exact wd1
        clear wd1 hdf
        by_cases c : df < 0
        · have HD2 : Hid (dst zi zj = -df) := by show dst zi zj = -df; rw [HDs.out, if_pos c]
          rw [HD2.out] at HMn
          clear HDs HD2
          by_cases c2 : M < -df
          · rw [if_pos c2] at HMn
            go_wp2
            go_quiet (fail)
            go_wp2
            go_roundw
            case rel => exact ⟨i + 1, -df, by omega, by omega, by go_num, rfl, HMn.out.symm, HPz.out, rbel_drn HW.out⟩
            case measure => simp [intOf]; omega
          · rw [if_neg c2] at HMn
            go_wp2
            go_quiet (fail)
            go_wp2
            go_roundw
            case rel => exact ⟨i + 1, M, by omega, by omega, by go_num, rfl, HMn.out.symm, HPz.out, rbel_drn HW.out⟩
            case measure => simp [intOf]; omega
        · have HD2 : Hid (dst zi zj = df) := by show dst zi zj = df; rw [HDs.out, if_neg c]
          rw [HD2.out] at HMn
          clear HDs HD2
          by_cases c2 : M < df
          · rw [if_pos c2] at HMn
            go_wp2
            go_quiet (fail)
            go_wp2
            go_roundw
            case rel => exact ⟨i + 1, df, by omega, by omega, by go_num, rfl, HMn.out.symm, HPz.out, rbel_drn HW.out⟩
            case measure => simp [intOf]; omega
          · rw [if_neg c2] at HMn
            go_wp2
            go_quiet (fail)
            go_wp2
            go_roundw
            case rel => exact ⟨i + 1, M, by omega, by omega, by go_num, rfl, HMn.out.symm, HPz.out, rbel_drn HW.out⟩
            case measure => simp [intOf]; omega
      · have hl3 : ¬ ((i : Int) < n) := by omega
        have e : n = i := by omega
        rw [← e] at hM
        rw [← hM] at cWa
        have t1 : (M == M) = true := beq_iff_eq.2 rfl
        clear hPz hw hM e
        go_wp2_with (first
          | (go_at_call 13; refine (cWa.out _ HW.out).mono ?_; rintro o y9 ⟨rfl, hb⟩; have B9 : Hid (Below w.heap.size w y9) := rbel_on hb HW.out; clear hb)
          | (go_at_call 6; refine (cE0 _ B9.out).mono ?_; rintro o y10 ⟨rfl, hb⟩; have B10 : Hid (Below w.heap.size w y10) := rbel_on hb B9.out; clear hb))
        go_ret
        exact ⟨rfl, B10.out⟩
theorem all_ways (sa : Option Addr) (sn sc : Nat) (q : Nat → Int × Int) (a : Option Addr) (n cap : Nat) (z : Nat → Int) (d : Int) (w : World) (he : EnvE w) (S : StW w) (hS : SHd w sa sn q) (hsc : sn ≤ sc) (hH : NHanded w a n z) (hcp : n ≤ cap) (wd : In64 d) :
    Calls Tryd.prog 3 #[.slice sa sn sc, .slice a n cap, .int .i64 d] w fun o w' => o = .returned (.bool true) ∧ Below w.heap.size w w' := by
  obtain ⟨e, hE⟩ := nmE_some n z
  by_cases e0 : e = 0
  · subst e0
    by_cases hd : d < 1 ∨ (n : Int) ≤ d
    · exact way_far sa sn sc q a n cap z d w he S hS hsc hH hcp wd hE hd
    · exact way_good sa sn sc q a n cap z d w he S hS hsc hH hcp wd hE (by omega) (by omega)
  · exact way_bad sa sn sc q a n cap z d e w he S hS hsc hH hcp wd hE e0
end Go.Proofs.YthejaecljkjliakDoor.statTells
