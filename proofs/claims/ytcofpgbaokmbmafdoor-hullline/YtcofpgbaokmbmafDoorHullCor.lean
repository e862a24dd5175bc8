/- What hull.corners answers: the corners, one behind the other. -/
import Derived.Test.YtcofpgbaokmbmafDoorHullHst
import Derived.Maps.AppendAt
namespace Go.Proofs.YtcofpgbaokmbmafDoor
open Go.ChangeShapes Go.WideShapes Go.ChangeAt Go.RowKit Go.Joins
set_option linter.unusedVariables false
set_option linter.unusedSimpArgs false

theorem own_onC {W u : World} {base n size : Nat} {e : TypeId} {v : Value} {xs : List Value} (hb : Below W.heap.size W u) (h : W.ownsRow base e size v n xs) : u.ownsRow base e size v n xs := by
  refine ⟨h.1, ?_⟩
  rcases h.2 with h' | ⟨g, cap, cur, h1, h2, h3, h4⟩
  · exact Or.inl h'
  · refine Or.inr ⟨g, cap, cur, h1, h2, (hb.block g ?_).trans h3, h4⟩
    rcases Nat.lt_or_ge g W.heap.size with hlt | hge
    · exact hlt
    · rw [Array.getElem?_eq_none hge] at h3; cases h3
theorem pcs_take (l : List (Int × Int)) (k : Nat) (h : k ≤ l.length) : (pcs l).take (k * 2) = pcs (l.take k) := by
  have e : pcs l = pcs (l.take k) ++ pcs (l.drop k) := by rw [← pcs_app, List.take_append_drop]
  rw [e]
  have : (pcs (l.take k)).length = k * 2 := by rw [pcs_len, List.length_take, Nat.min_eq_left h]
  rw [← this, List.take_left]
/-- A row cut shorter. -/
theorem own_take {u : World} {base g n cap k : Nat} {e : TypeId} {l : List (Int × Int)} (h : u.ownsRow base e 2 (.slice (some ⟨g, 0, none⟩) n cap) n (pcs l)) (hl : l.length = n) (hk : k ≤ n) : u.ownsRow base e 2 (.slice (some ⟨g, 0, none⟩) k cap) k (pcs (l.take k)) := by
  rcases h.2 with ⟨e', _⟩ | ⟨g', cap', cur, e', h2, h3, h4, h5, h6, h7⟩
  · cases e'
  · injection e' with e1 e2 e3
    obtain rfl : g' = g := by injection e1 with e1; injection e1 with e1; exact e1.symm
    subst e3
    refine ⟨by rw [pcs_len, List.length_take]; omega, Or.inr ⟨g', cap, cur, rfl, h2, h3, by omega, h5, h6, ?_⟩⟩
    rw [← pcs_take l k (by omega), ← h7, List.take_take, Nat.min_eq_left (by omega)]
/-- A point of a row of the call's own. -/
theorem own_cell {u : World} {base g n cap : Nat} {e : TypeId} {l : List (Int × Int)} (h : u.ownsRow base e 2 (.slice (some ⟨g, 0, none⟩) n cap) n (pcs l)) {i : Nat} {p : Int × Int} (hi : l[i]? = some p) : u.cell? ⟨g, i * 2, none⟩ = some (.int .i64 p.1) ∧ u.cell? ⟨g, i * 2 + 1, none⟩ = some (.int .i64 p.2) := by
  obtain ⟨a, b⟩ := pcs_at hi
  have l1 := (List.getElem?_eq_some_iff.1 a).1
  have l2 := (List.getElem?_eq_some_iff.1 b).1
  have hl : (pcs l).length = n * 2 := h.1
  exact ⟨(h.cellAt (i * 2) (by omega)).trans a, (h.cellAt (i * 2 + 1) (by omega)).trans b⟩
/-- The corners, in a row of the call's own. -/
def CrR (f : Nat → Int × Int) (n : Nat) (w : World) (o : Ending) (w' : World) : Prop := ∃ (ca : Option Addr) (k cc : Nat) (c : Nat → Int × Int), o = .returned (.slice ca k cc) ∧ PHanded w' ca k c ∧ Up (lst f n) (lst c k) ∧ k ≤ n ∧ k ≤ cc ∧ Below w.heap.size w w'
/-- How long a slice is. -/
def lenOf : Value → Nat
  | .slice _ n _ => n
  | _ => 0
theorem rowL_some {l : List (Int × Int)} {i : Nat} (h : i < l.length) : l[i]? = some (rowL l i) := by
  unfold rowL
  rw [List.getElem?_eq_getElem h]
  rfl
set_option maxRecDepth 100000 in
set_option maxHeartbeats 8000000 in
theorem corners_any (ad : Option Addr) (n cap : Nat) (f : Nat → Int × Int) (w : World) (h60 : n ≤ 60) (hH : PHanded w ad n f) (hok : ∀ i, i < n → okP (f i)) :
    Calls Tryd.prog 21 #[.slice ad n cap] w fun o w' => CrR f n w o w' := by
  have cH := highest_any ad n cap f (w.alloc (.cells #[] 33)) h60 (hH.on (rbel_al (Below.refl _ _)))
  have HOk : Hid (∀ p, p ∈ lst f n → okP p) := fun p hp => by
    obtain ⟨i, hi, rfl⟩ := mem_lst.1 hp
    exact hok i hi
  obtain ⟨i0, hi0, hz0, hz1, hz2⟩ := info_parts infoPoint
  have H60 : Hid (n ≤ 60) := h60
  clear hH hok
  go_enter Tryd.func21, Tryd.ntmps21
  go_wp2_with (go_at_call 27; refine cH.mono ?_; rintro e u0 ⟨ca, k, cc, c, rfl, hP, hHi, hkn, hb, hg⟩; have HP : Hid (PHanded u0 ca k c) := hP; have HHi : Hid (Hi (lst f n) (lst c k)) := hHi; have HB : Hid (Below (w.alloc (.cells #[] 33)).heap.size (w.alloc (.cells #[] 33)) u0) := hb; have HG : Hid (k = 0 ∨ ∃ g, ca = some ⟨g, 0, none⟩ ∧ (w.alloc (.cells #[] 33)).heap.size ≤ g ∧ g < u0.heap.size) := hg; clear hP hHi hb hg)
  have HK : Hid (k ≤ n) := hkn
  have k60 : k ≤ 60 := Nat.le_trans hkn h60
  go_loopw [3, 10] (fun v vi wr => ∃ (i : Nat) (s : List (Int × Int)), i ≤ k ∧ vi = .int .i64 i ∧ wr.ownsRow w.heap.size 33 2 v s.length (pcs s) ∧ v ≠ .slice none 0 0 ∧ (0 < k → v.ownBlock ≠ ca.map (·.block)) ∧ Up (lst c i) s ∧ s.length ≤ i ∧ PHanded wr ca k c ∧ Below w.heap.size w wr) (fun _ i _ => k - (intOf i).toNat)
  case atStart =>
    refine ⟨0, [], Nat.zero_le _, rfl, own_onC HB.out (own_emptyP w 33 2), by simp, fun k0 => ?_, up_nil, Nat.le_refl _, HP.out, rbel_on HB.out (rbel_al (Below.refl _ _))⟩
    rcases HG.out with e | ⟨g, e, h1, h2⟩
    · omega
    · rw [e]
      intro e'
      have e2 : w.heap.size = g := by injection e'
      simp at h1
      omega
  case round =>
    clear HP HB
    obtain ⟨i, s, hi, rfl, hO, hnn, hne, hU, hsl, hPH, hw⟩ := hrel
    have zz := hw.size
    have HW : Hid (Below w.heap.size w wr) := hw
    have HU : Hid (Up (lst c i) s) := hU
    have HO : Hid (wr.ownsRow w.heap.size 33 2 u3 s.length (pcs s)) := hO
    have HPH : Hid (PHanded wr ca k c) := hPH
    obtain ⟨g3, c3, rfl, hg3, hc3, hm3⟩ : ∃ g3 c3, u3 = .slice (some ⟨g3, 0, none⟩) s.length c3 ∧ g3 < wr.heap.size ∧ s.length ≤ c3 ∧ c3 ≤ maxLen := by
      rcases hO.2 with ⟨e, _⟩ | ⟨g, cap, cur, e, _, hh, hc, hm, _⟩
      · exact absurd e hnn
      · exact ⟨g, cap, e, (by rw [e] at hO; exact (hO.lt g rfl).2), hc, hm⟩
    clear hO hnn hU hw
    by_cases hlt : i < k
    · have hl3 : (i : Int) < k := by omega
      obtain ⟨b, off, rfl, hPl⟩ : ∃ b off : Nat, ca = some ⟨b, off, none⟩ ∧ Pls wr b off k c := by
        rcases hPH.2 with e | h
        · omega
        · exact h
      have gb : g3 ≠ b := fun e => hne (by omega) (by rw [e]; rfl)
      obtain ⟨x0, x1⟩ := hPl i hlt
      have zb : b < wr.heap.size := World.block_lt_of_cell? _ _ x0
      have HPl : Hid (Pls wr b off k c) := hPl
      clear hne hPH hPl
      have okm : ∀ q, q ∈ lst c k → okP q := fun q hq => HOk.out q ((HHi.out.2 q).1 hq).1
      have okp : okP (c i) := okm _ (lst_in hlt)
      have HPk : Hid (okP (c i)) := okp
      have HOs : Hid (∀ q, q ∈ s → okP q) := fun q hq => okm q (by
        obtain ⟨j, hj, e⟩ := mem_lst.1 ((HU.out.2 q).1 hq).1
        exact mem_lst.2 ⟨j, by omega, e⟩)
      have HRt : Hid (∀ q, q ∈ lst c i → q.1 < (c i).1) := fun q hq => by
        obtain ⟨j, hj, rfl⟩ := mem_lst.1 hq
        have h := HHi.out.1
        have l1 : j < (lst c k).length := by rw [lst_len]; omega
        have l2 : i < (lst c k).length := by rw [lst_len]; omega
        have r := List.pairwise_iff_getElem.1 h j i l1 l2 hj
        have a1 := lst_at c k j (by omega)
        have a2 := lst_at c k i (by omega)
        rw [List.getElem?_eq_getElem l1] at a1
        rw [List.getElem?_eq_getElem l2] at a2
        rw [Option.some.inj a1, Option.some.inj a2] at r
        exact r
      have XO : Hid ((wr.alloc (.cells #[.int .i64 (c i).1, .int .i64 (c i).2] 33)).ownsRow w.heap.size 33 2 (.slice (some ⟨g3, 0, none⟩) s.length c3) s.length (pcs s)) := HO.out.alloc _
      have XP : Hid (Row (wr.alloc (.cells #[.int .i64 (c i).1, .int .i64 (c i).2] 33)) wr.heap.size [.int .i64 (c i).1, .int .i64 (c i).2]) := Row.made (vs := [.int .i64 (c i).1, .int .i64 (c i).2]) rfl
      have XPl : Hid (Pls (wr.alloc (.cells #[.int .i64 (c i).1, .int .i64 (c i).2] 33)) b off k c) := HPl.out.on (rbel_al (Below.refl _ _))
      have XW : Hid (Below w.heap.size w (wr.alloc (.cells #[.int .i64 (c i).1, .int .i64 (c i).2] 33))) := rbel_al HW.out
      have xs : (wr.alloc (.cells #[.int .i64 (c i).1, .int .i64 (c i).2] 33)).heap.size = wr.heap.size + 1 := by simp
      have XS : Hid (g3 < wr.heap.size ∧ b < wr.heap.size ∧ wr.heap.size < (wr.alloc (.cells #[.int .i64 (c i).1, .int .i64 (c i).2] 33)).heap.size ∧ w.heap.size ≤ wr.heap.size) := ⟨hg3, zb, by rw [xs]; omega, zz⟩
      clear okm okp HO HPH HPl HW xs
      go_wp2
      generalize wr.alloc (.cells #[.int .i64 (c i).1, .int .i64 (c i).2] 33) = X at *
      generalize wr.heap.size = B at *
      clear x0 x1 zb hg3 zz
      go_loopw [3] (fun v wr' => ∃ k' : Nat, v = .slice (some ⟨g3, 0, none⟩) k' c3 ∧ k' ≤ s.length ∧ (0 < s.length → 0 < k') ∧ (∀ j a b, k' ≤ j → 0 < j → s[j - 1]? = some a → s[j]? = some b → hgt a (c i) b ≤ 0) ∧ Below X.heap.size X wr') (fun v _ => lenOf v)
      case atStart =>
        exact ⟨s.length, rfl, Nat.le_refl _, fun h => h, fun j a b h1 h2 h3 h4 => by
          have := (List.getElem?_eq_some_iff.1 h4).1
          omega, Below.refl _ _⟩
      case round =>
        obtain ⟨k', rfl, hk', hk0, hpop, hwX⟩ := hrel
        have HWX : Hid (Below X.heap.size X wr) := hwX
        have HPop : Hid (∀ j a b, k' ≤ j → 0 < j → s[j - 1]? = some a → s[j]? = some b → hgt a (c i) b ≤ 0) := hpop
        have HK0 : Hid (0 < s.length → 0 < k') := hk0
        have RP : Hid (Row wr B [.int .i64 (c i).1, .int .i64 (c i).2]) := Row.on hwX XP.out
        have p0 := RP.out.c 0 _ rfl
        have p1 := RP.out.c 1 _ rfl
        have zB : B < wr.heap.size := Nat.lt_of_lt_of_le XS.out.2.2.1 hwX.size
        have zg : g3 < wr.heap.size := by have := XS.out.1; omega
        have OW := own_onC hwX XO.out
        clear hpop hk0
        obtain ⟨bb, hbb⟩ : ∃ bb, bb = (decide (2 ≤ k') && !decide (0 < hgt (rowL s (k' - 2)) (c i) (rowL s (k' - 1)))) := ⟨_, rfl⟩
        have HBB : Hid (bb = (decide (2 ≤ k') && !decide (0 < hgt (rowL s (k' - 2)) (c i) (rowL s (k' - 1))))) := hbb
        go_upto_region 5 with (fail)
        go_cut [33] from 14 to 33 (fun v w' => v = .bool bb ∧ Below X.heap.size X w')
        case first =>
          by_cases h2 : 2 ≤ k'
          · obtain ⟨K1, e1⟩ : ∃ K1, K1 = k' - 1 := ⟨_, rfl⟩
            obtain ⟨K2, e2⟩ : ∃ K2, K2 = k' - 2 := ⟨_, rfl⟩
            rw [decide_eq_true h2, Bool.true_and, ← e1, ← e2] at hbb
            have w1 : IntKind.i64.wrap ((k' : Int) - 1) = (K1 : Int) := by rw [show (k' : Int) - 1 = (K1 : Int) by omega]; exact IntWalk.i64_in _ (by omega)
            have w2 : IntKind.i64.wrap ((k' : Int) - 2) = (K2 : Int) := by rw [show (k' : Int) - 2 = (K2 : Int) by omega]; exact IntWalk.i64_in _ (by omega)
            have d2 : decide ((2 : Int) ≤ (k' : Int)) = true := decide_eq_true (by omega)
            have l1 : (K1 : Int) < (k' : Int) := by omega
            have l2 : (K2 : Int) < (k' : Int) := by omega
            have n1 : K1 < k' := by omega
            have n2 : K2 < k' := by omega
            obtain ⟨y0, y1⟩ := own_cell OW (rowL_some (i := K1) (by omega))
            obtain ⟨z0, z1⟩ := own_cell OW (rowL_some (i := K2) (by omega))
            have cA := fun u => isAbove_any (rowL s K1) (rowL s K2) (c i) u (HOs.out _ (List.mem_of_getElem? (rowL_some (by omega)))) (HOs.out _ (List.mem_of_getElem? (rowL_some (by omega)))) HPk.out
            obtain ⟨ab, hab⟩ : ∃ ab, ab = decide (0 < hgt (rowL s K2) (c i) (rowL s K1)) := ⟨_, rfl⟩
            rw [← hab] at cA hbb
            subst hbb
            clear OW hab e1 e2 hwX HBB HPop HK0 RP HOs HPk HRt XO XP XPl XW XS HU HHi HG HK HOk
            generalize (rowL s K1).1 = yx at *
            generalize (rowL s K1).2 = yy at *
            generalize (rowL s K2).1 = zx at *
            generalize (rowL s K2).2 = zy at *
            generalize (c i).1 = px at *
            generalize (c i).2 = py at *
            go_region_held (fun w' => w'.cell? ⟨g3, K1 * 2, none⟩ = some (.int .i64 yx) ∧ w'.cell? ⟨g3, K1 * 2 + 1, none⟩ = some (.int .i64 yy) ∧ w'.cell? ⟨g3, K2 * 2, none⟩ = some (.int .i64 zx) ∧ w'.cell? ⟨g3, K2 * 2 + 1, none⟩ = some (.int .i64 zy) ∧ w'.cell? ⟨B, 0, none⟩ = some (.int .i64 px) ∧ w'.cell? ⟨B, 1, none⟩ = some (.int .i64 py)) (go_keep) (first | (go_at_call 28; refine (cA _).mono ?_; rintro e u1 ⟨rfl, hb⟩; have HB0 : Hid (Below wr.drew.heap.size wr.drew u1) := hb; have v0 := (hb.cell (p := ⟨g3, K1 * 2, none⟩) zg).trans y0; have v1 := (hb.cell (p := ⟨g3, K1 * 2 + 1, none⟩) zg).trans y1; have v2 := (hb.cell (p := ⟨g3, K2 * 2, none⟩) zg).trans z0; have v3 := (hb.cell (p := ⟨g3, K2 * 2 + 1, none⟩) zg).trans z1; have v4 := (hb.cell (p := ⟨B, 0, none⟩) zB).trans p0; have v5 := (hb.cell (p := ⟨B, 1, none⟩) zB).trans p1; clear hb))
            all_goals
              go_wp2
              go_meet
              case rel => exact ⟨rfl, rbel_on HB0.out (rbel_dr HWX.out)⟩
          · have d2 : decide ((2 : Int) ≤ (k' : Int)) = false := decide_eq_false (by omega)
            rw [decide_eq_false h2, Bool.false_and] at hbb
            subst hbb
            clear OW hwX HBB HPop HK0 RP HOs HPk HRt XO XP XPl XW XS HU HHi HG HK HOk
            go_quiet (fail)
            go_wp2
            go_meet
            case rel => exact ⟨rfl, rbel_drn HWX.out⟩
        case rest =>
          obtain ⟨rfl, hwc⟩ := hcut
          have HWc : Hid (Below X.heap.size X wc) := hwc
          have OW2 := own_onC hwc XO.out
          have RP2 := Row.on hwc XP.out
          have sz := hwc.size
          clear OW hwX hbb RP HWX p0 p1 zB zg hwc
          cases bb with
          | true =>
            have hp := HBB.out
            simp only [Bool.true_eq, Bool.and_eq_true, decide_eq_true_eq, Bool.not_eq_true', decide_eq_false_iff_not] at hp
            obtain ⟨h2, hp⟩ := hp
            obtain ⟨K1, e1⟩ : ∃ K1, K1 = k' - 1 := ⟨_, rfl⟩
            have HN : Hid (K1 ≤ s.length ∧ 0 < K1 ∧ K1 < k' ∧ ∀ j a b, K1 ≤ j → 0 < j → s[j - 1]? = some a → s[j]? = some b → hgt a (c i) b ≤ 0) := by
              refine ⟨by omega, by omega, by omega, fun j a b h1 h3 h4 h5 => ?_⟩
              by_cases e : j = K1
              · rw [e, e1] at h4 h5
                rw [show k' - 1 - 1 = k' - 2 by omega] at h4
                rw [← rowL_at h4, ← rowL_at h5]
                omega
              · exact HPop.out j a b (by omega) h3 h4 h5
            have w1 : IntKind.i64.wrap ((k' : Int) - 1) = (K1 : Int) := by rw [show (k' : Int) - 1 = (K1 : Int) by omega]; exact IntWalk.i64_in _ (by omega)
            have l1 : (K1 : Int) ≤ (c3 : Int) := by omega
            have l1' : K1 ≤ c3 := by omega
            clear HBB hp e1 HPop HK0 OW2 RP2
            go_wp2
            go_roundw
            case rel => exact ⟨K1, rfl, HN.out.1, fun _ => HN.out.2.1, HN.out.2.2.2, HWc.out⟩
            case measure => exact HN.out.2.2.1
          | false =>
            have hp := HBB.out
            have HTop : Hid (∀ a b, 2 ≤ k' → s[k' - 2]? = some a → s[k' - 1]? = some b → 0 < hgt a (c i) b) := fun a b h2 h3 h4 => by
              rw [decide_eq_true h2, Bool.true_and, rowL_at h3, rowL_at h4] at hp
              simpa using hp
            have HUn : Hid (Up (lst c (i + 1)) (s.take k' ++ [c i])) := by
              show Up (lst c (i + 1)) (s.take k' ++ [c i])
              rw [lst_snoc]
              exact HU.out.next HRt.out hk' HPop.out HK0.out HTop.out
            have OT : Hid (wc.ownsRow w.heap.size 33 2 (.slice (some ⟨g3, 0, none⟩) k' c3) k' (pcs (s.take k'))) := own_take OW2 rfl hk'
            have HLn : Hid ((s.take k' ++ [c i]).length = k' + 1) := by show (s.take k' ++ [c i]).length = k' + 1; rw [List.length_append, List.length_take, Nat.min_eq_left hk']; rfl
            have HPc : Hid (pcs (s.take k' ++ [c i]) = pcs (s.take k') ++ [.int .i64 (c i).1, .int .i64 (c i).2]) := by show pcs _ = _; rw [pcs_app]; rfl
            have HWw : Hid (Below w.heap.size w wc) := rbel_on HWc.out XW.out
            have HPl2 : Hid (Pls wc b off k c) := XPl.out.on HWc.out
            have p0 := RP2.c 0 _ rfl
            have p1 := RP2.c 1 _ rfl
            have gg : w.heap.size ≤ g3 := (XO.out.lt g3 rfl).1
            have zw : w.heap.size ≤ wc.heap.size := by have := XS.out.2.2.2; have := XS.out.2.2.1; omega
            have zb : b < wc.heap.size := by have := XS.out.2.1; have := XS.out.2.2.1; omega
            have nB : ¬ (B = wc.heap.size) := by have := XS.out.2.2.1; omega
            clear HBB hp HPop HK0 OW2 RP2 HTop XO XP XPl XW XS HU HRt HOs HPk
            generalize s.take k' ++ [c i] = s' at *
            generalize pcs (s.take k') = xs at *
            generalize (c i).1 = px at *
            generalize (c i).2 = py at *
            go_wp2_with (at_builtin; refine wpList_append_own_at _ rfl _ _ 22 rfl w.heap.size 33 i0 (.agg #[.int .i64 0, .int .i64 0]) 2 16 Tryd.underlying22 hi0 hz0 hz1 hz2 rfl (by decide) (.slice (some ⟨g3, 0, none⟩) k' c3) k' xs rfl (OT.out.alloc _) ⟨wc.heap.size, 0, none⟩ 1 1 [.int .i64 px, .int .i64 py] rfl rfl (fun j u hj => by rw [Addr.add_lit]; exact (Row.made (W := wc) (vs := [.int .i64 px, .int .i64 py]) rfl).c _ _ (by simpa using hj)) (fun u hu => by simp at hu; rcases hu with rfl | rfl <;> rfl) (by unfold maxLen; omega) (by omega) (by simp; omega) ?_)
            intro v' w1 hown' hgrow hnil hat
            have HO1 : Hid (w1.ownsRow w.heap.size 33 2 v' s'.length (pcs s')) := by
              show w1.ownsRow w.heap.size 33 2 v' s'.length (pcs s')
              rw [HLn.out, HPc.out]
              exact hown'
            have HV1 : Hid (v' ≠ .slice none 0 0 ∧ (0 < k → v'.ownBlock ≠ (some (⟨b, off, none⟩ : Addr)).map (·.block))) := by
              refine ⟨fun e => ?_, fun _ e => ?_⟩
              · exact hnil e
              · have e' : v'.ownBlock = some b := e
                rcases hat with h | h
                · rw [h] at e'
                  exact gb (Option.some.inj e')
                · rw [h] at e'
                  have := Option.some.inj e'
                  omega
            have HP1 : Hid (PHanded w1 (some ⟨b, off, none⟩) k c) := ⟨by omega, Or.inr ⟨b, off, rfl, fun q hq => by
              obtain ⟨a1, a2⟩ := (HPl2.out.on (rbel_al (Below.refl _ _))) q hq
              exact ⟨hgrow.cell a1 (fun e => gb (Option.some.inj e).symm), hgrow.cell a2 (fun e => gb (Option.some.inj e).symm)⟩⟩⟩
            have HW1 : Hid (Below w.heap.size w w1) := (rbel_al HWw.out).grown hgrow (by simp; omega) (fun j hj => by obtain rfl := Option.some.inj hj; exact gg)
            have ln : s'.length ≤ i + 1 := by rw [HLn.out]; omega
            clear hown' hgrow hnil hat OT HPc HLn HPl2 HWw HWc
            go_wp2
            go_roundw
            case rel => exact ⟨i + 1, s', by omega, by go_num, HO1.out, HV1.out.1, HV1.out.2, HUn.out, ln, HP1.out, HW1.out⟩
            case measure => simp [intOf]; omega
    · have e : i = k := by omega
      subst e
      have hl3 : ¬ ((i : Int) < i) := by omega
      have HR : Hid (CrR f n w (.returned (.slice (some ⟨g3, 0, none⟩) s.length c3)) wr) := by
        obtain ⟨a, cp, e, hp, _⟩ := own_points HO.out rfl (by omega)
        injection e with e1 e2 e3
        subst e1
        subst e3
        refine ⟨_, s.length, c3, rowL s, rfl, hp, ?_, by have := HK.out; omega, hc3, HW.out⟩
        rw [lst_row]
        exact HHi.out.up HU.out
      clear HU HO HPH hPH HHi HG hne
      go_wp2
      go_ret
      exact HR.out
end Go.Proofs.YtcofpgbaokmbmafDoor
