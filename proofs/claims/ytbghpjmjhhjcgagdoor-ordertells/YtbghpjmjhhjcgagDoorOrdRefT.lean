/- What the document's own reckoning (package noonref2) answers of events: Times. -/
import Derived.Test.YtbghpjmjhhjcgagDoorOrdRefA
import Derived.OwnWalk
import Derived.Deep.CutRange
import Derived.Deep.CutBlock
import Derived.Laws.AppendOwnNone
namespace Go.Proofs.YtbghpjmjhhjcgagDoor
open Go.ChangeShapes Go.WideShapes Go.ChangeAt Go.RowKit Go.Joins
set_option linter.unusedVariables false
set_option linter.unusedSimpArgs false

/-- Numbers as cells. -/
def ics (l : List Int) : List Value := l.map (fun x => .int .i64 x)
theorem ics_len (l : List Int) : (ics l).length = l.length := by simp [ics]
/-- The first m of a row. -/
def lsI (t : Nat → Int) (m : Nat) : List Int := (List.range m).map t
theorem lsI_len (t : Nat → Int) (m : Nat) : (lsI t m).length = m := by simp [lsI]
theorem lsI_snoc (t : Nat → Int) (m : Nat) : lsI t (m + 1) = lsI t m ++ [t m] := by simp [lsI, List.range_succ]
theorem ics_at (t : Nat → Int) {m i : Nat} (h : i < m) : (ics (lsI t m))[i]? = some (.int .i64 (t i)) := by simp [ics, lsI, h]
theorem infoInt : (Tryd.prog.info? 3).map (fun i => (i.zero, i.size, i.bytes)) = some (some (.int .i64 0), 1, 8) := by kernel_rfl
theorem own_intsO {w : World} {base k : Nat} {v : Value} {t : Nat → Int} (h : w.ownsRow base 3 1 v k (ics (lsI t k))) (hk : k ≤ 9223372036854775807) : ∃ a cap, v = .slice a k cap ∧ NHanded w a k t := by
  rcases h.2 with ⟨rfl, e⟩ | ⟨g, cap, cur, rfl, hb, hg, hc, _, hcs, htk⟩
  · subst e
    exact ⟨none, 0, rfl, hk, Or.inl rfl⟩
  · refine ⟨_, cap, rfl, hk, Or.inr ⟨g, 0, rfl, fun i hi => ?_⟩⟩
    have e := ics_at t hi
    rw [Nat.zero_add, h.cellAt i (by omega)]
    exact e
theorem own_at {w : World} {base k g cap : Nat} {t : Nat → Int} (h : w.ownsRow base 3 1 (.slice (some ⟨g, 0, none⟩) k cap) k (ics (lsI t k))) {i : Nat} (hi : i < k) : w.cell? ⟨g, i, none⟩ = some (.int .i64 (t i)) := by
  rw [h.cellAt i (by omega)]
  exact ics_at t hi
/-- Times along an order, or that there are none. -/
def TmR (f : Nat → Ev) (o : Nat → Int) (m : Nat) (w : World) (e : Ending) (w' : World) : Prop := (∃ a c, e = .returned (.tuple #[.slice a m c, .bool true]) ∧ CouldP f o m ∧ NHanded w' a m (tmO f o) ∧ Below w.heap.size w w') ∨ (e = .returned (.tuple #[.slice none 0 0, .bool false]) ∧ ¬ CouldP f o m ∧ Below w.heap.size w w')
set_option maxRecDepth 100000 in
set_option maxHeartbeats 4000000 in
theorem rtimes_any (ad : Option Addr) (n cap : Nat) (f : Nat → Ev) (oa : Option Addr) (oc : Nat) (o : Nat → Int) (w : World) (hn : n ≤ 12) (hH : VHanded w ad n f) (hO : NHanded w oa n o) (hE : EachP n o n) :
    Calls Tryd.prog 21 #[.slice ad n cap, .slice oa n oc] w fun e w' => TmR f o n w e w' := by
  have HP : Hid (n = 0 ∨ ∃ b off : Nat, ad = some ⟨b, off, none⟩ ∧ Evs w b off n f) := hH.2
  have HQ : Hid (n = 0 ∨ ∃ b off : Nat, oa = some ⟨b, off, none⟩ ∧ Nrd w b off n o) := hO.2
  have HE : Hid (∀ i, i < n → 0 ≤ o i ∧ o i < n ∧ ∀ k, k < i → o k ≠ o i) := hE.2
  obtain ⟨i0, hi0, hz0, hz1, hz2⟩ := info_parts infoInt
  clear hH hO hE
  go_enter Tryd.func21, Tryd.ntmps21
  go_wp2
  go_loopw [6, 7] (fun v vi wr => ∃ i : Nat, i ≤ n ∧ vi = .int .i64 i ∧ wr.ownsRow w.heap.size 3 1 v i (ics (lsI (tmO f o) i)) ∧ (∀ j, j < i → tmO f o j ≤ (f (o j).toNat).hi) ∧ Below w.heap.size w wr) (fun _ i _ => n - (intOf i).toNat)
  case atStart => exact ⟨0, Nat.zero_le _, rfl, World.ownsRow_nil _ _ _ _, fun j hj => by omega, Below.refl _ _⟩
  case round =>
    obtain ⟨i, hi, rfl, hown, hle, hw⟩ := hrel
    have zz := hw.size
    have HW : Hid (Below w.heap.size w wr) := hw
    have HL : Hid (∀ j, j < i → tmO f o j ≤ (f (o j).toNat).hi) := hle
    have HN : Hid (wr.ownsRow w.heap.size 3 1 u6 i (ics (lsI (tmO f o) i))) := hown
    clear hle
    by_cases hlt : i < n
    · have hl3 : (i : Int) < n := by omega
      obtain ⟨b, off, rfl, hP⟩ : ∃ b off : Nat, ad = some ⟨b, off, none⟩ ∧ Evs w b off n f := by
        rcases HP.out with e | h
        · omega
        · exact h
      obtain ⟨ob, oo, rfl, hQ⟩ : ∃ b off : Nat, oa = some ⟨b, off, none⟩ ∧ Nrd w b off n o := by
        rcases HQ.out with e | h
        · omega
        · exact h
      obtain ⟨q1, q2, _⟩ := HE.out i hlt
      obtain ⟨P, hPe⟩ : ∃ P : Nat, P = (o i).toNat := ⟨_, rfl⟩
      have eP : o i = (P : Int) := by omega
      have y0 := (hQ.on hw) i hlt
      rw [eP] at y0
      have pl : (P : Int) < n := by omega
      have pl' : P < n := by omega
      obtain ⟨_, x1, x2⟩ := (hP.on hw) P pl'
      obtain ⟨bb, hbb⟩ : ∃ bb, bb = (decide (0 < i) && decide ((f P).lo < tmO f o (i - 1))) := ⟨_, rfl⟩
      have HBB : Hid (bb = (decide (0 < i) && decide ((f P).lo < tmO f o (i - 1)))) := hbb
      have hT : tmO f o i = if bb = true then tmO f o (i - 1) else (f P).lo := by
        rw [hbb, hPe]
        cases i with
        | zero => rfl
        | succ i =>
          show max (tmO f o i) (f (o (i + 1)).toNat).lo = _
          rw [show i + 1 - 1 = i by omega]
          by_cases c : (f (o (i + 1)).toNat).lo < tmO f o i
          · rw [if_pos (by simp [c])]; omega
          · rw [if_neg (by simp [c])]; omega
      have HT : Hid (tmO f o i = if bb = true then tmO f o (i - 1) else (f P).lo) := hT
      have HPe : Hid (P = (o i).toNat) := hPe
      have OW : Hid (0 < i → ∃ g6 c6, u6 = .slice (some ⟨g6, 0, none⟩) i c6 ∧ wr.cell? ⟨g6, i - 1, none⟩ = some (.int .i64 (tmO f o (i - 1)))) := fun i1 => by
        rcases hown.2 with ⟨_, e⟩ | ⟨g, c, cur, e, _⟩
        · omega
        · exact ⟨g, c, e, by rw [e] at hown; exact own_at hown (by omega)⟩
      clear hw hP hQ HP HQ hown hT eP hPe q1 q2 HE
      go_upto_region 6 with (fail)
      go_cut [34] from 24 to 34 (fun v w' => v = .bool bb ∧ wr = w')
      case first =>
        clear HBB HT HPe HN HL HW
        by_cases i1 : 0 < i
        · obtain ⟨g6, c6, rfl, z0⟩ := OW.out i1
          have d1 : decide ((0 : Int) < (i : Int)) = true := decide_eq_true (by omega)
          rw [decide_eq_true i1, Bool.true_and] at hbb
          obtain ⟨J, hJ⟩ : ∃ J, J = i - 1 := ⟨_, rfl⟩
          rw [← hJ] at z0 hbb
          have w1 : IntKind.i64.wrap ((i : Int) - 1) = (J : Int) := by rw [show (i : Int) - 1 = (J : Int) by omega]; exact IntWalk.i64_in _ (by omega)
          have jl : (J : Int) < i := by omega
          clear OW hJ
          generalize tmO f o J = tj at *
          subst hbb
          go_wp2
          go_meet
          case rel => exact ⟨rfl, rfl⟩
        · have d1 : decide ((0 : Int) < (i : Int)) = false := decide_eq_false (by omega)
          rw [decide_eq_false i1, Bool.false_and] at hbb
          subst hbb
          clear OW
          go_wp2
          go_meet
          case rel => exact ⟨rfl, rfl⟩
      case rest =>
        obtain ⟨rfl, rfl⟩ := hcut
        obtain ⟨tv, htv⟩ : ∃ tv, tv = tmO f o i := ⟨_, rfl⟩
        have hT := HT.out
        rw [← htv] at hT
        go_upto_if 34 with (fail)
        go_cut [8] from 35 to 39 (fun v w' => v = .int .i64 tv ∧ wr = w')
        case first =>
          cases bb with
          | true =>
            have i1 : 0 < i := by
              have := HBB.out
              simp only [Bool.true_eq, Bool.and_eq_true, decide_eq_true_eq] at this
              exact this.1
            obtain ⟨g6, c6, rfl, z0⟩ := OW.out i1
            rw [if_pos rfl] at hT
            obtain ⟨J, hJ⟩ : ∃ J, J = i - 1 := ⟨_, rfl⟩
            rw [← hJ] at z0 hT
            have w1 : IntKind.i64.wrap ((i : Int) - 1) = (J : Int) := by rw [show (i : Int) - 1 = (J : Int) by omega]; exact IntWalk.i64_in _ (by omega)
            have jl : (J : Int) < i := by omega
            rw [← hT] at z0
            clear OW hJ HBB HT HPe HN HL HW hT htv hbb
            go_wp2
            go_meet
            case rel => exact ⟨rfl, rfl⟩
          | false =>
            rw [if_neg (by simp)] at hT
            have HV : Hid (tv = (f P).lo) := hT
            clear OW HBB HT HPe HN HL HW hT htv hbb
            go_wp2
            go_meet
            case rel => exact ⟨by rw [HV.out], rfl⟩
        case rest =>
          obtain ⟨rfl, rfl⟩ := hcut
          clear OW HBB HT hT hbb
          by_cases le : tv ≤ (f P).hi
          · have lt' : ¬ ((f P).hi < tv) := by omega
            have HL1 : Hid (∀ j, j < i + 1 → tmO f o j ≤ (f (o j).toNat).hi) := fun j hj => by
              by_cases q : j = i
              · rw [q, ← htv, ← HPe.out]; exact le
              · exact HL.out j (by omega)
            have HIc : Hid (ics (lsI (tmO f o) (i + 1)) = ics (lsI (tmO f o) i) ++ [.int .i64 tv]) := by show ics _ = _; rw [lsI_snoc, htv]; simp [ics]
            have HB : Hid (∀ j, u6.ownBlock = some j → w.heap.size ≤ j) := fun j hj => (HN.out.lt j hj).1
            have HN' : Hid (wr.ownsRow w.heap.size 3 1 u6 i (ics (lsI (tmO f o) i))) := HN.out
            clear HL HPe htv le HN
            generalize (f P).hi = ph at *
            generalize (f P).lo = plo at *
            generalize ics (lsI (tmO f o) i) = xs at *
            go_wp2_with (at_builtin; refine wpList_append_own _ rfl _ _ 41 rfl w.heap.size 3 i0 (.int .i64 0) 1 8 Tryd.underlying41 hi0 hz0 hz1 hz2 rfl (by decide) _ _ _ rfl (HN'.out.alloc _) ⟨wr.heap.size, 0, none⟩ 1 1 [.int .i64 tv] rfl rfl (fun j u hj => by rw [Addr.add_lit]; exact (Row.made (W := wr) (vs := [.int .i64 tv]) rfl).c _ _ (by simpa using hj)) (fun u hu => by simp at hu; rw [hu]; rfl) (by unfold maxLen; omega) (by omega) (by simp; omega) ?_)
            intro v' w1 hown' hgrow _
            have HO1 : Hid (w1.ownsRow w.heap.size 3 1 v' (i + 1) (ics (lsI (tmO f o) (i + 1)))) := by
              show w1.ownsRow w.heap.size 3 1 v' (i + 1) (ics (lsI (tmO f o) (i + 1)))
              rw [HIc.out]
              exact hown'
            have HW1 : Hid (Below w.heap.size w w1) := (rbel_al HW.out).grown hgrow (by simp; omega) HB.out
            clear hown' hgrow HN' HB HIc HW
            go_wp2
            go_roundw
            case rel => exact ⟨i + 1, by omega, by go_num, HO1.out, HL1.out, HW1.out⟩
            case measure => simp [intOf]; omega
          · have lt' : (f P).hi < tv := by omega
            have HR : Hid (TmR f o n w (.returned (.tuple #[.slice none 0 0, .bool false])) wr) := Or.inr ⟨rfl, fun c => le (by have := c i hlt; rw [← htv, ← HPe.out] at this; exact this), HW.out⟩
            clear HL HPe htv le HN HW
            generalize (f P).hi = ph at *
            generalize (f P).lo = plo at *
            go_wp2
            exact bodyPost_ret (v := _) (by simp [results, Tryd.results21, go_sem, *]) rfl HR.out
    · have hl3 : ¬ ((i : Int) < n) := by omega
      have e : i = n := by omega
      subst e
      obtain ⟨a, cap', rfl, hH⟩ := own_intsO hown (by omega)
      have HR : Hid (TmR f o i w (.returned (.tuple #[.slice a i cap', .bool true])) wr) := Or.inl ⟨a, cap', rfl, HL.out, hH, HW.out⟩
      clear hown hw hH HP HQ HE HL HN HW
      go_wp2
      exact bodyPost_ret (v := _) (by simp [results, Tryd.results21, go_sem, *]) rfl HR.out
end Go.Proofs.YtbghpjmjhhjcgagDoor
