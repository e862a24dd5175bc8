/- What package loops says of a loop: checkLoop, Room. -/
import Derived.Test.YtiebojccnaelbaeDoorLoopsLeg
import Derived.Test.YtiebojccnaelbaeDoorBoundsChk
namespace Go.Proofs.YtiebojccnaelbaeDoor
open Go.ChangeShapes Go.WideShapes Go.ChangeAt Go.RowKit Go.Joins
set_option linter.unusedVariables false
set_option linter.unusedSimpArgs false

set_option maxRecDepth 100000 in
set_option maxHeartbeats 4000000 in
theorem idx_steps (ad : Option Addr) (n cap : Nat) (z : Nat → Int) (p : Nat → Bool) (B : Nat) (w : World) (hn : n ≤ 9223372036854775807) (hP : n = 0 ∨ ∃ b off : Nat, ad = some ⟨b, off, none⟩ ∧ Nrd w b off n z)
    (hp : ∀ i u, i < n → Below w.heap.size w u → Calls Tryd.prog 31 #[.int .i64 (z i), .pointer (some ⟨B, 0, none⟩)] u fun e w' => e = .returned (.bool (p i)) ∧ Below u.heap.size u w') :
    Calls Tryd.prog 44 #[.slice ad n cap, .func (.func 31) #[] #[.pointer (some ⟨B, 0, none⟩)]] w fun e w' => ∃ r : Int, e = .returned (.int .i64 r) ∧ ((0 ≤ r ∧ anyB p n = true) ∨ (r = -1 ∧ anyB p n = false)) ∧ Below w.heap.size w w' := by
  have HA : Hid (n = 0 ∨ ∃ b off : Nat, ad = some ⟨b, off, none⟩ ∧ Nrd w b off n z) := hP
  have HC : Hid (∀ i u, i < n → Below w.heap.size w u → Calls Tryd.prog 31 #[.int .i64 (z i), .pointer (some ⟨B, 0, none⟩)] u fun e w' => e = .returned (.bool (p i)) ∧ Below u.heap.size u w') := hp
  clear hP hp
  go_enter Tryd.func44, Tryd.ntmps44
  go_wp2
  go_loopw [8] (fun i wr => ∃ k : Nat, k ≤ n ∧ i = .int .i64 k ∧ Below w.heap.size w wr ∧ ∀ j, j < k → p j = false) (fun i _ => n - (intOf i).toNat)
  case atStart => exact ⟨0, Nat.zero_le _, rfl, Below.refl _ _, fun j hj => by omega⟩
  case round =>
    obtain ⟨k, hk, rfl, hw, hg⟩ := hrel
    have HG : Hid (∀ j, j < k → p j = false) := hg
    have HW : Hid (Below w.heap.size w wr) := hw
    clear hg
    by_cases hlt : k < n
    · have hl3 : (k : Int) < n := by omega
      obtain ⟨b, off, rfl, hP⟩ : ∃ b off : Nat, ad = some ⟨b, off, none⟩ ∧ Nrd w b off n z := by
        rcases HA.out with e | h
        · omega
        · exact h
      have HP : Hid (Nrd w b off n z) := hP
      clear hP
      have cC := HC.out k wr hlt hw
      have x0 := (HP.out.on hw) k hlt
      cases e : p k with
      | true =>
        rw [e] at cC
        have HY : Hid (anyB p n = true) := anyB_yes hlt e
        clear HC HA HP HG e hw
        as_aux_lemma =>
          generalize z k = zk at *
          go_wp2_with (go_at_call 31; refine cC.mono ?_; rintro e u0 ⟨rfl, hb⟩; have HB : Hid _ := hb; clear hb)
          go_ret
          exact ⟨_, rfl, Or.inl ⟨by omega, HY.out⟩, rbel_on HB.out HW.out⟩
      | false =>
        rw [e] at cC
        have HY : Hid (∀ j, j < k + 1 → p j = false) := fun j hj => by
          by_cases q : j = k
          · rw [q]; exact e
          · exact HG.out j (by omega)
        clear HC HA HP HG e hw
        as_aux_lemma =>
          generalize z k = zk at *
          go_wp2_with (go_at_call 31; refine cC.mono ?_; rintro e u0 ⟨rfl, hb⟩; have HB : Hid _ := hb; clear hb)
          go_roundw
          case rel => exact ⟨k + 1, by omega, by go_num, rbel_on HB.out HW.out, HY.out⟩
          case measure => simp [intOf]; omega
    · have hl3 : ¬ ((k : Int) < n) := by omega
      have HY : Hid (anyB p n = false) := anyB_no (fun i hi => HG.out i (by omega))
      clear HC HA HG hw
      go_wp2
      go_ret
      exact ⟨_, rfl, Or.inr ⟨rfl, HY.out⟩, HW.out⟩
set_option maxRecDepth 100000 in
set_option maxHeartbeats 4000000 in
theorem any_steps (ad : Option Addr) (n cap : Nat) (z : Nat → Int) (p : Nat → Bool) (B : Nat) (w : World) (hn : n ≤ 9223372036854775807) (hP : n = 0 ∨ ∃ b off : Nat, ad = some ⟨b, off, none⟩ ∧ Nrd w b off n z)
    (hp : ∀ i u, i < n → Below w.heap.size w u → Calls Tryd.prog 31 #[.int .i64 (z i), .pointer (some ⟨B, 0, none⟩)] u fun e w' => e = .returned (.bool (p i)) ∧ Below u.heap.size u w') :
    Calls Tryd.prog 25 #[.slice ad n cap, .func (.func 31) #[] #[.pointer (some ⟨B, 0, none⟩)]] w fun e w' => e = .returned (.bool (anyB p n)) ∧ Below w.heap.size w w' := by
  have cI := idx_steps ad n cap z p B w hn hP hp
  clear hP hp
  cases h : anyB p n
  all_goals
    rw [h] at cI
    go_enter Tryd.func25, Tryd.ntmps25
    go_wp2_with (go_at_call 44; refine cI.mono ?_; rintro e u0 ⟨r, rfl, hr, hb⟩; have HB : Hid _ := hb; clear hb; simp at hr; (try subst hr))
    go_ret
    exact ⟨rfl, HB.out⟩

/-- Where the step ahead of a place ends. -/
def endS (q : Nat → Eg) (s : Nat → Int) (k j : Nat) : Int := if j = 0 then toS q (s (k - 1)) else toS q (s (j - 1))
/-- The joints ahead of a place. -/
def joU (q : Nat → Eg) (s : Nat → Int) (k j : Nat) : Prop := (0 < j → joS q s k (k - 1)) ∧ ∀ i, i + 1 < j → joS q s k i
theorem joU_next {q : Nat → Eg} {s : Nat → Int} {k j : Nat} (hj : j < k) (h : joU q s k j) (e : frS q (s j) = endS q s k j) : joU q s k (j + 1) := by
  have m0 : (k - 1 + 1) % k = 0 := by rw [show k - 1 + 1 = k by omega, Nat.mod_self]
  unfold endS at e
  refine ⟨fun _ => ?_, fun i hi => ?_⟩
  · by_cases z : j = 0
    · subst z
      unfold joS
      rw [m0, e, if_pos rfl]
    · exact h.1 (by omega)
  · by_cases z : i + 1 = j
    · subst z
      unfold joS
      rw [Nat.mod_eq_of_lt hj, e, if_neg (by omega), show i + 1 - 1 = i by omega]
    · exact h.2 i (by omega)
theorem joU_not {q : Nat → Eg} {s : Nat → Int} {k j : Nat} (hj : j < k) (e : frS q (s j) ≠ endS q s k j) : ∃ i, i < k ∧ ¬ joS q s k i := by
  have m0 : (k - 1 + 1) % k = 0 := by rw [show k - 1 + 1 = k by omega, Nat.mod_self]
  unfold endS at e
  by_cases z : j = 0
  · subst z
    refine ⟨k - 1, by omega, fun h => e ?_⟩
    unfold joS at h
    rw [m0] at h
    rw [if_pos rfl, h]
  · refine ⟨j - 1, by omega, fun h => e ?_⟩
    unfold joS at h
    rw [show j - 1 + 1 = j by omega, Nat.mod_eq_of_lt hj] at h
    rw [if_neg z, h]
theorem joU_all {q : Nat → Eg} {s : Nat → Int} {k : Nat} (k0 : 0 < k) (h : joU q s k k) : ∀ i, i < k → joS q s k i := fun i hi => by
  by_cases z : i + 1 < k
  · exact h.2 i z
  · rw [show i = k - 1 by omega]; exact h.1 k0
/-- Does it go round? -/
def GoR (q : Nat → Eg) (s : Nat → Int) (k : Nat) (w : World) (e : Ending) (w' : World) : Prop :=
  ((e = .returned (.bool true) ∧ ∀ i, i < k → joS q s k i) ∨ (e = .returned (.bool false) ∧ ∃ i, i < k ∧ ¬ joS q s k i)) ∧ Below w.heap.size w w'
set_option maxRecDepth 100000 in
set_option maxHeartbeats 4000000 in
theorem goesRound_any (n : Nat) (a : Option Addr) (m cap : Nat) (q : Nat → Eg) (lb lo k lc : Nat) (s : Nat → Int) (w : World) (hE : Egs n q m) (hH : EHanded w a m q) (hL : Nrd w lb lo k s) (k0 : 0 < k) (k40 : k ≤ 40) (ok : ∀ i, i < k → okS m (s i)) :
    Calls Tryd.prog 33 #[.slice a m cap, .slice (some ⟨lb, lo, none⟩) k lc] w fun e w' => GoR q s k w e w' := by
  have cL : Hid (∀ i u, i < k → Below w.heap.size w u → Calls Tryd.prog 18 #[.slice a m cap, .int .i64 (s i)] u fun e w' => e = .returned (.agg #[.int .i64 (frS q (s i)), .int .i64 (toS q (s i)), .int .i64 (coS q (s i))]) ∧ Below u.heap.size u w') := fun i u hi hu => legOf_any n a m cap q (s i) u hE (hH.on hu) (ok i hi)
  have cl := cL.out (k - 1) w (by omega) (Below.refl _ _)
  have HL : Hid (Nrd w lb lo k s) := hL
  have x0 := hL (k - 1) (by omega)
  have wk : IntKind.i64.wrap ((k : Int) - 1) = ((k - 1 : Nat) : Int) := by rw [show (k : Int) - 1 = ((k - 1 : Nat) : Int) by omega]; exact IntWalk.i64_in _ (by omega)
  have hk1 : ((k - 1 : Nat) : Int) < k := by omega
  have ES : endS q s k 0 = toS q (s (k - 1)) := if_pos rfl
  rw [← ES] at cl
  clear hH hL ok ES
  have lt' := leg_t
  obtain ⟨t0, ht0⟩ : ∃ t0, t0 = endS q s k 0 := ⟨_, rfl⟩
  rw [← ht0] at cl
  generalize s (k - 1) = sl at *
  generalize frS q sl = fl at *
  generalize coS q sl = cl' at *
  have HT : Hid (t0 = endS q s k 0) := ht0
  clear ht0
  go_enter Tryd.func33, Tryd.ntmps33
  go_wp2_with (go_at_call 18; refine cl.mono ?_; rintro e u0 ⟨rfl, hb⟩; have HB : Hid (Below w.heap.size w u0) := hb; clear hb)
  go_loopw [5, 20] (fun v i wr => ∃ j : Nat, j ≤ k ∧ i = .int .i64 j ∧ v = .int .i64 (endS q s k j) ∧ joU q s k j ∧ Below w.heap.size w wr) (fun _ i _ => k - (intOf i).toNat)
  case atStart => exact ⟨0, Nat.zero_le _, rfl, by rw [HT.out], ⟨fun h => by omega, fun i h => by omega⟩, HB.out⟩
  case round =>
    clear HB HT cl x0 wk hk1
    obtain ⟨j, hj, rfl, rfl, hJ, hw⟩ := hrel
    have HJ : Hid (joU q s k j) := hJ
    have HW : Hid (Below w.heap.size w wr) := hw
    by_cases hlt : j < k
    · have hl3 : (j : Int) < k := by omega
      have x0 := (HL.out.on hw) j hlt
      have cj := cL.out j wr hlt hw
      clear hJ hw cL
      by_cases e : frS q (s j) = endS q s k j
      · have HN : Hid (joU q s k (j + 1)) := joU_next hlt HJ.out e
        have HE' : Hid (toS q (s j) = endS q s k (j + 1)) := by show _ = endS q s k (j + 1); unfold endS; rw [if_neg (by omega), show j + 1 - 1 = j by omega]
        rw [e] at cj
        clear e HJ
        generalize endS q s k j = ej at *
        generalize toS q (s j) = tj at *
        generalize coS q (s j) = cj' at *
        generalize s j = sj at *
        as_aux_lemma =>
          go_wp2_with (go_at_call 18; refine cj.mono ?_; rintro e u0 ⟨rfl, hb⟩; have HB : Hid _ := hb; clear hb)
          go_roundw
          case rel => exact ⟨j + 1, by omega, by go_num, by rw [HE'.out], HN.out, rbel_al (rbel_on HB.out HW.out)⟩
          case measure => simp [intOf]; omega
      · have HN : Hid (∃ i, i < k ∧ ¬ joS q s k i) := joU_not hlt e
        have d : (frS q (s j) == endS q s k j) = false := by simpa using e
        clear e HJ
        generalize endS q s k j = ej at *
        generalize frS q (s j) = fj at *
        generalize toS q (s j) = tj at *
        generalize coS q (s j) = cj' at *
        generalize s j = sj at *
        as_aux_lemma =>
          go_wp2_with (go_at_call 18; refine cj.mono ?_; rintro e u0 ⟨rfl, hb⟩; have HB : Hid _ := hb; clear hb)
          go_ret
          exact ⟨Or.inr ⟨rfl, HN.out⟩, rbel_al (rbel_on HB.out HW.out)⟩
    · have hl3 : ¬ ((j : Int) < k) := by omega
      have e : j = k := by omega
      have HN : Hid (∀ i, i < k → joS q s k i) := by show ∀ i, i < k → _; rw [e] at hJ; exact joU_all k0 hJ
      clear hJ hw e HJ cL
      go_wp2
      go_ret
      exact ⟨Or.inl ⟨rfl, HN.out⟩, HW.out⟩
end Go.Proofs.YtiebojccnaelbaeDoor
