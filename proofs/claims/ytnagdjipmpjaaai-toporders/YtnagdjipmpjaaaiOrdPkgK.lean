/- What slices.ContainsFunc answers at package order's closure, and what order.Check answers, of any events. -/
import Derived.Test.YtnagdjipmpjaaaiNm19
import Derived.Test.YtnagdjipmpjaaaiSpanChkC
import Derived.Test.YtnagdjipmpjaaaiNm13
import Derived.Lib.SmallJoins
namespace Go.Proofs.Ytnagdjipmpjaaai
open Go.ChangeShapes Go.WideShapes Go.ChangeAt Go.RowKit Go.Joins
set_option linter.unusedVariables false
set_option linter.unusedSimpArgs false

set_option maxRecDepth 100000 in
set_option maxHeartbeats 4000000 in
theorem idx_evs (ad : Option Addr) (n cap : Nat) (pc : Value) (q : Nat → Ev) (p : Nat → Bool) (w : World) (hn : n ≤ 9223372036854775807) (hP : n = 0 ∨ ∃ b off : Nat, ad = some ⟨b, off, none⟩ ∧ Evs w b off n q)
    (hp : ∀ i u, i < n → Below w.heap.size w u → Calls Try.prog 65 #[.agg #[.int .i64 (q i).id, .int .i64 (q i).lo, .int .i64 (q i).hi], pc] u fun e w' => e = .returned (.bool (p i)) ∧ Below u.heap.size u w') :
    Calls Try.prog 70 #[.slice ad n cap, .func (.func 65) #[] #[pc]] w fun e w' => ∃ r : Int, e = .returned (.int .i64 r) ∧ ((0 ≤ r ∧ anyB p n = true) ∨ (r = -1 ∧ anyB p n = false)) ∧ Below w.heap.size w w' := by
  have HA : Hid (n = 0 ∨ ∃ b off : Nat, ad = some ⟨b, off, none⟩ ∧ Evs w b off n q) := hP
  have HC : Hid (∀ i u, i < n → Below w.heap.size w u → Calls Try.prog 65 #[.agg #[.int .i64 (q i).id, .int .i64 (q i).lo, .int .i64 (q i).hi], pc] u fun e w' => e = .returned (.bool (p i)) ∧ Below u.heap.size u w') := hp
  clear hP hp
  go_enter Try.func70, Try.ntmps70
  go_wp2
  go_loopw [8] (fun i wr => ∃ k : Nat, k ≤ n ∧ i = .int .i64 k ∧ Below w.heap.size w wr ∧ ∀ j, j < k → p j = false) (fun i _ => n - (intOf i).toNat)
  case atStart => exact ⟨0, Nat.zero_le _, rfl, Below.refl _ _, fun j hj => by omega⟩
  case round =>
    obtain ⟨k, hk, rfl, hw, hg⟩ := hrel
    have HG : Hid (∀ j, j < k → p j = false) := hg
    have HW : Hid (Below w.heap.size w wr) := hw
    clear hg
    by_cases hlt : k < n
    · have hl3 : (k : Int) < n := by omega
      obtain ⟨b, off, rfl, hP⟩ : ∃ b off : Nat, ad = some ⟨b, off, none⟩ ∧ Evs w b off n q := by
        rcases HA.out with e | h
        · omega
        · exact h
      have HP : Hid (Evs w b off n q) := hP
      clear hP
      have cC := HC.out k wr hlt hw
      obtain ⟨x0, x1, x2⟩ := (HP.out.on hw) k hlt
      cases e : p k with
      | true =>
        rw [e] at cC
        have HY : Hid (anyB p n = true) := anyB_yes hlt e
        clear HC HA HP HG e hw
        as_aux_lemma =>
          generalize (q k).id = qi at *
          generalize (q k).lo = ql at *
          generalize (q k).hi = qh at *
          go_wp2_with (go_at_call 65; refine cC.mono ?_; rintro e u0 ⟨rfl, hb⟩; have HB : Hid _ := hb; clear hb)
          go_ret
          exact ⟨_, rfl, Or.inl ⟨by omega, HY.out⟩, rbel_on HB.out HW.out⟩
      | false =>
        rw [e] at cC
        have HY : Hid (∀ j, j < k + 1 → p j = false) := fun j hj => by
          by_cases q : j = k
          · rw [q]; exact e
          · exact HG.out j (by omega)
        clear HC HA HP HG e hw
        as_aux_lemma =>
          generalize (q k).id = qi at *
          generalize (q k).lo = ql at *
          generalize (q k).hi = qh at *
          go_wp2_with (go_at_call 65; refine cC.mono ?_; rintro e u0 ⟨rfl, hb⟩; have HB : Hid _ := hb; clear hb)
          go_roundw
          case rel => exact ⟨k + 1, by omega, by go_num, rbel_on HB.out HW.out, HY.out⟩
          case measure => simp [intOf]; omega
    · have hl3 : ¬ ((k : Int) < n) := by omega
      have HY : Hid (anyB p n = false) := anyB_no (fun i hi => HG.out i (by omega))
      clear HC HA HG hw
      go_wp2
      go_ret
      exact ⟨_, rfl, Or.inr ⟨rfl, HY.out⟩, HW.out⟩
set_option maxRecDepth 100000 in
set_option maxHeartbeats 4000000 in
theorem any_evs (ad : Option Addr) (n cap : Nat) (pc : Value) (q : Nat → Ev) (p : Nat → Bool) (w : World) (hn : n ≤ 9223372036854775807) (hP : n = 0 ∨ ∃ b off : Nat, ad = some ⟨b, off, none⟩ ∧ Evs w b off n q)
    (hp : ∀ i u, i < n → Below w.heap.size w u → Calls Try.prog 65 #[.agg #[.int .i64 (q i).id, .int .i64 (q i).lo, .int .i64 (q i).hi], pc] u fun e w' => e = .returned (.bool (p i)) ∧ Below u.heap.size u w') :
    Calls Try.prog 64 #[.slice ad n cap, .func (.func 65) #[] #[pc]] w fun e w' => e = .returned (.bool (anyB p n)) ∧ Below w.heap.size w w' := by
  have cI := idx_evs ad n cap pc q p w hn hP hp
  clear hP hp
  cases h : anyB p n
  all_goals
    rw [h] at cI
    go_enter Try.func64, Try.ntmps64
    go_wp2_with (go_at_call 70; refine cI.mono ?_; rintro e u0 ⟨r, rfl, hr, hb⟩; have HB : Hid _ := hb; clear hb; simp at hr; (try subst hr))
    go_ret
    exact ⟨rfl, HB.out⟩

set_option maxHeartbeats 1000000 in
theorem check1_any (x : Ev) (g : Nat) (y : Int) (w : World) (hc : w.cell? ⟨g, 0, none⟩ = some (.int .i64 y)) :
    Calls Try.prog 65 #[.agg #[.int .i64 x.id, .int .i64 x.lo, .int .i64 x.hi], .pointer (some ⟨g, 0, none⟩)] w fun e w' => e = .returned (.bool (decide (x.id = y))) ∧ Below w.heap.size w w' := by
  have gl : g < w.heap.size := World.block_lt_of_cell? _ _ hc
  generalize x.id = xi at *
  generalize x.lo = xl at *
  generalize x.hi = xh at *
  by_cases e : xi = y
  · have d1 : (xi == y) = true := beq_iff_eq.2 e
    rw [decide_eq_true e]
    clear e
    go_enter Try.func65, Try.ntmps65
    go_wp2
    go_ret
    exact ⟨rfl, rbel_al (Below.refl _ _)⟩
  · have d1 : (xi == y) = false := by simpa using e
    rw [decide_eq_false e]
    clear e
    go_enter Try.func65, Try.ntmps65
    go_wp2
    go_ret
    exact ⟨rfl, rbel_al (Below.refl _ _)⟩
set_option maxHeartbeats 400000 in
theorem ocheck_full (a : Option Addr) (n cap : Nat) (w : World) (h : 12 < n) (hm : n ≤ 9223372036854775807) :
    Calls Try.prog 47 #[.slice a n cap] w fun e w' => e = .returned (errc 4) ∧ Below w.heap.size w w' := by
  rw [errc_not (by decide)]
  have h3 : (12 : Int) < n := by omega
  go_enter Try.func47, Try.ntmps47
  go_wp2
  go_ret
  exact ⟨rfl, Below.refl _ _⟩
theorem Evs.less {w : World} {b off n k : Nat} {f : Nat → Ev} (h : Evs w b off n f) (hk : k ≤ n) : Evs w b off k f := fun i hi => h i (by omega)
set_option maxRecDepth 100000 in
set_option maxHeartbeats 4000000 in
theorem ocheck_row (ad : Option Addr) (n cap : Nat) (f : Nat → Ev) (e : Int) (w : World) (h12 : n ≤ 12) (hcp : n ≤ cap) (hP : n = 0 ∨ ∃ b off : Nat, ad = some ⟨b, off, none⟩ ∧ Evs w b off n f) (hE : EvE n f e) :
    Calls Try.prog 47 #[.slice ad n cap] w fun r w' => r = .returned (errc e) ∧ Below w.heap.size w w' := by
  have HA : Hid (n = 0 ∨ ∃ b off : Nat, ad = some ⟨b, off, none⟩ ∧ Evs w b off n f) := hP
  have HE : Hid (EvE n f e) := hE
  have HCp : Hid (n ≤ cap) := hcp
  have hmf : ∀ (vs : Array Value) (u : World), (Instr.makeFunc (.func 65) #[] vs).run Try.prog u = .ok (.func (.func 65) #[] vs) u := fun vs u => rfl
  have h13 : ¬ ((12 : Int) < n) := by omega
  clear hP hE hcp
  go_enter Try.func47, Try.ntmps47
  go_wp2
  go_loopw [12] (fun i wr => ∃ k : Nat, k ≤ n ∧ i = .int .i64 k ∧ Below w.heap.size w wr ∧ ∀ j, j < k → okAt f j) (fun i _ => n - (intOf i).toNat)
  case atStart => exact ⟨0, Nat.zero_le _, rfl, Below.refl _ _, fun j hj => by omega⟩
  case round =>
    obtain ⟨k, hk, rfl, hw, hg⟩ := hrel
    have HG : Hid (∀ j, j < k → okAt f j) := hg
    have HW : Hid (Below w.heap.size w wr) := hw
    clear hg
    by_cases hlt : k < n
    · have hl3 : (k : Int) < n := by omega
      obtain ⟨b, off, rfl, hP⟩ : ∃ b off : Nat, ad = some ⟨b, off, none⟩ ∧ Evs w b off n f := by
        rcases HA.out with e | h
        · omega
        · exact h
      have HP : Hid (Evs wr b off n f) := hP.on hw
      obtain ⟨x0, x1, x2⟩ := (hP.on hw) k hlt
      have hbz : b < wr.heap.size := World.block_lt_of_cell? _ _ x0
      have kc : (k : Int) ≤ cap := by have := HCp.out; omega
      have kc2 : k ≤ cap := by have := HCp.out; omega
      obtain ⟨id, hid⟩ : ∃ id, id = (f k).id := ⟨_, rfl⟩
      obtain ⟨lo, hlo⟩ : ∃ lo, lo = (f k).lo := ⟨_, rfl⟩
      obtain ⟨hi, hhi⟩ : ∃ hi, hi = (f k).hi := ⟨_, rfl⟩
      rw [← hid] at x0
      rw [← hlo] at x1
      rw [← hhi] at x2
      have cA : Hid (∀ u, Below wr.heap.size wr u → u.cell? ⟨wr.heap.size, 0, none⟩ = some (.int .i64 id) → Calls Try.prog 64 #[.slice (some ⟨b, off, none⟩) k cap, .func (.func 65) #[] #[.pointer (some ⟨wr.heap.size, 0, none⟩)]] u fun e w' => e = .returned (.bool (anyB (fun i => decide ((f i).id = id)) k)) ∧ Below u.heap.size u w') := fun u hu hc =>
        any_evs (some ⟨b, off, none⟩) k cap (.pointer (some ⟨wr.heap.size, 0, none⟩)) f (fun i => decide ((f i).id = id)) u (by omega) (Or.inr ⟨b, off, rfl, (HP.out.on hu).less (by omega)⟩) (fun i u' hi' hu' => check1_any (f i) wr.heap.size id u' (by rw [hu'.cell (World.block_lt_of_cell? _ _ hc)]; exact hc))
      cases o : okB lo hi with
      | false =>
        have HY : Hid (e = 1) := by
          refine EvE.one HE.out (Or.inr (Or.inl ⟨h12, k, hlt, HG.out, Or.inl ⟨by rw [← hlo, ← hhi]; exact o, rfl⟩⟩))
        have cC := fun u => check_no lo hi u o
        clear HA HG HE hw hP HP cA hid hlo hhi o
        as_aux_lemma =>
          go_wp2_with (go_at_call 46; refine (cC _).mono ?_; rintro e u0 ⟨rfl, hb⟩; have HB : Hid _ := hb; clear hb)
          go_ret
          exact ⟨by rw [HY.out, errc_not (by decide)]; rfl, rbel_on HB.out (rbel_al HW.out)⟩
      | true =>
        have cC := fun u => check_ok lo hi u o
        cases an : anyB (fun i => decide ((f i).id = id)) k with
        | true =>
          have HY : Hid (e = 3) := by
            obtain ⟨j, hj, ej⟩ := anyB_iff.1 an
            exact EvE.one HE.out (Or.inr (Or.inl ⟨h12, k, hlt, HG.out, Or.inr ⟨by rw [← hlo, ← hhi]; exact o, ⟨j, hj, by rw [← hid]; exact of_decide_eq_true ej⟩, rfl⟩⟩))
          rw [an] at cA
          clear HA HG HE hw hP HP hid hlo hhi o an
          as_aux_lemma =>
            go_wp2_with (first | (go_at_call 46; refine (cC _).mono ?_; rintro e u0 ⟨rfl, hb⟩; have HR : Hid (Row u0 wr.heap.size [.int .i64 id, .int .i64 lo, .int .i64 hi]) := Row.on hb (Row.made rfl); have HB : Hid (Below wr.heap.size wr u0) := rbel_on hb (rbel_al (Below.refl _ _)); clear hb) | (go_at_call 64; refine (cA.out _ HB.out (HR.out.c 0 _ rfl)).mono ?_; rintro e u1 ⟨rfl, hb⟩; have HB1 : Hid (Below wr.heap.size wr u1) := rbel_on hb HB.out; clear hb))
            go_ret
            exact ⟨by rw [HY.out, errc_not (by decide)]; rfl, rbel_on HB1.out HW.out⟩
        | false =>
          have HY : Hid (∀ j, j < k + 1 → okAt f j) := fun j hj => by
            by_cases q : j = k
            · subst q
              refine ⟨by rw [← hlo, ← hhi]; exact o, fun i hi e => ?_⟩
              rw [anyB_yes (p := fun i => decide ((f i).id = id)) hi (by rw [hid]; exact decide_eq_true e)] at an
              cases an
            · exact HG.out j (by omega)
          rw [an] at cA
          clear HA HG HE hw hP HP hid hlo hhi o an
          as_aux_lemma =>
            go_wp2_with (first | (go_at_call 46; refine (cC _).mono ?_; rintro e u0 ⟨rfl, hb⟩; have HR : Hid (Row u0 wr.heap.size [.int .i64 id, .int .i64 lo, .int .i64 hi]) := Row.on hb (Row.made rfl); have HB : Hid (Below wr.heap.size wr u0) := rbel_on hb (rbel_al (Below.refl _ _)); clear hb) | (go_at_call 64; refine (cA.out _ HB.out (HR.out.c 0 _ rfl)).mono ?_; rintro e u1 ⟨rfl, hb⟩; have HB1 : Hid (Below wr.heap.size wr u1) := rbel_on hb HB.out; clear hb))
            go_roundw
            case rel => exact ⟨k + 1, by omega, by go_num, rbel_on HB1.out HW.out, HY.out⟩
            case measure => simp [intOf]; omega
    · have hl3 : ¬ ((k : Int) < n) := by omega
      have HY : Hid (e = 0) := EvE.one HE.out (Or.inr (Or.inr ⟨h12, fun j hj => HG.out j (by omega), rfl⟩))
      clear HA HG HE hw
      go_wp2
      go_ret
      exact ⟨by rw [HY.out, errc_zero]; rfl, HW.out⟩
theorem ocheck_any (a : Option Addr) (n cap : Nat) (f : Nat → Ev) (e : Int) (w : World) (hH : VHanded w a n f) (hcp : n ≤ cap) (hE : EvE n f e) :
    Calls Try.prog 47 #[.slice a n cap] w fun r w' => r = .returned (errc e) ∧ Below w.heap.size w w' := by
  by_cases h : 12 < n
  · rw [show e = 4 from EvE.one hE (Or.inl ⟨h, rfl⟩)]
    exact ocheck_full a n cap w h hH.1
  · exact ocheck_row a n cap f e w (by omega) hcp hH.2 hE
end Go.Proofs.Ytnagdjipmpjaaai
