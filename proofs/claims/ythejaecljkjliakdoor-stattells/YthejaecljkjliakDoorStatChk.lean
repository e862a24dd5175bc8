/- Whether numbers are wrong: what stat.check answers. -/
import Derived.Test.YthejaecljkjliakDoorStatDef
import Derived.Test.YthejaecljkjliakDoorAnyB
import Derived.Test.YthejaecljkjliakDoorKeeps
import Derived.Deep.Heap
import Derived.Lib.SmallJoins
import Derived.Deep.QuietTactic
import Derived.BigQuiet
import Derived.BigRegion
import Derived.IntWalk
namespace Go.Proofs.YthejaecljkjliakDoor
open Go.ChangeShapes Go.WideShapes Go.ChangeAt Go.RowKit Go.Joins
set_option linter.unusedVariables false
set_option linter.unusedSimpArgs false

/-- Is it no time? -/
def badT (x : Int) : Bool := decide (x < -1000000000000) || decide (1000000000000 < x)
theorem badT_iff {x : Int} : badT x = true ↔ ¬ okT x := by
  unfold badT okT
  simp only [Bool.or_eq_true, decide_eq_true_eq]
  omega
theorem scheck1 (x : Int) (w : World) : Calls Tryd.prog 29 #[.int .i64 x] w fun e w' => e = .returned (.bool (badT x)) ∧ Below w.heap.size w w' := by
  by_cases a1 : x < -1000000000000
  · have T : Hid (badT x = true) := by unfold badT; show _ = true; simp [a1]
    go_enter Tryd.func29, Tryd.ntmps29
    go_wp2
    go_ret
    exact ⟨by rw [T.out]; rfl, Below.refl _ _⟩
  · by_cases a2 : 1000000000000 < x
    · have T : Hid (badT x = true) := by unfold badT; show _ = true; simp [a2]
      go_enter Tryd.func29, Tryd.ntmps29
      go_wp2
      go_ret
      refine ⟨?_, Below.refl _ _⟩
      rw [T.out]
      simp [a2]
    · have T : Hid (badT x = false) := by unfold badT; show _ = false; simp [a1, a2]
      go_enter Tryd.func29, Tryd.ntmps29
      go_wp2
      go_ret
      refine ⟨?_, Below.refl _ _⟩
      rw [T.out]
      simp [a1, a2]
set_option maxRecDepth 100000 in
set_option maxHeartbeats 4000000 in
theorem sidx_ints (ad : Option Addr) (n cap : Nat) (z : Nat → Int) (p : Nat → Bool) (w : World) (hn : n ≤ 9223372036854775807) (hP : n = 0 ∨ ∃ b off : Nat, ad = some ⟨b, off, none⟩ ∧ Nrd w b off n z)
    (hp : ∀ i u, i < n → Below w.heap.size w u → Calls Tryd.prog 29 #[.int .i64 (z i)] u fun e w' => e = .returned (.bool (p i)) ∧ Below u.heap.size u w') :
    Calls Tryd.prog 37 #[.slice ad n cap, .func (.func 29) #[] #[]] w fun e w' => ∃ r : Int, e = .returned (.int .i64 r) ∧ ((0 ≤ r ∧ anyB p n = true) ∨ (r = -1 ∧ anyB p n = false)) ∧ Below w.heap.size w w' := by
  have HA : Hid (n = 0 ∨ ∃ b off : Nat, ad = some ⟨b, off, none⟩ ∧ Nrd w b off n z) := hP
  have HC : Hid (∀ i u, i < n → Below w.heap.size w u → Calls Tryd.prog 29 #[.int .i64 (z i)] u fun e w' => e = .returned (.bool (p i)) ∧ Below u.heap.size u w') := hp
  clear hP hp
  go_enter Tryd.func37, Tryd.ntmps37
  go_wp2
  go_loopw [8] (fun i wr => ∃ k : Nat, k ≤ n ∧ i = .int .i64 k ∧ Below w.heap.size w wr ∧ ∀ j, j < k → p j = false) (fun i _ => n - (intOf i).toNat)
  case atStart => exact ⟨0, Nat.zero_le _, rfl, Below.refl _ _, fun j hj => by omega⟩
  case round =>
    obtain ⟨k, hk, rfl, hw, hg⟩ := hrel
    have HG : Hid (∀ j, j < k → p j = false) := hg
    have HW : Hid (Below w.heap.size w wr) := hw
    clear hg
    by_cases hlt : k < n
    · have hl3 : (k : Int) < n := by omega
      obtain ⟨b, off, rfl, hP⟩ : ∃ b off : Nat, ad = some ⟨b, off, none⟩ ∧ Nrd w b off n z := by
        rcases HA.out with e | h
        · omega
        · exact h
      have HP : Hid (Nrd w b off n z) := hP
      clear hP
      have cC := HC.out k wr hlt hw
      have x0 := (HP.out.on hw) k hlt
      cases e : p k with
      | true =>
        rw [e] at cC
        have HY : Hid (anyB p n = true) := anyB_yes hlt e
        clear HC HA HP HG e hw
        as_aux_lemma =>
          generalize z k = zk at *
          go_wp2_with (go_at_call 29; refine cC.mono ?_; rintro e u0 ⟨rfl, hb⟩; have HB : Hid _ := hb; clear hb)
          go_ret
          exact ⟨_, rfl, Or.inl ⟨by omega, HY.out⟩, rbel_on HB.out HW.out⟩
      | false =>
        rw [e] at cC
        have HY : Hid (∀ j, j < k + 1 → p j = false) := fun j hj => by
          by_cases q : j = k
          · rw [q]; exact e
          · exact HG.out j (by omega)
        clear HC HA HP HG e hw
        as_aux_lemma =>
          generalize z k = zk at *
          go_wp2_with (go_at_call 29; refine cC.mono ?_; rintro e u0 ⟨rfl, hb⟩; have HB : Hid _ := hb; clear hb)
          go_roundw
          case rel => exact ⟨k + 1, by omega, by go_num, rbel_on HB.out HW.out, HY.out⟩
          case measure => simp [intOf]; omega
    · have hl3 : ¬ ((k : Int) < n) := by omega
      have HY : Hid (anyB p n = false) := anyB_no (fun i hi => HG.out i (by omega))
      clear HC HA HG hw
      go_wp2
      go_ret
      exact ⟨_, rfl, Or.inr ⟨rfl, HY.out⟩, HW.out⟩
set_option maxRecDepth 100000 in
set_option maxHeartbeats 4000000 in
theorem sany_ints (ad : Option Addr) (n cap : Nat) (z : Nat → Int) (p : Nat → Bool) (w : World) (hn : n ≤ 9223372036854775807) (hP : n = 0 ∨ ∃ b off : Nat, ad = some ⟨b, off, none⟩ ∧ Nrd w b off n z)
    (hp : ∀ i u, i < n → Below w.heap.size w u → Calls Tryd.prog 29 #[.int .i64 (z i)] u fun e w' => e = .returned (.bool (p i)) ∧ Below u.heap.size u w') :
    Calls Tryd.prog 28 #[.slice ad n cap, .func (.func 29) #[] #[]] w fun e w' => e = .returned (.bool (anyB p n)) ∧ Below w.heap.size w w' := by
  have cI := sidx_ints ad n cap z p w hn hP hp
  clear hP hp
  cases h : anyB p n
  all_goals
    rw [h] at cI
    go_enter Tryd.func28, Tryd.ntmps28
    go_wp2_with (go_at_call 37; refine cI.mono ?_; rintro e u0 ⟨r, rfl, hr, hb⟩; have HB : Hid _ := hb; clear hb; simp at hr; (try subst hr))
    go_ret
    exact ⟨rfl, HB.out⟩


set_option maxHeartbeats 1000000 in
/-- stat.check, of any numbers. -/
theorem scheck_any (ad : Option Addr) (n cap : Nat) (z : Nat → Int) (e : Int) (w : World) (hH : NHanded w ad n z) (hE : NmE n z e) :
    Calls Tryd.prog 18 #[.slice ad n cap] w fun o w' => o = .returned (errc e) ∧ Below w.heap.size w w' := by
  have cA : 0 < n → Calls Tryd.prog 28 #[.slice ad n cap, .func (.func 29) #[] #[]] w fun o w' => o = .returned (.bool (anyB (fun i => badT (z i)) n)) ∧ Below w.heap.size w w' := fun _ => sany_ints ad n cap z (fun i => badT (z i)) w hH.1 hH.2 (fun i u _ _ => scheck1 (z i) u)
  have hm := hH.1
  clear hH
  have hmf : ∀ (fn : Go.Fn) (first cap : Array Value) (w : World), (Instr.makeFunc fn first cap).run Tryd.prog w = .ok (.func fn first cap) w := fun _ _ _ _ => rfl
  rcases hE with ⟨a, rfl⟩ | ⟨a, rfl⟩ | ⟨a, b, ⟨i, hi, c⟩, rfl⟩ | ⟨a, b, c, rfl⟩
  · rw [errc_not (by decide)]
    clear cA
    go_enter Tryd.func18, Tryd.ntmps18
    go_wp2
    go_ret
    exact ⟨rfl, Below.refl _ _⟩
  · subst a
    rw [errc_not (by decide)]
    clear cA
    go_enter Tryd.func18, Tryd.ntmps18
    go_wp2
    go_ret
    exact ⟨rfl, Below.refl _ _⟩
  · rw [errc_not (by decide)]
    have e : anyB (fun i => badT (z i)) n = true := anyB_yes hi (badT_iff.2 c)
    have cB := cA a
    rw [e] at cB
    have hc0 : ((n : Int) == 0) = false := by simp; omega
    clear cA c e hi
    go_enter Tryd.func18, Tryd.ntmps18
    go_wp2_with (go_at_call 28; refine cB.mono ?_; rintro e u0 ⟨rfl, hb⟩; have HB : Hid _ := hb; clear hb)
    go_ret
    exact ⟨rfl, HB.out⟩
  · rw [errc_zero]
    have e : anyB (fun i => badT (z i)) n = false := anyB_no (fun i hi => by
      cases q : badT (z i) with
      | false => rfl
      | true => exact absurd (c i hi) (badT_iff.1 q))
    have cB := cA a
    rw [e] at cB
    have hc0 : ((n : Int) == 0) = false := by simp; omega
    clear cA c e
    go_enter Tryd.func18, Tryd.ntmps18
    go_wp2_with (go_at_call 28; refine cB.mono ?_; rintro e u0 ⟨rfl, hb⟩; have HB : Hid _ := hb; clear hb)
    go_ret
    exact ⟨rfl, HB.out⟩
end Go.Proofs.YthejaecljkjliakDoor
