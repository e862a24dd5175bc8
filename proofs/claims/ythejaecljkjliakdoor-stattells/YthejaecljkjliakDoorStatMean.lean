/- The mean of numbers: what stat.divideDown and stat.Mean answer. -/
import Derived.Test.YthejaecljkjliakDoorStatChk
namespace Go.Proofs.YthejaecljkjliakDoor
open Go.ChangeShapes Go.WideShapes Go.ChangeAt Go.RowKit Go.Joins
set_option linter.unusedVariables false
set_option linter.unusedSimpArgs false

/-- A quotient by a number above 0, rounded down. -/
theorem divDown_is (n d : Int) (d0 : 0 < d) : (if n.tmod d < 0 then n.tdiv d - 1 else n.tdiv d) = n / d := by
  have e := Int.mul_tdiv_add_tmod n d
  have l1 : n.tmod d < d := Int.tmod_lt_of_pos n d0
  have l2 : -d < n.tmod d := Int.lt_tmod_of_pos n d0
  have c : n.tdiv d * d = d * n.tdiv d := Int.mul_comm _ _
  have c1 : (n.tdiv d - 1) * d = d * n.tdiv d - d := by rw [Int.sub_mul, Int.mul_comm]; omega
  have c2 : (n.tdiv d + 1) * d = d * n.tdiv d + d := by rw [Int.add_mul, Int.mul_comm]; omega
  split
  · have h1 : n.tdiv d - 1 ≤ n / d := (Int.le_ediv_iff_mul_le d0).2 (by omega)
    have h2 : n / d < n.tdiv d := (Int.ediv_lt_iff_lt_mul d0).2 (by omega)
    omega
  · have h1 : n.tdiv d ≤ n / d := (Int.le_ediv_iff_mul_le d0).2 (by omega)
    have h2 : n / d < n.tdiv d + 1 := (Int.ediv_lt_iff_lt_mul d0).2 (by omega)
    omega
theorem tdiv_b (n d : Int) (d0 : 0 < d) (h : -60000000000000 ≤ n ∧ n ≤ 60000000000000) : -60000000000000 ≤ n.tdiv d ∧ n.tdiv d ≤ 60000000000000 := by
  have a := Int.natAbs_tdiv_le_natAbs n d
  omega
theorem divideDown_any (n d : Int) (w : World) (d0 : 0 < d) (h : -60000000000000 ≤ n ∧ n ≤ 60000000000000) : Calls Tryd.prog 23 #[.int .i64 n, .int .i64 d] w fun e w' => e = .returned (.int .i64 (n / d)) ∧ w' = w := by
  obtain ⟨t1, t2⟩ := tdiv_b n d d0 h
  have dn : ¬ (d = 0) := by omega
  rw [← divDown_is n d d0]
  obtain ⟨Q, hQ⟩ : ∃ Q, Q = n.tdiv d := ⟨_, rfl⟩
  rw [← hQ]
  have w2 : IntKind.i64.wrap (n.tdiv d) = Q := by rw [hQ]; exact IntWalk.i64_in _ (by omega)
  have w3 : IntKind.i64.wrap (Q - 1) = Q - 1 := IntWalk.i64_in _ (by omega)
  by_cases c : n.tmod d < 0
  · rw [if_pos c]
    clear hQ t1 t2 h
    go_enter Tryd.func23, Tryd.ntmps23
    go_wp2
    go_ret
    exact ⟨rfl, rfl⟩
  · rw [if_neg c]
    clear hQ t1 t2 h
    go_enter Tryd.func23, Tryd.ntmps23
    go_wp2
    go_ret
    exact ⟨rfl, rfl⟩
theorem mean_no (ad : Option Addr) (n cap : Nat) (z : Nat → Int) (e : Int) (w : World) (hH : NHanded w ad n z) (hE : NmE n z e) (he : e ≠ 0) :
    Calls Tryd.prog 12 #[.slice ad n cap] w fun o w' => o = .returned (.tuple #[.int .i64 0, errc e]) ∧ Below w.heap.size w w' := by
  have cC := fun u hu => scheck_any ad n cap z e u (hH.on (W := w) hu) hE
  rw [errc_not he] at *
  clear hH
  go_enter Tryd.func12, Tryd.ntmps12
  go_wp2_with (go_at_call 18; refine (cC _ (Below.refl _ _)).mono ?_; rintro e u0 ⟨rfl, hb⟩; have HB : Hid _ := hb; clear hb)
  go_ret2
  exact ⟨rfl, HB.out⟩
set_option maxHeartbeats 1000000 in
theorem mean_ok (b off n cap : Nat) (z : Nat → Int) (w : World) (hP : Nrd w b off n z) (hE : NmE n z 0) :
    Calls Tryd.prog 12 #[.slice (some ⟨b, off, none⟩) n cap] w fun o w' => o = .returned (.tuple #[.int .i64 (mnN z n), .nilIface]) ∧ Below w.heap.size w w' := by
  obtain ⟨n0, n60, ok⟩ := hE.zero
  have cC : Calls Tryd.prog 18 #[.slice (some ⟨b, off, none⟩) n cap] w fun o w' => o = .returned .nilIface ∧ Below w.heap.size w w' := scheck_any _ n cap z 0 w ⟨by omega, Or.inr ⟨b, off, rfl, hP⟩⟩ hE
  have HP : Hid (Nrd w b off n z) := hP
  have HZ : Hid (∀ i, i < n → okT (z i)) := ok
  have cD := fun u => divideDown_any (smN z n) n u (by omega) (smN_b (Nat.le_refl n) n60 ok)
  have HM : Hid (mnN z n = smN z n / n) := rfl
  generalize mnN z n = M at *
  generalize hS : smN z n = S at *
  clear hP ok
  go_enter Tryd.func12, Tryd.ntmps12
  go_wp2_with (go_at_call 18; refine cC.mono ?_; rintro e u0 ⟨rfl, hb⟩; have HB : Hid (Below w.heap.size w u0) := hb; clear hb)
  go_loopw [5, 15] (fun s i wr => ∃ k : Nat, k ≤ n ∧ i = .int .i64 k ∧ s = .int .i64 (smN z k) ∧ Below w.heap.size w wr) (fun _ i _ => n - (intOf i).toNat)
  case atStart => exact ⟨0, Nat.zero_le _, rfl, rfl, HB.out⟩
  case round =>
    obtain ⟨k, hk, rfl, rfl, hw⟩ := hrel
    have HW : Hid (Below w.heap.size w wr) := hw
    by_cases hlt : k < n
    · have hl3 : (k : Int) < n := by omega
      have x0 := (HP.out.on hw) k hlt
      have sb := smN_b (z := z) (m := k + 1) (by omega) n60 HZ.out
      have sw : IntKind.i64.wrap (smN z k + z k) = smN z (k + 1) := IntWalk.i64_in _ (by show -9223372036854775808 ≤ smN z (k + 1) ∧ smN z (k + 1) ≤ _; omega)
      have HS : Hid (Value.int .i64 (smN z (k + 1)) = Value.int .i64 (smN z (k + 1))) := rfl
      generalize z k = zk at *
      generalize smN z k = sk at *
      generalize hS1 : smN z (k + 1) = S1 at *
      clear HZ
      go_wp2
      go_roundw
      case rel => exact ⟨k + 1, by omega, by go_num, by rw [hS1], HW.out⟩
      case measure => simp [intOf]; omega
    · have hl3 : ¬ ((k : Int) < n) := by omega
      obtain rfl : k = n := by omega
      rw [hS]
      clear HP HZ
      go_wp2_with (go_at_call 23; refine (cD _).mono ?_; rintro e w' ⟨rfl, rfl⟩)
      go_ret2
      exact ⟨by rw [HM.out]; rfl, HW.out⟩
theorem mean_any (ad : Option Addr) (n cap : Nat) (z : Nat → Int) (e : Int) (w : World) (hH : NHanded w ad n z) (hE : NmE n z e) :
    Calls Tryd.prog 12 #[.slice ad n cap] w fun o w' => o = .returned (.tuple #[.int .i64 (if e = 0 then mnN z n else 0), errc e]) ∧ Below w.heap.size w w' := by
  by_cases q : e = 0
  · subst q
    rcases hH.2 with h | ⟨b, off, rfl, hP⟩
    · have := hE.zero; omega
    · rw [errc_zero, if_pos rfl]
      exact mean_ok b off n cap z w hP hE
  · rw [if_neg q]
    exact mean_no ad n cap z e w hH hE q
end Go.Proofs.YthejaecljkjliakDoor
