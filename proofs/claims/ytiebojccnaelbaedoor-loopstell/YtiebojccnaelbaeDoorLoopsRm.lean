/- What package loops answers of the room of a loop: checkLoop, Room. -/
import Derived.Test.YtiebojccnaelbaeDoorLoopsRnd
namespace Go.Proofs.YtiebojccnaelbaeDoor
open Go.ChangeShapes Go.WideShapes Go.ChangeAt Go.RowKit Go.Joins
set_option linter.unusedVariables false
set_option linter.unusedSimpArgs false

set_option maxHeartbeats 4000000 in
theorem checkLoop_none (a : Option Addr) (m cap : Nat) (la : Option Addr) (lc : Nat) (w : World) :
    Calls Tryd.prog 17 #[.slice a m cap, .slice la 0 lc] w fun e w' => e = .returned (.iface 57 (.int .i64 5)) ∧ Below w.heap.size w w' := by
  go_enter Tryd.func17, Tryd.ntmps17
  go_wp2
  go_ret
  exact ⟨rfl, rbel_al (Below.refl _ _)⟩
set_option maxHeartbeats 4000000 in
theorem checkLoop_full (a : Option Addr) (m cap : Nat) (la : Option Addr) (k lc : Nat) (w : World) (h : 40 < k) (hm : k ≤ 9223372036854775807) :
    Calls Tryd.prog 17 #[.slice a m cap, .slice la k lc] w fun e w' => e = .returned (.iface 57 (.int .i64 4)) ∧ Below w.heap.size w w' := by
  have h3 : (40 : Int) < k := by omega
  have h0 : ((k : Int) == 0) = false := by simp; omega
  go_enter Tryd.func17, Tryd.ntmps17
  go_wp2
  go_ret
  exact ⟨rfl, rbel_al (Below.refl _ _)⟩
set_option maxRecDepth 100000 in
set_option maxHeartbeats 4000000 in
theorem checkLoop_some (n : Nat) (a : Option Addr) (m cap : Nat) (q : Nat → Eg) (lb lo k lc : Nat) (s : Nat → Int) (r e : Int) (w : World) (hE : Egs n q m) (hH : EHanded w a m q) (hL : Nrd w lb lo k s) (k0 : 0 < k) (k40 : k ≤ 40) (hR : RmR q m k s r e) :
    Calls Tryd.prog 17 #[.slice a m cap, .slice (some ⟨lb, lo, none⟩) k lc] w fun o w' => o = .returned (errc e) ∧ Below w.heap.size w w' := by
  have h3 : ¬ ((40 : Int) < k) := by omega
  have h0 : ((k : Int) == 0) = false := by simp; omega
  have hmf : ∀ (fn : Fn) (first cap : Array Value) (w : World), (Instr.makeFunc fn first cap).run Tryd.prog w = .ok (.func fn first cap) w := fun _ _ _ _ => rfl
  obtain ⟨W, hWe⟩ : ∃ W, W = w.alloc (.cells #[.slice a m cap] 22) := ⟨_, rfl⟩
  have hW : Below w.heap.size w W := by rw [hWe]; exact rbel_al (Below.refl _ _)
  have rW : Row W w.heap.size [.slice a m cap] := by rw [hWe]; exact Row.made rfl
  have cA := any_steps (some ⟨lb, lo, none⟩) k lc s (fun i => !okSB m (s i)) w.heap.size W (by omega) (Or.inr ⟨lb, lo, rfl, hL.on hW⟩)
    (fun i u hi hu => (notStep_any a m cap w.heap.size (s i) u hE.m40 ((Row.on hu rW).c 0 _ rfl)).mono (by rintro e w' ⟨rfl, rfl⟩; exact ⟨rfl, Below.refl _ _⟩))
  have HW : Hid (Below w.heap.size w W) := hW
  have HRW : Hid (Row W w.heap.size [.slice a m cap]) := rW
  rcases hR with ⟨e0, _⟩ | ⟨e0, _⟩ | ⟨_, ⟨i, hi, ni⟩, _, rfl⟩ | ⟨_, ok, nj, _, rfl⟩ | ⟨_, ok, jo, _, rfl⟩
  · omega
  · omega
  · rw [show anyB (fun i => !okSB m (s i)) k = true from anyB_yes hi (by
      cases c : okSB m (s i) with
      | false => rfl
      | true => exact absurd (okSB_t c) ni)] at cA
    clear hW rW ni
    rw [errc_not (by decide)]
    rw [hWe] at cA
    go_enter Tryd.func17, Tryd.ntmps17
    go_wp2_with (go_at_call 25; refine cA.mono ?_; rintro e u0 ⟨rfl, hb⟩; rw [← hWe] at hb; have HB : Hid _ := hb; clear hb)
    go_ret
    exact ⟨rfl, rbel_on HB.out HW.out⟩
  · have cG := fun u (hu : Below w.heap.size w u) => goesRound_any n a m cap q lb lo k lc s u hE (hH.on hu) (hL.on hu) k0 k40 ok
    rw [show anyB (fun i => !okSB m (s i)) k = false from anyB_no (fun i hi => by
      cases c : okSB m (s i) with
      | false => exact absurd (ok i hi) (okSB_f c)
      | true => rfl)] at cA
    have HN : Hid (∃ i, i < k ∧ ¬ joS q s k i) := nj
    clear hW rW nj ok
    rw [errc_not (by decide)]
    rw [hWe] at cA
    go_enter Tryd.func17, Tryd.ntmps17
    go_wp2_with (first
      | (go_at_call 25; refine cA.mono ?_; rintro e u0 ⟨rfl, hb⟩; rw [← hWe] at hb; have c0 := (Row.on hb HRW.out).c 0 _ rfl; have HB : Hid (Below w.heap.size w u0) := rbel_on hb HW.out; clear hb)
      | (go_at_call 33; refine (cG _ HB.out).mono ?_; rintro e u1 ⟨hg, hb⟩; obtain rfl : e = .returned (.bool false) := (by rcases hg with ⟨_, g⟩ | ⟨g, _⟩; (obtain ⟨i, h1, h2⟩ := HN.out; exact absurd (g i h1) h2); exact g); have HB1 : Hid (Below w.heap.size w u1) := rbel_on hb HB.out; clear hb hg))
    go_ret
    exact ⟨rfl, HB1.out⟩
  · have cG := fun u (hu : Below w.heap.size w u) => goesRound_any n a m cap q lb lo k lc s u hE (hH.on hu) (hL.on hu) k0 k40 ok
    rw [show anyB (fun i => !okSB m (s i)) k = false from anyB_no (fun i hi => by
      cases c : okSB m (s i) with
      | false => exact absurd (ok i hi) (okSB_f c)
      | true => rfl)] at cA
    have HN : Hid (∀ i, i < k → joS q s k i) := jo
    clear hW rW jo ok
    rw [errc_zero]
    rw [hWe] at cA
    go_enter Tryd.func17, Tryd.ntmps17
    go_wp2_with (first
      | (go_at_call 25; refine cA.mono ?_; rintro e u0 ⟨rfl, hb⟩; rw [← hWe] at hb; have c0 := (Row.on hb HRW.out).c 0 _ rfl; have HB : Hid (Below w.heap.size w u0) := rbel_on hb HW.out; clear hb)
      | (go_at_call 33; refine (cG _ HB.out).mono ?_; rintro e u1 ⟨hg, hb⟩; obtain rfl : e = .returned (.bool true) := (by rcases hg with ⟨g, _⟩ | ⟨_, i, h1, h2⟩; exact g; exact absurd (HN.out i h1) h2); have HB1 : Hid (Below w.heap.size w u1) := rbel_on hb HB.out; clear hb hg))
    go_ret
    exact ⟨rfl, HB1.out⟩
theorem checkLoop_any (n : Nat) (a : Option Addr) (m cap : Nat) (q : Nat → Eg) (la : Option Addr) (k lc : Nat) (s : Nat → Int) (r e : Int) (w : World) (hE : Egs n q m) (hH : EHanded w a m q) (hL : NHanded w la k s) (hR : RmR q m k s r e) :
    Calls Tryd.prog 17 #[.slice a m cap, .slice la k lc] w fun o w' => o = .returned (errc e) ∧ Below w.heap.size w w' := by
  by_cases h0 : k = 0
  · subst h0
    have e5 : e = 5 := by rcases hR with ⟨_, _, h⟩ | ⟨h, _⟩ | ⟨h, _⟩ | ⟨h, _⟩ | ⟨h, _⟩ <;> omega
    rw [e5, errc_not (by decide)]
    exact checkLoop_none a m cap la lc w
  by_cases h1 : 40 < k
  · have e4 : e = 4 := by rcases hR with ⟨h, _⟩ | ⟨_, _, h⟩ | ⟨h, _⟩ | ⟨h, _⟩ | ⟨h, _⟩ <;> omega
    rw [e4, errc_not (by decide)]
    exact checkLoop_full a m cap la k lc w h1 hL.1
  · obtain ⟨b, off, rfl, hP⟩ : ∃ b off : Nat, la = some ⟨b, off, none⟩ ∧ Nrd w b off k s := by
      rcases hL.2 with e | h
      · omega
      · exact h
    exact checkLoop_some n a m cap q b off k lc s r e w hE hH hP (by omega) (by omega) hR
theorem rmS_small {n : Nat} {q : Nat → Eg} {m k : Nat} {s : Nat → Int} (hE : Egs n q m) (ok : ∀ i, i < k → okS m (s i)) : ∀ j : Nat, j ≤ k → -(1000000000000 * (j : Int)) ≤ rmS q s j ∧ rmS q s j ≤ 1000000000000 * (j : Int)
  | 0, _ => by simp [rmS]
  | j + 1, h => by
    have ih := rmS_small hE ok j (by omega)
    have c := coS_in hE (ok j (by omega))
    simp only [rmS]
    omega
set_option maxRecDepth 100000 in
set_option maxHeartbeats 4000000 in
theorem room_bad (z : Int) (a : Option Addr) (m cap : Nat) (q : Nat → Eg) (la : Option Addr) (k lc : Nat) (w : World) (hH : EHanded w a m q) (h0 : eE z q m ≠ 0) :
    Calls Tryd.prog 8 #[.int .i64 z, .slice a m cap, .slice la k lc] w fun o w' => o = .returned (.tuple #[.int .i64 0, errc (eE z q m)]) ∧ Below w.heap.size w w' := by
  have cC := check_any z a m cap q w hH
  rw [errc_not h0] at cC ⊢
  clear h0 hH
  generalize eE z q m = er at *
  go_enter Tryd.func8, Tryd.ntmps8
  go_wp2_with (go_at_call 16; refine cC.mono ?_; rintro e u0 ⟨rfl, hb⟩; have HB : Hid _ := hb; clear hb)
  exact bodyPost_ret (v := .tuple #[.int .i64 0, .iface 57 (.int .i64 er)]) (by simp [results, Tryd.results8, go_sem, *]) rfl ⟨rfl, HB.out⟩
set_option maxRecDepth 100000 in
set_option maxHeartbeats 4000000 in
theorem room_not (n : Nat) (a : Option Addr) (m cap : Nat) (q : Nat → Eg) (la : Option Addr) (k lc : Nat) (s : Nat → Int) (r e : Int) (w : World) (h0 : eE n q m = 0) (hH : EHanded w a m q) (hL : NHanded w la k s) (hR : RmR q m k s r e) (he : e ≠ 0) :
    Calls Tryd.prog 8 #[.int .i64 n, .slice a m cap, .slice la k lc] w fun o w' => o = .returned (.tuple #[.int .i64 0, errc e]) ∧ Below w.heap.size w w' := by
  have cC := check_any n a m cap q w hH
  have cL := fun u (hu : Below w.heap.size w u) => checkLoop_any n a m cap q la k lc s r e u (eE_zero h0) (hH.on hu) (hL.on hu) hR
  rw [h0, errc_zero] at cC
  rw [errc_not he] at cL ⊢
  clear h0 hH hL hR he
  go_enter Tryd.func8, Tryd.ntmps8
  go_wp2_with (first
    | (go_at_call 16; refine cC.mono ?_; rintro e' u0 ⟨rfl, hb⟩; have HB : Hid _ := hb; clear hb)
    | (go_at_call 17; refine (cL _ HB.out).mono ?_; rintro e' u1 ⟨rfl, hb⟩; have HB1 : Hid (Below w.heap.size w u1) := rbel_on hb HB.out; clear hb))
  exact bodyPost_ret (v := .tuple #[.int .i64 0, .iface 57 (.int .i64 e)]) (by simp [results, Tryd.results8, go_sem, *]) rfl ⟨rfl, HB1.out⟩
set_option maxRecDepth 100000 in
set_option maxHeartbeats 4000000 in
theorem room_good (n : Nat) (a : Option Addr) (m cap : Nat) (q : Nat → Eg) (lb lo : Nat) (k lc : Nat) (s : Nat → Int) (w : World) (h0 : eE n q m = 0) (hH : EHanded w a m q) (hL : Nrd w lb lo k s) (k0 : 0 < k) (k40 : k ≤ 40) (ok : ∀ i, i < k → okS m (s i)) (jo : ∀ i, i < k → joS q s k i) :
    Calls Tryd.prog 8 #[.int .i64 n, .slice a m cap, .slice (some ⟨lb, lo, none⟩) k lc] w fun o w' => o = .returned (.tuple #[.int .i64 (rmS q s k), .nilIface]) ∧ Below w.heap.size w w' := by
  have cC := check_any n a m cap q w hH
  have cK := fun u (hu : Below w.heap.size w u) => checkLoop_any n a m cap q (some ⟨lb, lo, none⟩) k lc s _ 0 u (eE_zero h0) (hH.on hu) ⟨by omega, Or.inr ⟨lb, lo, rfl, hL.on hu⟩⟩ (Or.inr (Or.inr (Or.inr (Or.inr ⟨⟨k0, k40⟩, ok, jo, rfl, rfl⟩))))
  rw [h0, errc_zero] at cC
  rw [errc_zero] at cK
  have cL : Hid (∀ i u, i < k → Below w.heap.size w u → Calls Tryd.prog 18 #[.slice a m cap, .int .i64 (s i)] u fun e w' => e = .returned (.agg #[.int .i64 (frS q (s i)), .int .i64 (toS q (s i)), .int .i64 (coS q (s i))]) ∧ Below u.heap.size u w') := fun i u hi hu => legOf_any n a m cap q (s i) u (eE_zero h0) (hH.on hu) (ok i hi)
  have HS : Hid (∀ j : Nat, j < k → -1000000000000 ≤ coS q (s j) ∧ coS q (s j) ≤ 1000000000000 ∧ -(1000000000000 * (j : Int)) ≤ rmS q s j ∧ rmS q s j ≤ 1000000000000 * (j : Int)) := fun j hj => by
    have h1 := coS_in (eE_zero h0) (ok j hj)
    have h2 := rmS_small (eE_zero h0) ok j (by omega)
    exact ⟨h1.1, h1.2, h2.1, h2.2⟩
  have HL : Hid (Nrd w lb lo k s) := hL
  have lr := leg_r
  clear h0 hH hL ok jo
  go_enter Tryd.func8, Tryd.ntmps8
  go_wp2_with (first
    | (go_at_call 16; refine cC.mono ?_; rintro e' u0 ⟨rfl, hb⟩; have HB : Hid _ := hb; clear hb)
    | (go_at_call 17; refine (cK _ HB.out).mono ?_; rintro e' u1 ⟨rfl, hb⟩; have HB1 : Hid (Below w.heap.size w u1) := rbel_on hb HB.out; clear hb))
  clear cC cK HB
  go_loopw [10, 27] (fun v i wr => ∃ j : Nat, j ≤ k ∧ i = .int .i64 j ∧ v = .int .i64 (rmS q s j) ∧ Below w.heap.size w wr) (fun _ i _ => k - (intOf i).toNat)
  case atStart => exact ⟨0, Nat.zero_le _, rfl, rfl, HB1.out⟩
  case round =>
    clear HB1
    obtain ⟨j, hj, rfl, rfl, hw⟩ := hrel
    have HW : Hid (Below w.heap.size w wr) := hw
    by_cases hlt : j < k
    · have hl3 : (j : Int) < k := by omega
      have x0 := (HL.out.on hw) j hlt
      have cj := cL.out j wr hlt hw
      obtain ⟨g1, g2, g3, g4⟩ := HS.out j hlt
      have ws : IntKind.i64.wrap (rmS q s j + coS q (s j)) = rmS q s (j + 1) := IntWalk.i64_in _ (by omega)
      obtain ⟨r1, hr1⟩ : ∃ r1, r1 = rmS q s (j + 1) := ⟨_, rfl⟩
      rw [← hr1] at ws
      have HR1 : Hid (r1 = rmS q s (j + 1)) := hr1
      clear hw cL g1 g2 g3 g4 hr1
      generalize rmS q s j = r0 at *
      generalize frS q (s j) = fj at *
      generalize toS q (s j) = tj at *
      generalize coS q (s j) = cj' at *
      generalize s j = sj at *
      go_wp2_with (go_at_call 18; refine cj.mono ?_; rintro e u0 ⟨rfl, hb⟩; have HB : Hid _ := hb; clear hb)
      go_roundw
      case rel => exact ⟨j + 1, by omega, by go_num, by rw [HR1.out], rbel_on HB.out HW.out⟩
      case measure => simp [intOf]; omega
    · have hl3 : ¬ ((j : Int) < k) := by omega
      have e : j = k := by omega
      rw [e]
      clear hw e cL
      go_wp2
      exact bodyPost_ret (v := .tuple #[.int .i64 (rmS q s k), .nilIface]) (by simp [results, Tryd.results8, go_sem, *]) rfl ⟨rfl, HW.out⟩
theorem room_any (z : Int) (a : Option Addr) (m cap : Nat) (q : Nat → Eg) (la : Option Addr) (k lc : Nat) (s : Nat → Int) (r e : Int) (w : World) (hH : EHanded w a m q) (hL : NHanded w la k s) (hR : RoomA z q m k s r e) :
    Calls Tryd.prog 8 #[.int .i64 z, .slice a m cap, .slice la k lc] w fun o w' => o = .returned (.tuple #[.int .i64 r, errc e]) ∧ Below w.heap.size w w' := by
  rcases hR with ⟨h0, rfl, rfl⟩ | ⟨h0, hR⟩
  · exact room_bad z a m cap q la k lc w hH h0
  · obtain ⟨n, rfl⟩ : ∃ n : Nat, z = n := ⟨z.toNat, by have := (eE_zero h0).n1; omega⟩
    have hR' := hR
    rcases hR with ⟨_, rfl, rfl⟩ | ⟨_, rfl, rfl⟩ | ⟨_, _, rfl, rfl⟩ | ⟨_, _, _, rfl, rfl⟩ | ⟨⟨k0, k40⟩, ok, jo, rfl, rfl⟩
    · exact room_not n a m cap q la k lc s 0 5 w h0 hH hL hR' (by decide)
    · exact room_not n a m cap q la k lc s 0 4 w h0 hH hL hR' (by decide)
    · exact room_not n a m cap q la k lc s 0 1 w h0 hH hL hR' (by decide)
    · exact room_not n a m cap q la k lc s 0 3 w h0 hH hL hR' (by decide)
    · obtain ⟨b, off, rfl, hP⟩ : ∃ b off : Nat, la = some ⟨b, off, none⟩ ∧ Nrd w b off k s := by
        rcases hL.2 with e | h
        · omega
        · exact h
      rw [errc_zero]
      exact room_good n a m cap q b off k lc s w h0 hH hP k0 k40 ok jo
end Go.Proofs.YtiebojccnaelbaeDoor
