/- Package loops answers as the document says. -/
import Derived.Test.YtiebojccnaelbaeDoorLoopsFb
import Derived.Test.YtiebojccnaelbaeDoorLoopsRm
import Derived.Test.YtiebojccnaelbaeDoorLoopsProveA
import Derived.Test.YtiebojccnaelbaeDoorBoundsFit
import Derived.Test.YtiebojccnaelbaeDoorBoundsAll
namespace Go.Proofs.YtiebojccnaelbaeDoor
open Go.ChangeShapes Go.WideShapes Go.ChangeAt Go.RowKit Go.Joins
set_option linter.unusedVariables false
set_option linter.unusedSimpArgs false

set_option maxRecDepth 100000 in
set_option maxHeartbeats 4000000 in
theorem find_bad (z : Int) (a : Option Addr) (m cap : Nat) (q : Nat → Eg) (w : World) (hH : EHanded w a m q) (h0 : eE z q m ≠ 0) :
    Calls Tryd.prog 12 #[.int .i64 z, .slice a m cap] w fun o w' => o = .returned (.tuple #[.slice none 0 0, errc (eE z q m)]) ∧ Below w.heap.size w w' := by
  have cC := check_any z a m cap q w hH
  rw [errc_not h0] at cC ⊢
  clear h0 hH
  generalize eE z q m = er at *
  go_enter Tryd.func12, Tryd.ntmps12
  go_wp2_with (go_at_call 16; refine cC.mono ?_; rintro e u0 ⟨rfl, hb⟩; have HB : Hid _ := hb; clear hb)
  exact bodyPost_ret (v := .tuple #[.slice none 0 0, .iface 57 (.int .i64 er)]) (by simp [results, Tryd.results12, go_sem, *]) rfl ⟨rfl, HB.out⟩
theorem nil_eq (u : World) : (binOp .eql 23 (.slice none 0 0) (.slice none 0 0)).run Tryd.prog u = .ok (.bool true) u := by kernel_rfl
theorem some_eq (a : Addr) (n c : Nat) (u : World) : (binOp .eql 23 (.slice (some a) n c) (.slice none 0 0)).run Tryd.prog u = .ok (.bool false) u := by kernel_rfl
theorem nil_ne (u : World) : (binOp .neq 23 (.slice none 0 0) (.slice none 0 0)).run Tryd.prog u = .ok (.bool false) u := by kernel_rfl
theorem some_ne (a : Addr) (n c : Nat) (u : World) : (binOp .neq 23 (.slice (some a) n c) (.slice none 0 0)).run Tryd.prog u = .ok (.bool true) u := by kernel_rfl
/-- What Find answers. -/
def FnR (q : Nat → Eg) (n m : Nat) (w : World) (o : Ending) (w' : World) : Prop :=
  ((¬ Neg (Arc q m) n ∧ o = .returned (.tuple #[.slice none 0 0, errc 5])) ∨ (Neg (Arc q m) n ∧ ∃ (g cap d : Nat) (s : Nat → Int), o = .returned (.tuple #[.slice (some ⟨g, 0, none⟩) d cap, errc 0]) ∧ d ≤ n ∧ Nrd w' g 0 d s ∧ RmR q m d s (rmS q s d) 0 ∧ rmS q s d < 0)) ∧ Below w.heap.size w w'
set_option maxRecDepth 100000 in
set_option maxHeartbeats 4000000 in
theorem find_good (n : Nat) (a : Option Addr) (m cap : Nat) (q : Nat → Eg) (w : World) (hH : EHanded w a m q) (h0 : eE n q m = 0) :
    Calls Tryd.prog 12 #[.int .i64 n, .slice a m cap] w fun o w' => FnR q n m w o w' := by
  have cC := check_any n a m cap q w hH
  have cF := fun u (hu : Below w.heap.size w u) => findBelow_any n a m cap q u (eE_zero h0) (hH.on hu)
  rw [h0, errc_zero] at cC
  clear h0 hH
  have q1 := nil_eq
  have q2 := some_eq
  go_enter Tryd.func12, Tryd.ntmps12
  go_wp2_with (first
    | (go_at_call 16; refine cC.mono ?_; rintro e u0 ⟨rfl, hb⟩; have HB : Hid (Below w.heap.size w u0) := hb; clear hb)
    | (go_at_call 20; refine (cF _ HB.out).mono ?_; rintro e u1 ⟨hg, hb⟩; have HB1 : Hid (Below w.heap.size w u1) := rbel_on hb HB.out; clear hb; rcases hg with ⟨hN, rfl⟩ | ⟨hN, g, cap', d, s, rfl, hd, hS, hR, hr⟩))
  · have HN : Hid (¬ Neg (Arc q m) n) := hN
    clear hN
    exact bodyPost_ret (v := .tuple #[.slice none 0 0, .iface 57 (.int .i64 5)]) (by simp [results, Tryd.results12, go_sem, *]) rfl ⟨Or.inl ⟨HN.out, by rw [errc_not (by decide)]⟩, HB1.out⟩
  · have HN : Hid (Neg (Arc q m) n ∧ d ≤ n ∧ Nrd u1 g 0 d s ∧ RmR q m d s (rmS q s d) 0 ∧ rmS q s d < 0) := ⟨hN, hd, hS, hR, hr⟩
    clear hN hS hR hr
    exact bodyPost_ret (v := .tuple #[.slice (some ⟨g, 0, none⟩) d cap', .nilIface]) (by simp [results, Tryd.results12, go_sem, *]) rfl ⟨Or.inr ⟨HN.out.1, g, cap', d, s, by rw [errc_zero], HN.out.2⟩, HB1.out⟩
theorem find_any (z : Int) (a : Option Addr) (m cap : Nat) (q : Nat → Eg) (e : Int) (w : World) (hH : EHanded w a m q) (hF : FindE z q m e) :
    Calls Tryd.prog 12 #[.int .i64 z, .slice a m cap] w fun o w' => ∃ (la : Option Addr) (k lc : Nat) (s : Nat → Int), o = .returned (.tuple #[.slice la k lc, errc e]) ∧ NHanded w' la k s ∧ (e = 0 → k ≤ z.toNat ∧ ∃ r, RoomA z q m k s r 0 ∧ r < 0) ∧ Below w.heap.size w w' := by
  by_cases h0 : eE z q m = 0
  · obtain ⟨n, rfl⟩ : ∃ n : Nat, z = n := ⟨z.toNat, by have := (eE_zero h0).n1; omega⟩
    have h6 := (eE_zero h0).n6
    rw [FindE, Int.toNat_natCast] at hF
    refine (find_good n a m cap q w hH h0).mono ?_
    rintro o w' ⟨hg, hb⟩
    rcases hg with ⟨hN, rfl⟩ | ⟨hN, g, cap', d, s, rfl, hd, hS, hR, hr⟩
    · have e5 : e = 5 := by
        rcases hF with ⟨g, _⟩ | ⟨_, _, h⟩ | ⟨_, g, _⟩
        · exact absurd h0 g
        · exact h
        · exact absurd g hN
      rw [e5]
      exact ⟨none, 0, 0, fun _ => 0, rfl, ⟨by omega, Or.inl rfl⟩, fun h => by omega, hb⟩
    · have e0 : e = 0 := by
        rcases hF with ⟨g, _⟩ | ⟨_, g, _⟩ | ⟨_, _, h⟩
        · exact absurd h0 g
        · exact absurd hN g
        · exact h
      rw [e0]
      exact ⟨_, d, cap', s, rfl, ⟨by omega, Or.inr ⟨g, 0, rfl, hS⟩⟩, fun _ => ⟨by rw [Int.toNat_natCast]; exact hd, _, Or.inr ⟨h0, hR⟩, hr⟩, hb⟩
  · have he : e = eE z q m := by
      rcases hF with ⟨_, h⟩ | ⟨g, _⟩ | ⟨g, _⟩
      · exact h
      · exact absurd g h0
      · exact absurd g h0
    rw [he]
    refine (find_bad z a m cap q w hH h0).mono ?_
    rintro o w' ⟨rfl, hb⟩
    exact ⟨none, 0, 0, fun _ => 0, rfl, ⟨by omega, Or.inl rfl⟩, fun h => absurd h h0, hb⟩
set_option maxRecDepth 100000 in
set_option maxHeartbeats 4000000 in
theorem fault_bad (z : Int) (a : Option Addr) (m cap : Nat) (q : Nat → Eg) (w : World) (hH : EHanded w a m q) (h0 : eE z q m ≠ 0) :
    Calls Tryd.prog 11 #[.int .i64 z, .slice a m cap] w fun o w' => o = .returned (.tuple #[.int .i64 0, errc (eE z q m)]) ∧ Below w.heap.size w w' := by
  have cC := check_any z a m cap q w hH
  rw [errc_not h0] at cC ⊢
  clear h0 hH
  generalize eE z q m = er at *
  go_enter Tryd.func11, Tryd.ntmps11
  go_wp2_with (go_at_call 16; refine cC.mono ?_; rintro e u0 ⟨rfl, hb⟩; have HB : Hid _ := hb; clear hb)
  exact bodyPost_ret (v := .tuple #[.int .i64 0, .iface 57 (.int .i64 er)]) (by simp [results, Tryd.results11, go_sem, *]) rfl ⟨rfl, HB.out⟩
/-- What Fault answers. -/
def FuR (q : Nat → Eg) (n m : Nat) (w : World) (o : Ending) (w' : World) : Prop :=
  ((¬ Neg (Arc q m) n ∧ o = .returned (.tuple #[.int .i64 0, errc 5])) ∨ ∃ i : Nat, i < m ∧ Neg (Arc q (i + 1)) n ∧ ¬ Neg (Arc q i) n ∧ o = .returned (.tuple #[.int .i64 i, errc 0])) ∧ Below w.heap.size w w'
set_option maxRecDepth 100000 in
set_option maxHeartbeats 4000000 in
theorem fault_good (n : Nat) (a : Option Addr) (m cap : Nat) (q : Nat → Eg) (w : World) (hH : EHanded w a m q) (hc : m ≤ cap) (hcm : cap ≤ 9223372036854775807) (h0 : eE n q m = 0) :
    Calls Tryd.prog 11 #[.int .i64 n, .slice a m cap] w fun o w' => FuR q n m w o w' := by
  have cC := check_any n a m cap q w hH
  have hE := eE_zero h0
  have h40 := hE.m40
  have cF : Hid (∀ (i : Nat) u, i < m → Below w.heap.size w u → Calls Tryd.prog 20 #[.int .i64 n, .slice a (i + 1) cap] u fun e w' => FbR q n (i + 1) u e w') := fun i u hi hu => findBelow_any n a (i + 1) cap q u ⟨hE.n1, hE.n6, by omega, fun j hj => hE.each j (by omega)⟩ ⟨by omega, by
    rcases hH.2 with e | ⟨b, off, e, hs⟩
    · omega
    · exact Or.inr ⟨b, off, e, fun j hj => (hs.on hu) j (by omega)⟩⟩
  rw [h0, errc_zero] at cC
  clear h0 hH hE
  have q1 := nil_ne
  have q2 := some_ne
  go_enter Tryd.func11, Tryd.ntmps11
  go_wp2_with (go_at_call 16; refine cC.mono ?_; rintro e u0 ⟨rfl, hb⟩; have HB : Hid (Below w.heap.size w u0) := hb; clear hb)
  clear cC
  go_loopw [16] (fun vi wr => ∃ i : Nat, i ≤ m ∧ vi = .int .i64 i ∧ ¬ Neg (Arc q i) n ∧ Below w.heap.size w wr) (fun i _ => m - (intOf i).toNat)
  case atStart => exact ⟨0, Nat.zero_le _, rfl, arc_none, HB.out⟩
  case round =>
    clear HB
    obtain ⟨i, hi, rfl, hN, hw⟩ := hrel
    have HN : Hid (¬ Neg (Arc q i) n) := hN
    have HW : Hid (Below w.heap.size w wr) := hw
    by_cases hlt : i < m
    · have hl3 : (i : Int) < m := by omega
      have cB := cF.out i wr hlt hw
      have wi : IntKind.i64.wrap ((i : Int) + 1) = ((i + 1 : Nat) : Int) := by rw [show (i : Int) + 1 = ((i + 1 : Nat) : Int) by omega]; exact IntWalk.i64_in _ (by omega)
      have ic : ((i : Int) + 1) ≤ cap := by omega
      clear hN hw cF
      go_wp2_with (fail)
      refine cB.mono ?_
      rintro e u1 ⟨hg, hb⟩
      have HB1 : Hid (Below w.heap.size w u1) := rbel_on hb HW.out
      clear hb cB
      rcases hg with ⟨hN1, rfl⟩ | ⟨hN1, g, cap', d, s, rfl, _⟩
      · have HN1 : Hid (¬ Neg (Arc q (i + 1)) n) := hN1
        clear hN1
        go_wp2
        go_roundw
        case rel => exact ⟨i + 1, by omega, by go_num, HN1.out, HB1.out⟩
        case measure => simp [intOf]; omega
      · have HN1 : Hid (Neg (Arc q (i + 1)) n) := hN1
        clear hN1
        go_wp2
        exact bodyPost_ret (v := .tuple #[.int .i64 i, .nilIface]) (by simp [results, Tryd.results11, go_sem, *]) rfl ⟨Or.inr ⟨i, hlt, HN1.out, HN.out, by rw [errc_zero]⟩, HB1.out⟩
    · have hl3 : ¬ ((i : Int) < m) := by omega
      have e : i = m := by omega
      have HNm : Hid (¬ Neg (Arc q m) n) := by show ¬ _; rw [e] at hN; exact hN
      clear hN hw e cF
      go_wp2
      exact bodyPost_ret (v := .tuple #[.int .i64 0, .iface 57 (.int .i64 5)]) (by simp [results, Tryd.results11, go_sem, *]) rfl ⟨Or.inl ⟨HNm.out, by rw [errc_not (by decide)]⟩, HW.out⟩
theorem fault_any (z : Int) (a : Option Addr) (m cap : Nat) (q : Nat → Eg) (f e : Int) (w : World) (hH : EHanded w a m q) (hc : m ≤ cap) (hcm : cap ≤ 9223372036854775807) (hF : FaultA z q m f e) :
    Calls Tryd.prog 11 #[.int .i64 z, .slice a m cap] w fun o w' => o = .returned (.tuple #[.int .i64 f, errc e]) ∧ Below w.heap.size w w' := by
  by_cases h0 : eE z q m = 0
  · obtain ⟨n, rfl⟩ : ∃ n : Nat, z = n := ⟨z.toNat, by have := (eE_zero h0).n1; omega⟩
    rw [FaultA, Int.toNat_natCast] at hF
    refine (fault_good n a m cap q w hH hc hcm h0).mono ?_
    rintro o w' ⟨hg, hb⟩
    rcases hg with ⟨hN, rfl⟩ | ⟨i, hi, hN1, hN2, rfl⟩
    · rcases hF with ⟨g, _⟩ | ⟨_, _, rfl, rfl⟩ | ⟨_, _, j, hj, _, g, _⟩
      · exact absurd h0 g
      · exact ⟨rfl, hb⟩
      · exact absurd (neg_less (by omega) g) hN
    · rcases hF with ⟨g, _⟩ | ⟨_, g, _⟩ | ⟨_, rfl, j, hj, rfl, g1, g2⟩
      · exact absurd h0 g
      · exact absurd (neg_less (by omega) hN1) g
      · have ij : i = j := by
          rcases Nat.lt_trichotomy i j with c | c | c
          · exact absurd (neg_less (by omega) hN1) g2
          · exact c
          · exact absurd (neg_less (by omega) g1) hN2
        rw [ij]
        exact ⟨rfl, hb⟩
  · rcases hF with ⟨_, rfl, rfl⟩ | ⟨g, _⟩ | ⟨g, _⟩
    · exact fault_bad z a m cap q w hH h0
    · exact absurd g h0
    · exact absurd g h0
theorem ls {w : World} : Ls w :=
  ⟨fun z a m cap q la k lc s r e u _ hH hL _ hR => room_any z a m cap q la k lc s r e u hH hL hR, fun z a m cap q f e u _ hH hc hcm _ hF => fault_any z a m cap q f e u hH hc hcm hF, fun z a m cap q e u _ hH _ hF => find_any z a m cap q e u hH hF⟩
theorem bdf {w : World} : loopsProve.BdF w :=
  ⟨fun z a m cap q ca k cc c b e u _ hH hK hz hF => fits_any z a m cap q ca k cc c b e u hH hK hz hF, fun z a m cap q e T u _ hH _ hA => (all_any z a m cap q e T u hH hA).mono fun r w' h => h⟩
end Go.Proofs.YtiebojccnaelbaeDoor
