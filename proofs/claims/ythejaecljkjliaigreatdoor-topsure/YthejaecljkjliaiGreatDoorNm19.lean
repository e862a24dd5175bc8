/- What package loops answers: Find, Fault. What the closure of vote.Safe makes of a span of numbers that are in as many. What package vote answers, as the laws have it. That there is what is in the most, and what is sure: plain numbers alone. -/
import Derived.Test.YthejaecljkjliaiGreatDoorLoopsFb
import Derived.Test.YthejaecljkjliaiGreatDoorNm18
import Derived.Test.YthejaecljkjliaiGreatDoorVoteWalkS
import Derived.Test.YthejaecljkjliaiGreatDoorNm11
namespace Go.Proofs.YthejaecljkjliaiGreatDoor
open Go.ChangeShapes Go.WideShapes Go.ChangeAt Go.RowKit Go.Joins
set_option linter.unusedVariables false
set_option linter.unusedSimpArgs false

set_option maxRecDepth 100000 in
set_option maxHeartbeats 4000000 in
theorem find_bad (z : Int) (a : Option Addr) (m cap : Nat) (q : Nat → Eg) (w : World) (hH : EHanded w a m q) (h0 : eE z q m ≠ 0) :
    Calls Tryz.prog 21 #[.int .i64 z, .slice a m cap] w fun o w' => o = .returned (.tuple #[.slice none 0 0, errc (eE z q m)]) ∧ Below w.heap.size w w' := by
  have cC := check_any z a m cap q w hH
  rw [errc_not h0] at cC ⊢
  clear h0 hH
  generalize eE z q m = er at *
  go_enter Tryz.func21, Tryz.ntmps21
  go_wp2_with (go_at_call 42; refine cC.mono ?_; rintro e u0 ⟨rfl, hb⟩; have HB : Hid _ := hb; clear hb)
  exact bodyPost_ret (v := .tuple #[.slice none 0 0, .iface 85 (.int .i64 er)]) (by simp [results, Tryz.results21, go_sem, *]) rfl ⟨rfl, HB.out⟩
theorem nil_eq (u : World) : (binOp .eql 22 (.slice none 0 0) (.slice none 0 0)).run Tryz.prog u = .ok (.bool true) u := by kernel_rfl
theorem some_eq (a : Addr) (n c : Nat) (u : World) : (binOp .eql 22 (.slice (some a) n c) (.slice none 0 0)).run Tryz.prog u = .ok (.bool false) u := by kernel_rfl
theorem nil_ne (u : World) : (binOp .neq 22 (.slice none 0 0) (.slice none 0 0)).run Tryz.prog u = .ok (.bool false) u := by kernel_rfl
theorem some_ne (a : Addr) (n c : Nat) (u : World) : (binOp .neq 22 (.slice (some a) n c) (.slice none 0 0)).run Tryz.prog u = .ok (.bool true) u := by kernel_rfl
/-- What Find answers. -/
def FnR (q : Nat → Eg) (n m : Nat) (w : World) (o : Ending) (w' : World) : Prop :=
  ((¬ Neg (Arc q m) n ∧ o = .returned (.tuple #[.slice none 0 0, errc 5])) ∨ (Neg (Arc q m) n ∧ ∃ (g cap d : Nat) (s : Nat → Int), o = .returned (.tuple #[.slice (some ⟨g, 0, none⟩) d cap, errc 0]) ∧ d ≤ n ∧ Nrd w' g 0 d s ∧ RmR q m d s (rmS q s d) 0 ∧ rmS q s d < 0)) ∧ Below w.heap.size w w'
set_option maxRecDepth 100000 in
set_option maxHeartbeats 4000000 in
theorem find_good (n : Nat) (a : Option Addr) (m cap : Nat) (q : Nat → Eg) (w : World) (hH : EHanded w a m q) (h0 : eE n q m = 0) :
    Calls Tryz.prog 21 #[.int .i64 n, .slice a m cap] w fun o w' => FnR q n m w o w' := by
  have cC := check_any n a m cap q w hH
  have cF := fun u (hu : Below w.heap.size w u) => findBelow_any n a m cap q u (eE_zero h0) (hH.on hu)
  rw [h0, errc_zero] at cC
  clear h0 hH
  have q1 := nil_eq
  have q2 := some_eq
  go_enter Tryz.func21, Tryz.ntmps21
  go_wp2_with (first
    | (go_at_call 42; refine cC.mono ?_; rintro e u0 ⟨rfl, hb⟩; have HB : Hid (Below w.heap.size w u0) := hb; clear hb)
    | (go_at_call 43; refine (cF _ HB.out).mono ?_; rintro e u1 ⟨hg, hb⟩; have HB1 : Hid (Below w.heap.size w u1) := rbel_on hb HB.out; clear hb; rcases hg with ⟨hN, rfl⟩ | ⟨hN, g, cap', d, s, rfl, hd, hS, hR, hr⟩))
  · have HN : Hid (¬ Neg (Arc q m) n) := hN
    clear hN
    exact bodyPost_ret (v := .tuple #[.slice none 0 0, .iface 85 (.int .i64 5)]) (by simp [results, Tryz.results21, go_sem, *]) rfl ⟨Or.inl ⟨HN.out, by rw [errc_not (by decide)]⟩, HB1.out⟩
  · have HN : Hid (Neg (Arc q m) n ∧ d ≤ n ∧ Nrd u1 g 0 d s ∧ RmR q m d s (rmS q s d) 0 ∧ rmS q s d < 0) := ⟨hN, hd, hS, hR, hr⟩
    clear hN hS hR hr
    exact bodyPost_ret (v := .tuple #[.slice (some ⟨g, 0, none⟩) d cap', .nilIface]) (by simp [results, Tryz.results21, go_sem, *]) rfl ⟨Or.inr ⟨HN.out.1, g, cap', d, s, by rw [errc_zero], HN.out.2⟩, HB1.out⟩
theorem find_any (z : Int) (a : Option Addr) (m cap : Nat) (q : Nat → Eg) (e : Int) (w : World) (hH : EHanded w a m q) (hF : FindE z q m e) :
    Calls Tryz.prog 21 #[.int .i64 z, .slice a m cap] w fun o w' => ∃ (la : Option Addr) (k lc : Nat) (s : Nat → Int), o = .returned (.tuple #[.slice la k lc, errc e]) ∧ NHanded w' la k s ∧ (e = 0 → k ≤ z.toNat ∧ ∃ r, RoomA z q m k s r 0 ∧ r < 0) ∧ Below w.heap.size w w' := by
  by_cases h0 : eE z q m = 0
  · obtain ⟨n, rfl⟩ : ∃ n : Nat, z = n := ⟨z.toNat, by have := (eE_zero h0).n1; omega⟩
    have h6 := (eE_zero h0).n6
    rw [FindE, Int.toNat_natCast] at hF
    refine (find_good n a m cap q w hH h0).mono ?_
    rintro o w' ⟨hg, hb⟩
    rcases hg with ⟨hN, rfl⟩ | ⟨hN, g, cap', d, s, rfl, hd, hS, hR, hr⟩
    · have e5 : e = 5 := by
        rcases hF with ⟨g, _⟩ | ⟨_, _, h⟩ | ⟨_, g, _⟩
        · exact absurd h0 g
        · exact h
        · exact absurd g hN
      rw [e5]
      exact ⟨none, 0, 0, fun _ => 0, rfl, ⟨by omega, Or.inl rfl⟩, fun h => by omega, hb⟩
    · have e0 : e = 0 := by
        rcases hF with ⟨g, _⟩ | ⟨_, g, _⟩ | ⟨_, _, h⟩
        · exact absurd h0 g
        · exact absurd hN g
        · exact h
      rw [e0]
      exact ⟨_, d, cap', s, rfl, ⟨by omega, Or.inr ⟨g, 0, rfl, hS⟩⟩, fun _ => ⟨by rw [Int.toNat_natCast]; exact hd, _, Or.inr ⟨h0, hR⟩, hr⟩, hb⟩
  · have he : e = eE z q m := by
      rcases hF with ⟨_, h⟩ | ⟨g, _⟩ | ⟨g, _⟩
      · exact h
      · exact absurd g h0
      · exact absurd g h0
    rw [he]
    refine (find_bad z a m cap q w hH h0).mono ?_
    rintro o w' ⟨rfl, hb⟩
    exact ⟨none, 0, 0, fun _ => 0, rfl, ⟨by omega, Or.inl rfl⟩, fun h => absurd h h0, hb⟩
set_option maxRecDepth 100000 in
set_option maxHeartbeats 4000000 in
theorem fault_bad (z : Int) (a : Option Addr) (m cap : Nat) (q : Nat → Eg) (w : World) (hH : EHanded w a m q) (h0 : eE z q m ≠ 0) :
    Calls Tryz.prog 22 #[.int .i64 z, .slice a m cap] w fun o w' => o = .returned (.tuple #[.int .i64 0, errc (eE z q m)]) ∧ Below w.heap.size w w' := by
  have cC := check_any z a m cap q w hH
  rw [errc_not h0] at cC ⊢
  clear h0 hH
  generalize eE z q m = er at *
  go_enter Tryz.func22, Tryz.ntmps22
  go_wp2_with (go_at_call 42; refine cC.mono ?_; rintro e u0 ⟨rfl, hb⟩; have HB : Hid _ := hb; clear hb)
  exact bodyPost_ret (v := .tuple #[.int .i64 0, .iface 85 (.int .i64 er)]) (by simp [results, Tryz.results22, go_sem, *]) rfl ⟨rfl, HB.out⟩
/-- What Fault answers. -/
def FuR (q : Nat → Eg) (n m : Nat) (w : World) (o : Ending) (w' : World) : Prop :=
  ((¬ Neg (Arc q m) n ∧ o = .returned (.tuple #[.int .i64 0, errc 5])) ∨ ∃ i : Nat, i < m ∧ Neg (Arc q (i + 1)) n ∧ ¬ Neg (Arc q i) n ∧ o = .returned (.tuple #[.int .i64 i, errc 0])) ∧ Below w.heap.size w w'
set_option maxRecDepth 100000 in
set_option maxHeartbeats 4000000 in
theorem fault_good (n : Nat) (a : Option Addr) (m cap : Nat) (q : Nat → Eg) (w : World) (hH : EHanded w a m q) (hc : m ≤ cap) (hcm : cap ≤ 9223372036854775807) (h0 : eE n q m = 0) :
    Calls Tryz.prog 22 #[.int .i64 n, .slice a m cap] w fun o w' => FuR q n m w o w' := by
  have cC := check_any n a m cap q w hH
  have hE := eE_zero h0
  have h40 := hE.m40
  have cF : Hid (∀ (i : Nat) u, i < m → Below w.heap.size w u → Calls Tryz.prog 43 #[.int .i64 n, .slice a (i + 1) cap] u fun e w' => FbR q n (i + 1) u e w') := fun i u hi hu => findBelow_any n a (i + 1) cap q u ⟨hE.n1, hE.n6, by omega, fun j hj => hE.each j (by omega)⟩ ⟨by omega, by
    rcases hH.2 with e | ⟨b, off, e, hs⟩
    · omega
    · exact Or.inr ⟨b, off, e, fun j hj => (hs.on hu) j (by omega)⟩⟩
  rw [h0, errc_zero] at cC
  clear h0 hH hE
  have q1 := nil_ne
  have q2 := some_ne
  go_enter Tryz.func22, Tryz.ntmps22
  go_wp2_with (go_at_call 42; refine cC.mono ?_; rintro e u0 ⟨rfl, hb⟩; have HB : Hid (Below w.heap.size w u0) := hb; clear hb)
  clear cC
  go_loopw [16] (fun vi wr => ∃ i : Nat, i ≤ m ∧ vi = .int .i64 i ∧ ¬ Neg (Arc q i) n ∧ Below w.heap.size w wr) (fun i _ => m - (intOf i).toNat)
  case atStart => exact ⟨0, Nat.zero_le _, rfl, arc_none, HB.out⟩
  case round =>
    clear HB
    obtain ⟨i, hi, rfl, hN, hw⟩ := hrel
    have HN : Hid (¬ Neg (Arc q i) n) := hN
    have HW : Hid (Below w.heap.size w wr) := hw
    by_cases hlt : i < m
    · have hl3 : (i : Int) < m := by omega
      have cB := cF.out i wr hlt hw
      have wi : IntKind.i64.wrap ((i : Int) + 1) = ((i + 1 : Nat) : Int) := by rw [show (i : Int) + 1 = ((i + 1 : Nat) : Int) by omega]; exact IntWalk.i64_in _ (by omega)
      have ic : ((i : Int) + 1) ≤ cap := by omega
      clear hN hw cF
      go_wp2_with (fail)
      refine cB.mono ?_
      rintro e u1 ⟨hg, hb⟩
      have HB1 : Hid (Below w.heap.size w u1) := rbel_on hb HW.out
      clear hb cB
      rcases hg with ⟨hN1, rfl⟩ | ⟨hN1, g, cap', d, s, rfl, _⟩
      · have HN1 : Hid (¬ Neg (Arc q (i + 1)) n) := hN1
        clear hN1
        go_wp2
        go_roundw
        case rel => exact ⟨i + 1, by omega, by go_num, HN1.out, HB1.out⟩
        case measure => simp [intOf]; omega
      · have HN1 : Hid (Neg (Arc q (i + 1)) n) := hN1
        clear hN1
        go_wp2
        exact bodyPost_ret (v := .tuple #[.int .i64 i, .nilIface]) (by simp [results, Tryz.results22, go_sem, *]) rfl ⟨Or.inr ⟨i, hlt, HN1.out, HN.out, by rw [errc_zero]⟩, HB1.out⟩
    · have hl3 : ¬ ((i : Int) < m) := by omega
      have e : i = m := by omega
      have HNm : Hid (¬ Neg (Arc q m) n) := by show ¬ _; rw [e] at hN; exact hN
      clear hN hw e cF
      go_wp2
      exact bodyPost_ret (v := .tuple #[.int .i64 0, .iface 85 (.int .i64 5)]) (by simp [results, Tryz.results22, go_sem, *]) rfl ⟨Or.inl ⟨HNm.out, by rw [errc_not (by decide)]⟩, HW.out⟩
theorem fault_any (z : Int) (a : Option Addr) (m cap : Nat) (q : Nat → Eg) (f e : Int) (w : World) (hH : EHanded w a m q) (hc : m ≤ cap) (hcm : cap ≤ 9223372036854775807) (hF : FaultA z q m f e) :
    Calls Tryz.prog 22 #[.int .i64 z, .slice a m cap] w fun o w' => o = .returned (.tuple #[.int .i64 f, errc e]) ∧ Below w.heap.size w w' := by
  by_cases h0 : eE z q m = 0
  · obtain ⟨n, rfl⟩ : ∃ n : Nat, z = n := ⟨z.toNat, by have := (eE_zero h0).n1; omega⟩
    rw [FaultA, Int.toNat_natCast] at hF
    refine (fault_good n a m cap q w hH hc hcm h0).mono ?_
    rintro o w' ⟨hg, hb⟩
    rcases hg with ⟨hN, rfl⟩ | ⟨i, hi, hN1, hN2, rfl⟩
    · rcases hF with ⟨g, _⟩ | ⟨_, _, rfl, rfl⟩ | ⟨_, _, j, hj, _, g, _⟩
      · exact absurd h0 g
      · exact ⟨rfl, hb⟩
      · exact absurd (neg_less (by omega) g) hN
    · rcases hF with ⟨g, _⟩ | ⟨_, g, _⟩ | ⟨_, rfl, j, hj, rfl, g1, g2⟩
      · exact absurd h0 g
      · exact absurd (neg_less (by omega) hN1) g
      · have ij : i = j := by
          rcases Nat.lt_trichotomy i j with c | c | c
          · exact absurd (neg_less (by omega) hN1) g2
          · exact c
          · exact absurd (neg_less (by omega) g1) hN2
        rw [ij]
        exact ⟨rfl, hb⟩
  · rcases hF with ⟨_, rfl, rfl⟩ | ⟨g, _⟩ | ⟨g, _⟩
    · exact fault_bad z a m cap q w hH h0
    · exact absurd g h0
    · exact absurd g h0
end Go.Proofs.YthejaecljkjliaiGreatDoor
namespace Go.Proofs.YthejaecljkjliaiGreatDoor
open Go.ChangeShapes Go.WideShapes Go.ChangeAt Go.RowKit
set_option linter.unusedVariables false
set_option linter.unusedSimpArgs false

/-- What lies in the variables of vote.Safe. -/
structure SafeIn (Bl Bd Bf Bs : Nat) (sl : Value) (d : Int) (a : Int × Int × Bool) (u : World) : Prop where
  list : Row u Bl [sl]
  bad : Row u Bd [.int .i64 d]
  found : Row u Bf [.bool a.2.2]
  safe : Row u Bs [.int .i64 a.1, .int .i64 a.2.1]
theorem SafeIn.on {Bl Bd Bf Bs : Nat} {sl : Value} {d : Int} {a : Int × Int × Bool} {u u' : World} (h : SafeIn Bl Bd Bf Bs sl d a u) (hb : Below u.heap.size u u') : SafeIn Bl Bd Bf Bs sl d a u' := ⟨Row.on hb h.list, Row.on hb h.bad, Row.on hb h.found, Row.on hb h.safe⟩

set_option maxHeartbeats 1000000 in
theorem safe1 (Bl Bd Bf Bs n cap : Nat) (ad : Option Addr) (d : Int) (n1 : Bf ≠ Bs) (n2 : Bl ≠ Bs) (n3 : Bd ≠ Bs) (n4 : Bl ≠ Bf) (n5 : Bd ≠ Bf) (a : Int × Int × Bool) (lo hi k : Int) (w : World) (h : SafeIn Bl Bd Bf Bs (.slice ad n cap) d a w) (hn : n ≤ 40) (hd : 0 ≤ d) (hdn : d < n) :
    Calls Tryz.prog 83 #[.agg #[.int .i64 lo, .int .i64 hi], .int .i64 k, .pointer (some ⟨Bl, 0, none⟩), .pointer (some ⟨Bd, 0, none⟩), .pointer (some ⟨Bf, 0, none⟩), .pointer (some ⟨Bs, 0, none⟩)] w fun e w' =>
      e = .returned (.tuple #[]) ∧ SafeIn Bl Bd Bf Bs (.slice ad n cap) d (safeT (n - d) a lo hi k) w' ∧ Keeps (fun b => b = Bf ∨ b = Bs) w w' := by
  obtain ⟨x, y, f⟩ := a
  obtain ⟨PL, PD, PF, PS⟩ := h
  simp only at PF PS
  have zL := PL.lt
  have zD := PD.lt
  have zF := PF.lt
  have zS := PS.lt
  have cL0 := PL.c 0 _ rfl
  have cD0 := PD.c 0 _ rfl
  have cF0 := PF.c 0 _ rfl
  have fF0 := PF.f 0 _ rfl
  have cS0 := PS.c 0 _ rfl
  have cS1 := PS.c 1 _ rfl
  have fS0 := PS.f 0 _ rfl
  have fS1 := PS.f 1 _ rfl
  have m1 : ¬ (Bl = w.heap.size) := by omega
  have m2 : ¬ (Bd = w.heap.size) := by omega
  have m3 : ¬ (Bf = w.heap.size) := by omega
  have m4 : ¬ (Bs = w.heap.size) := by omega
  have m5 : ¬ (w.heap.size = Bs) := by omega
  have m6 : ¬ (w.heap.size = Bf) := by omega
  have n6 : ¬ (Bf = Bs) := n1
  have n7 : ¬ (Bs = Bf) := fun e => n1 e.symm
  by_cases c1 : k < n - d
  · have T : Hid (safeT (n - d) (x, y, f) lo hi k = (x, y, f)) := if_pos c1
    go_enter Tryz.func83, Tryz.ntmps83
    go_wp2
    (try simp only [Exit.inBlock, Exit.then]); refine bodyPost_ret (results_none rfl _ _ _) rfl ?_
    rw [T.out]
    exact ⟨rfl, ⟨Row.al PL, Row.al PD, Row.al PF, Row.al PS⟩, .al (.refl _ _)⟩
  · cases f with
    | false =>
      have T : Hid (safeT (n - d) (x, y, false) lo hi k = (lo, hi, true)) := if_neg c1
      go_enter Tryz.func83, Tryz.ntmps83
      go_wp2
      go_end0
      rw [T.out]
      exact ⟨rfl, ⟨Row.al (Row.far (Ne.symm n2) (Row.far (Ne.symm n4) (Row.far (Ne.symm n2) PL))), Row.al (Row.far (Ne.symm n3) (Row.far (Ne.symm n5) (Row.far (Ne.symm n3) PD))), Row.al (Row.far (Ne.symm n1) (Row.put 0 (Row.far (Ne.symm n1) PF))), Row.al (Row.put 1 (Row.far n1 (Row.put 0 PS)))⟩,
        .al (.put (Or.inr rfl) (.put (Or.inl rfl) (.put (Or.inr rfl) (.refl _ _))))⟩
    | true =>
      have T : Hid (safeT (n - d) (x, y, true) lo hi k = (x, hi, true)) := if_neg c1
      go_enter Tryz.func83, Tryz.ntmps83
      go_wp2
      go_end0
      rw [T.out]
      exact ⟨rfl, ⟨Row.al (Row.far (Ne.symm n2) PL), Row.al (Row.far (Ne.symm n3) PD), Row.al (Row.far (Ne.symm n1) PF), Row.al (Row.put 1 PS)⟩, .al (.put (Or.inr rfl) (.refl _ _))⟩
end Go.Proofs.YthejaecljkjliaiGreatDoor
namespace Go.Proofs.YthejaecljkjliaiGreatDoor
open Go.ChangeShapes Go.WideShapes Go.ChangeAt Go.RowKit
set_option linter.unusedVariables false
set_option linter.unusedSimpArgs false

/-- What vote.Most must answer. -/
def MostRes (q : Nat → Int × Int) (n : Nat) (lo hi m e : Int) : Prop := (vE q n ≠ 0 ∧ e = vE q n ∧ lo = 0 ∧ hi = 0 ∧ m = 0) ∨ (vE q n = 0 ∧ e = 0 ∧ IsMost (cnt q n) lo hi m)
/-- What vote.Safe must answer. -/
def SafeRes (q : Nat → Int × Int) (n : Nat) (d lo hi e : Int) : Prop :=
  (vE q n ≠ 0 ∧ e = vE q n ∧ lo = 0 ∧ hi = 0) ∨ (vE q n = 0 ∧ (d < 0 ∨ (n : Int) ≤ d) ∧ e = 1 ∧ lo = 0 ∧ hi = 0) ∨
  (vE q n = 0 ∧ 0 ≤ d ∧ d < n ∧ (∀ x, cnt q n x < n - d) ∧ e = 7 ∧ lo = 0 ∧ hi = 0) ∨ (vE q n = 0 ∧ 0 ≤ d ∧ d < n ∧ e = 0 ∧ IsSafe (cnt q n) (n - d) lo hi)
theorem Handed.row {w : World} {a : Option Addr} {n : Nat} {q : Nat → Int × Int} (h : Handed w a n q) (h0 : 0 < n) : ∃ b off : Nat, a = some ⟨b, off, none⟩ ∧ Sps w b off n q := by
  rcases h.2 with e | h
  · omega
  · exact h
end Go.Proofs.YthejaecljkjliaiGreatDoor
namespace Go.Proofs.YthejaecljkjliaiGreatDoor
set_option linter.unusedVariables false
theorem steps_exist (q : Nat → Int × Int) (n : Nat) : ∃ L, Steps q n L := by
  have hp := List.mergeSort_perm (stepsOf q n) (fun a b => decide (a.1 ≤ b.1))
  have hs : ((stepsOf q n).mergeSort (fun a b => decide (a.1 ≤ b.1))).Pairwise (fun a b => decide (a.1 ≤ b.1) = true) := List.pairwise_mergeSort (by intro a b c; simp; omega) (by intro a b; simp; omega) _
  refine ⟨_, by rw [hp.length_eq, stepsOf_length], fun i j hij hj => ?_, hp⟩
  have hi : i < ((stepsOf q n).mergeSort (fun a b => decide (a.1 ≤ b.1))).length := Nat.lt_trans hij hj
  have := List.pairwise_iff_getElem.1 hs i j hi hj hij
  simp only [el, List.getD, List.getElem?_eq_getElem hj, List.getElem?_eq_getElem hi]
  simpa using this
theorem most_exists {q : Nat → Int × Int} {n : Nat} (ok : ∀ i, i < n → (q i).1 ≤ (q i).2) (h0 : 0 < n) : ∃ lo hi m, IsMost (cnt q n) lo hi m := by
  obtain ⟨L, hL⟩ := steps_exist q n
  exact ⟨_, _, _, most_told hL ok h0⟩
theorem safe_exists {q : Nat → Int × Int} {n : Nat} {K : Int} (ok : ∀ i, i < n → (q i).1 ≤ (q i).2) (h0 : 0 < n) (hK : 1 ≤ K) : (∀ x, cnt q n x < K) ∨ ∃ lo hi, IsSafe (cnt q n) K lo hi := by
  obtain ⟨L, hL⟩ := steps_exist q n
  rcases safe_told hL ok h0 hK with ⟨_, h⟩ | ⟨_, h⟩
  · exact Or.inl h
  · exact Or.inr ⟨_, _, h⟩
end Go.Proofs.YthejaecljkjliaiGreatDoor
