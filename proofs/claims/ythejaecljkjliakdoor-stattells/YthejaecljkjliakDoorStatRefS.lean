/- What the document's own reckoning answers: noonref1.Spans; noonref2.Numbers, Mean. -/
import Derived.Test.YthejaecljkjliakDoorStatSpn
import Derived.Test.YthejaecljkjliakDoorStatDef
import Derived.Test.YthejaecljkjliakDoorRefSpan
import Derived.Lib.SmallJoins
import Derived.IntWalk
namespace Go.Proofs.YthejaecljkjliakDoor
open Go.ChangeShapes Go.WideShapes Go.ChangeAt Go.RowKit Go.Joins
set_option linter.unusedVariables false
set_option linter.unusedSimpArgs false

set_option maxHeartbeats 1000000 in
theorem rspans_full (a : Option Addr) (n cap : Nat) (w : World) (h : 40 < n) (hm : n ≤ 9223372036854775807) :
    Calls Tryd.prog 4 #[.slice a n cap] w fun e w' => e = .returned (.int .i64 4) ∧ Below w.heap.size w w' := by
  go_enter Tryd.func4, Tryd.ntmps4
  go_wp2
  go_ret
  exact ⟨rfl, Below.refl _ _⟩
set_option maxHeartbeats 1000000 in
theorem rspans_none (a : Option Addr) (cap : Nat) (w : World) :
    Calls Tryd.prog 4 #[.slice a 0 cap] w fun e w' => e = .returned (.int .i64 5) ∧ Below w.heap.size w w' := by
  go_enter Tryd.func4, Tryd.ntmps4
  go_wp2
  go_ret
  exact ⟨rfl, Below.refl _ _⟩
set_option maxHeartbeats 2000000 in
theorem rspans_row (b off n cap m : Nat) (q : Nat → Int × Int) (R : Int) (w : World) (h0 : 0 < n) (h40 : n ≤ 40) (hP : SpT w b off n q) (hmn : m ≤ n) (hgood : ∀ i, i < m → okB (q i).1 (q i).2 = true)
    (hR : (m = n ∧ R = 0) ∨ (m < n ∧ okB (q m).1 (q m).2 = false ∧ R = 1)) :
    Calls Tryd.prog 4 #[.slice (some ⟨b, off, none⟩) n cap] w fun e w' => e = .returned (.int .i64 R) ∧ Below w.heap.size w w' := by
  have hbl : b < w.heap.size := World.block_lt_of_cell? _ _ (hP 0 h0).1
  have HR : Hid ((m = n ∧ R = 0) ∨ (m < n ∧ okB (q m).1 (q m).2 = false ∧ R = 1)) := hR
  clear hR
  have hc0 : ((n : Int) == 0) = false := by simp; omega
  go_enter Tryd.func4, Tryd.ntmps4
  go_wp2
  go_loopw [3] (fun i wr => ∃ k : Nat, k ≤ m ∧ i = .int .i64 k ∧ Below w.heap.size w wr) (fun i _ => n - (intOf i).toNat)
  case atStart => exact ⟨0, Nat.zero_le _, rfl, Below.refl _ _⟩
  case round =>
    obtain ⟨k, hkm, rfl, hw⟩ := hrel
    have zz := hw.size
    by_cases hlt : k < n
    · obtain ⟨x0, x1⟩ := (hP.on hw) k hlt
      clear hP
      cases hk0 : okB (q k).1 (q k).2 with
      | true =>
        have km : k < m := by
          rcases HR.out with ⟨e, _⟩ | ⟨l, ne, _⟩
          · omega
          · exact Nat.lt_of_le_of_ne hkm (fun e => by rw [e, ne] at hk0; cases hk0)
        have cS := fun u => rspan_any (q k).1 (q k).2 u
        rw [hk0] at cS
        go_wp2_with (go_at_call 14; refine (cS _).mono ?_; rintro e u0 ⟨rfl, hb⟩; replace hw : Below w.heap.size w u0 := rbel_on hb hw)
        go_roundw
        case rel => exact ⟨k + 1, km, by go_num, hw⟩
        case measure => simp [intOf]; omega
      | false =>
        have km : Hid (R = 1) := by
          rcases HR.out with ⟨e, _⟩ | ⟨l, ne, e⟩
          · have := hgood k (by omega); rw [this] at hk0; cases hk0
          · exact e
        have cS := fun u => rspan_any (q k).1 (q k).2 u
        rw [hk0] at cS
        go_wp2_with (go_at_call 14; refine (cS _).mono ?_; rintro e u0 ⟨rfl, hb⟩; replace hw : Below w.heap.size w u0 := rbel_on hb hw)
        go_ret
        exact ⟨by rw [km.out]; rfl, hw⟩
    · have kn : Hid (R = 0) := by
        rcases HR.out with ⟨_, e⟩ | ⟨l, ne, e⟩
        · exact e
        · omega
      go_wp2
      go_ret
      exact ⟨by rw [kn.out]; rfl, hw⟩
theorem rspans_any (a : Option Addr) (n cap : Nat) (q : Nat → Int × Int) (w : World) (hH : SHd w a n q) :
    Calls Tryd.prog 4 #[.slice a n cap] w fun e w' => e = .returned (.int .i64 (svE q n)) ∧ Below w.heap.size w w' := by
  obtain ⟨hm, hs⟩ := hH
  by_cases h40 : 40 < n
  · have e : svE q n = 4 := if_pos h40
    rw [e]
    exact rspans_full a n cap w h40 hm
  · by_cases h0 : n = 0
    · subst h0
      rw [show svE q 0 = 5 from rfl]
      exact rspans_none _ cap w
    · obtain ⟨b, off, rfl, hP⟩ : ∃ b off : Nat, a = some ⟨b, off, none⟩ ∧ SpT w b off n q := by
        rcases hs with e | h
        · exact absurd e h0
        · exact h
      by_cases g : ∀ i, i < n → okB (q i).1 (q i).2 = true
      · rw [svE_ok (by omega) (by omega) g]
        exact rspans_row b off n cap n q 0 w (by omega) (by omega) hP (Nat.le_refl _) g (Or.inl ⟨rfl, rfl⟩)
      · obtain ⟨m, h1, h2, h3⟩ := first_badT q n g
        have e : svE q n = 1 := by unfold svE; rw [if_neg h40, if_neg h0, if_neg g]
        rw [e]
        exact rspans_row b off n cap m q 1 w (by omega) (by omega) hP (by omega) h3 (Or.inr ⟨h1, h2, rfl⟩)
set_option maxHeartbeats 2000000 in
theorem rnumbers_any (a : Option Addr) (n cap : Nat) (z : Nat → Int) (e : Int) (w : World) (hH : NHanded w a n z) (hE : NmE n z e) :
    Calls Tryd.prog 8 #[.slice a n cap] w fun o w' => o = .returned (.int .i64 e) ∧ Below w.heap.size w w' := by
  have nn := hH.1
  by_cases h1 : 60 < n
  · rw [show e = 4 from NmE.one hE (Or.inl ⟨h1, rfl⟩)]
    have h2 : (60 : Int) < n := by omega
    go_enter Tryd.func8, Tryd.ntmps8
    go_wp2
    go_ret
    exact ⟨rfl, Below.refl _ _⟩
  have h2 : ¬ ((60 : Int) < n) := by omega
  by_cases h0 : n = 0
  · rw [show e = 5 from NmE.one hE (Or.inr (Or.inl ⟨h0, rfl⟩))]
    subst h0
    go_enter Tryd.func8, Tryd.ntmps8
    go_wp2
    go_ret
    exact ⟨rfl, Below.refl _ _⟩
  have h3 : ((n : Int) == 0) = false := by simp; omega
  obtain ⟨b, off, rfl, hP⟩ : ∃ b off : Nat, a = some ⟨b, off, none⟩ ∧ Nrd w b off n z := by
    rcases hH.2 with q | h
    · omega
    · exact h
  have HP : Hid (Nrd w b off n z) := hP
  have HE : Hid (NmE n z e) := hE
  clear hH hP hE
  go_enter Tryd.func8, Tryd.ntmps8
  go_wp2
  go_loopw [3] (fun v wr => ∃ i : Nat, i ≤ n ∧ v = .int .i64 i ∧ w = wr ∧ ∀ j, j < i → okT (z j)) (fun v _ => n - (intOf v).toNat)
  case atStart => exact ⟨0, Nat.zero_le _, rfl, rfl, fun j hj => by omega⟩
  case round =>
    obtain ⟨i, hi, rfl, rfl, hg⟩ := hrel
    have HG : Hid (∀ j, j < i → okT (z j)) := hg
    clear hg
    by_cases hlt : i < n
    · have hl3 : (i : Int) < n := by omega
      have x0 := HP.out i hlt
      have cT := fun u => rtime_any (z i) u
      by_cases o : okT (z i)
      · rw [show timeB (z i) = true from decide_eq_true o] at cT
        have HG1 : Hid (∀ j, j < i + 1 → okT (z j)) := fun j hj => by
          by_cases q : j = i
          · rw [q]; exact o
          · exact HG.out j (by omega)
        clear HG o
        generalize z i = zi at *
        go_wp2_with (go_at_call 17; refine (cT _).mono ?_; rintro e u0 ⟨rfl, hu⟩; rw [hu]; clear hu)
        go_roundw
        case rel => exact ⟨i + 1, by omega, by go_num, by first | rfl | trivial, HG1.out⟩
        case measure => simp [intOf]; omega
      · rw [show timeB (z i) = false from decide_eq_false o] at cT
        have HY : Hid (e = 1) := NmE.one HE.out (Or.inr (Or.inr (Or.inl ⟨by omega, by omega, ⟨i, hlt, o⟩, rfl⟩)))
        clear HG o
        generalize z i = zi at *
        go_wp2_with (go_at_call 17; refine (cT _).mono ?_; rintro e u0 ⟨rfl, hu⟩; rw [hu]; clear hu)
        go_ret
        exact ⟨by rw [HY.out]; rfl, Below.refl _ _⟩
    · have hl3 : ¬ ((i : Int) < n) := by omega
      have HY : Hid (e = 0) := NmE.one HE.out (Or.inr (Or.inr (Or.inr ⟨by omega, by omega, fun j hj => HG.out j (by omega), rfl⟩)))
      clear HG
      go_wp2
      go_ret
      exact ⟨by rw [HY.out]; rfl, Below.refl _ _⟩
theorem mean_td {s q : Int} {n : Nat} (n0 : 0 < n) (hq : q = s.tdiv (n : Int)) : s / (n : Int) = if s < q * n then q - 1 else q := by
  have dm := Int.mul_ediv_add_emod s (n : Int)
  have r0 := Int.emod_nonneg s (show (n : Int) ≠ 0 by omega)
  have r1 := Int.emod_lt_of_pos s (show (0 : Int) < n by omega)
  have mc : s / (n : Int) * n = n * (s / (n : Int)) := Int.mul_comm _ _
  have td := Int.tdiv_eq_ediv (a := s) (b := (n : Int))
  rw [← hq] at td
  have sg : (n : Int).sign = 1 := Int.sign_eq_one_of_pos (by omega)
  by_cases c : 0 ≤ s ∨ (n : Int) ∣ s
  · rw [if_pos c, Int.add_zero] at td
    rw [td, if_neg (by omega)]
  · rw [if_neg c, sg] at td
    have nd : s % (n : Int) ≠ 0 := fun z => c (Or.inr (Int.dvd_of_emod_eq_zero z))
    have ex : (s / (n : Int) + 1) * n = n * (s / (n : Int)) + n := by rw [Int.add_mul, mc]; omega
    rw [td, ex, if_pos (by omega)]
    omega
theorem mean_b {s q : Int} {n : Nat} (n0 : 0 < n) (h60 : n ≤ 60) (hq : q = s.tdiv (n : Int)) (hs : -60000000000000 ≤ s ∧ s ≤ 60000000000000) : (-60000000000001 ≤ q ∧ q ≤ 60000000000001) ∧ -120000000000000 ≤ q * n ∧ q * n ≤ 120000000000000 := by
  have m := mean_td n0 hq
  have dm := Int.mul_ediv_add_emod s (n : Int)
  have r0 := Int.emod_nonneg s (show (n : Int) ≠ 0 by omega)
  have r1 := Int.emod_lt_of_pos s (show (0 : Int) < n by omega)
  have p : (0 : Int) < n := by omega
  have g1 : -60000000000000 ≤ s / (n : Int) := (Int.le_ediv_iff_mul_le p).2 (by omega)
  have g2 : s / (n : Int) < 60000000000001 := (Int.ediv_lt_iff_lt_mul p).2 (by omega)
  by_cases c : s < q * n
  · rw [if_pos c] at m
    have e : q = s / (n : Int) + 1 := by omega
    have ex : q * n = n * (s / (n : Int)) + n := by rw [e, Int.add_mul, Int.mul_comm]; omega
    omega
  · rw [if_neg c] at m
    have ex : q * n = n * (s / (n : Int)) := by rw [← m, Int.mul_comm]
    omega
set_option maxHeartbeats 2000000 in
theorem rmean_any (a : Option Addr) (n cap : Nat) (z : Nat → Int) (w : World) (hH : NHanded w a n z) (hE : NmE n z 0) :
    Calls Tryd.prog 10 #[.slice a n cap] w fun o w' => o = .returned (.int .i64 (mnN z n)) ∧ Below w.heap.size w w' := by
  obtain ⟨n0, n60, hok⟩ := hE.zero
  obtain ⟨b, off, rfl, hP⟩ : ∃ b off : Nat, a = some ⟨b, off, none⟩ ∧ Nrd w b off n z := by
    rcases hH.2 with q | h
    · omega
    · exact h
  have HP : Hid (Nrd w b off n z) := hP
  have HOk : Hid (∀ i, i < n → okT (z i)) := hok
  clear hH hP hE hok
  go_enter Tryd.func10, Tryd.ntmps10
  go_wp2
  go_loopw [3, 4] (fun vs v wr => ∃ (i : Nat) (s : Int), i ≤ n ∧ v = .int .i64 i ∧ vs = .int .i64 s ∧ s = smN z i ∧ w = wr) (fun _ v _ => n - (intOf v).toNat)
  case atStart => exact ⟨0, 0, Nat.zero_le _, rfl, rfl, rfl, rfl⟩
  case round =>
    obtain ⟨i, s, hi, rfl, rfl, hs, rfl⟩ := hrel
    by_cases hlt : i < n
    · have hl3 : (i : Int) < n := by omega
      have x0 := HP.out i hlt
      have b1 := smN_b (z := z) (show i + 1 ≤ n by omega) n60 HOk.out
      have HN : Hid (s + z i = smN z (i + 1)) := by show s + z i = smN z i + z i; rw [hs]
      have w1 : IntKind.i64.wrap (s + z i) = s + z i := by rw [HN.out]; exact IntWalk.i64_in _ (by omega)
      clear hs b1
      generalize z i = zi at *
      go_wp2
      go_roundw
      case rel => exact ⟨i + 1, s + zi, by omega, by go_num, by first | rfl | go_num, HN.out, by first | rfl | trivial⟩
      case measure => simp [intOf]; omega
    · have hl3 : ¬ ((i : Int) < n) := by omega
      have e : n = i := by omega
      subst e
      have b1 := smN_b (z := z) (Nat.le_refl n) n60 HOk.out
      rw [← hs] at b1
      have n1 : ¬ ((n : Int) = 0) := by omega
      have n1' : ¬ (n = 0) := by omega
      obtain ⟨q, hq⟩ : ∃ q, q = s.tdiv (n : Int) := ⟨_, rfl⟩
      obtain ⟨p, hp⟩ : ∃ p, p = q * n := ⟨_, rfl⟩
      have HM : Hid (mnN z n = if s < p then q - 1 else q) := by
        show smN z n / (n : Int) = _
        rw [← hs, hp]
        exact mean_td n0 hq
      obtain ⟨qb, mb⟩ := mean_b n0 n60 hq b1
      have w1 : IntKind.i64.wrap q = q := IntWalk.i64_in _ (by omega)
      have w2 : IntKind.i64.wrap (s.tdiv (n : Int)) = q := by rw [← hq]; exact w1
      have w3 : IntKind.i64.wrap (q * n) = p := by rw [hp]; exact IntWalk.i64_in _ (by omega)
      have w4 : IntKind.i64.wrap (q - 1) = q - 1 := IntWalk.i64_in _ (by omega)
      have hq' : s.tdiv (n : Int) = q := hq.symm
      clear hs hq mb hp
      by_cases c : s < p
      · rw [if_pos c] at HM
        go_wp2
        go_ret
        exact ⟨by rw [HM.out]; rfl, Below.refl _ _⟩
      · rw [if_neg c] at HM
        go_wp2
        go_ret
        exact ⟨by rw [HM.out]; rfl, Below.refl _ _⟩
end Go.Proofs.YthejaecljkjliakDoor
