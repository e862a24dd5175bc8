/- What the document's own reckoning (package noonref1) answers of spans: Spans, Has; and noonsame.Ints of two lists. -/
import Derived.Test.YthejaecljkjliabDoorVoteRefA
import Derived.Test.YthejaecljkjliabDoorVoteLiars
namespace Go.Proofs.YthejaecljkjliabDoor
open Go.ChangeShapes Go.WideShapes Go.ChangeAt Go.RowKit Go.Joins
set_option linter.unusedVariables false
set_option linter.unusedSimpArgs false

set_option maxHeartbeats 1000000 in
theorem rspans_full (a : Option Addr) (n cap : Nat) (w : World) (h : 40 < n) (hm : n ≤ 9223372036854775807) :
    Calls Tryd.prog 15 #[.slice a n cap] w fun e w' => e = .returned (.int .i64 4) ∧ Below w.heap.size w w' := by
  go_enter Tryd.func15, Tryd.ntmps15
  go_wp2
  go_ret
  exact ⟨rfl, Below.refl _ _⟩
set_option maxHeartbeats 1000000 in
theorem rspans_none (a : Option Addr) (cap : Nat) (w : World) :
    Calls Tryd.prog 15 #[.slice a 0 cap] w fun e w' => e = .returned (.int .i64 5) ∧ Below w.heap.size w w' := by
  go_enter Tryd.func15, Tryd.ntmps15
  go_wp2
  go_ret
  exact ⟨rfl, Below.refl _ _⟩
set_option maxHeartbeats 2000000 in
theorem rspans_row (b off n cap m : Nat) (q : Nat → Int × Int) (R : Int) (w : World) (h0 : 0 < n) (h40 : n ≤ 40) (hP : Sps w b off n q) (hmn : m ≤ n) (hgood : ∀ i, i < m → okB (q i).1 (q i).2 = true)
    (hR : (m = n ∧ R = 0) ∨ (m < n ∧ okB (q m).1 (q m).2 = false ∧ R = 1)) :
    Calls Tryd.prog 15 #[.slice (some ⟨b, off, none⟩) n cap] w fun e w' => e = .returned (.int .i64 R) ∧ Below w.heap.size w w' := by
  have hbl : b < w.heap.size := World.block_lt_of_cell? _ _ (hP 0 h0).1
  have HR : Hid ((m = n ∧ R = 0) ∨ (m < n ∧ okB (q m).1 (q m).2 = false ∧ R = 1)) := hR
  clear hR
  have hc0 : ((n : Int) == 0) = false := by simp; omega
  go_enter Tryd.func15, Tryd.ntmps15
  go_wp2
  go_loopw [3] (fun i wr => ∃ k : Nat, k ≤ m ∧ i = .int .i64 k ∧ Below w.heap.size w wr) (fun i _ => n - (intOf i).toNat)
  case atStart => exact ⟨0, Nat.zero_le _, rfl, Below.refl _ _⟩
  case round =>
    obtain ⟨k, hkm, rfl, hw⟩ := hrel
    have zz := hw.size
    by_cases hlt : k < n
    · obtain ⟨x0, x1⟩ := (hP.on hw) k hlt
      clear hP
      cases hk0 : okB (q k).1 (q k).2 with
      | true =>
        have km : k < m := by
          rcases HR.out with ⟨e, _⟩ | ⟨l, ne, _⟩
          · omega
          · exact Nat.lt_of_le_of_ne hkm (fun e => by rw [e, ne] at hk0; cases hk0)
        have cS := fun u => rspan_any (q k).1 (q k).2 u
        rw [hk0] at cS
        go_wp2_with (go_at_call 33; refine (cS _).mono ?_; rintro e u0 ⟨rfl, hb⟩; replace hw : Below w.heap.size w u0 := rbel_on hb hw)
        go_roundw
        case rel => exact ⟨k + 1, km, by go_num, hw⟩
        case measure => simp [intOf]; omega
      | false =>
        have km : Hid (R = 1) := by
          rcases HR.out with ⟨e, _⟩ | ⟨l, ne, e⟩
          · have := hgood k (by omega); rw [this] at hk0; cases hk0
          · exact e
        have cS := fun u => rspan_any (q k).1 (q k).2 u
        rw [hk0] at cS
        go_wp2_with (go_at_call 33; refine (cS _).mono ?_; rintro e u0 ⟨rfl, hb⟩; replace hw : Below w.heap.size w u0 := rbel_on hb hw)
        go_ret
        exact ⟨by rw [km.out]; rfl, hw⟩
    · have kn : Hid (R = 0) := by
        rcases HR.out with ⟨_, e⟩ | ⟨l, ne, e⟩
        · exact e
        · omega
      go_wp2
      go_ret
      exact ⟨by rw [kn.out]; rfl, hw⟩
theorem rspans_any (a : Option Addr) (n cap : Nat) (q : Nat → Int × Int) (w : World) (hH : Handed w a n q) :
    Calls Tryd.prog 15 #[.slice a n cap] w fun e w' => e = .returned (.int .i64 (vE q n)) ∧ Below w.heap.size w w' := by
  obtain ⟨hm, hs⟩ := hH
  by_cases h40 : 40 < n
  · have e : vE q n = 4 := if_pos h40
    rw [e]
    exact rspans_full a n cap w h40 hm
  · by_cases h0 : n = 0
    · subst h0
      rw [show vE q 0 = 5 from rfl]
      exact rspans_none _ cap w
    · obtain ⟨b, off, rfl, hP⟩ : ∃ b off : Nat, a = some ⟨b, off, none⟩ ∧ Sps w b off n q := by
        rcases hs with e | h
        · exact absurd e h0
        · exact h
      by_cases g : ∀ i, i < n → okB (q i).1 (q i).2 = true
      · rw [vE_ok (by omega) (by omega) g]
        exact rspans_row b off n cap n q 0 w (by omega) (by omega) hP (Nat.le_refl _) g (Or.inl ⟨rfl, rfl⟩)
      · obtain ⟨m, h1, h2, h3⟩ := first_bad q n g
        have e : vE q n = 1 := by unfold vE; rw [if_neg h40, if_neg h0, if_neg g]
        rw [e]
        exact rspans_row b off n cap m q 1 w (by omega) (by omega) hP (by omega) h3 (Or.inr ⟨h1, h2, rfl⟩)

set_option maxHeartbeats 2000000 in
/-- noonref1.Has: in how many a number is. -/
theorem rhas_any (b off n cap : Nat) (q : Nat → Int × Int) (x : Int) (w : World) (h40 : n ≤ 40) (hP : Sps w b off n q) :
    Calls Tryd.prog 36 #[.slice (some ⟨b, off, none⟩) n cap, .int .i64 x] w fun e w' => e = .returned (.int .i64 (cnt q n x)) ∧ w' = w := by
  go_enter Tryd.func36, Tryd.ntmps36
  go_wp2
  go_loopw [5, 6] (fun c i wr => ∃ k : Nat, k ≤ n ∧ i = .int .i64 k ∧ c = .int .i64 (cnt q k x) ∧ wr = w) (fun _ i _ => n - (intOf i).toNat)
  case atStart => exact ⟨0, Nat.zero_le _, rfl, rfl, rfl⟩
  case round =>
    obtain ⟨k, hk, rfl, rfl, rfl⟩ := hrel
    have cb := cnt_le q x k
    obtain ⟨cb1, cb2⟩ := cb
    by_cases hlt : k < n
    · obtain ⟨x0, x1⟩ := hP k hlt
      have HC : Hid (cnt q (k + 1) x = cnt q k x + inn (q k) x) := rfl
      clear hP
      by_cases a1 : (q k).1 ≤ x
      · by_cases a2 : x ≤ (q k).2
        · have e : Hid (inn (q k) x = 1) := (inn_one _ _).2 ⟨a1, a2⟩
          go_wp2
          go_roundw
          case rel => exact ⟨k + 1, by omega, by go_num, by rw [HC.out, e.out], trivial⟩
          case measure => simp [intOf]; omega
        · have e : Hid (inn (q k) x = 0) := if_neg (by omega)
          have d2 : decide (x ≤ (q k).2) = false := decide_eq_false a2
          go_wp2
          go_roundw
          case rel => exact ⟨k + 1, by omega, by go_num, by rw [HC.out, e.out]; simp, trivial⟩
          case measure => simp [intOf]; omega
      · have e : Hid (inn (q k) x = 0) := if_neg (by omega)
        go_wp2
        go_roundw
        case rel => exact ⟨k + 1, by omega, by go_num, by rw [HC.out, e.out]; simp, trivial⟩
        case measure => simp [intOf]; omega
    · have kn : k = n := by omega
      subst kn
      go_wp2
      go_ret
      exact ⟨rfl, rfl⟩

set_option maxHeartbeats 2000000 in
/-- noonsame.Ints of two lists that are the same. -/
theorem ints_same (a b : Option Addr) (n c d : Nat) (f : Nat → Int) (w : World) (hn : n ≤ 40) (ha : ∀ i, i < n → ∃ g, a = some ⟨g, 0, none⟩ ∧ w.cell? ⟨g, i, none⟩ = some (.int .i64 (f i))) (hb : ∀ i, i < n → ∃ g, b = some ⟨g, 0, none⟩ ∧ w.cell? ⟨g, i, none⟩ = some (.int .i64 (f i))) :
    Calls Tryd.prog 21 #[.slice a n c, .slice b n d] w fun e w' => e = .returned (.bool true) ∧ Below w.heap.size w w' := by
  by_cases n0 : n = 0
  · subst n0
    go_enter Tryd.func21, Tryd.ntmps21
    go_wp2
    refine wp_loop_rounds 1 ?_
    rw [rounds_succ]
    go_wp2
    go_ret
    exact ⟨rfl, Below.refl _ _⟩
  · obtain ⟨g, rfl, _⟩ := ha 0 (by omega)
    obtain ⟨h, rfl, _⟩ := hb 0 (by omega)
    have ha : ∀ i, i < n → w.cell? ⟨g, i, none⟩ = some (.int .i64 (f i)) := fun i hi => by
      obtain ⟨g', e, hc⟩ := ha i hi
      have e := Option.some.inj e
      injection e with e1 e2 e3
      rw [e1]; exact hc
    have hb : ∀ i, i < n → w.cell? ⟨h, i, none⟩ = some (.int .i64 (f i)) := fun i hi => by
      obtain ⟨g', e, hc⟩ := hb i hi
      have e := Option.some.inj e
      injection e with e1 e2 e3
      rw [e1]; exact hc
    go_enter Tryd.func21, Tryd.ntmps21
    go_wp2
    go_loopw [5] (fun i wr => ∃ k : Nat, k ≤ n ∧ i = .int .i64 k ∧ Below w.heap.size w wr) (fun i _ => n - (intOf i).toNat)
    case atStart => exact ⟨0, Nat.zero_le _, rfl, Below.refl _ _⟩
    case round =>
      obtain ⟨k, hk, rfl, hw⟩ := hrel
      by_cases hlt : k < n
      · have x0 := (hw.cell (World.block_lt_of_cell? _ _ (ha k hlt))).trans (ha k hlt)
        have x1 := (hw.cell (World.block_lt_of_cell? _ _ (hb k hlt))).trans (hb k hlt)
        clear ha hb
        go_wp2
        go_region
        all_goals
          go_wp2
          go_roundw
          case rel => exact ⟨k + 1, by omega, by go_num, hw.drew⟩
          case measure => simp [intOf]; omega
      · have kn : k = n := by omega
        subst kn
        go_wp2
        go_ret
        exact ⟨rfl, hw⟩
end Go.Proofs.YthejaecljkjliabDoor
