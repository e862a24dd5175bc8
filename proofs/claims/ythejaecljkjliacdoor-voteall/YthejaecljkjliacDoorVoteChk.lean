/- What vote.check answers of any spans. -/
import Derived.Test.YthejaecljkjliacDoorSpanChkC
import Derived.Test.YthejaecljkjliacDoorVoteSpn
import Derived.WalkKit
import Derived.ProofKit
import Derived.OpenShut
import Derived.Outline
import Derived.IntWalk
import Derived.Below
import Derived.WalkLawsBesides
namespace Go.Proofs.YthejaecljkjliacDoor
open Go.ChangeShapes Go.WideShapes Go.ChangeAt Go.RowKit
set_option linter.unusedVariables false
set_option linter.unusedSimpArgs false

set_option maxHeartbeats 1000000 in
theorem vcheck_full (a : Option Addr) (n cap : Nat) (w : World) (h : 40 < n) (hm : n ≤ 9223372036854775807) :
    Calls Tryd.prog 45 #[.slice a n cap] w fun e w' => e = .returned (.iface 81 (.int .i64 4)) ∧ Below w.heap.size w w' := by
  go_enter Tryd.func45, Tryd.ntmps45
  go_wp2
  go_ret
  exact ⟨rfl, Below.refl _ _⟩

set_option maxHeartbeats 1000000 in
theorem vcheck_none (a : Option Addr) (cap : Nat) (w : World) :
    Calls Tryd.prog 45 #[.slice a 0 cap] w fun e w' => e = .returned (.iface 81 (.int .i64 5)) ∧ Below w.heap.size w w' := by
  go_enter Tryd.func45, Tryd.ntmps45
  go_wp2
  go_ret
  exact ⟨rfl, Below.refl _ _⟩

set_option maxHeartbeats 2000000 in
theorem vcheck_any (b off n cap m : Nat) (q : Nat → Int × Int) (R : Value) (w : World) (h0 : 0 < n) (h40 : n ≤ 40) (hP : Sps w b off n q) (hmn : m ≤ n) (hgood : ∀ i, i < m → okB (q i).1 (q i).2 = true)
    (hR : (m = n ∧ R = .nilIface) ∨ (m < n ∧ okB (q m).1 (q m).2 = false ∧ R = .iface 81 (.int .i64 1))) :
    Calls Tryd.prog 45 #[.slice (some ⟨b, off, none⟩) n cap] w fun e w' => e = .returned R ∧ Below w.heap.size w w' := by
  have hbl : b < w.heap.size := World.block_lt_of_cell? _ _ (hP 0 h0).1
  have HR : Hid ((m = n ∧ R = .nilIface) ∨ (m < n ∧ okB (q m).1 (q m).2 = false ∧ R = .iface 81 (.int .i64 1))) := hR
  clear hR
  have hc0 : ((n : Int) == 0) = false := by simp; omega
  go_enter Tryd.func45, Tryd.ntmps45
  go_wp2
  go_loopw [16] (fun i wr => ∃ k : Nat, k ≤ m ∧ i = .int .i64 k ∧ Below w.heap.size w wr) (fun i _ => n - (intOf i).toNat)
  case atStart => exact ⟨0, Nat.zero_le _, rfl, Below.refl _ _⟩
  case round =>
    obtain ⟨k, hkm, rfl, hw⟩ := hrel
    have zz := hw.size
    by_cases hlt : k < n
    · obtain ⟨x0, x1⟩ := (hP.on hw) k hlt
      clear hP
      cases hk0 : okB (q k).1 (q k).2 with
      | true =>
        have km : k < m := by
          rcases HR.out with ⟨e, _⟩ | ⟨l, ne, _⟩
          · omega
          · exact Nat.lt_of_le_of_ne hkm (fun e => by rw [e, ne] at hk0; cases hk0)
        go_wp2_with (go_at_call 8; refine (check_ok (q k).1 (q k).2 _ hk0).mono ?_; rintro e u0 ⟨rfl, hb⟩; replace hw : Below w.heap.size w u0 := rbel_on hb (rbel_al hw))
        go_roundw
        case rel => exact ⟨k + 1, km, by go_num, hw⟩
        case measure => simp [intOf]; omega
      | false =>
        have km : Hid (R = .iface 81 (.int .i64 1)) := by
          rcases HR.out with ⟨e, _⟩ | ⟨l, ne, e⟩
          · have := hgood k (by omega); rw [this] at hk0; cases hk0
          · exact e
        go_wp2_with (go_at_call 8; refine (check_no (q k).1 (q k).2 _ hk0).mono ?_; rintro e u0 ⟨rfl, hb⟩; replace hw : Below w.heap.size w u0 := rbel_on hb (rbel_al hw))
        go_ret
        exact ⟨by rw [km.out]; rfl, hw⟩
    · have kn : Hid (R = .nilIface) := by
        rcases HR.out with ⟨_, e⟩ | ⟨l, ne, e⟩
        · exact e
        · omega
      go_wp2
      go_ret
      exact ⟨by rw [kn.out]; rfl, hw⟩

/-- What is wrong with spans. -/
def vE (q : Nat → Int × Int) (n : Nat) : Int := if 40 < n then 4 else if n = 0 then 5 else if ∀ i, i < n → okB (q i).1 (q i).2 = true then 0 else 1
/-- Spans as they are handed over. -/
def Handed (w : World) (a : Option Addr) (n : Nat) (q : Nat → Int × Int) : Prop := n ≤ 9223372036854775807 ∧ (n = 0 ∨ ∃ b off : Nat, a = some ⟨b, off, none⟩ ∧ Sps w b off n q)
theorem Handed.on {W u : World} {a : Option Addr} {n : Nat} {q : Nat → Int × Int} (hb : Below W.heap.size W u) (h : Handed W a n q) : Handed u a n q :=
  ⟨h.1, h.2.imp id (fun ⟨b, off, e, s⟩ => ⟨b, off, e, s.on hb⟩)⟩
theorem first_bad (q : Nat → Int × Int) : ∀ n : Nat, ¬ (∀ i, i < n → okB (q i).1 (q i).2 = true) → ∃ m, m < n ∧ okB (q m).1 (q m).2 = false ∧ ∀ i, i < m → okB (q i).1 (q i).2 = true
  | 0, h => absurd (fun i hi => by omega) h
  | n + 1, h => by
    by_cases c : ∀ i, i < n → okB (q i).1 (q i).2 = true
    · refine ⟨n, by omega, ?_, c⟩
      cases e : okB (q n).1 (q n).2 with
      | false => rfl
      | true => exact absurd (fun i hi => by
          by_cases g : i = n
          · rw [g]; exact e
          · exact c i (by omega)) h
    · obtain ⟨m, h1, h2, h3⟩ := first_bad q n c
      exact ⟨m, by omega, h2, h3⟩
/-- An error by its number; 0: none. -/
def errn (e : Int) : Value := if e = 0 then .nilIface else .iface 81 (.int .i64 e)
theorem errn_zero : errn 0 = .nilIface := if_pos rfl
theorem errn_not {f : Int} (h : f ≠ 0) : errn f = .iface 81 (.int .i64 f) := if_neg h
theorem vE_zero {q : Nat → Int × Int} {n : Nat} (h : vE q n = 0) : 0 < n ∧ n ≤ 40 ∧ ∀ i, i < n → okB (q i).1 (q i).2 = true := by
  unfold vE at h
  split at h
  · cases h
  · split at h
    · cases h
    · split at h
      · exact ⟨by omega, by omega, by assumption⟩
      · cases h
theorem vE_ok {q : Nat → Int × Int} {n : Nat} (h0 : 0 < n) (h40 : n ≤ 40) (h : ∀ i, i < n → okB (q i).1 (q i).2 = true) : vE q n = 0 := by
  unfold vE; rw [if_neg (by omega), if_neg (by omega), if_pos h]
theorem vcheck_e (a : Option Addr) (n cap : Nat) (q : Nat → Int × Int) (w : World) (hH : Handed w a n q) :
    Calls Tryd.prog 45 #[.slice a n cap] w fun e w' => e = .returned (errn (vE q n)) ∧ Below w.heap.size w w' := by
  obtain ⟨hm, hs⟩ := hH
  by_cases h40 : 40 < n
  · have e : vE q n = 4 := if_pos h40
    rw [e, errn_not (by decide)]
    exact vcheck_full a n cap w h40 hm
  · rcases hs with rfl | ⟨b, off, rfl, hP⟩
    · rw [show vE q 0 = 5 from rfl, errn_not (by decide)]
      exact vcheck_none a cap w
    · by_cases h0 : n = 0
      · subst h0
        rw [show vE q 0 = 5 from rfl, errn_not (by decide)]
        exact vcheck_none _ cap w
      · by_cases g : ∀ i, i < n → okB (q i).1 (q i).2 = true
        · rw [vE_ok (by omega) (by omega) g, errn_zero]
          exact vcheck_any b off n cap n q .nilIface w (by omega) (by omega) hP (Nat.le_refl _) g (Or.inl ⟨rfl, rfl⟩)
        · obtain ⟨m, h1, h2, h3⟩ := first_bad q n g
          have e : vE q n = 1 := by unfold vE; rw [if_neg h40, if_neg h0, if_neg g]
          rw [e, errn_not (by decide)]
          exact vcheck_any b off n cap m q _ w (by omega) (by omega) hP (by omega) h3 (Or.inr ⟨h1, h2, rfl⟩)
end Go.Proofs.YthejaecljkjliacDoor
