/- What the law ProbeHolds reckons for a clock: what it shows at a time. -/
import Derived.Test.YtdhgfdbghfefnabProbeOff
import Derived.Test.YtdhgfdbghfefnabProbeTrue
import Derived.WalkKit
import Derived.ProofKit
import Derived.OpenShut
import Derived.Outline
import Derived.ShutString
import Derived.ChangeOld
import Derived.Below
import Derived.IntWalk
import Derived.WalkLawsBesides
import Derived.Lib.SmallJoins
namespace Go.Proofs.Ytdhgfdbghfefnab.probeHolds
open Go.ChangeShapes Go.WideShapes Go.ChangeAt Go.RowKit Go.Joins
open Go.ChangeMaps (open_string shut_string)
set_option linter.unusedVariables false
set_option linter.unusedSimpArgs false

theorem tdiv_neg {x : Int} (h : x < 0) : x.tdiv 1000000 = -((-x) / 1000000) := by
  have e : x = -(-x) := by omega
  rw [e, Int.neg_tdiv, Int.tdiv_eq_ediv_of_nonneg (by omega)]
  simp
theorem ret_num {a b : Int} (h : a = b) : Ending.returned (.int .i64 a) = .returned (.int .i64 b) := by rw [h]

set_option maxHeartbeats 1000000 in
theorem shows_up (s r t : Int) (w : World) (s1 : -1000000 ≤ s) (s2 : s ≤ 1000000) (t1 : 0 ≤ t) (t2 : t ≤ 400000000) (n1 : 0 ≤ t * r) (n2 : t * r ≤ 400000000000) :
    Calls Try.prog 8 #[.int .i64 s, .int .i64 r, .int .i64 t] w fun e w' => e = .returned (.int .i64 (sh s r t)) ∧ w' = w := by
  have h0 : ¬ (t * r < t * r / 1000000 * 1000000) := by omega
  go_enter Try.func8, Try.ntmps8
  go_wp2
  go_ret
  exact ⟨ret_num rfl, rfl⟩

set_option maxHeartbeats 1000000 in
theorem shows_ev (s r t k : Int) (w : World) (s1 : -1000000 ≤ s) (s2 : s ≤ 1000000) (t1 : 0 ≤ t) (t2 : t ≤ 400000000) (n1 : t * r < 0) (n2 : -400000000000 ≤ t * r) (hk : (t * r).tdiv 1000000 = k) (k1 : -400000 ≤ k) (k2 : k ≤ 0) (h0 : k * 1000000 = t * r) :
    Calls Try.prog 8 #[.int .i64 s, .int .i64 r, .int .i64 t] w fun e w' => e = .returned (.int .i64 (s + t + k)) ∧ w' = w := by
  go_enter Try.func8, Try.ntmps8
  go_wp2
  go_ret
  exact ⟨rfl, rfl⟩

set_option maxHeartbeats 1000000 in
theorem shows_dn (s r t k : Int) (w : World) (s1 : -1000000 ≤ s) (s2 : s ≤ 1000000) (t1 : 0 ≤ t) (t2 : t ≤ 400000000) (n1 : t * r < 0) (n2 : -400000000000 ≤ t * r) (hk : (t * r).tdiv 1000000 = k) (k1 : -400000 ≤ k) (k2 : k ≤ 0) (h0 : t * r < k * 1000000) :
    Calls Try.prog 8 #[.int .i64 s, .int .i64 r, .int .i64 t] w fun e w' => e = .returned (.int .i64 (s + t + (k - 1))) ∧ w' = w := by
  go_enter Try.func8, Try.ntmps8
  go_wp2
  go_ret
  exact ⟨rfl, rfl⟩

theorem shows_is (s r t : Int) (w : World) (s1 : -1000000 ≤ s) (s2 : s ≤ 1000000) (t1 : 0 ≤ t) (t2 : t ≤ 400000000) (r1 : -1000 ≤ r) (r2 : r ≤ 1000) :
    Calls Try.prog 8 #[.int .i64 s, .int .i64 r, .int .i64 t] w fun e w' => e = .returned (.int .i64 (sh s r t)) ∧ w' = w := by
  have q := rate_b t1 r1 r2
  by_cases h : 0 ≤ t * r
  · exact shows_up s r t w s1 s2 t1 t2 h (by omega)
  · have e := tdiv_neg (show t * r < 0 by omega)
    by_cases h0 : -((-(t * r)) / 1000000) * 1000000 = t * r
    · have g := shows_ev s r t _ w s1 s2 t1 t2 (by omega) (by omega) e (by omega) (by omega) h0
      have e2 : sh s r t = s + t + -(-(t * r) / 1000000) := by unfold sh; omega
      rw [e2]; exact g
    · have g := shows_dn s r t _ w s1 s2 t1 t2 (by omega) (by omega) e (by omega) (by omega) (by omega)
      have e2 : sh s r t = s + t + (-(-(t * r) / 1000000) - 1) := by unfold sh; omega
      rw [e2]; exact g

end Go.Proofs.Ytdhgfdbghfefnab.probeHolds
