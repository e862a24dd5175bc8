/- The ways through the law VoteSafe. -/
import Derived.Test.YthejaecljkjliacVoteSafeC
import Derived.Test.YthejaecljkjliacVoteHas
import Derived.Test.YthejaecljkjliacVoteMore
import Derived.Test.YthejaecljkjliacVoteOpen
import Derived.WalkKit
import Derived.ProofKit
import Derived.OpenShut
import Derived.Outline
import Derived.ShutString
import Derived.ChangeOld
import Derived.Below
import Derived.WalkLawsBesides
import Derived.Lib.SmallJoins
namespace Go.Proofs.Ythejaecljkjliac.voteSafe
open Go.ChangeShapes Go.WideShapes Go.ChangeAt Go.RowKit Go.Joins
open Go.ChangeMaps (open_string shut_string)
set_option linter.unusedVariables false
set_option linter.unusedSimpArgs false

/-- The fact's three spans. -/
def qF : Nat → Int × Int
  | 0 => (1, 5)
  | 1 => (3, 9)
  | _ => (20, 30)
theorem vF : vE qF 3 = 0 := vE_ok (by omega) (by omega) (fun i hi => by
  match i, hi with
  | 0, _ => decide
  | 1, _ => decide
  | 2, _ => decide)
theorem sF : IsSafe (cnt qF 3) 2 3 5 := by
  refine ⟨by decide, by decide, fun x hx => ?_⟩
  simp only [cnt, inn, qF] at hx
  split at hx <;> split at hx <;> split at hx <;> omega
theorem fact (b : Nat) (u : World) (R : Row u b [.int .i64 1, .int .i64 5, .int .i64 3, .int .i64 9, .int .i64 20, .int .i64 30]) :
    Calls Try.prog 4 #[.slice (some ⟨b, 0, none⟩) 3 3, .int .i64 1] u fun x w' => x = .returned (.tuple #[.agg #[.int .i64 3, .int .i64 5], .nilIface]) ∧ Below u.heap.size u w' := by
  have h := safe_any (some ⟨b, 0, none⟩) 3 3 qF 1 3 5 0 u ⟨by omega, Or.inr ⟨b, 0, rfl, fun i hi => by
    match i, hi with
    | 0, _ => exact ⟨R.c 0 _ rfl, R.c 1 _ rfl⟩
    | 1, _ => exact ⟨R.c 2 _ rfl, R.c 3 _ rfl⟩
    | 2, _ => exact ⟨R.c 4 _ rfl, R.c 5 _ rfl⟩⟩⟩ (Or.inr (Or.inr (Or.inr ⟨vF, by omega, by omega, rfl, sF⟩)))
  rwa [errn_zero] at h
theorem inn_has (s : Int × Int) (x : Int) : inn s x = if hasB s.1 s.2 x = true then 1 else 0 := by
  unfold inn hasB; by_cases h : s.1 ≤ x ∧ x ≤ s.2 <;> simp [h]
theorem safe_okB {q : Nat → Int × Int} {n : Nat} {K lo hi : Int} (h : IsSafe (cnt q n) K lo hi) (hK : 1 ≤ K) (ok : ∀ i, i < n → okB (q i).1 (q i).2 = true) : okB lo hi = true := by
  have l := h.le
  have a := h.first
  have b := h.last
  obtain ⟨i, hi', e1⟩ := cnt_pos q lo n (by omega)
  obtain ⟨j, hj, e2⟩ := cnt_pos q hi n (by omega)
  have := (inn_one _ _).1 e1
  have := (inn_one _ _).1 e2
  have := okB_t (ok i hi')
  have := okB_t (ok j hj)
  exact okB_mk (by omega)

set_option maxHeartbeats 4000000 in
set_option maxRecDepth 100000 in
theorem some_way (b off n cap : Nat) (q : Nat → Int × Int) (x d : Int) (w : World) (h0 : 0 < n) (hm : n ≤ 9223372036854775807) (hP : Sps w b off n q) :
    Calls Try.prog 3 #[.slice (some ⟨b, off, none⟩) n cap, .int .i64 x, .int .i64 d] w fun e w' => e = .returned (.bool true) ∧ Below w.heap.size w w' := by
  have hbl : b < w.heap.size := World.block_lt_of_cell? _ _ (hP 0 h0).1
  have cnt0 : Mark 0 := .mk _
  have hn0 : ((n : Int) == 0) = false := by simp; omega
  have n0 : ¬ (n = 0) := by omega
  go_enter Try.func3, Try.ntmps3
  go_wp2_with (first | (go_at_call 4; have cq : Mark 0 := cnt0; refine (fact w.heap.size _ (Row.made rfl)).mono ?_; clear cq cnt0; have cnt0 : Mark 1 := .mk _; rintro e u0 ⟨rfl, hb⟩; have hw : Below w.heap.size w u0 := rbel_on hb (rbel_al (Below.refl _ _)); have zz := hw.size; clear hb))
  go_loopw [9, 10] (fun hv i wr => ∃ k : Nat, k ≤ n ∧ i = .int .i64 k ∧ hv = .int .i64 (cnt q k x) ∧ (∀ i, i < k → okB (q i).1 (q i).2 = true) ∧ Below w.heap.size w wr) (fun _ i _ => n - (intOf i).toNat)
  case atStart => exact ⟨0, Nat.zero_le _, rfl, rfl, fun i hi => by omega, rbel_al hw⟩
  case round =>
    clear hw
    obtain ⟨k, hk, rfl, rfl, hok, hw⟩ := hrel
    have zz := hw.size
    have cb := cnt_le q x k
    obtain ⟨cb1, cb2⟩ := cb
    by_cases hlt : k < n
    · obtain ⟨x0, x1⟩ := (hP.on hw) k hlt
      clear hP
      cases hk0 : okB (q k).1 (q k).2 with
      | false =>
        go_wp2_with (go_at_call 5; refine (has_no (q k).1 (q k).2 x _ hk0).mono ?_; rintro e u1 ⟨rfl, hb⟩; replace hw : Below w.heap.size w u1 := rbel_on hb hw)
        go_ret
        exact ⟨rfl, hw⟩
      | true =>
        have HO : Hid (∀ i, i < k + 1 → okB (q i).1 (q i).2 = true) := fun i hi => by
          by_cases e : i = k
          · rw [e]; exact hk0
          · exact hok i (by omega)
        have HC : Hid (cnt q (k + 1) x = cnt q k x + if hasB (q k).1 (q k).2 x = true then 1 else 0) := by
          show cnt q k x + inn (q k) x = _
          rw [inn_has]
        clear hok
        cases hB : hasB (q k).1 (q k).2 x with
        | true =>
          rw [hB] at HC
          go_wp2_with (go_at_call 5; refine (has_any (q k).1 (q k).2 x _ hk0 true hB).mono ?_; rintro e u1 ⟨rfl, hb⟩; replace hw : Below w.heap.size w u1 := rbel_on hb hw)
          go_roundw
          case rel => exact ⟨k + 1, by omega, by go_num, by rw [HC.out]; rfl, HO.out, hw⟩
          case measure => simp [intOf]; omega
        | false =>
          rw [hB] at HC
          go_wp2_with (go_at_call 5; refine (has_any (q k).1 (q k).2 x _ hk0 false hB).mono ?_; rintro e u1 ⟨rfl, hb⟩; replace hw : Below w.heap.size w u1 := rbel_on hb hw)
          go_roundw
          case rel => exact ⟨k + 1, by omega, by go_num, by rw [HC.out]; simp, HO.out, hw⟩
          case measure => simp [intOf]; omega
    · have kn : k = n := by omega
      subst kn
      have HH : Hid (Handed w (some ⟨b, off, none⟩) k q) := ⟨hm, Or.inr ⟨b, off, rfl, hP⟩⟩
      have HOK : Hid (∀ i, i < k → okB (q i).1 (q i).2 = true) := hok
      clear hP hok hlt hk
      by_cases h40 : 40 < k
      · have cM : ∀ u, Below w.heap.size w u → Calls Try.prog 6 #[.slice (some ⟨b, off, none⟩) k cap] u fun y w' => y = .returned (.tuple #[.agg #[.int .i64 0, .int .i64 0], .int .i64 0, .iface 36 (.int .i64 4)]) ∧ Below u.heap.size u w' := fun u hu => by
          have e : vE q k = 4 := if_pos h40
          have h := most_any (some ⟨b, off, none⟩) k cap q 0 0 0 4 u (HH.out.on hu) (Or.inl ⟨by rw [e]; decide, e.symm, rfl, rfl, rfl⟩)
          rwa [errn_not (by decide)] at h
        go_wp2_with (go_at_call 6; refine (cM _ hw).mono ?_; rintro e u1 ⟨rfl, hb⟩; replace hw : Below w.heap.size w u1 := rbel_on hb hw)
        go_ret
        refine ⟨?_, by (repeat (first | assumption | apply rbel_al | apply rbel_dr | refine Below.alloc ?_ (by first | (simp; done) | (simp; omega) | omega) _ | refine Below.setCell ?_ (by first | (simp; done) | (simp; omega) | omega) _ | apply Below.drew | apply below_drewN))⟩
        have d40 : decide (40 < (k : Int)) = true := decide_eq_true (by omega)
        simp [d40]
      · replace h40 : k ≤ 40 := by omega
        have okl := fun i hi => (okB_t (HOK.out i hi)).1
        obtain ⟨mlo, mhi, m, hM⟩ := most_exists okl h0
        have cM : ∀ u, Below w.heap.size w u → Calls Try.prog 6 #[.slice (some ⟨b, off, none⟩) k cap] u fun y w' => y = .returned (.tuple #[.agg #[.int .i64 mlo, .int .i64 mhi], .int .i64 m, .nilIface]) ∧ Below u.heap.size u w' := fun u hu => by
          have h := most_any (some ⟨b, off, none⟩) k cap q mlo mhi m 0 u (HH.out.on hu) (Or.inr ⟨vE_ok h0 h40 HOK.out, rfl, hM⟩)
          rwa [errn_zero] at h
        have m1 := hM.pos
        have m2 := hM.top x
        have CS : Hid (∀ K : Int, 1 ≤ K → K ≤ cnt q k x → ∃ lo hi, IsSafe (cnt q k) K lo hi ∧ okB lo hi = true ∧ hasB lo hi x = true) := fun K h1 h2 => by
          rcases safe_exists okl h0 h1 with h | ⟨lo, hi, h⟩
          · have := h x; omega
          · exact ⟨lo, hi, h, safe_okB h h1 HOK.out, decide_eq_true (h.all x h2)⟩
        have CA : Hid (∀ lo hi, IsSafe (cnt q k) k lo hi → ∀ u, Below w.heap.size w u → Calls Try.prog 7 #[.slice (some ⟨b, off, none⟩) k cap] u fun y w' => y = .returned (.tuple #[.agg #[.int .i64 lo, .int .i64 hi], .nilIface]) ∧ Below u.heap.size u w') := fun lo hi hs u hu => by
          have h := vmeet_any (some ⟨b, off, none⟩) k cap q lo hi 0 u (HH.out.on hu) (Or.inr (Or.inr (Or.inr ⟨vE_ok h0 h40 HOK.out, by omega, by omega, rfl, by simpa using hs⟩)))
          rwa [errn_zero] at h
        have CB : Hid (0 ≤ d → d < k → ∀ lo hi, IsSafe (cnt q k) (k - d) lo hi → ∀ u, Below w.heap.size w u → Calls Try.prog 4 #[.slice (some ⟨b, off, none⟩) k cap, .int .i64 d] u fun y w' => y = .returned (.tuple #[.agg #[.int .i64 lo, .int .i64 hi], .nilIface]) ∧ Below u.heap.size u w') := fun d0 d1 lo hi hs u hu => by
          have h := safe_any (some ⟨b, off, none⟩) k cap q d lo hi 0 u (HH.out.on hu) (Or.inr (Or.inr (Or.inr ⟨vE_ok h0 h40 HOK.out, d0, d1, rfl, hs⟩)))
          rwa [errn_zero] at h
        clear okl hM
        generalize cnt q k x = c at *
        clear cnt0
        have cnt0 : Mark 2 := .mk _
        by_cases ce : c = k
        · obtain ⟨lo1, hi1, s1, ok1, hx1⟩ := CS.out k (by omega) (by omega)
          have cA := CA.out lo1 hi1 s1
          clear s1
          by_cases c1 : d < 0
          · go_wp2_with (first | (go_at_call 6; have cq : Mark 2 := cnt0; refine (cM _ hw).mono ?_; clear cq cnt0; have cnt0 : Mark 3 := .mk _; rintro e u1 ⟨rfl, hb⟩; replace hw : Below w.heap.size w u1 := rbel_on hb (by first | exact hw | exact rbel_al hw | exact rbel_al (rbel_al hw) | exact rbel_dr hw | exact rbel_dr (rbel_al hw)); clear hb) | (go_at_call 7; have cq : Mark 3 := cnt0; refine (cA _ (by first | exact hw | exact rbel_al hw)).mono ?_; clear cq cnt0; have cnt0 : Mark 4 := .mk _; rintro e u2 ⟨rfl, hb⟩; replace hw : Below w.heap.size w u2 := rbel_on hb (by first | exact hw | exact rbel_al hw | exact rbel_al (rbel_al hw) | exact rbel_dr hw | exact rbel_dr (rbel_al hw)); clear hb) | (go_at_call 5; have cq : Mark 4 := cnt0; refine (has_any lo1 hi1 x _ ok1 true hx1).mono ?_; clear cq cnt0; have cnt0 : Mark 5 := .mk _; rintro e u3 ⟨rfl, hb⟩; replace hw : Below w.heap.size w u3 := rbel_on hb (by first | exact hw | exact rbel_al hw | exact rbel_al (rbel_al hw) | exact rbel_dr hw | exact rbel_dr (rbel_al hw)); clear hb))
            go_ret
            exact ⟨rfl, by (repeat (first | assumption | apply rbel_al | apply rbel_dr | refine Below.alloc ?_ (by first | (simp; done) | (simp; omega) | omega) _ | refine Below.setCell ?_ (by first | (simp; done) | (simp; omega) | omega) _ | apply Below.drew | apply below_drewN))⟩
          by_cases c2 : (k : Int) ≤ d
          · go_wp2_with (first | (go_at_call 6; have cq : Mark 2 := cnt0; refine (cM _ hw).mono ?_; clear cq cnt0; have cnt0 : Mark 3 := .mk _; rintro e u1 ⟨rfl, hb⟩; replace hw : Below w.heap.size w u1 := rbel_on hb (by first | exact hw | exact rbel_al hw | exact rbel_al (rbel_al hw) | exact rbel_dr hw | exact rbel_dr (rbel_al hw)); clear hb) | (go_at_call 7; have cq : Mark 3 := cnt0; refine (cA _ (by first | exact hw | exact rbel_al hw)).mono ?_; clear cq cnt0; have cnt0 : Mark 4 := .mk _; rintro e u2 ⟨rfl, hb⟩; replace hw : Below w.heap.size w u2 := rbel_on hb (by first | exact hw | exact rbel_al hw | exact rbel_al (rbel_al hw) | exact rbel_dr hw | exact rbel_dr (rbel_al hw)); clear hb) | (go_at_call 5; have cq : Mark 4 := cnt0; refine (has_any lo1 hi1 x _ ok1 true hx1).mono ?_; clear cq cnt0; have cnt0 : Mark 5 := .mk _; rintro e u3 ⟨rfl, hb⟩; replace hw : Below w.heap.size w u3 := rbel_on hb (by first | exact hw | exact rbel_al hw | exact rbel_al (rbel_al hw) | exact rbel_dr hw | exact rbel_dr (rbel_al hw)); clear hb))
            go_ret
            exact ⟨rfl, by (repeat (first | assumption | apply rbel_al | apply rbel_dr | refine Below.alloc ?_ (by first | (simp; done) | (simp; omega) | omega) _ | refine Below.setCell ?_ (by first | (simp; done) | (simp; omega) | omega) _ | apply Below.drew | apply below_drewN))⟩
          have c3 : ¬ (c < k - d) := by omega
          obtain ⟨lo2, hi2, s2, ok2, hx2⟩ := CS.out (k - d) (by omega) (by omega)
          have cB := CB.out (by omega) (by omega) lo2 hi2 s2
          clear s2
          go_wp2_with (first | (go_at_call 6; have cq : Mark 2 := cnt0; refine (cM _ hw).mono ?_; clear cq cnt0; have cnt0 : Mark 3 := .mk _; rintro e u1 ⟨rfl, hb⟩; replace hw : Below w.heap.size w u1 := rbel_on hb (by first | exact hw | exact rbel_al hw | exact rbel_al (rbel_al hw) | exact rbel_dr hw | exact rbel_dr (rbel_al hw)); clear hb) | (go_at_call 7; have cq : Mark 3 := cnt0; refine (cA _ (by first | exact hw | exact rbel_al hw)).mono ?_; clear cq cnt0; have cnt0 : Mark 4 := .mk _; rintro e u2 ⟨rfl, hb⟩; replace hw : Below w.heap.size w u2 := rbel_on hb (by first | exact hw | exact rbel_al hw | exact rbel_al (rbel_al hw) | exact rbel_dr hw | exact rbel_dr (rbel_al hw)); clear hb) | (go_at_call 5; have cq : Mark 4 := cnt0; refine (has_any lo1 hi1 x _ ok1 true hx1).mono ?_; clear cq cnt0; have cnt0 : Mark 5 := .mk _; rintro e u3 ⟨rfl, hb⟩; replace hw : Below w.heap.size w u3 := rbel_on hb (by first | exact hw | exact rbel_al hw | exact rbel_al (rbel_al hw) | exact rbel_dr hw | exact rbel_dr (rbel_al hw)); clear hb) | (go_at_call 4; have cq : Mark 5 := cnt0; refine (cB _ (by first | exact hw | exact rbel_al hw | exact rbel_al (rbel_al hw))).mono ?_; clear cq cnt0; have cnt0 : Mark 6 := .mk _; rintro e u4 ⟨rfl, hb⟩; replace hw : Below w.heap.size w u4 := rbel_on hb (by first | exact hw | exact rbel_al hw | exact rbel_al (rbel_al hw) | exact rbel_dr hw | exact rbel_dr (rbel_al hw)); clear hb) | (go_at_call 5; have cq : Mark 6 := cnt0; refine (has_any lo2 hi2 x _ ok2 true hx2).mono ?_; clear cq cnt0; have cnt0 : Mark 7 := .mk _; rintro e u5 ⟨rfl, hb⟩; replace hw : Below w.heap.size w u5 := rbel_on hb (by first | exact hw | exact rbel_al hw | exact rbel_al (rbel_al hw) | exact rbel_dr hw | exact rbel_dr (rbel_al hw)); clear hb))
          go_ret
          exact ⟨rfl, by (repeat (first | assumption | apply rbel_al | apply rbel_dr | refine Below.alloc ?_ (by first | (simp; done) | (simp; omega) | omega) _ | refine Below.setCell ?_ (by first | (simp; done) | (simp; omega) | omega) _ | apply Below.drew | apply below_drewN))⟩
        · have ce2 : (c == (k : Int)) = false := by simpa using ce
          by_cases c1 : d < 0
          · go_wp2_with (first | (go_at_call 6; have cq : Mark 2 := cnt0; refine (cM _ hw).mono ?_; clear cq cnt0; have cnt0 : Mark 3 := .mk _; rintro e u1 ⟨rfl, hb⟩; replace hw : Below w.heap.size w u1 := rbel_on hb (by first | exact hw | exact rbel_al hw | exact rbel_al (rbel_al hw) | exact rbel_dr hw | exact rbel_dr (rbel_al hw)); clear hb))
            go_ret
            exact ⟨rfl, by (repeat (first | assumption | apply rbel_al | apply rbel_dr | refine Below.alloc ?_ (by first | (simp; done) | (simp; omega) | omega) _ | refine Below.setCell ?_ (by first | (simp; done) | (simp; omega) | omega) _ | apply Below.drew | apply below_drewN))⟩
          by_cases c2 : (k : Int) ≤ d
          · go_wp2_with (first | (go_at_call 6; have cq : Mark 2 := cnt0; refine (cM _ hw).mono ?_; clear cq cnt0; have cnt0 : Mark 3 := .mk _; rintro e u1 ⟨rfl, hb⟩; replace hw : Below w.heap.size w u1 := rbel_on hb (by first | exact hw | exact rbel_al hw | exact rbel_al (rbel_al hw) | exact rbel_dr hw | exact rbel_dr (rbel_al hw)); clear hb))
            go_ret
            exact ⟨rfl, by (repeat (first | assumption | apply rbel_al | apply rbel_dr | refine Below.alloc ?_ (by first | (simp; done) | (simp; omega) | omega) _ | refine Below.setCell ?_ (by first | (simp; done) | (simp; omega) | omega) _ | apply Below.drew | apply below_drewN))⟩
          by_cases c3 : c < k - d
          · go_wp2_with (first | (go_at_call 6; have cq : Mark 2 := cnt0; refine (cM _ hw).mono ?_; clear cq cnt0; have cnt0 : Mark 3 := .mk _; rintro e u1 ⟨rfl, hb⟩; replace hw : Below w.heap.size w u1 := rbel_on hb (by first | exact hw | exact rbel_al hw | exact rbel_al (rbel_al hw) | exact rbel_dr hw | exact rbel_dr (rbel_al hw)); clear hb))
            go_ret
            exact ⟨rfl, by (repeat (first | assumption | apply rbel_al | apply rbel_dr | refine Below.alloc ?_ (by first | (simp; done) | (simp; omega) | omega) _ | refine Below.setCell ?_ (by first | (simp; done) | (simp; omega) | omega) _ | apply Below.drew | apply below_drewN))⟩
          obtain ⟨lo2, hi2, s2, ok2, hx2⟩ := CS.out (k - d) (by omega) (by omega)
          have cB := CB.out (by omega) (by omega) lo2 hi2 s2
          clear s2
          go_wp2_with (first | (go_at_call 6; have cq : Mark 2 := cnt0; refine (cM _ hw).mono ?_; clear cq cnt0; have cnt0 : Mark 3 := .mk _; rintro e u1 ⟨rfl, hb⟩; replace hw : Below w.heap.size w u1 := rbel_on hb (by first | exact hw | exact rbel_al hw | exact rbel_al (rbel_al hw) | exact rbel_dr hw | exact rbel_dr (rbel_al hw)); clear hb) | (go_at_call 4; have cq : Mark 3 := cnt0; refine (cB _ (by first | exact hw | exact rbel_al hw | exact rbel_al (rbel_al hw))).mono ?_; clear cq cnt0; have cnt0 : Mark 6 := .mk _; rintro e u4 ⟨rfl, hb⟩; replace hw : Below w.heap.size w u4 := rbel_on hb (by first | exact hw | exact rbel_al hw | exact rbel_al (rbel_al hw) | exact rbel_dr hw | exact rbel_dr (rbel_al hw)); clear hb) | (go_at_call 5; have cq : Mark 6 := cnt0; refine (has_any lo2 hi2 x _ ok2 true hx2).mono ?_; clear cq cnt0; have cnt0 : Mark 7 := .mk _; rintro e u5 ⟨rfl, hb⟩; replace hw : Below w.heap.size w u5 := rbel_on hb (by first | exact hw | exact rbel_al hw | exact rbel_al (rbel_al hw) | exact rbel_dr hw | exact rbel_dr (rbel_al hw)); clear hb))
          go_ret
          exact ⟨rfl, by (repeat (first | assumption | apply rbel_al | apply rbel_dr | refine Below.alloc ?_ (by first | (simp; done) | (simp; omega) | omega) _ | refine Below.setCell ?_ (by first | (simp; done) | (simp; omega) | omega) _ | apply Below.drew | apply below_drewN))⟩
end Go.Proofs.Ythejaecljkjliac.voteSafe
