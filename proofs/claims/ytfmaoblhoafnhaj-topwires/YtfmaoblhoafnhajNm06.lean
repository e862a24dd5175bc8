/- What package drift answers of any numbers: check and divideUp. The plain numbers of a probe: its fault, the ends of its offset, which of some is the least wide; and why what two clocks truly differ by lies within. Why what two clocks truly differ by lies within the span of a probe: plain numbers alone. -/
import Derived.Test.YtfmaoblhoafnhajNm01
import Derived.WalkKit
import Derived.ProofKit
import Derived.OpenShut
import Derived.Outline
import Derived.IntWalk
import Derived.WalkLawsBesides
namespace Go.Proofs.Ytfmaoblhoafnhaj
open Go.ChangeShapes Go.WideShapes Go.ChangeAt Go.RowKit
set_option linter.unusedVariables false
set_option linter.unusedSimpArgs false

def rdy (n p : Int) : Bool := decide (0 ≤ n ∧ n ≤ 1000000000000 ∧ 0 ≤ p ∧ p ≤ 1000)
theorem rdy_t {n p : Int} (h : rdy n p = true) : 0 ≤ n ∧ n ≤ 1000000000000 ∧ 0 ≤ p ∧ p ≤ 1000 := of_decide_eq_true h
theorem rdy_f {n p : Int} (h : rdy n p = false) : n < 0 ∨ 1000000000000 < n ∨ p < 0 ∨ 1000 < p := by
  have := of_decide_eq_false h; omega
theorem mul_low {a b : Int} (ha : 0 ≤ a) (hb : 0 ≤ b) : 0 ≤ a * b := Int.mul_nonneg ha hb
theorem mul_high {a b x y : Int} (ha : 0 ≤ a) (hb : 0 ≤ b) (hx : a ≤ x) (hy : b ≤ y) : a * b ≤ x * y := Int.mul_le_mul hx hy hb (by omega)
theorem np_b {n p : Int} (h1 : 0 ≤ n) (h2 : n ≤ 1000000000000) (h3 : 0 ≤ p) (h4 : p ≤ 1000) : 0 ≤ n * p ∧ n * p ≤ 1000000000000000 :=
  ⟨mul_low h1 h3, Int.le_trans (mul_high h1 h3 h2 h4) (by decide)⟩
theorem nm_b {n p : Int} (h1 : 0 ≤ n) (h2 : n ≤ 1000000000000) (h3 : 0 ≤ p) (h4 : p ≤ 1000) : 0 ≤ n * (1000000 - p) ∧ n * (1000000 - p) ≤ 1000000000000000000 :=
  ⟨mul_low h1 (by omega), Int.le_trans (mul_high (y := 1000000) h1 (by omega) h2 (by omega)) (by decide)⟩
theorem nq_b {n p : Int} (h1 : 0 ≤ n) (h2 : n ≤ 1000000000000) (h3 : 0 ≤ p) (h4 : p ≤ 1000) : 0 ≤ n * (1000000 + p) ∧ n * (1000000 + p) ≤ 1001000000000000000 :=
  ⟨mul_low h1 (by omega), Int.le_trans (mul_high (y := 1001000) h1 (by omega) h2 (by omega)) (by decide)⟩
theorem quo_b {a b : Int} (h1 : 0 ≤ a) (h2 : 1 ≤ b) : 0 ≤ a / b ∧ a / b ≤ a := IntWalk.tdiv_le a b h1 h2

set_option maxHeartbeats 1000000 in
theorem dcheck_ok (n p : Int) (w : World) (h : rdy n p = true) :
    Calls Try.prog 46 #[.int .i64 n, .int .i64 p] w fun e w' => e = .returned (.nilIface) ∧ Below w.heap.size w w' := by
  have q := rdy_t h
  obtain ⟨h1, h2, h3, h4⟩ := q
  clear h
  go_enter Try.func46, Try.ntmps46
  go_wp2
  go_ret
  exact ⟨rfl, by (repeat (first | exact Below.refl _ _ | refine Below.alloc ?_ (by first | (simp; done) | (simp; omega) | omega) _ | refine Below.setCell ?_ (by first | (simp; done) | (simp; omega) | omega) _ | apply Below.drew | refine below_tr (by assumption) ?_))⟩

set_option maxHeartbeats 1000000 in
theorem dcheck_no (n p : Int) (w : World) (h : rdy n p = false) :
    Calls Try.prog 46 #[.int .i64 n, .int .i64 p] w fun e w' => e = .returned (.iface 73 (.int .i64 1)) ∧ Below w.heap.size w w' := by
  have h' := rdy_f h
  clear h
  by_cases h1 : n < 0
  · clear h'
    go_enter Try.func46, Try.ntmps46
    go_wp2
    go_ret
    exact ⟨rfl, Below.refl _ _⟩
  · by_cases h2 : 1000000000000 < n
    · clear h'
      go_enter Try.func46, Try.ntmps46
      go_wp2
      go_ret
      exact ⟨rfl, Below.refl _ _⟩
    · by_cases h3 : p < 0
      · clear h'
        go_enter Try.func46, Try.ntmps46
        go_wp2
        go_ret
        exact ⟨rfl, Below.refl _ _⟩
      · have h4 : 1000 < p := by omega
        clear h'
        go_enter Try.func46, Try.ntmps46
        go_wp2
        go_ret
        exact ⟨rfl, Below.refl _ _⟩

set_option maxHeartbeats 1000000 in
theorem divideUp_is (a b : Int) (w : World) (h1 : 0 ≤ a) (h2 : a ≤ 2000000000000000000) (h3 : 1 ≤ b) (h4 : b ≤ 2000000) :
    Calls Try.prog 47 #[.int .i64 a, .int .i64 b] w fun e w' => e = .returned (.int .i64 ((a + b - 1) / b)) ∧ Below w.heap.size w w' := by
  go_enter Try.func47, Try.ntmps47
  go_wp2
  go_ret
  exact ⟨rfl, by (repeat (first | exact Below.refl _ _ | refine Below.alloc ?_ (by first | (simp; done) | (simp; omega) | omega) _ | refine Below.setCell ?_ (by first | (simp; done) | (simp; omega) | omega) _ | apply Below.drew | refine below_tr (by assumption) ?_))⟩

end Go.Proofs.Ytfmaoblhoafnhaj
namespace Go.Proofs.Ytfmaoblhoafnhaj
set_option linter.unusedVariables false

def tmB (n : Int) : Bool := decide (-1000000000000 ≤ n ∧ n ≤ 1000000000000)
theorem tmB_t {n : Int} (h : tmB n = true) : -1000000000000 ≤ n ∧ n ≤ 1000000000000 := of_decide_eq_true h
theorem tmB_f {n : Int} (h : tmB n = false) : n < -1000000000000 ∨ 1000000000000 < n := by
  have := of_decide_eq_false h; omega
theorem tmB_mk {n : Int} (h : -1000000000000 ≤ n ∧ n ≤ 1000000000000) : tmB n = true := decide_eq_true h
theorem tmB_no {n : Int} (h : n < -1000000000000 ∨ 1000000000000 < n) : tmB n = false := decide_eq_false (by omega)

/-- The fault of a probe: 0 none, 1 a time is out of range, 3 a clock went back. -/
def pE (a b c d : Int) : Int := if tmB a = true ∧ tmB b = true ∧ tmB c = true ∧ tmB d = true then (if d < a ∨ c < b then 3 else 0) else 1
def oH (a b d p : Int) : Int := b - a + 2 + ((d - a) * 3 * p + 1000000 - 1) / 1000000
/-- The fault of its offset. -/
def oE (a b c d p : Int) : Int :=
  if pE a b c d = 0 then
    if rdy (d - a) p = true then
      if tmB (c - d) = true ∧ tmB (oH a b d p) = true then (if oH a b d p < c - d then 7 else 0) else 1
    else 1
  else pE a b c d

theorem pE_zero {a b c d : Int} (h : pE a b c d = 0) : tmB a = true ∧ tmB b = true ∧ tmB c = true ∧ tmB d = true ∧ a ≤ d ∧ b ≤ c := by
  unfold pE at h
  split at h
  · rename_i k
    split at h
    · omega
    · exact ⟨k.1, k.2.1, k.2.2.1, k.2.2.2, by omega, by omega⟩
  · omega
theorem pE_some {a b c d : Int} (h : pE a b c d ≠ 0) : (pE a b c d = 1 ∧ (tmB a = false ∨ tmB b = false ∨ tmB c = false ∨ tmB d = false)) ∨
    (pE a b c d = 3 ∧ tmB a = true ∧ tmB b = true ∧ tmB c = true ∧ tmB d = true ∧ (d < a ∨ c < b)) := by
  unfold pE at h ⊢
  split at h
  · rename_i k
    rw [if_pos k]
    split at h
    · rename_i k2
      rw [if_pos k2]
      exact Or.inr ⟨rfl, k.1, k.2.1, k.2.2.1, k.2.2.2, k2⟩
    · exact absurd rfl h
  · rename_i k
    rw [if_neg k]
    refine Or.inl ⟨rfl, ?_⟩
    cases h1 : tmB a <;> cases h2 : tmB b <;> cases h3 : tmB c <;> cases h4 : tmB d <;> simp_all
theorem oE_p {a b c d p : Int} (h : pE a b c d ≠ 0) : oE a b c d p = pE a b c d := by unfold oE; rw [if_neg h]
theorem oE_rdy {a b c d p : Int} (h : pE a b c d = 0) (k : rdy (d - a) p = false) : oE a b c d p = 1 := by
  unfold oE; rw [if_pos h, if_neg (by simp [k])]
theorem oE_lo {a b c d p : Int} (h : pE a b c d = 0) (k : rdy (d - a) p = true) (l : tmB (c - d) = false) : oE a b c d p = 1 := by
  unfold oE; rw [if_pos h, if_pos k, if_neg (by simp [l])]
theorem oE_hi {a b c d p : Int} (h : pE a b c d = 0) (k : rdy (d - a) p = true) (l : tmB (oH a b d p) = false) : oE a b c d p = 1 := by
  unfold oE; rw [if_pos h, if_pos k, if_neg (by simp [l])]
theorem oE_clash {a b c d p : Int} (h : pE a b c d = 0) (k : rdy (d - a) p = true) (l : tmB (c - d) = true) (m : tmB (oH a b d p) = true) (n : oH a b d p < c - d) : oE a b c d p = 7 := by
  unfold oE; rw [if_pos h, if_pos k, if_pos ⟨l, m⟩, if_pos n]
theorem oE_fine {a b c d p : Int} (h : pE a b c d = 0) (k : rdy (d - a) p = true) (l : tmB (c - d) = true) (m : tmB (oH a b d p) = true) (n : c - d ≤ oH a b d p) : oE a b c d p = 0 := by
  unfold oE; rw [if_pos h, if_pos k, if_pos ⟨l, m⟩, if_neg (by omega)]
theorem oE_zero {a b c d p : Int} (h : oE a b c d p = 0) : pE a b c d = 0 ∧ rdy (d - a) p = true ∧ tmB (c - d) = true ∧ tmB (oH a b d p) = true ∧ c - d ≤ oH a b d p := by
  unfold oE at h
  split at h
  · rename_i k
    split at h
    · rename_i k2
      split at h
      · rename_i k3
        split at h
        · omega
        · exact ⟨k, k2, k3.1, k3.2, by omega⟩
      · omega
    · omega
  · contradiction
/-- A probe, as its four times. -/
structure P4 where
  a : Int
  b : Int
  c : Int
  d : Int
def P4.e (q : P4) (p : Int) : Int := oE q.a q.b q.c q.d p
def P4.lo (q : P4) : Int := q.c - q.d
def P4.hi (q : P4) (p : Int) : Int := oH q.a q.b q.d p
def P4.w (q : P4) (p : Int) : Int := q.hi p - q.lo
/-- Which of the first k (each without fault) is the least wide, the first of such. -/
def bst (q : Nat → P4) (p : Int) : Nat → Nat
  | 0 => 0
  | k + 1 => if k = 0 ∨ (q k).w p < (q (bst q p k)).w p then k else bst q p k
theorem bst_lt (q : Nat → P4) (p : Int) : ∀ k, 0 < k → bst q p k < k := by
  intro k
  induction k with
  | zero => intro h; omega
  | succ k ih =>
    intro _
    unfold bst
    split
    · omega
    · rename_i hk
      have := ih (by omega)
      omega
theorem bst_least (q : Nat → P4) (p : Int) : ∀ k i, i < k → (q (bst q p k)).w p ≤ (q i).w p := by
  intro k
  induction k with
  | zero => intro i h; omega
  | succ k ih =>
    intro i hi
    unfold bst
    split
    · rename_i hk
      by_cases e : i = k
      · subst e; exact Int.le_refl _
      · have := ih i (by omega)
        rcases hk with h0 | h1 <;> omega
    · rename_i hk
      by_cases e : i = k
      · subst e; omega
      · exact ih i (by omega)
theorem bst_take (q : Nat → P4) (p : Int) (k : Nat) (h : k = 0 ∨ (q k).w p < (q (bst q p k)).w p) : bst q p (k + 1) = k := by
  show (if _ then k else _) = k; rw [if_pos h]
theorem bst_stay (q : Nat → P4) (p : Int) (k : Nat) (h0 : 0 < k) (h : (q (bst q p k)).w p ≤ (q k).w p) : bst q p (k + 1) = bst q p k := by
  show (if _ then k else _) = _; rw [if_neg (by omega)]
theorem w_bound {q : P4} {p : Int} (h : q.e p = 0) : -1000000000000 ≤ q.lo ∧ q.lo ≤ q.hi p ∧ q.hi p ≤ 1000000000000 := by
  obtain ⟨_, _, h3, h4, h5⟩ := oE_zero h
  have := tmB_t h3
  have := tmB_t h4
  exact ⟨by unfold P4.lo; omega, h5, by unfold P4.hi; omega⟩
end Go.Proofs.Ytfmaoblhoafnhaj
namespace Go.Proofs.Ytfmaoblhoafnhaj
set_option linter.unusedVariables false

/-- What a clock shows that began at s and goes at rate r, at time t. -/
def sh (s r t : Int) : Int := s + t + t * r / 1000000

theorem rate_b {d r p : Int} (hd : 0 ≤ d) (h1 : -p ≤ r) (h2 : r ≤ p) : -(d * p) ≤ d * r ∧ d * r ≤ d * p := by
  have a := Int.mul_le_mul_of_nonneg_left h2 hd
  have b := Int.mul_le_mul_of_nonneg_left h1 hd
  rw [Int.mul_neg] at b
  exact ⟨b, a⟩
theorem sh_step {s r t d : Int} : 1000000 * (sh s r (t + d) - sh s r t) ≤ d * 1000000 + d * r + 999999 ∧ d * 1000000 + d * r - 999999 ≤ 1000000 * (sh s r (t + d) - sh s r t) := by
  unfold sh
  rw [Int.add_mul]
  generalize t * r = X
  generalize d * r = Y
  omega
theorem sh_mono {s r t d : Int} (hd : 0 ≤ d) (h1 : -1000 ≤ r) (h2 : r ≤ 1000) : sh s r t ≤ sh s r (t + d) := by
  have h := rate_b hd h1 h2
  unfold sh
  rw [Int.add_mul]
  generalize t * r = X at *
  generalize d * r = Y at *
  omega
theorem sh_b {s r t : Int} (ht : 0 ≤ t) (hu : t ≤ 400000000) (h1 : -1000 ≤ r) (h2 : r ≤ 1000) : s - 500000 ≤ sh s r t ∧ sh s r t ≤ s + 401000000 := by
  have h := rate_b ht h1 h2
  unfold sh
  generalize t * r = X at *
  omega
theorem slack {x N d D ppm rb ra : Int} (hd : 0 ≤ d) (hD : d ≤ D) (hp0 : 0 ≤ ppm) (hp : ppm ≤ 1000) (a1 : -ppm ≤ ra) (a2 : ra ≤ ppm) (b1 : -ppm ≤ rb) (b2 : rb ≤ ppm) (hN0 : 0 ≤ N)
    (hx : 1000000 * x ≤ d * 1000000 + d * rb + 999999) (hN : D * 1000000 + D * ra - 999999 ≤ 1000000 * N) : x - N ≤ 2 + (N * 3 * ppm + 1000000 - 1) / 1000000 := by
  have c1 := (rate_b hd b1 b2).2
  have c2 := (rate_b (show 0 ≤ D by omega) a1 a2).1
  have c3 : d * ppm ≤ D * ppm := Int.mul_le_mul_of_nonneg_right hD hp0
  have n0 : 0 ≤ N * ppm := Int.mul_nonneg hN0 hp0
  have e3 : N * 3 * ppm = 3 * (N * ppm) := by rw [Int.mul_comm N 3, Int.mul_assoc]
  have d0 : D * ppm ≤ D * 1000 := Int.mul_le_mul_of_nonneg_left hp (by omega)
  rw [e3]
  by_cases h4 : 4 ≤ D
  · have x4 : 4 * ppm ≤ D * ppm := Int.mul_le_mul_of_nonneg_right h4 hp0
    -- 1000000 * N ≥ D * 1000000 - D * ppm - 999999 ≥ 999000 * D - 999999
    have hN2 : 999000 * D - 999999 ≤ 1000000 * N := by omega
    have hN3 := Int.mul_le_mul_of_nonneg_right hN2 hp0
    have e1 : (999000 * D - 999999) * ppm = 999000 * (D * ppm) - 999999 * ppm := by rw [Int.sub_mul, Int.mul_assoc]
    have e2 : 1000000 * N * ppm = 1000000 * (N * ppm) := by rw [Int.mul_assoc]
    rw [e1, e2] at hN3
    generalize D * ppm = X at *
    generalize N * ppm = Y at *
    generalize D * ra = Z at *
    generalize d * rb = V at *
    generalize d * ppm = U at *
    omega
  · have dp0 : d * ppm ≤ d * 1000 := Int.mul_le_mul_of_nonneg_left hp hd
    generalize N * ppm = Y at *
    generalize D * ra = Z at *
    generalize d * rb = V at *
    generalize D * ppm = X at *
    generalize d * ppm = U at *
    omega
theorem probe_true {start ra rb ppm begin there stay back T1 T2 T3 T4 B4 : Int} (s1 : -1000000 ≤ start) (s2 : start ≤ 1000000) (p1 : 0 ≤ ppm) (p2 : ppm ≤ 1000) (a1 : -ppm ≤ ra) (a2 : ra ≤ ppm) (b1 : -ppm ≤ rb) (b2 : rb ≤ ppm)
    (t1 : 0 ≤ begin) (t2 : begin ≤ 100000000) (u1 : 0 ≤ there) (u2 : there ≤ 100000000) (v1 : 0 ≤ stay) (v2 : stay ≤ 100000000) (w1 : 0 ≤ back) (w2 : back ≤ 100000000)
    (e1 : T1 = sh 0 ra begin) (e2 : T2 = sh start rb (begin + there)) (e3 : T3 = sh start rb (begin + there + stay)) (e4 : T4 = sh 0 ra (begin + there + stay + back)) (e5 : B4 = sh start rb (begin + there + stay + back)) :
    oE T1 T2 T3 T4 ppm = 0 ∧ T3 - T4 ≤ B4 - T4 ∧ B4 - T4 ≤ oH T1 T2 T4 ppm := by
  have q1 := sh_b (s := 0) (r := ra) t1 (by omega) (by omega) (by omega)
  have q2 := sh_b (s := start) (r := rb) (t := begin + there) (by omega) (by omega) (by omega) (by omega)
  have q3 := sh_b (s := start) (r := rb) (t := begin + there + stay) (by omega) (by omega) (by omega) (by omega)
  have q4 := sh_b (s := 0) (r := ra) (t := begin + there + stay + back) (by omega) (by omega) (by omega) (by omega)
  have q5 := sh_b (s := start) (r := rb) (t := begin + there + stay + back) (by omega) (by omega) (by omega) (by omega)
  have m1 := sh_mono (s := start) (r := rb) (t := begin + there) (d := stay) v1 (by omega) (by omega)
  have m2 := sh_mono (s := start) (r := rb) (t := begin + there + stay) (d := back) w1 (by omega) (by omega)
  have m3 := sh_mono (s := 0) (r := ra) (t := begin) (d := there + stay + back) (by omega) (by omega) (by omega)
  have st1 := (sh_step (s := start) (r := rb) (t := begin + there) (d := stay + back)).1
  have st2 := (sh_step (s := 0) (r := ra) (t := begin) (d := there + stay + back)).2
  have r1 : begin + (there + stay + back) = begin + there + stay + back := by omega
  have r2 : begin + there + (stay + back) = begin + there + stay + back := by omega
  rw [r1] at m3 st2
  rw [r2] at st1
  rw [← e1] at q1 m3 st2
  rw [← e2] at q2 m1 st1
  rw [← e3] at q3 m1 m2
  rw [← e4] at q4 m3 st2
  rw [← e5] at q5 m2 st1
  have sl := slack (x := B4 - T2) (N := T4 - T1) (d := stay + back) (D := there + stay + back) (by omega) (by omega) p1 p2 a1 a2 b1 b2 (by omega) st1 st2
  have hh : B4 - T4 ≤ oH T1 T2 T4 ppm := by unfold oH; omega
  have hu : oH T1 T2 T4 ppm ≤ 1000000000000 ∧ -1000000000000 ≤ oH T1 T2 T4 ppm := by
    have n1 : (T4 - T1) * 3 * ppm ≤ 402000000 * 3 * 1000 := mul_high (by omega) p1 (by omega) p2
    have n2 : 0 ≤ (T4 - T1) * 3 * ppm := mul_low (by omega) p1
    unfold oH
    generalize (T4 - T1) * 3 * ppm = X at *
    omega
  refine ⟨oE_fine ?_ (decide_eq_true (by omega)) (tmB_mk (by omega)) (tmB_mk (by omega)) (by omega), by omega, hh⟩
  unfold pE
  rw [if_pos ⟨tmB_mk (by omega), tmB_mk (by omega), tmB_mk (by omega), tmB_mk (by omega)⟩, if_neg (by omega)]
end Go.Proofs.Ytfmaoblhoafnhaj
