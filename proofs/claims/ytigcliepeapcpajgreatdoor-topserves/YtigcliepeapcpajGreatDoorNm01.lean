/- What all texts of this seat lean on: marks by which a walk tells its calls apart, and worlds behind calls. What package drift answers of any numbers: check and divideUp. The plain numbers of a probe: its fault, the ends of its offset, which of some is the least wide; and why what two clocks truly differ by lies within. Why what two clocks truly differ by lies within the span of a probe: plain numbers alone. What drift.GrowTimes and drift.Grow answer of any numbers. What drift.GrowTimes answers of numbers that are right: the world is as it was. What package span answers: Check. Is it so of one of the first n: plain mathematics. A clock that learns: plain mathematics. What package span answers: Has, of a span that is right. -/
import Derived.Test.YtigcliepeapcpajGreatDoorRows
import Derived.WalkKit
import Derived.ProofKit
import Derived.OpenShut
import Derived.Outline
import Derived.WalkLawsBesides
import Derived.IntWalk
import Derived.Deep.Draws
namespace Go.Proofs.YtigcliepeapcpajGreatDoor
open Go.ChangeShapes Go.WideShapes Go.ChangeAt Go.RowKit
set_option linter.unusedVariables false

def okB (lo hi : Int) : Bool := decide (lo ≤ hi ∧ -1000000000000 ≤ lo ∧ hi ≤ 1000000000000)
theorem okB_t {lo hi : Int} (h : okB lo hi = true) : lo ≤ hi ∧ -1000000000000 ≤ lo ∧ hi ≤ 1000000000000 := of_decide_eq_true h
theorem okB_f {lo hi : Int} (h : okB lo hi = false) : hi < lo ∨ lo < -1000000000000 ∨ 1000000000000 < hi := by
  have := of_decide_eq_false h; omega
theorem okB_mk {lo hi : Int} (h : lo ≤ hi ∧ -1000000000000 ≤ lo ∧ hi ≤ 1000000000000) : okB lo hi = true := decide_eq_true h
theorem okB_no {lo hi : Int} (h : hi < lo ∨ lo < -1000000000000 ∨ 1000000000000 < hi) : okB lo hi = false := decide_eq_false (by omega)

abbrev sp (lo hi : Int) : Value := .agg #[.int .i64 lo, .int .i64 hi]
abbrev eRange : Value := .iface 71 (.int .i64 1)
abbrev eNone : Value := .iface 71 (.int .i64 5)

theorem bcell {W w1 : World} (hb : Below W.heap.size W w1) : (∀ b o, b < W.heap.size → w1.cell? ⟨b, o, none⟩ = W.cell? ⟨b, o, none⟩) ∧ (∀ b o, b < W.heap.size → w1.frozen? ⟨b, o, none⟩ = W.frozen? ⟨b, o, none⟩) :=
  ⟨fun b o h => hb.cell (p := ⟨b, o, none⟩) h, fun b o h => hb.frozen (p := ⟨b, o, none⟩) h⟩

structure Mark (n : Nat) : Prop where
  of ::
theorem Mark.mk (n : Nat) : Mark n := Mark.of

theorem nlt {a c x y z : Int} (h : (a < c ∧ x = y) ∨ (c ≤ a ∧ x = z)) : (a < c ∧ x = y) ∨ (¬ a < c ∧ x = z) := by omega

theorem below_tr {w W w1 : World} (hb : Below W.heap.size W w1) (h : Below w.heap.size w W) : Below w.heap.size w w1 := h.trans (hb.mono h.size)
end Go.Proofs.YtigcliepeapcpajGreatDoor
namespace Go.Proofs.YtigcliepeapcpajGreatDoor
open Go.ChangeShapes Go.WideShapes Go.ChangeAt Go.RowKit
set_option linter.unusedVariables false
set_option linter.unusedSimpArgs false

def rdy (n p : Int) : Bool := decide (0 ≤ n ∧ n ≤ 1000000000000 ∧ 0 ≤ p ∧ p ≤ 1000)
theorem rdy_t {n p : Int} (h : rdy n p = true) : 0 ≤ n ∧ n ≤ 1000000000000 ∧ 0 ≤ p ∧ p ≤ 1000 := of_decide_eq_true h
theorem rdy_f {n p : Int} (h : rdy n p = false) : n < 0 ∨ 1000000000000 < n ∨ p < 0 ∨ 1000 < p := by
  have := of_decide_eq_false h; omega
theorem mul_low {a b : Int} (ha : 0 ≤ a) (hb : 0 ≤ b) : 0 ≤ a * b := Int.mul_nonneg ha hb
theorem mul_high {a b x y : Int} (ha : 0 ≤ a) (hb : 0 ≤ b) (hx : a ≤ x) (hy : b ≤ y) : a * b ≤ x * y := Int.mul_le_mul hx hy hb (by omega)
theorem np_b {n p : Int} (h1 : 0 ≤ n) (h2 : n ≤ 1000000000000) (h3 : 0 ≤ p) (h4 : p ≤ 1000) : 0 ≤ n * p ∧ n * p ≤ 1000000000000000 :=
  ⟨mul_low h1 h3, Int.le_trans (mul_high h1 h3 h2 h4) (by decide)⟩
theorem nm_b {n p : Int} (h1 : 0 ≤ n) (h2 : n ≤ 1000000000000) (h3 : 0 ≤ p) (h4 : p ≤ 1000) : 0 ≤ n * (1000000 - p) ∧ n * (1000000 - p) ≤ 1000000000000000000 :=
  ⟨mul_low h1 (by omega), Int.le_trans (mul_high (y := 1000000) h1 (by omega) h2 (by omega)) (by decide)⟩
theorem nq_b {n p : Int} (h1 : 0 ≤ n) (h2 : n ≤ 1000000000000) (h3 : 0 ≤ p) (h4 : p ≤ 1000) : 0 ≤ n * (1000000 + p) ∧ n * (1000000 + p) ≤ 1001000000000000000 :=
  ⟨mul_low h1 (by omega), Int.le_trans (mul_high (y := 1001000) h1 (by omega) h2 (by omega)) (by decide)⟩
theorem quo_b {a b : Int} (h1 : 0 ≤ a) (h2 : 1 ≤ b) : 0 ≤ a / b ∧ a / b ≤ a := IntWalk.tdiv_le a b h1 h2

set_option maxHeartbeats 1000000 in
theorem dcheck_ok (n p : Int) (w : World) (h : rdy n p = true) :
    Calls Tryz.prog 54 #[.int .i64 n, .int .i64 p] w fun e w' => e = .returned (.nilIface) ∧ Below w.heap.size w w' := by
  have q := rdy_t h
  obtain ⟨h1, h2, h3, h4⟩ := q
  clear h
  go_enter Tryz.func54, Tryz.ntmps54
  go_wp2
  go_ret
  exact ⟨rfl, by (repeat (first | exact Below.refl _ _ | refine Below.alloc ?_ (by first | (simp; done) | (simp; omega) | omega) _ | refine Below.setCell ?_ (by first | (simp; done) | (simp; omega) | omega) _ | apply Below.drew | refine below_tr (by assumption) ?_))⟩

set_option maxHeartbeats 1000000 in
theorem dcheck_no (n p : Int) (w : World) (h : rdy n p = false) :
    Calls Tryz.prog 54 #[.int .i64 n, .int .i64 p] w fun e w' => e = .returned (.iface 71 (.int .i64 1)) ∧ Below w.heap.size w w' := by
  have h' := rdy_f h
  clear h
  by_cases h1 : n < 0
  · clear h'
    go_enter Tryz.func54, Tryz.ntmps54
    go_wp2
    go_ret
    exact ⟨rfl, Below.refl _ _⟩
  · by_cases h2 : 1000000000000 < n
    · clear h'
      go_enter Tryz.func54, Tryz.ntmps54
      go_wp2
      go_ret
      exact ⟨rfl, Below.refl _ _⟩
    · by_cases h3 : p < 0
      · clear h'
        go_enter Tryz.func54, Tryz.ntmps54
        go_wp2
        go_ret
        exact ⟨rfl, Below.refl _ _⟩
      · have h4 : 1000 < p := by omega
        clear h'
        go_enter Tryz.func54, Tryz.ntmps54
        go_wp2
        go_ret
        exact ⟨rfl, Below.refl _ _⟩

set_option maxHeartbeats 1000000 in
theorem divideUp_is (a b : Int) (w : World) (h1 : 0 ≤ a) (h2 : a ≤ 2000000000000000000) (h3 : 1 ≤ b) (h4 : b ≤ 2000000) :
    Calls Tryz.prog 55 #[.int .i64 a, .int .i64 b] w fun e w' => e = .returned (.int .i64 ((a + b - 1) / b)) ∧ Below w.heap.size w w' := by
  go_enter Tryz.func55, Tryz.ntmps55
  go_wp2
  go_ret
  exact ⟨rfl, by (repeat (first | exact Below.refl _ _ | refine Below.alloc ?_ (by first | (simp; done) | (simp; omega) | omega) _ | refine Below.setCell ?_ (by first | (simp; done) | (simp; omega) | omega) _ | apply Below.drew | refine below_tr (by assumption) ?_))⟩

end Go.Proofs.YtigcliepeapcpajGreatDoor
namespace Go.Proofs.YtigcliepeapcpajGreatDoor
set_option linter.unusedVariables false

def tmB (n : Int) : Bool := decide (-1000000000000 ≤ n ∧ n ≤ 1000000000000)
theorem tmB_t {n : Int} (h : tmB n = true) : -1000000000000 ≤ n ∧ n ≤ 1000000000000 := of_decide_eq_true h
theorem tmB_f {n : Int} (h : tmB n = false) : n < -1000000000000 ∨ 1000000000000 < n := by
  have := of_decide_eq_false h; omega
theorem tmB_mk {n : Int} (h : -1000000000000 ≤ n ∧ n ≤ 1000000000000) : tmB n = true := decide_eq_true h
theorem tmB_no {n : Int} (h : n < -1000000000000 ∨ 1000000000000 < n) : tmB n = false := decide_eq_false (by omega)

/-- The fault of a probe: 0 none, 1 a time is out of range, 3 a clock went back. -/
def pE (a b c d : Int) : Int := if tmB a = true ∧ tmB b = true ∧ tmB c = true ∧ tmB d = true then (if d < a ∨ c < b then 3 else 0) else 1
def oH (a b d p : Int) : Int := b - a + 2 + ((d - a) * 3 * p + 1000000 - 1) / 1000000
/-- The fault of its offset. -/
def oE (a b c d p : Int) : Int :=
  if pE a b c d = 0 then
    if rdy (d - a) p = true then
      if tmB (c - d) = true ∧ tmB (oH a b d p) = true then (if oH a b d p < c - d then 7 else 0) else 1
    else 1
  else pE a b c d

theorem pE_zero {a b c d : Int} (h : pE a b c d = 0) : tmB a = true ∧ tmB b = true ∧ tmB c = true ∧ tmB d = true ∧ a ≤ d ∧ b ≤ c := by
  unfold pE at h
  split at h
  · rename_i k
    split at h
    · omega
    · exact ⟨k.1, k.2.1, k.2.2.1, k.2.2.2, by omega, by omega⟩
  · omega
theorem pE_some {a b c d : Int} (h : pE a b c d ≠ 0) : (pE a b c d = 1 ∧ (tmB a = false ∨ tmB b = false ∨ tmB c = false ∨ tmB d = false)) ∨
    (pE a b c d = 3 ∧ tmB a = true ∧ tmB b = true ∧ tmB c = true ∧ tmB d = true ∧ (d < a ∨ c < b)) := by
  unfold pE at h ⊢
  split at h
  · rename_i k
    rw [if_pos k]
    split at h
    · rename_i k2
      rw [if_pos k2]
      exact Or.inr ⟨rfl, k.1, k.2.1, k.2.2.1, k.2.2.2, k2⟩
    · exact absurd rfl h
  · rename_i k
    rw [if_neg k]
    refine Or.inl ⟨rfl, ?_⟩
    cases h1 : tmB a <;> cases h2 : tmB b <;> cases h3 : tmB c <;> cases h4 : tmB d <;> simp_all
theorem oE_p {a b c d p : Int} (h : pE a b c d ≠ 0) : oE a b c d p = pE a b c d := by unfold oE; rw [if_neg h]
theorem oE_rdy {a b c d p : Int} (h : pE a b c d = 0) (k : rdy (d - a) p = false) : oE a b c d p = 1 := by
  unfold oE; rw [if_pos h, if_neg (by simp [k])]
theorem oE_lo {a b c d p : Int} (h : pE a b c d = 0) (k : rdy (d - a) p = true) (l : tmB (c - d) = false) : oE a b c d p = 1 := by
  unfold oE; rw [if_pos h, if_pos k, if_neg (by simp [l])]
theorem oE_hi {a b c d p : Int} (h : pE a b c d = 0) (k : rdy (d - a) p = true) (l : tmB (oH a b d p) = false) : oE a b c d p = 1 := by
  unfold oE; rw [if_pos h, if_pos k, if_neg (by simp [l])]
theorem oE_clash {a b c d p : Int} (h : pE a b c d = 0) (k : rdy (d - a) p = true) (l : tmB (c - d) = true) (m : tmB (oH a b d p) = true) (n : oH a b d p < c - d) : oE a b c d p = 7 := by
  unfold oE; rw [if_pos h, if_pos k, if_pos ⟨l, m⟩, if_pos n]
theorem oE_fine {a b c d p : Int} (h : pE a b c d = 0) (k : rdy (d - a) p = true) (l : tmB (c - d) = true) (m : tmB (oH a b d p) = true) (n : c - d ≤ oH a b d p) : oE a b c d p = 0 := by
  unfold oE; rw [if_pos h, if_pos k, if_pos ⟨l, m⟩, if_neg (by omega)]
theorem oE_zero {a b c d p : Int} (h : oE a b c d p = 0) : pE a b c d = 0 ∧ rdy (d - a) p = true ∧ tmB (c - d) = true ∧ tmB (oH a b d p) = true ∧ c - d ≤ oH a b d p := by
  unfold oE at h
  split at h
  · rename_i k
    split at h
    · rename_i k2
      split at h
      · rename_i k3
        split at h
        · omega
        · exact ⟨k, k2, k3.1, k3.2, by omega⟩
      · omega
    · omega
  · contradiction
/-- A probe, as its four times. -/
structure P4 where
  a : Int
  b : Int
  c : Int
  d : Int
def P4.e (q : P4) (p : Int) : Int := oE q.a q.b q.c q.d p
def P4.lo (q : P4) : Int := q.c - q.d
def P4.hi (q : P4) (p : Int) : Int := oH q.a q.b q.d p
def P4.w (q : P4) (p : Int) : Int := q.hi p - q.lo
/-- Which of the first k (each without fault) is the least wide, the first of such. -/
def bst (q : Nat → P4) (p : Int) : Nat → Nat
  | 0 => 0
  | k + 1 => if k = 0 ∨ (q k).w p < (q (bst q p k)).w p then k else bst q p k
theorem bst_lt (q : Nat → P4) (p : Int) : ∀ k, 0 < k → bst q p k < k := by
  intro k
  induction k with
  | zero => intro h; omega
  | succ k ih =>
    intro _
    unfold bst
    split
    · omega
    · rename_i hk
      have := ih (by omega)
      omega
theorem bst_least (q : Nat → P4) (p : Int) : ∀ k i, i < k → (q (bst q p k)).w p ≤ (q i).w p := by
  intro k
  induction k with
  | zero => intro i h; omega
  | succ k ih =>
    intro i hi
    unfold bst
    split
    · rename_i hk
      by_cases e : i = k
      · subst e; exact Int.le_refl _
      · have := ih i (by omega)
        rcases hk with h0 | h1 <;> omega
    · rename_i hk
      by_cases e : i = k
      · subst e; omega
      · exact ih i (by omega)
theorem bst_take (q : Nat → P4) (p : Int) (k : Nat) (h : k = 0 ∨ (q k).w p < (q (bst q p k)).w p) : bst q p (k + 1) = k := by
  show (if _ then k else _) = k; rw [if_pos h]
theorem bst_stay (q : Nat → P4) (p : Int) (k : Nat) (h0 : 0 < k) (h : (q (bst q p k)).w p ≤ (q k).w p) : bst q p (k + 1) = bst q p k := by
  show (if _ then k else _) = _; rw [if_neg (by omega)]
theorem w_bound {q : P4} {p : Int} (h : q.e p = 0) : -1000000000000 ≤ q.lo ∧ q.lo ≤ q.hi p ∧ q.hi p ≤ 1000000000000 := by
  obtain ⟨_, _, h3, h4, h5⟩ := oE_zero h
  have := tmB_t h3
  have := tmB_t h4
  exact ⟨by unfold P4.lo; omega, h5, by unfold P4.hi; omega⟩
end Go.Proofs.YtigcliepeapcpajGreatDoor
namespace Go.Proofs.YtigcliepeapcpajGreatDoor
set_option linter.unusedVariables false

/-- What a clock shows that began at s and goes at rate r, at time t. -/
def sh (s r t : Int) : Int := s + t + t * r / 1000000

theorem rate_b {d r p : Int} (hd : 0 ≤ d) (h1 : -p ≤ r) (h2 : r ≤ p) : -(d * p) ≤ d * r ∧ d * r ≤ d * p := by
  have a := Int.mul_le_mul_of_nonneg_left h2 hd
  have b := Int.mul_le_mul_of_nonneg_left h1 hd
  rw [Int.mul_neg] at b
  exact ⟨b, a⟩
theorem sh_step {s r t d : Int} : 1000000 * (sh s r (t + d) - sh s r t) ≤ d * 1000000 + d * r + 999999 ∧ d * 1000000 + d * r - 999999 ≤ 1000000 * (sh s r (t + d) - sh s r t) := by
  unfold sh
  rw [Int.add_mul]
  generalize t * r = X
  generalize d * r = Y
  omega
theorem sh_mono {s r t d : Int} (hd : 0 ≤ d) (h1 : -1000 ≤ r) (h2 : r ≤ 1000) : sh s r t ≤ sh s r (t + d) := by
  have h := rate_b hd h1 h2
  unfold sh
  rw [Int.add_mul]
  generalize t * r = X at *
  generalize d * r = Y at *
  omega
theorem sh_b {s r t : Int} (ht : 0 ≤ t) (hu : t ≤ 400000000) (h1 : -1000 ≤ r) (h2 : r ≤ 1000) : s - 500000 ≤ sh s r t ∧ sh s r t ≤ s + 401000000 := by
  have h := rate_b ht h1 h2
  unfold sh
  generalize t * r = X at *
  omega
theorem slack {x N d D ppm rb ra : Int} (hd : 0 ≤ d) (hD : d ≤ D) (hp0 : 0 ≤ ppm) (hp : ppm ≤ 1000) (a1 : -ppm ≤ ra) (a2 : ra ≤ ppm) (b1 : -ppm ≤ rb) (b2 : rb ≤ ppm) (hN0 : 0 ≤ N)
    (hx : 1000000 * x ≤ d * 1000000 + d * rb + 999999) (hN : D * 1000000 + D * ra - 999999 ≤ 1000000 * N) : x - N ≤ 2 + (N * 3 * ppm + 1000000 - 1) / 1000000 := by
  have c1 := (rate_b hd b1 b2).2
  have c2 := (rate_b (show 0 ≤ D by omega) a1 a2).1
  have c3 : d * ppm ≤ D * ppm := Int.mul_le_mul_of_nonneg_right hD hp0
  have n0 : 0 ≤ N * ppm := Int.mul_nonneg hN0 hp0
  have e3 : N * 3 * ppm = 3 * (N * ppm) := by rw [Int.mul_comm N 3, Int.mul_assoc]
  have d0 : D * ppm ≤ D * 1000 := Int.mul_le_mul_of_nonneg_left hp (by omega)
  rw [e3]
  by_cases h4 : 4 ≤ D
  · have x4 : 4 * ppm ≤ D * ppm := Int.mul_le_mul_of_nonneg_right h4 hp0
    -- 1000000 * N ≥ D * 1000000 - D * ppm - 999999 ≥ 999000 * D - 999999
    have hN2 : 999000 * D - 999999 ≤ 1000000 * N := by omega
    have hN3 := Int.mul_le_mul_of_nonneg_right hN2 hp0
    have e1 : (999000 * D - 999999) * ppm = 999000 * (D * ppm) - 999999 * ppm := by rw [Int.sub_mul, Int.mul_assoc]
    have e2 : 1000000 * N * ppm = 1000000 * (N * ppm) := by rw [Int.mul_assoc]
    rw [e1, e2] at hN3
    generalize D * ppm = X at *
    generalize N * ppm = Y at *
    generalize D * ra = Z at *
    generalize d * rb = V at *
    generalize d * ppm = U at *
    omega
  · have dp0 : d * ppm ≤ d * 1000 := Int.mul_le_mul_of_nonneg_left hp hd
    generalize N * ppm = Y at *
    generalize D * ra = Z at *
    generalize d * rb = V at *
    generalize D * ppm = X at *
    generalize d * ppm = U at *
    omega
theorem probe_true {start ra rb ppm begin there stay back T1 T2 T3 T4 B4 : Int} (s1 : -1000000 ≤ start) (s2 : start ≤ 1000000) (p1 : 0 ≤ ppm) (p2 : ppm ≤ 1000) (a1 : -ppm ≤ ra) (a2 : ra ≤ ppm) (b1 : -ppm ≤ rb) (b2 : rb ≤ ppm)
    (t1 : 0 ≤ begin) (t2 : begin ≤ 100000000) (u1 : 0 ≤ there) (u2 : there ≤ 100000000) (v1 : 0 ≤ stay) (v2 : stay ≤ 100000000) (w1 : 0 ≤ back) (w2 : back ≤ 100000000)
    (e1 : T1 = sh 0 ra begin) (e2 : T2 = sh start rb (begin + there)) (e3 : T3 = sh start rb (begin + there + stay)) (e4 : T4 = sh 0 ra (begin + there + stay + back)) (e5 : B4 = sh start rb (begin + there + stay + back)) :
    oE T1 T2 T3 T4 ppm = 0 ∧ T3 - T4 ≤ B4 - T4 ∧ B4 - T4 ≤ oH T1 T2 T4 ppm := by
  have q1 := sh_b (s := 0) (r := ra) t1 (by omega) (by omega) (by omega)
  have q2 := sh_b (s := start) (r := rb) (t := begin + there) (by omega) (by omega) (by omega) (by omega)
  have q3 := sh_b (s := start) (r := rb) (t := begin + there + stay) (by omega) (by omega) (by omega) (by omega)
  have q4 := sh_b (s := 0) (r := ra) (t := begin + there + stay + back) (by omega) (by omega) (by omega) (by omega)
  have q5 := sh_b (s := start) (r := rb) (t := begin + there + stay + back) (by omega) (by omega) (by omega) (by omega)
  have m1 := sh_mono (s := start) (r := rb) (t := begin + there) (d := stay) v1 (by omega) (by omega)
  have m2 := sh_mono (s := start) (r := rb) (t := begin + there + stay) (d := back) w1 (by omega) (by omega)
  have m3 := sh_mono (s := 0) (r := ra) (t := begin) (d := there + stay + back) (by omega) (by omega) (by omega)
  have st1 := (sh_step (s := start) (r := rb) (t := begin + there) (d := stay + back)).1
  have st2 := (sh_step (s := 0) (r := ra) (t := begin) (d := there + stay + back)).2
  have r1 : begin + (there + stay + back) = begin + there + stay + back := by omega
  have r2 : begin + there + (stay + back) = begin + there + stay + back := by omega
  rw [r1] at m3 st2
  rw [r2] at st1
  rw [← e1] at q1 m3 st2
  rw [← e2] at q2 m1 st1
  rw [← e3] at q3 m1 m2
  rw [← e4] at q4 m3 st2
  rw [← e5] at q5 m2 st1
  have sl := slack (x := B4 - T2) (N := T4 - T1) (d := stay + back) (D := there + stay + back) (by omega) (by omega) p1 p2 a1 a2 b1 b2 (by omega) st1 st2
  have hh : B4 - T4 ≤ oH T1 T2 T4 ppm := by unfold oH; omega
  have hu : oH T1 T2 T4 ppm ≤ 1000000000000 ∧ -1000000000000 ≤ oH T1 T2 T4 ppm := by
    have n1 : (T4 - T1) * 3 * ppm ≤ 402000000 * 3 * 1000 := mul_high (by omega) p1 (by omega) p2
    have n2 : 0 ≤ (T4 - T1) * 3 * ppm := mul_low (by omega) p1
    unfold oH
    generalize (T4 - T1) * 3 * ppm = X at *
    omega
  refine ⟨oE_fine ?_ (decide_eq_true (by omega)) (tmB_mk (by omega)) (tmB_mk (by omega)) (by omega), by omega, hh⟩
  unfold pE
  rw [if_pos ⟨tmB_mk (by omega), tmB_mk (by omega), tmB_mk (by omega), tmB_mk (by omega)⟩, if_neg (by omega)]
end Go.Proofs.YtigcliepeapcpajGreatDoor
namespace Go.Proofs.YtigcliepeapcpajGreatDoor
open Go.ChangeShapes Go.WideShapes Go.ChangeAt Go.RowKit
set_option linter.unusedVariables false
set_option linter.unusedSimpArgs false

theorem nt_b {n t p : Int} (h1 : 0 ≤ n) (h2 : n ≤ 1000000000000) (h5 : 0 ≤ t) (h6 : t ≤ 1000) (h3 : 0 ≤ p) (h4 : p ≤ 1000) : 0 ≤ n * t ∧ n * t ≤ 1000000000000000 ∧ 0 ≤ n * t * p ∧ n * t * p ≤ 1000000000000000000 := by
  obtain ⟨a, b⟩ := np_b h1 h2 h5 h6
  exact ⟨a, b, mul_low a h3, Int.le_trans (mul_high a h3 b h4) (by decide)⟩

set_option maxHeartbeats 1000000 in
theorem growT_ok (n t p : Int) (w : World) (h : rdy n p = true) (h5 : 0 ≤ t) (h6 : t ≤ 1000) :
    Calls Tryz.prog 30 #[.int .i64 n, .int .i64 t, .int .i64 p] w fun e w' => e = .returned (.tuple #[.int .i64 ((n * t * p + 1000000 - 1) / 1000000), .nilIface]) ∧ Below w.heap.size w w' := by
  have q := rdy_t h
  obtain ⟨h1, h2, h3, h4⟩ := q
  obtain ⟨b1, b2, b3, b4⟩ := nt_b h1 h2 h5 h6 h3 h4
  go_enter Tryz.func30, Tryz.ntmps30
  go_wp2_with (first | (go_at_call 54; refine (dcheck_ok _ _ _ (by assumption)).mono ?_; rintro e w1 ⟨rfl, hb⟩; obtain ⟨hc, hf⟩ := bcell hb; have hz := hb.size; (try simp only [World.size_alloc, Nat.add_one_le_iff] at hz); (try (have hz0 : w.heap.size < w1.heap.size := by omega)); (try (have hz1 : w.heap.size + 1 < w1.heap.size := by omega))) | (go_at_call 55; refine (divideUp_is _ _ _ (by omega) (by omega) (by omega) (by omega)).mono ?_; rintro e w1 ⟨rfl, hb⟩; obtain ⟨hc, hf⟩ := bcell hb; have hz := hb.size; (try simp only [World.size_alloc, Nat.add_one_le_iff] at hz); (try (have hz0 : w.heap.size < w1.heap.size := by omega)); (try (have hz1 : w.heap.size + 1 < w1.heap.size := by omega))))
  go_ret2
  exact ⟨rfl, by (repeat (first | exact Below.refl _ _ | refine Below.alloc ?_ (by first | (simp; done) | (simp; omega) | omega) _ | refine Below.setCell ?_ (by first | (simp; done) | (simp; omega) | omega) _ | apply Below.drew | refine below_tr (by assumption) ?_))⟩

set_option maxHeartbeats 1000000 in
theorem growT_no (n t p : Int) (w : World) (h : rdy n p = false) :
    Calls Tryz.prog 30 #[.int .i64 n, .int .i64 t, .int .i64 p] w fun e w' => e = .returned (.tuple #[.int .i64 0, .iface 71 (.int .i64 1)]) ∧ Below w.heap.size w w' := by
  go_enter Tryz.func30, Tryz.ntmps30
  go_wp2_with (first | (go_at_call 54; refine (dcheck_no _ _ _ (by assumption)).mono ?_; rintro e w1 ⟨rfl, hb⟩; obtain ⟨hc, hf⟩ := bcell hb; have hz := hb.size; (try simp only [World.size_alloc, Nat.add_one_le_iff] at hz); (try (have hz0 : w.heap.size < w1.heap.size := by omega)); (try (have hz1 : w.heap.size + 1 < w1.heap.size := by omega))))
  go_ret2
  exact ⟨rfl, by (repeat (first | exact Below.refl _ _ | refine Below.alloc ?_ (by first | (simp; done) | (simp; omega) | omega) _ | refine Below.setCell ?_ (by first | (simp; done) | (simp; omega) | omega) _ | apply Below.drew | refine below_tr (by assumption) ?_))⟩

theorem growT_one (n p : Int) (w : World) (h : rdy n p = true) : Calls Tryz.prog 30 #[.int .i64 n, .int .i64 1, .int .i64 p] w fun e w' => e = .returned (.tuple #[.int .i64 ((n * p + 1000000 - 1) / 1000000), .nilIface]) ∧ Below w.heap.size w w' := by
  have g := growT_ok n 1 p w h (by decide) (by decide)
  rw [Int.mul_one] at g; exact g

end Go.Proofs.YtigcliepeapcpajGreatDoor
namespace Go.Proofs.YtigcliepeapcpajGreatDoor
open Go.ChangeShapes Go.WideShapes Go.ChangeAt Go.RowKit
set_option linter.unusedVariables false
set_option linter.unusedSimpArgs false

set_option maxHeartbeats 1000000 in
theorem dcheck_same (n p : Int) (w : World) (h : rdy n p = true) :
    Calls Tryz.prog 54 #[.int .i64 n, .int .i64 p] w fun e w' => e = .returned (.nilIface) ∧ w' = w := by
  have q := rdy_t h
  obtain ⟨h1, h2, h3, h4⟩ := q
  clear h
  go_enter Tryz.func54, Tryz.ntmps54
  go_wp2
  go_ret
  exact ⟨rfl, rfl⟩
set_option maxHeartbeats 1000000 in
theorem divideUp_same (a b : Int) (w : World) (h1 : 0 ≤ a) (h2 : a ≤ 2000000000000000000) (h3 : 1 ≤ b) (h4 : b ≤ 2000000) :
    Calls Tryz.prog 55 #[.int .i64 a, .int .i64 b] w fun e w' => e = .returned (.int .i64 ((a + b - 1) / b)) ∧ w' = w := by
  go_enter Tryz.func55, Tryz.ntmps55
  go_wp2
  go_ret
  exact ⟨rfl, rfl⟩
set_option maxHeartbeats 1000000 in
theorem growT_same (n t p : Int) (w : World) (h : rdy n p = true) (h5 : 0 ≤ t) (h6 : t ≤ 1000) :
    Calls Tryz.prog 30 #[.int .i64 n, .int .i64 t, .int .i64 p] w fun e w' => e = .returned (.tuple #[.int .i64 ((n * t * p + 1000000 - 1) / 1000000), .nilIface]) ∧ w' = w := by
  have q := rdy_t h
  obtain ⟨h1, h2, h3, h4⟩ := q
  obtain ⟨b1, b2, b3, b4⟩ := nt_b h1 h2 h5 h6 h3 h4
  go_enter Tryz.func30, Tryz.ntmps30
  go_wp2_with (first | (go_at_call 54; refine (dcheck_same _ _ _ (by assumption)).mono ?_; rintro e w1 ⟨rfl, hu⟩; rw [hu]; clear hu) | (go_at_call 55; refine (divideUp_same _ _ _ (by omega) (by omega) (by omega) (by omega)).mono ?_; rintro e w1 ⟨rfl, hu⟩; rw [hu]; clear hu))
  go_ret2
  exact ⟨rfl, rfl⟩
end Go.Proofs.YtigcliepeapcpajGreatDoor
namespace Go.Proofs.YtigcliepeapcpajGreatDoor
open Go.ChangeShapes Go.WideShapes Go.ChangeAt Go.RowKit
set_option linter.unusedVariables false

theorem check_ok (lo hi : Int) (w : World) (h : okB lo hi = true) :
    Calls Tryz.prog 28 #[.agg #[.int .i64 lo, .int .i64 hi]] w fun e w' => e = .returned .nilIface ∧ Below w.heap.size w w' := by
  have h' := okB_t h
  obtain ⟨h1, h2, h3⟩ := h'
  clear h
  go_enter Tryz.func28, Tryz.ntmps28
  go_wp2
  go_ret
  exact ⟨rfl, (Below.refl _ _).alloc (Nat.le_refl _) _⟩

theorem check_no (lo hi : Int) (w : World) (h : okB lo hi = false) :
    Calls Tryz.prog 28 #[.agg #[.int .i64 lo, .int .i64 hi]] w fun e w' => e = .returned (.iface 71 (.int .i64 1)) ∧ Below w.heap.size w w' := by
  have h' := okB_f h
  clear h
  by_cases h1 : hi < lo
  · go_enter Tryz.func28, Tryz.ntmps28
    go_wp2
    go_ret
    exact ⟨rfl, (Below.refl _ _).alloc (Nat.le_refl _) _⟩
  · by_cases h2 : lo < -1000000000000
    · go_enter Tryz.func28, Tryz.ntmps28
      go_wp2
      go_ret
      exact ⟨rfl, (Below.refl _ _).alloc (Nat.le_refl _) _⟩
    · have h3 : 1000000000000 < hi := by omega
      clear h'
      go_enter Tryz.func28, Tryz.ntmps28
      go_wp2
      go_ret
      exact ⟨rfl, (Below.refl _ _).alloc (Nat.le_refl _) _⟩
end Go.Proofs.YtigcliepeapcpajGreatDoor
namespace Go.Proofs.YtigcliepeapcpajGreatDoor
set_option linter.unusedVariables false

/-- Is it so of one of the first n? -/
def anyB (p : Nat → Bool) : Nat → Bool
  | 0 => false
  | n + 1 => anyB p n || p n
theorem anyB_no {p : Nat → Bool} : ∀ {n : Nat}, (∀ i, i < n → p i = false) → anyB p n = false
  | 0, _ => rfl
  | n + 1, h => by simp only [anyB]; rw [anyB_no (fun i hi => h i (by omega)), h n (by omega)]; rfl
theorem anyB_yes {p : Nat → Bool} : ∀ {n k : Nat}, k < n → p k = true → anyB p n = true
  | 0, k, h, _ => by omega
  | n + 1, k, h, e => by
    simp only [anyB]
    by_cases q : k = n
    · rw [← q, e, Bool.or_true]
    · rw [anyB_yes (show k < n by omega) e]; rfl
theorem anyB_iff {p : Nat → Bool} {n : Nat} : anyB p n = true ↔ ∃ k, k < n ∧ p k = true := by
  constructor
  · intro h
    apply Classical.byContradiction
    intro no
    have := anyB_no (p := p) (n := n) (fun i hi => by
      cases e : p i with
      | false => rfl
      | true => exact absurd ⟨i, hi, e⟩ no)
    rw [this] at h
    cases h
  · rintro ⟨k, h1, h2⟩
    exact anyB_yes h1 h2
theorem anyB_congr {p p' : Nat → Bool} : ∀ {n : Nat}, (∀ i, i < n → p i = p' i) → anyB p n = anyB p' n
  | 0, _ => rfl
  | n + 1, h => by simp only [anyB]; rw [anyB_congr (fun i hi => h i (by omega)), h n (by omega)]
end Go.Proofs.YtigcliepeapcpajGreatDoor
namespace Go.Proofs.YtigcliepeapcpajGreatDoor
set_option linter.unusedVariables false

/-- What a clock is: its rate, what it shows, whether anything is known, what, since when; whether it told a time, and which. -/
structure Ck where
  p : Int
  h : Int
  k : Bool
  lo : Int
  hi : Int
  s : Int
  t : Bool
  l : Int
/-- Millions, rounded up. -/
def upM (x : Int) : Int := (x + 1000000 - 1) / 1000000
namespace Ck
/-- How much wider it is by now. -/
def n (c : Ck) : Int := 1 + upM ((c.h - c.s) * 2 * c.p)
def made (p : Int) : Ck := ⟨p, 0, false, 0, 0, 0, false, 0⟩
def stepE (c : Ck) (x : Int) : Int := if x < 0 ∨ 1000000000000 < x then 1 else if x < c.h then 8 else 0
def stepC (c : Ck) (x : Int) : Ck := if c.stepE x = 0 then { c with h := x } else c
def nowE (c : Ck) : Int := if c.k = true then (if okB (c.lo - c.n + c.h) (c.hi + c.n + c.h) = true then 0 else 1) else 6
def nowLo (c : Ck) : Int := if c.nowE = 0 then c.lo - c.n + c.h else 0
def nowHi (c : Ck) : Int := if c.nowE = 0 then c.hi + c.n + c.h else 0
/-- What both have. -/
def bLo (c : Ck) (a : Int) : Int := if c.k = true then (if a < c.lo - c.n then c.lo - c.n else a) else a
def bHi (c : Ck) (b : Int) : Int := if c.k = true then (if c.hi + c.n < b then c.hi + c.n else b) else b
def learnE (c : Ck) (a b : Int) : Int := if okB a b = true then (if c.k = true then (if c.nowE = 0 then (if c.bLo a ≤ c.bHi b then 0 else 7) else c.nowE) else 0) else 1
def learnC (c : Ck) (a b : Int) : Ck := if c.learnE a b = 0 then { c with k := true, lo := c.bLo a, hi := c.bHi b, s := c.h } else c
/-- The middle, rounded down; the time to tell. -/
def mid (c : Ck) : Int := (c.nowLo + c.nowHi) / 2
def pt (c : Ck) : Int := if c.t = true ∧ c.mid < c.l then c.l else c.mid
def pointE (c : Ck) : Int := if c.nowE = 0 then (if c.nowHi < c.pt then 8 else 0) else c.nowE
def pointN (c : Ck) : Int := if c.pointE = 0 then c.pt else 0
def pointC (c : Ck) : Ck := if c.pointE = 0 then { c with t := true, l := c.pt } else c
/-- What is always so. -/
structure I (c : Ck) : Prop where
  p0 : 0 ≤ c.p
  p1 : c.p ≤ 1000
  h0 : 0 ≤ c.h
  h1 : c.h ≤ 1000000000000
  s0 : 0 ≤ c.s
  s1 : c.s ≤ c.h
  ok : okB c.lo c.hi = true
  l0 : -1000000000000 ≤ c.l
  l1 : c.l ≤ 1000000000000
section
variable {c : Ck}
theorem made_i {p : Int} (h0 : 0 ≤ p) (h1 : p ≤ 1000) : (made p).I := ⟨h0, h1, by simp [made], by simp [made], by simp [made], by simp [made], rfl, by simp [made], by simp [made]⟩
theorem n_b (hI : c.I) : 0 ≤ (c.h - c.s) * 2 * c.p ∧ (c.h - c.s) * 2 * c.p ≤ 2000000000000000 ∧ 1 ≤ c.n ∧ c.n ≤ 2000000001 := by
  obtain ⟨a1, a2, a3, a4, a5, a6, _⟩ := hI
  have b1 : 0 ≤ (c.h - c.s) * 2 := by omega
  have b2 : (c.h - c.s) * 2 ≤ 2000000000000 := by omega
  have m1 := Int.mul_nonneg b1 a1
  have m2 : (c.h - c.s) * 2 * c.p ≤ 2000000000000 * 1000 := Int.mul_le_mul b2 a2 a1 (by omega)
  unfold n upM
  omega
theorem nowE_cases (c : Ck) : c.nowE = 0 ∨ c.nowE = 1 ∨ c.nowE = 6 := by
  unfold nowE
  split
  · split
    · exact Or.inl rfl
    · exact Or.inr (Or.inl rfl)
  · exact Or.inr (Or.inr rfl)
theorem now_zero (h : c.nowE = 0) : c.k = true ∧ okB (c.lo - c.n + c.h) (c.hi + c.n + c.h) = true := by
  unfold nowE at h
  split at h
  case isTrue k =>
    split at h
    case isTrue o => exact ⟨k, o⟩
    case isFalse => cases h
  case isFalse => cases h
theorem step_i (hI : c.I) (x : Int) : (c.stepC x).I := by
  unfold stepC
  split
  case isFalse => exact hI
  case isTrue e =>
    obtain ⟨a1, a2, a3, a4, a5, a6, a7, a8, a9⟩ := hI
    unfold stepE at e
    split at e
    case isTrue => cases e
    case isFalse q =>
      split at e
      case isTrue => cases e
      case isFalse q2 => exact ⟨a1, a2, by show 0 ≤ x; omega, by show x ≤ _; omega, a5, by show c.s ≤ x; omega, a7, a8, a9⟩
theorem learn_zero {a b : Int} (h : c.learnE a b = 0) : okB a b = true ∧ (c.k = true → c.nowE = 0 ∧ c.bLo a ≤ c.bHi b) := by
  unfold learnE at h
  split at h
  case isFalse => cases h
  case isTrue o =>
    refine ⟨o, fun k => ?_⟩
    rw [if_pos k] at h
    split at h
    case isFalse q => exact absurd h q
    case isTrue q =>
      split at h
      case isFalse => cases h
      case isTrue q2 => exact ⟨q, q2⟩
theorem both_ok {a b : Int} (h : c.learnE a b = 0) : okB (c.bLo a) (c.bHi b) = true := by
  obtain ⟨o, q⟩ := learn_zero h
  have o' := okB_t o
  cases k : c.k with
  | false =>
    unfold bLo bHi
    rw [k]
    exact o
  | true =>
    obtain ⟨_, q2⟩ := q k
    apply okB_mk
    refine ⟨q2, ?_, ?_⟩
    · unfold bLo; rw [if_pos k]; split <;> omega
    · unfold bHi; rw [if_pos k]; split <;> omega
theorem learn_i (hI : c.I) (a b : Int) : (c.learnC a b).I := by
  unfold learnC
  split
  case isFalse => exact hI
  case isTrue e =>
    obtain ⟨a1, a2, a3, a4, a5, a6, a7, a8, a9⟩ := hI
    exact ⟨a1, a2, a3, a4, a3, Int.le_refl _, both_ok e, a8, a9⟩
theorem mid_b (h : c.nowE = 0) : c.nowLo ≤ c.mid ∧ c.mid ≤ c.nowHi ∧ -1000000000000 ≤ c.nowLo ∧ c.nowHi ≤ 1000000000000 := by
  obtain ⟨_, o⟩ := now_zero h
  have o' := okB_t o
  unfold mid nowLo nowHi
  rw [if_pos h, if_pos h]
  omega
theorem point_zero (h : c.pointE = 0) : c.nowE = 0 ∧ c.pt ≤ c.nowHi := by
  unfold pointE at h
  split at h
  case isFalse q => exact absurd h q
  case isTrue q =>
    split at h
    case isTrue => cases h
    case isFalse q2 => exact ⟨q, by omega⟩
theorem pt_b (h : c.nowE = 0) : c.mid ≤ c.pt ∧ (c.t = true → c.l ≤ c.pt) := by
  unfold pt
  split
  case isTrue q => exact ⟨by omega, fun _ => Int.le_refl _⟩
  case isFalse q => exact ⟨Int.le_refl _, fun ht => by
    apply Classical.byContradiction
    intro k
    exact q ⟨ht, by omega⟩⟩
theorem point_i (hI : c.I) : (c.pointC).I := by
  unfold pointC
  split
  case isFalse => exact hI
  case isTrue e =>
    obtain ⟨a1, a2, a3, a4, a5, a6, a7, a8, a9⟩ := hI
    obtain ⟨e1, e2⟩ := point_zero e
    have m := mid_b e1
    have q := pt_b e1
    exact ⟨a1, a2, a3, a4, a5, a6, a7, by show -1000000000000 ≤ c.pt; omega, by show c.pt ≤ _; omega⟩
end
end Ck
/-- What a clock shows that goes at a rate. -/
def shM (r T : Int) : Int := T + T * r / 1000000
section
variable {p r T T0 : Int}
/-- By how much it may have gone otherwise. -/
theorem sh_drift (h0 : 0 ≤ p) (h1 : p ≤ 1000) (r0 : -p ≤ r) (r1 : r ≤ p) (t0 : 0 ≤ T0) (t1 : T0 ≤ T) : 0 ≤ shM r T - shM r T0 ∧ T * r / 1000000 - T0 * r / 1000000 ≤ 1 + upM ((shM r T - shM r T0) * 2 * p) ∧ T0 * r / 1000000 - T * r / 1000000 ≤ 1 + upM ((shM r T - shM r T0) * 2 * p) := by
  have eD : shM r T - shM r T0 = (T - T0) + (T * r / 1000000 - T0 * r / 1000000) := by unfold shM; omega
  have eX : T * r - T0 * r = (T - T0) * r := by rw [Int.sub_mul]
  obtain ⟨d, hd⟩ : ∃ d, d = T * r / 1000000 - T0 * r / 1000000 := ⟨_, rfl⟩
  obtain ⟨D, hD⟩ : ∃ D, D = T - T0 := ⟨_, rfl⟩
  have D0 : 0 ≤ D := by omega
  have z1 : D * r ≤ D * p := Int.mul_le_mul_of_nonneg_left r1 D0
  have z2 : D * (-p) ≤ D * r := Int.mul_le_mul_of_nonneg_left r0 D0
  rw [Int.mul_neg] at z2
  have z3 : 0 ≤ D * p := Int.mul_nonneg D0 h0
  have z4 : D * p ≤ D * 1000 := Int.mul_le_mul_of_nonneg_left h1 D0
  have eW : (D + d) * 2 * p = 2 * (D * p) + 2 * (p * d) := by grind
  have q1 : 0 ≤ d → 0 ≤ p * d := fun h => Int.mul_nonneg h0 h
  have q2 : d ≤ 0 → 1000 * d ≤ p * d := fun h => Int.mul_le_mul_of_nonpos_right h1 h
  rw [← hd] at eD
  rw [← hD] at eD eX
  rw [eD, eW, ← eX] at *
  unfold upM
  generalize T * r = X at *
  generalize T0 * r = Y at *
  generalize D * p = Z at *
  generalize p * d = V at *
  by_cases hd0 : 0 ≤ d
  · have := q1 hd0
    omega
  · have := q2 (by omega)
    omega
theorem shc_b (h0 : 0 ≤ p) (h1 : p ≤ 1000) (r0 : -p ≤ r) (r1 : r ≤ p) (t0 : 0 ≤ T) (t1 : T ≤ 60000000) : 0 ≤ shM r T ∧ shM r T ≤ 120000000 ∧ -60000 ≤ T * r / 1000000 ∧ T * r / 1000000 ≤ 60000 := by
  have z1 : T * r ≤ T * 1000 := Int.mul_le_mul_of_nonneg_left (by omega) t0
  have z2 : T * (-1000) ≤ T * r := Int.mul_le_mul_of_nonneg_left (by omega) t0
  unfold shM
  generalize T * r = X at *
  omega
end
/-- A clock that truly goes so, and learned what is so. -/
structure Hd (p r b T : Int) (c : Ck) : Prop where
  i : c.I
  ep : c.p = p
  eh : c.h = shM r T
  kn : c.k = true → ∃ T0, 0 ≤ T0 ∧ T0 ≤ T ∧ c.s = shM r T0 ∧ c.lo ≤ b - T0 * r / 1000000 ∧ b - T0 * r / 1000000 ≤ c.hi ∧ -3000000 ≤ c.lo ∧ c.hi ≤ 3000000
section
variable {p r b T : Int} {c : Ck}
/-- A rate, a start, a time. -/
structure HdP (p r b T : Int) : Prop where
  p0 : 0 ≤ p
  p1 : p ≤ 1000
  r0 : -p ≤ r
  r1 : r ≤ p
  b0 : 0 ≤ b
  b1 : b ≤ 1000000
  t0 : 0 ≤ T
  t1 : T ≤ 60000000
theorem Hd.made (P : HdP p r b 0) : Hd p r b 0 (Ck.made p) := ⟨Ck.made_i P.p0 P.p1, rfl, by show 0 = shM r 0; unfold shM; simp, fun h => by cases h⟩
theorem Hd.n (P : HdP p r b T) (h : Hd p r b T c) (k : c.k = true) : c.lo - c.n ≤ b - T * r / 1000000 ∧ b - T * r / 1000000 ≤ c.hi + c.n ∧ 1 ≤ c.n ∧ c.n ≤ 300000 ∧ c.lo ≤ c.hi ∧ -3000000 ≤ c.lo ∧ c.hi ≤ 3000000 := by
  obtain ⟨T0, t0, t1, es, l1, l2, l3, l4⟩ := h.kn k
  obtain ⟨d1, d2, d3⟩ := sh_drift P.p0 P.p1 P.r0 P.r1 t0 t1
  have b1 := shc_b P.p0 P.p1 P.r0 P.r1 t0 (by have := P.t1; omega)
  have b2 := shc_b P.p0 P.p1 P.r0 P.r1 P.t0 P.t1
  have en : c.n = 1 + upM ((shM r T - shM r T0) * 2 * p) := by unfold Ck.n; rw [h.eh, es, h.ep]
  have m1 : 0 ≤ (shM r T - shM r T0) * 2 * p := Int.mul_nonneg (by omega) P.p0
  have m2 : (shM r T - shM r T0) * 2 * p ≤ 240000000 * 1000 := Int.mul_le_mul (by omega) P.p1 P.p0 (by omega)
  have m3 : 0 ≤ upM ((shM r T - shM r T0) * 2 * p) ∧ upM ((shM r T - shM r T0) * 2 * p) ≤ 240000 := by unfold upM; omega
  rw [en]
  omega
theorem Hd.now (P : HdP p r b T) (h : Hd p r b T c) (k : c.k = true) : c.nowE = 0 ∧ c.nowLo ≤ b + T ∧ b + T ≤ c.nowHi ∧ okB c.nowLo c.nowHi = true := by
  obtain ⟨n1, n2, n3, n4, n5, n6, n7⟩ := h.n P k
  have b2 := shc_b P.p0 P.p1 P.r0 P.r1 P.t0 P.t1
  have eh := h.eh
  have es : shM r T = T + T * r / 1000000 := rfl
  have o : okB (c.lo - c.n + c.h) (c.hi + c.n + c.h) = true := okB_mk (by omega)
  have e : c.nowE = 0 := by unfold Ck.nowE; rw [if_pos k, if_pos o]
  refine ⟨e, ?_, ?_, ?_⟩
  · unfold Ck.nowLo; rw [if_pos e]; omega
  · unfold Ck.nowHi; rw [if_pos e]; omega
  · unfold Ck.nowLo Ck.nowHi; rw [if_pos e, if_pos e]; exact o
theorem Hd.step {v : Int} (P : HdP p r b T) (P' : HdP p r b (T + v)) (v0 : 0 ≤ v) (h : Hd p r b T c) : c.stepE (shM r (T + v)) = 0 ∧ Hd p r b (T + v) (c.stepC (shM r (T + v))) := by
  obtain ⟨d1, _, _⟩ := sh_drift P.p0 P.p1 P.r0 P.r1 P.t0 (show T ≤ T + v by omega)
  have b2 := shc_b P.p0 P.p1 P.r0 P.r1 P'.t0 P'.t1
  have e : c.stepE (shM r (T + v)) = 0 := by
    unfold Ck.stepE
    rw [if_neg (by omega), if_neg (by have := h.eh; omega)]
  refine ⟨e, ?_⟩
  have hi := Ck.step_i h.i (shM r (T + v))
  unfold Ck.stepC at hi ⊢
  rw [if_pos e] at hi ⊢
  exact ⟨hi, h.ep, rfl, fun k => by
    obtain ⟨T0, t0, t1, l⟩ := h.kn k
    exact ⟨T0, t0, by omega, l⟩⟩
theorem Hd.learn {u v : Int} (P : HdP p r b T) (u0 : 0 ≤ u) (u1 : u ≤ 1000000) (v0 : 0 ≤ v) (v1 : v ≤ 1000000) (h : Hd p r b T c) : c.learnE (b + T - shM r T - u) (b + T - shM r T + v) = 0 ∧ Hd p r b T (c.learnC (b + T - shM r T - u) (b + T - shM r T + v)) ∧ (c.learnC (b + T - shM r T - u) (b + T - shM r T + v)).k = true := by
  have b2 := shc_b P.p0 P.p1 P.r0 P.r1 P.t0 P.t1
  have es : shM r T = T + T * r / 1000000 := rfl
  have q0 := P.b0
  have q1 := P.b1
  obtain ⟨A, eA⟩ : ∃ A, A = b + T - shM r T - u := ⟨_, rfl⟩
  obtain ⟨B, eB⟩ : ∃ B, B = b + T - shM r T + v := ⟨_, rfl⟩
  rw [← eA, ← eB]
  have o : okB A B = true := okB_mk (by omega)
  have bb : c.bLo A ≤ b - T * r / 1000000 ∧ b - T * r / 1000000 ≤ c.bHi B ∧ -3000000 ≤ c.bLo A ∧ c.bHi B ≤ 3000000 := by
    unfold Ck.bLo Ck.bHi
    cases k : c.k with
    | false => simp only [Bool.false_eq_true, if_false]; omega
    | true =>
      obtain ⟨n1, n2, n3, n4, n5, n6, n7⟩ := h.n P k
      simp only [if_true]
      refine ⟨?_, ?_, ?_, ?_⟩
      · split <;> omega
      · split <;> omega
      · split <;> omega
      · split <;> omega
  have e : c.learnE A B = 0 := by
    unfold Ck.learnE
    rw [if_pos o]
    cases k : c.k with
    | false => rfl
    | true =>
      rw [if_pos rfl, if_pos (h.now P k).1, if_pos (by omega)]
  have hi := Ck.learn_i h.i A B
  refine ⟨e, ?_, ?_⟩
  · unfold Ck.learnC at hi ⊢
    rw [if_pos e] at hi ⊢
    exact ⟨hi, h.ep, h.eh, fun _ => ⟨T, P.t0, Int.le_refl _, h.eh, bb.1, bb.2.1, bb.2.2.1, bb.2.2.2⟩⟩
  · unfold Ck.learnC
    rw [if_pos e]
theorem Hd.point (P : HdP p r b T) (h : Hd p r b T c) : Hd p r b T c.pointC ∧ c.pointC.k = c.k ∧ (c.pointE ≠ 0 → c.pointC = c ∧ (c.k = true → c.pointE = 8)) ∧ (c.pointE = 0 → (c.t = true → c.l ≤ c.pointN) ∧ c.pointC.t = true ∧ c.pointC.l = c.pointN) := by
  have hi := Ck.point_i h.i
  by_cases e : c.pointE = 0
  · unfold Ck.pointC at hi ⊢
    rw [if_pos e] at hi ⊢
    refine ⟨⟨hi, h.ep, h.eh, h.kn⟩, rfl, fun n => absurd e n, fun _ => ⟨fun ht => ?_, rfl, ?_⟩⟩
    · unfold Ck.pointN; rw [if_pos e]; exact (Ck.pt_b (Ck.point_zero e).1).2 ht
    · unfold Ck.pointN; rw [if_pos e]
  · have ec : c.pointC = c := by unfold Ck.pointC; rw [if_neg e]
    rw [ec]
    refine ⟨h, rfl, fun _ => ⟨rfl, fun k => ?_⟩, fun n => absurd n e⟩
    have e0 := (h.now P k).1
    unfold Ck.pointE at e ⊢
    rw [if_pos e0] at e ⊢
    split
    · rfl
    · rename_i q; rw [if_neg q] at e; exact absurd rfl e
end
end Go.Proofs.YtigcliepeapcpajGreatDoor
namespace Go.Proofs.YtigcliepeapcpajGreatDoor
open Go.ChangeShapes Go.WideShapes Go.ChangeAt Go.RowKit
set_option linter.unusedVariables false

set_option maxHeartbeats 400000 in
theorem has_yes (a b n : Int) (w : World) (h : okB a b = true) (h1 : a ≤ n) (h2 : n ≤ b) :
    Calls Tryz.prog 14 #[.agg #[.int .i64 a, .int .i64 b], .int .i64 n] w fun e w' => e = .returned (.tuple #[.bool true, .nilIface]) ∧ Below w.heap.size w w' := by
  have cnt : Mark 0 := .mk _
  go_enter Tryz.func14, Tryz.ntmps14
  go_wp2_with (first | (go_at_call 28; have cq : Mark 0 := cnt; refine (check_ok _ _ _ h).mono ?_; clear cq cnt; have cnt : Mark 1 := .mk _; rintro e u0 ⟨rfl, hb0⟩; obtain ⟨hc0, hf0⟩ := bcell hb0; have hz0 := hb0.size; (try simp only [World.size_alloc, Nat.add_one_le_iff] at hz0); (try (have zb0_0 : w.heap.size < u0.heap.size := by omega))))
  go_ret2
  exact ⟨rfl, by (repeat (first | exact Below.refl _ _ | refine Below.alloc ?_ (by first | (simp; done) | (simp; omega) | omega) _ | refine Below.setCell ?_ (by first | (simp; done) | (simp; omega) | omega) _ | apply Below.drew | refine below_tr (by assumption) ?_))⟩

end Go.Proofs.YtigcliepeapcpajGreatDoor
