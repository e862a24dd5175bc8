/- What all texts of this seat lean on: marks by which a walk tells its calls apart, and worlds behind calls. What package drift answers of any numbers: check and divideUp. The plain numbers of a probe: its fault, the ends of its offset, which of some is the least wide; and why what two clocks truly differ by lies within. Why what two clocks truly differ by lies within the span of a probe: plain numbers alone. What drift.GrowTimes and drift.Grow answer of any numbers. What drift.GrowTimes answers of numbers that are right: the world is as it was. What package span answers: Check. Is it so of one of the first n: plain mathematics. What package span answers: checked (cut out of SpanAddC: for seats without Add). -/
import Derived.Test.YtadkgnbagmnkkakGreatDoorRows
import Derived.WalkKit
import Derived.ProofKit
import Derived.OpenShut
import Derived.Outline
import Derived.WalkLawsBesides
import Derived.IntWalk
import Derived.Deep.Draws
namespace Go.Proofs.YtadkgnbagmnkkakGreatDoor
open Go.ChangeShapes Go.WideShapes Go.ChangeAt Go.RowKit
set_option linter.unusedVariables false

def okB (lo hi : Int) : Bool := decide (lo ≤ hi ∧ -1000000000000 ≤ lo ∧ hi ≤ 1000000000000)
theorem okB_t {lo hi : Int} (h : okB lo hi = true) : lo ≤ hi ∧ -1000000000000 ≤ lo ∧ hi ≤ 1000000000000 := of_decide_eq_true h
theorem okB_f {lo hi : Int} (h : okB lo hi = false) : hi < lo ∨ lo < -1000000000000 ∨ 1000000000000 < hi := by
 have := of_decide_eq_false h; omega
theorem okB_mk {lo hi : Int} (h : lo ≤ hi ∧ -1000000000000 ≤ lo ∧ hi ≤ 1000000000000) : okB lo hi = true := decide_eq_true h
theorem okB_no {lo hi : Int} (h : hi < lo ∨ lo < -1000000000000 ∨ 1000000000000 < hi) : okB lo hi = false := decide_eq_false (by omega)

abbrev sp (lo hi : Int) : Value := .agg #[.int .i64 lo, .int .i64 hi]

theorem bcell {W w1 : World} (hb : Below W.heap.size W w1) : (∀ b o, b < W.heap.size → w1.cell? ⟨b, o, none⟩ = W.cell? ⟨b, o, none⟩) ∧ (∀ b o, b < W.heap.size → w1.frozen? ⟨b, o, none⟩ = W.frozen? ⟨b, o, none⟩) :=
 ⟨fun b o h => hb.cell (p := ⟨b, o, none⟩) h, fun b o h => hb.frozen (p := ⟨b, o, none⟩) h⟩

structure Mark (n : Nat) : Prop where
 of ::
theorem Mark.mk (n : Nat) : Mark n := Mark.of


theorem below_tr {w W w1 : World} (hb : Below W.heap.size W w1) (h : Below w.heap.size w W) : Below w.heap.size w w1 := h.trans (hb.mono h.size)
end Go.Proofs.YtadkgnbagmnkkakGreatDoor
namespace Go.Proofs.YtadkgnbagmnkkakGreatDoor
open Go.ChangeShapes Go.WideShapes Go.ChangeAt Go.RowKit
set_option linter.unusedVariables false
set_option linter.unusedSimpArgs false

set_option maxHeartbeats 1000000
def rdy (n p : Int) : Bool := decide (0 ≤ n ∧ n ≤ 1000000000000 ∧ 0 ≤ p ∧ p ≤ 1000)
theorem rdy_t {n p : Int} (h : rdy n p = true) : 0 ≤ n ∧ n ≤ 1000000000000 ∧ 0 ≤ p ∧ p ≤ 1000 := of_decide_eq_true h
theorem rdy_f {n p : Int} (h : rdy n p = false) : n < 0 ∨ 1000000000000 < n ∨ p < 0 ∨ 1000 < p := by
 have := of_decide_eq_false h; omega
theorem mul_low {a b : Int} (ha : 0 ≤ a) (hb : 0 ≤ b) : 0 ≤ a * b := Int.mul_nonneg ha hb
theorem mul_high {a b x y : Int} (ha : 0 ≤ a) (hb : 0 ≤ b) (hx : a ≤ x) (hy : b ≤ y) : a * b ≤ x * y := Int.mul_le_mul hx hy hb (by omega)
theorem np_b {n p : Int} (h1 : 0 ≤ n) (h2 : n ≤ 1000000000000) (h3 : 0 ≤ p) (h4 : p ≤ 1000) : 0 ≤ n * p ∧ n * p ≤ 1000000000000000 :=
 ⟨mul_low h1 h3, Int.le_trans (mul_high h1 h3 h2 h4) (by decide)⟩

theorem dcheck_ok (n p : Int) (w : World) (h : rdy n p = true) :
  Calls Tryz.prog 210 #[.int .i64 n, .int .i64 p] w fun e w' => e = .returned (.nilIface) ∧ Below w.heap.size w w' := by
 have q := rdy_t h
 obtain ⟨h1, h2, h3, h4⟩ := q
 clear h
 go_enter Tryz.func210, Tryz.ntmps210
 go_wp2
 go_ret
 exact ⟨rfl, by (repeat (first | exact Below.refl _ _ | refine Below.alloc ?_ (by first | (simp; done) | (simp; omega) | omega) _ | refine Below.setCell ?_ (by first | (simp; done) | (simp; omega) | omega) _ | apply Below.drew | refine below_tr (by assumption) ?_))⟩

theorem dcheck_no (n p : Int) (w : World) (h : rdy n p = false) :
  Calls Tryz.prog 210 #[.int .i64 n, .int .i64 p] w fun e w' => e = .returned (.iface 86 (.int .i64 1)) ∧ Below w.heap.size w w' := by
 have h' := rdy_f h
 clear h
 by_cases h1 : n < 0
 ·clear h'
  go_enter Tryz.func210, Tryz.ntmps210
  go_wp2
  go_ret
  exact ⟨rfl, Below.refl _ _⟩
 ·by_cases h2 : 1000000000000 < n
  ·clear h'
   go_enter Tryz.func210, Tryz.ntmps210
   go_wp2
   go_ret
   exact ⟨rfl, Below.refl _ _⟩
  ·by_cases h3 : p < 0
   ·clear h'
    go_enter Tryz.func210, Tryz.ntmps210
    go_wp2
    go_ret
    exact ⟨rfl, Below.refl _ _⟩
   ·have h4 : 1000 < p := by omega
    clear h'
    go_enter Tryz.func210, Tryz.ntmps210
    go_wp2
    go_ret
    exact ⟨rfl, Below.refl _ _⟩

theorem divideUp_is (a b : Int) (w : World) (h1 : 0 ≤ a) (h2 : a ≤ 2000000000000000000) (h3 : 1 ≤ b) (h4 : b ≤ 2000000) :
  Calls Tryz.prog 211 #[.int .i64 a, .int .i64 b] w fun e w' => e = .returned (.int .i64 ((a + b - 1) / b)) ∧ Below w.heap.size w w' := by
 go_enter Tryz.func211, Tryz.ntmps211
 go_wp2
 go_ret
 exact ⟨rfl, by (repeat (first | exact Below.refl _ _ | refine Below.alloc ?_ (by first | (simp; done) | (simp; omega) | omega) _ | refine Below.setCell ?_ (by first | (simp; done) | (simp; omega) | omega) _ | apply Below.drew | refine below_tr (by assumption) ?_))⟩

end Go.Proofs.YtadkgnbagmnkkakGreatDoor
namespace Go.Proofs.YtadkgnbagmnkkakGreatDoor
set_option linter.unusedVariables false

def tmB (n : Int) : Bool := decide (-1000000000000 ≤ n ∧ n ≤ 1000000000000)
theorem tmB_t {n : Int} (h : tmB n = true) : -1000000000000 ≤ n ∧ n ≤ 1000000000000 := of_decide_eq_true h
theorem tmB_f {n : Int} (h : tmB n = false) : n < -1000000000000 ∨ 1000000000000 < n := by
 have := of_decide_eq_false h; omega
theorem tmB_mk {n : Int} (h : -1000000000000 ≤ n ∧ n ≤ 1000000000000) : tmB n = true := decide_eq_true h

def pE (a b c d : Int) : Int := if tmB a = true ∧ tmB b = true ∧ tmB c = true ∧ tmB d = true then (if d < a ∨ c < b then 3 else 0) else 1
def oH (a b d p : Int) : Int := b - a + 2 + ((d - a) * 3 * p + 1000000 - 1) / 1000000
def oE (a b c d p : Int) : Int :=
 if pE a b c d = 0 then
  if rdy (d - a) p = true then
   if tmB (c - d) = true ∧ tmB (oH a b d p) = true then (if oH a b d p < c - d then 7 else 0) else 1
  else 1
 else pE a b c d

theorem pE_zero {a b c d : Int} (h : pE a b c d = 0) : tmB a = true ∧ tmB b = true ∧ tmB c = true ∧ tmB d = true ∧ a ≤ d ∧ b ≤ c := by
 unfold pE at h
 split at h
 ·rename_i k
  split at h
  ·omega
  ·exact ⟨k.1, k.2.1, k.2.2.1, k.2.2.2, by omega, by omega⟩
 ·omega
theorem pE_some {a b c d : Int} (h : pE a b c d ≠ 0) : (pE a b c d = 1 ∧ (tmB a = false ∨ tmB b = false ∨ tmB c = false ∨ tmB d = false)) ∨
  (pE a b c d = 3 ∧ tmB a = true ∧ tmB b = true ∧ tmB c = true ∧ tmB d = true ∧ (d < a ∨ c < b)) := by
 unfold pE at h ⊢
 split at h
 ·rename_i k
  rw [if_pos k]
  split at h
  ·rename_i k2
   rw [if_pos k2]
   exact Or.inr ⟨rfl, k.1, k.2.1, k.2.2.1, k.2.2.2, k2⟩
  ·exact absurd rfl h
 ·rename_i k
  rw [if_neg k]
  refine Or.inl ⟨rfl, ?_⟩
  cases h1 : tmB a <;> cases h2 : tmB b <;> cases h3 : tmB c <;> cases h4 : tmB d <;> simp_all
theorem oE_p {a b c d p : Int} (h : pE a b c d ≠ 0) : oE a b c d p = pE a b c d := by unfold oE; rw [if_neg h]
theorem oE_rdy {a b c d p : Int} (h : pE a b c d = 0) (k : rdy (d - a) p = false) : oE a b c d p = 1 := by
 unfold oE; rw [if_pos h, if_neg (by simp [k])]
theorem oE_lo {a b c d p : Int} (h : pE a b c d = 0) (k : rdy (d - a) p = true) (l : tmB (c - d) = false) : oE a b c d p = 1 := by
 unfold oE; rw [if_pos h, if_pos k, if_neg (by simp [l])]
theorem oE_hi {a b c d p : Int} (h : pE a b c d = 0) (k : rdy (d - a) p = true) (l : tmB (oH a b d p) = false) : oE a b c d p = 1 := by
 unfold oE; rw [if_pos h, if_pos k, if_neg (by simp [l])]
theorem oE_clash {a b c d p : Int} (h : pE a b c d = 0) (k : rdy (d - a) p = true) (l : tmB (c - d) = true) (m : tmB (oH a b d p) = true) (n : oH a b d p < c - d) : oE a b c d p = 7 := by
 unfold oE; rw [if_pos h, if_pos k, if_pos ⟨l, m⟩, if_pos n]
theorem oE_fine {a b c d p : Int} (h : pE a b c d = 0) (k : rdy (d - a) p = true) (l : tmB (c - d) = true) (m : tmB (oH a b d p) = true) (n : c - d ≤ oH a b d p) : oE a b c d p = 0 := by
 unfold oE; rw [if_pos h, if_pos k, if_pos ⟨l, m⟩, if_neg (by omega)]
theorem oE_zero {a b c d p : Int} (h : oE a b c d p = 0) : pE a b c d = 0 ∧ rdy (d - a) p = true ∧ tmB (c - d) = true ∧ tmB (oH a b d p) = true ∧ c - d ≤ oH a b d p := by
 unfold oE at h
 split at h
 ·rename_i k
  split at h
  ·rename_i k2
   split at h
   ·rename_i k3
    split at h
    ·omega
    ·exact ⟨k, k2, k3.1, k3.2, by omega⟩
   ·omega
  ·omega
 ·contradiction
structure P4 where
 a : Int
 b : Int
 c : Int
 d : Int
def P4.e (q : P4) (p : Int) : Int := oE q.a q.b q.c q.d p
def P4.lo (q : P4) : Int := q.c - q.d
def P4.hi (q : P4) (p : Int) : Int := oH q.a q.b q.d p
def P4.w (q : P4) (p : Int) : Int := q.hi p - q.lo
def sh (s r t : Int) : Int := s + t + t * r / 1000000

theorem rate_b {d r p : Int} (hd : 0 ≤ d) (h1 : -p ≤ r) (h2 : r ≤ p) : -(d * p) ≤ d * r ∧ d * r ≤ d * p := by
 have a := Int.mul_le_mul_of_nonneg_left h2 hd
 have b := Int.mul_le_mul_of_nonneg_left h1 hd
 rw [Int.mul_neg] at b
 exact ⟨b, a⟩
theorem sh_step {s r t d : Int} : 1000000 * (sh s r (t + d) - sh s r t) ≤ d * 1000000 + d * r + 999999 ∧ d * 1000000 + d * r - 999999 ≤ 1000000 * (sh s r (t + d) - sh s r t) := by
 unfold sh
 rw [Int.add_mul]
 generalize t * r = X
 generalize d * r = Y
 omega
theorem sh_mono {s r t d : Int} (hd : 0 ≤ d) (h1 : -1000 ≤ r) (h2 : r ≤ 1000) : sh s r t ≤ sh s r (t + d) := by
 have h := rate_b hd h1 h2
 unfold sh
 rw [Int.add_mul]
 generalize t * r = X at *
 generalize d * r = Y at *
 omega
theorem slack {x N d D ppm rb ra : Int} (hd : 0 ≤ d) (hD : d ≤ D) (hp0 : 0 ≤ ppm) (hp : ppm ≤ 1000) (a1 : -ppm ≤ ra) (a2 : ra ≤ ppm) (b1 : -ppm ≤ rb) (b2 : rb ≤ ppm) (hN0 : 0 ≤ N)
  (hx : 1000000 * x ≤ d * 1000000 + d * rb + 999999) (hN : D * 1000000 + D * ra - 999999 ≤ 1000000 * N) : x - N ≤ 2 + (N * 3 * ppm + 1000000 - 1) / 1000000 := by
 have c1 := (rate_b hd b1 b2).2
 have c2 := (rate_b (show 0 ≤ D by omega) a1 a2).1
 have c3 : d * ppm ≤ D * ppm := Int.mul_le_mul_of_nonneg_right hD hp0
 have n0 : 0 ≤ N * ppm := Int.mul_nonneg hN0 hp0
 have e3 : N * 3 * ppm = 3 * (N * ppm) := by rw [Int.mul_comm N 3, Int.mul_assoc]
 have d0 : D * ppm ≤ D * 1000 := Int.mul_le_mul_of_nonneg_left hp (by omega)
 rw [e3]
 by_cases h4 : 4 ≤ D
 ·have x4 : 4 * ppm ≤ D * ppm := Int.mul_le_mul_of_nonneg_right h4 hp0
  -- 1000000 * N ≥ D * 1000000 - D * ppm - 999999 ≥ 999000 * D - 999999
  have hN2 : 999000 * D - 999999 ≤ 1000000 * N := by omega
  have hN3 := Int.mul_le_mul_of_nonneg_right hN2 hp0
  have e1 : (999000 * D - 999999) * ppm = 999000 * (D * ppm) - 999999 * ppm := by rw [Int.sub_mul, Int.mul_assoc]
  have e2 : 1000000 * N * ppm = 1000000 * (N * ppm) := by rw [Int.mul_assoc]
  rw [e1, e2] at hN3
  generalize D * ppm = X at *
  generalize N * ppm = Y at *
  generalize D * ra = Z at *
  generalize d * rb = V at *
  generalize d * ppm = U at *
  omega
 ·have dp0 : d * ppm ≤ d * 1000 := Int.mul_le_mul_of_nonneg_left hp hd
  generalize N * ppm = Y at *
  generalize D * ra = Z at *
  generalize d * rb = V at *
  generalize D * ppm = X at *
  generalize d * ppm = U at *
  omega
end Go.Proofs.YtadkgnbagmnkkakGreatDoor
namespace Go.Proofs.YtadkgnbagmnkkakGreatDoor
open Go.ChangeShapes Go.WideShapes Go.ChangeAt Go.RowKit
set_option linter.unusedVariables false
set_option linter.unusedSimpArgs false

set_option maxHeartbeats 1000000
theorem nt_b {n t p : Int} (h1 : 0 ≤ n) (h2 : n ≤ 1000000000000) (h5 : 0 ≤ t) (h6 : t ≤ 1000) (h3 : 0 ≤ p) (h4 : p ≤ 1000) : 0 ≤ n * t ∧ n * t ≤ 1000000000000000 ∧ 0 ≤ n * t * p ∧ n * t * p ≤ 1000000000000000000 := by
 obtain ⟨a, b⟩ := np_b h1 h2 h5 h6
 exact ⟨a, b, mul_low a h3, Int.le_trans (mul_high a h3 b h4) (by decide)⟩

theorem growT_ok (n t p : Int) (w : World) (h : rdy n p = true) (h5 : 0 ≤ t) (h6 : t ≤ 1000) :
  Calls Tryz.prog 206 #[.int .i64 n, .int .i64 t, .int .i64 p] w fun e w' => e = .returned (.tuple #[.int .i64 ((n * t * p + 1000000 - 1) / 1000000), .nilIface]) ∧ Below w.heap.size w w' := by
 have q := rdy_t h
 obtain ⟨h1, h2, h3, h4⟩ := q
 obtain ⟨b1, b2, b3, b4⟩ := nt_b h1 h2 h5 h6 h3 h4
 go_enter Tryz.func206, Tryz.ntmps206
 go_wp2_with (first | (go_at_call 210; refine (dcheck_ok _ _ _ (by assumption)).mono ?_; rintro e w1 ⟨rfl, hb⟩; obtain ⟨hc, hf⟩ := bcell hb; have hz := hb.size; (try simp only [World.size_alloc, Nat.add_one_le_iff] at hz); (try (have hz0 : w.heap.size < w1.heap.size := by omega)); (try (have hz1 : w.heap.size + 1 < w1.heap.size := by omega))) | (go_at_call 211; refine (divideUp_is _ _ _ (by omega) (by omega) (by omega) (by omega)).mono ?_; rintro e w1 ⟨rfl, hb⟩; obtain ⟨hc, hf⟩ := bcell hb; have hz := hb.size; (try simp only [World.size_alloc, Nat.add_one_le_iff] at hz); (try (have hz0 : w.heap.size < w1.heap.size := by omega)); (try (have hz1 : w.heap.size + 1 < w1.heap.size := by omega))))
 go_ret2
 exact ⟨rfl, by (repeat (first | exact Below.refl _ _ | refine Below.alloc ?_ (by first | (simp; done) | (simp; omega) | omega) _ | refine Below.setCell ?_ (by first | (simp; done) | (simp; omega) | omega) _ | apply Below.drew | refine below_tr (by assumption) ?_))⟩

theorem growT_no (n t p : Int) (w : World) (h : rdy n p = false) :
  Calls Tryz.prog 206 #[.int .i64 n, .int .i64 t, .int .i64 p] w fun e w' => e = .returned (.tuple #[.int .i64 0, .iface 86 (.int .i64 1)]) ∧ Below w.heap.size w w' := by
 go_enter Tryz.func206, Tryz.ntmps206
 go_wp2_with (first | (go_at_call 210; refine (dcheck_no _ _ _ (by assumption)).mono ?_; rintro e w1 ⟨rfl, hb⟩; obtain ⟨hc, hf⟩ := bcell hb; have hz := hb.size; (try simp only [World.size_alloc, Nat.add_one_le_iff] at hz); (try (have hz0 : w.heap.size < w1.heap.size := by omega)); (try (have hz1 : w.heap.size + 1 < w1.heap.size := by omega))))
 go_ret2
 exact ⟨rfl, by (repeat (first | exact Below.refl _ _ | refine Below.alloc ?_ (by first | (simp; done) | (simp; omega) | omega) _ | refine Below.setCell ?_ (by first | (simp; done) | (simp; omega) | omega) _ | apply Below.drew | refine below_tr (by assumption) ?_))⟩


set_option maxHeartbeats 1000000
theorem dcheck_same (n p : Int) (w : World) (h : rdy n p = true) :
  Calls Tryz.prog 210 #[.int .i64 n, .int .i64 p] w fun e w' => e = .returned (.nilIface) ∧ w' = w := by
 have q := rdy_t h
 obtain ⟨h1, h2, h3, h4⟩ := q
 clear h
 go_enter Tryz.func210, Tryz.ntmps210
 go_wp2
 go_ret
 exact ⟨rfl, rfl⟩
theorem divideUp_same (a b : Int) (w : World) (h1 : 0 ≤ a) (h2 : a ≤ 2000000000000000000) (h3 : 1 ≤ b) (h4 : b ≤ 2000000) :
  Calls Tryz.prog 211 #[.int .i64 a, .int .i64 b] w fun e w' => e = .returned (.int .i64 ((a + b - 1) / b)) ∧ w' = w := by
 go_enter Tryz.func211, Tryz.ntmps211
 go_wp2
 go_ret
 exact ⟨rfl, rfl⟩
theorem growT_same (n t p : Int) (w : World) (h : rdy n p = true) (h5 : 0 ≤ t) (h6 : t ≤ 1000) :
  Calls Tryz.prog 206 #[.int .i64 n, .int .i64 t, .int .i64 p] w fun e w' => e = .returned (.tuple #[.int .i64 ((n * t * p + 1000000 - 1) / 1000000), .nilIface]) ∧ w' = w := by
 have q := rdy_t h
 obtain ⟨h1, h2, h3, h4⟩ := q
 obtain ⟨b1, b2, b3, b4⟩ := nt_b h1 h2 h5 h6 h3 h4
 go_enter Tryz.func206, Tryz.ntmps206
 go_wp2_with (first | (go_at_call 210; refine (dcheck_same _ _ _ (by assumption)).mono ?_; rintro e w1 ⟨rfl, hu⟩; rw [hu]; clear hu) | (go_at_call 211; refine (divideUp_same _ _ _ (by omega) (by omega) (by omega) (by omega)).mono ?_; rintro e w1 ⟨rfl, hu⟩; rw [hu]; clear hu))
 go_ret2
 exact ⟨rfl, rfl⟩
end Go.Proofs.YtadkgnbagmnkkakGreatDoor
namespace Go.Proofs.YtadkgnbagmnkkakGreatDoor
open Go.ChangeShapes Go.WideShapes Go.ChangeAt Go.RowKit
set_option linter.unusedVariables false

theorem check_ok (lo hi : Int) (w : World) (h : okB lo hi = true) :
  Calls Tryz.prog 32 #[.agg #[.int .i64 lo, .int .i64 hi]] w fun e w' => e = .returned .nilIface ∧ Below w.heap.size w w' := by
 have h' := okB_t h
 obtain ⟨h1, h2, h3⟩ := h'
 clear h
 go_enter Tryz.func32, Tryz.ntmps32
 go_wp2
 go_ret
 exact ⟨rfl, (Below.refl _ _).alloc (Nat.le_refl _) _⟩

theorem check_no (lo hi : Int) (w : World) (h : okB lo hi = false) :
  Calls Tryz.prog 32 #[.agg #[.int .i64 lo, .int .i64 hi]] w fun e w' => e = .returned (.iface 86 (.int .i64 1)) ∧ Below w.heap.size w w' := by
 have h' := okB_f h
 clear h
 by_cases h1 : hi < lo
 ·go_enter Tryz.func32, Tryz.ntmps32
  go_wp2
  go_ret
  exact ⟨rfl, (Below.refl _ _).alloc (Nat.le_refl _) _⟩
 ·by_cases h2 : lo < -1000000000000
  ·go_enter Tryz.func32, Tryz.ntmps32
   go_wp2
   go_ret
   exact ⟨rfl, (Below.refl _ _).alloc (Nat.le_refl _) _⟩
  ·have h3 : 1000000000000 < hi := by omega
   clear h'
   go_enter Tryz.func32, Tryz.ntmps32
   go_wp2
   go_ret
   exact ⟨rfl, (Below.refl _ _).alloc (Nat.le_refl _) _⟩
end Go.Proofs.YtadkgnbagmnkkakGreatDoor
namespace Go.Proofs.YtadkgnbagmnkkakGreatDoor
set_option linter.unusedVariables false

def anyB (p : Nat → Bool) : Nat → Bool
 | 0 => false
 | n + 1 => anyB p n || p n
theorem anyB_no {p : Nat → Bool} : ∀ {n : Nat}, (∀ i, i < n → p i = false) → anyB p n = false
 | 0, _ => rfl
 | n + 1, h => by simp only [anyB]; rw [anyB_no (fun i hi => h i (by omega)), h n (by omega)]; rfl
theorem anyB_yes {p : Nat → Bool} : ∀ {n k : Nat}, k < n → p k = true → anyB p n = true
 | 0, k, h, _ => by omega
 | n + 1, k, h, e => by
  simp only [anyB]
  by_cases q : k = n
  ·rw [← q, e, Bool.or_true]
  ·rw [anyB_yes (show k < n by omega) e]; rfl
theorem anyB_iff {p : Nat → Bool} {n : Nat} : anyB p n = true ↔ ∃ k, k < n ∧ p k = true := by
 constructor
 ·intro h
  apply Classical.byContradiction
  intro no
  have := anyB_no (p := p) (n := n) (fun i hi => by
   cases e : p i with
   | false => rfl
   | true => exact absurd ⟨i, hi, e⟩ no)
  rw [this] at h
  cases h
 ·rintro ⟨k, h1, h2⟩
  exact anyB_yes h1 h2
end Go.Proofs.YtadkgnbagmnkkakGreatDoor
namespace Go.Proofs.YtadkgnbagmnkkakGreatDoor
open Go.ChangeShapes Go.WideShapes Go.ChangeAt Go.RowKit
set_option linter.unusedVariables false




end Go.Proofs.YtadkgnbagmnkkakGreatDoor
