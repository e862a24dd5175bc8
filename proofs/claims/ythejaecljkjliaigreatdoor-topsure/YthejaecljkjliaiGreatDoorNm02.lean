/- The plain numbers of a probe: its fault, the ends of its offset, which of some is the least wide; and why what two clocks truly differ by lies within. Why what two clocks truly differ by lies within the span of a probe: plain numbers alone. A node that knows of others: plain mathematics. What a node knows of another one stays true while clocks go on: plain numbers alone. A net of nodes, in a world of clocks: plain mathematics. Worlds that keep all but some blocks. Errors by their numbers. Numbers in a row, as they are handed over; errors by their numbers. Bools and spans in a row, as they are handed over. Numbers in a row of a law's own. Two rows of a call's own: spans, and whether each is known; while they are filled. noonsame.Error, where it is another error, or none. -/
import Derived.Test.YthejaecljkjliaiGreatDoorNm01
import Derived.OwnWalk
import Derived.WalkSmall
import Derived.WalkArith
import Derived.Laws.AppendOwnNone
import Derived.Deep.CutRange
import Derived.Test.YthejaecljkjliaiGreatDoorTold
namespace Go.Proofs.YthejaecljkjliaiGreatDoor
set_option linter.unusedVariables false

def tmB (n : Int) : Bool := decide (-1000000000000 ≤ n ∧ n ≤ 1000000000000)
theorem tmB_t {n : Int} (h : tmB n = true) : -1000000000000 ≤ n ∧ n ≤ 1000000000000 := of_decide_eq_true h
theorem tmB_f {n : Int} (h : tmB n = false) : n < -1000000000000 ∨ 1000000000000 < n := by
  have := of_decide_eq_false h; omega
theorem tmB_mk {n : Int} (h : -1000000000000 ≤ n ∧ n ≤ 1000000000000) : tmB n = true := decide_eq_true h
theorem tmB_no {n : Int} (h : n < -1000000000000 ∨ 1000000000000 < n) : tmB n = false := decide_eq_false (by omega)

/-- The fault of a probe: 0 none, 1 a time is out of range, 3 a clock went back. -/
def pE (a b c d : Int) : Int := if tmB a = true ∧ tmB b = true ∧ tmB c = true ∧ tmB d = true then (if d < a ∨ c < b then 3 else 0) else 1
def oH (a b d p : Int) : Int := b - a + 2 + ((d - a) * 3 * p + 1000000 - 1) / 1000000
/-- The fault of its offset. -/
def oE (a b c d p : Int) : Int :=
  if pE a b c d = 0 then
    if rdy (d - a) p = true then
      if tmB (c - d) = true ∧ tmB (oH a b d p) = true then (if oH a b d p < c - d then 7 else 0) else 1
    else 1
  else pE a b c d

theorem pE_zero {a b c d : Int} (h : pE a b c d = 0) : tmB a = true ∧ tmB b = true ∧ tmB c = true ∧ tmB d = true ∧ a ≤ d ∧ b ≤ c := by
  unfold pE at h
  split at h
  · rename_i k
    split at h
    · omega
    · exact ⟨k.1, k.2.1, k.2.2.1, k.2.2.2, by omega, by omega⟩
  · omega
theorem pE_some {a b c d : Int} (h : pE a b c d ≠ 0) : (pE a b c d = 1 ∧ (tmB a = false ∨ tmB b = false ∨ tmB c = false ∨ tmB d = false)) ∨
    (pE a b c d = 3 ∧ tmB a = true ∧ tmB b = true ∧ tmB c = true ∧ tmB d = true ∧ (d < a ∨ c < b)) := by
  unfold pE at h ⊢
  split at h
  · rename_i k
    rw [if_pos k]
    split at h
    · rename_i k2
      rw [if_pos k2]
      exact Or.inr ⟨rfl, k.1, k.2.1, k.2.2.1, k.2.2.2, k2⟩
    · exact absurd rfl h
  · rename_i k
    rw [if_neg k]
    refine Or.inl ⟨rfl, ?_⟩
    cases h1 : tmB a <;> cases h2 : tmB b <;> cases h3 : tmB c <;> cases h4 : tmB d <;> simp_all
theorem oE_p {a b c d p : Int} (h : pE a b c d ≠ 0) : oE a b c d p = pE a b c d := by unfold oE; rw [if_neg h]
theorem oE_rdy {a b c d p : Int} (h : pE a b c d = 0) (k : rdy (d - a) p = false) : oE a b c d p = 1 := by
  unfold oE; rw [if_pos h, if_neg (by simp [k])]
theorem oE_lo {a b c d p : Int} (h : pE a b c d = 0) (k : rdy (d - a) p = true) (l : tmB (c - d) = false) : oE a b c d p = 1 := by
  unfold oE; rw [if_pos h, if_pos k, if_neg (by simp [l])]
theorem oE_hi {a b c d p : Int} (h : pE a b c d = 0) (k : rdy (d - a) p = true) (l : tmB (oH a b d p) = false) : oE a b c d p = 1 := by
  unfold oE; rw [if_pos h, if_pos k, if_neg (by simp [l])]
theorem oE_clash {a b c d p : Int} (h : pE a b c d = 0) (k : rdy (d - a) p = true) (l : tmB (c - d) = true) (m : tmB (oH a b d p) = true) (n : oH a b d p < c - d) : oE a b c d p = 7 := by
  unfold oE; rw [if_pos h, if_pos k, if_pos ⟨l, m⟩, if_pos n]
theorem oE_fine {a b c d p : Int} (h : pE a b c d = 0) (k : rdy (d - a) p = true) (l : tmB (c - d) = true) (m : tmB (oH a b d p) = true) (n : c - d ≤ oH a b d p) : oE a b c d p = 0 := by
  unfold oE; rw [if_pos h, if_pos k, if_pos ⟨l, m⟩, if_neg (by omega)]
theorem oE_zero {a b c d p : Int} (h : oE a b c d p = 0) : pE a b c d = 0 ∧ rdy (d - a) p = true ∧ tmB (c - d) = true ∧ tmB (oH a b d p) = true ∧ c - d ≤ oH a b d p := by
  unfold oE at h
  split at h
  · rename_i k
    split at h
    · rename_i k2
      split at h
      · rename_i k3
        split at h
        · omega
        · exact ⟨k, k2, k3.1, k3.2, by omega⟩
      · omega
    · omega
  · contradiction
/-- A probe, as its four times. -/
structure P4 where
  a : Int
  b : Int
  c : Int
  d : Int
def P4.e (q : P4) (p : Int) : Int := oE q.a q.b q.c q.d p
def P4.lo (q : P4) : Int := q.c - q.d
def P4.hi (q : P4) (p : Int) : Int := oH q.a q.b q.d p
def P4.w (q : P4) (p : Int) : Int := q.hi p - q.lo
/-- Which of the first k (each without fault) is the least wide, the first of such. -/
def bst (q : Nat → P4) (p : Int) : Nat → Nat
  | 0 => 0
  | k + 1 => if k = 0 ∨ (q k).w p < (q (bst q p k)).w p then k else bst q p k
theorem bst_lt (q : Nat → P4) (p : Int) : ∀ k, 0 < k → bst q p k < k := by
  intro k
  induction k with
  | zero => intro h; omega
  | succ k ih =>
    intro _
    unfold bst
    split
    · omega
    · rename_i hk
      have := ih (by omega)
      omega
theorem bst_least (q : Nat → P4) (p : Int) : ∀ k i, i < k → (q (bst q p k)).w p ≤ (q i).w p := by
  intro k
  induction k with
  | zero => intro i h; omega
  | succ k ih =>
    intro i hi
    unfold bst
    split
    · rename_i hk
      by_cases e : i = k
      · subst e; exact Int.le_refl _
      · have := ih i (by omega)
        rcases hk with h0 | h1 <;> omega
    · rename_i hk
      by_cases e : i = k
      · subst e; omega
      · exact ih i (by omega)
theorem bst_take (q : Nat → P4) (p : Int) (k : Nat) (h : k = 0 ∨ (q k).w p < (q (bst q p k)).w p) : bst q p (k + 1) = k := by
  show (if _ then k else _) = k; rw [if_pos h]
theorem bst_stay (q : Nat → P4) (p : Int) (k : Nat) (h0 : 0 < k) (h : (q (bst q p k)).w p ≤ (q k).w p) : bst q p (k + 1) = bst q p k := by
  show (if _ then k else _) = _; rw [if_neg (by omega)]
theorem w_bound {q : P4} {p : Int} (h : q.e p = 0) : -1000000000000 ≤ q.lo ∧ q.lo ≤ q.hi p ∧ q.hi p ≤ 1000000000000 := by
  obtain ⟨_, _, h3, h4, h5⟩ := oE_zero h
  have := tmB_t h3
  have := tmB_t h4
  exact ⟨by unfold P4.lo; omega, h5, by unfold P4.hi; omega⟩
end Go.Proofs.YthejaecljkjliaiGreatDoor
namespace Go.Proofs.YthejaecljkjliaiGreatDoor
set_option linter.unusedVariables false

/-- What a clock shows that began at s and goes at rate r, at time t. -/
def sh (s r t : Int) : Int := s + t + t * r / 1000000

theorem rate_b {d r p : Int} (hd : 0 ≤ d) (h1 : -p ≤ r) (h2 : r ≤ p) : -(d * p) ≤ d * r ∧ d * r ≤ d * p := by
  have a := Int.mul_le_mul_of_nonneg_left h2 hd
  have b := Int.mul_le_mul_of_nonneg_left h1 hd
  rw [Int.mul_neg] at b
  exact ⟨b, a⟩
theorem sh_step {s r t d : Int} : 1000000 * (sh s r (t + d) - sh s r t) ≤ d * 1000000 + d * r + 999999 ∧ d * 1000000 + d * r - 999999 ≤ 1000000 * (sh s r (t + d) - sh s r t) := by
  unfold sh
  rw [Int.add_mul]
  generalize t * r = X
  generalize d * r = Y
  omega
theorem sh_mono {s r t d : Int} (hd : 0 ≤ d) (h1 : -1000 ≤ r) (h2 : r ≤ 1000) : sh s r t ≤ sh s r (t + d) := by
  have h := rate_b hd h1 h2
  unfold sh
  rw [Int.add_mul]
  generalize t * r = X at *
  generalize d * r = Y at *
  omega
theorem sh_b {s r t : Int} (ht : 0 ≤ t) (hu : t ≤ 400000000) (h1 : -1000 ≤ r) (h2 : r ≤ 1000) : s - 500000 ≤ sh s r t ∧ sh s r t ≤ s + 401000000 := by
  have h := rate_b ht h1 h2
  unfold sh
  generalize t * r = X at *
  omega
theorem slack {x N d D ppm rb ra : Int} (hd : 0 ≤ d) (hD : d ≤ D) (hp0 : 0 ≤ ppm) (hp : ppm ≤ 1000) (a1 : -ppm ≤ ra) (a2 : ra ≤ ppm) (b1 : -ppm ≤ rb) (b2 : rb ≤ ppm) (hN0 : 0 ≤ N)
    (hx : 1000000 * x ≤ d * 1000000 + d * rb + 999999) (hN : D * 1000000 + D * ra - 999999 ≤ 1000000 * N) : x - N ≤ 2 + (N * 3 * ppm + 1000000 - 1) / 1000000 := by
  have c1 := (rate_b hd b1 b2).2
  have c2 := (rate_b (show 0 ≤ D by omega) a1 a2).1
  have c3 : d * ppm ≤ D * ppm := Int.mul_le_mul_of_nonneg_right hD hp0
  have n0 : 0 ≤ N * ppm := Int.mul_nonneg hN0 hp0
  have e3 : N * 3 * ppm = 3 * (N * ppm) := by rw [Int.mul_comm N 3, Int.mul_assoc]
  have d0 : D * ppm ≤ D * 1000 := Int.mul_le_mul_of_nonneg_left hp (by omega)
  rw [e3]
  by_cases h4 : 4 ≤ D
  · have x4 : 4 * ppm ≤ D * ppm := Int.mul_le_mul_of_nonneg_right h4 hp0
    -- 1000000 * N ≥ D * 1000000 - D * ppm - 999999 ≥ 999000 * D - 999999
    have hN2 : 999000 * D - 999999 ≤ 1000000 * N := by omega
    have hN3 := Int.mul_le_mul_of_nonneg_right hN2 hp0
    have e1 : (999000 * D - 999999) * ppm = 999000 * (D * ppm) - 999999 * ppm := by rw [Int.sub_mul, Int.mul_assoc]
    have e2 : 1000000 * N * ppm = 1000000 * (N * ppm) := by rw [Int.mul_assoc]
    rw [e1, e2] at hN3
    generalize D * ppm = X at *
    generalize N * ppm = Y at *
    generalize D * ra = Z at *
    generalize d * rb = V at *
    generalize d * ppm = U at *
    omega
  · have dp0 : d * ppm ≤ d * 1000 := Int.mul_le_mul_of_nonneg_left hp hd
    generalize N * ppm = Y at *
    generalize D * ra = Z at *
    generalize d * rb = V at *
    generalize D * ppm = X at *
    generalize d * ppm = U at *
    omega
theorem probe_true {start ra rb ppm begin there stay back T1 T2 T3 T4 B4 : Int} (s1 : -1000000 ≤ start) (s2 : start ≤ 1000000) (p1 : 0 ≤ ppm) (p2 : ppm ≤ 1000) (a1 : -ppm ≤ ra) (a2 : ra ≤ ppm) (b1 : -ppm ≤ rb) (b2 : rb ≤ ppm)
    (t1 : 0 ≤ begin) (t2 : begin ≤ 100000000) (u1 : 0 ≤ there) (u2 : there ≤ 100000000) (v1 : 0 ≤ stay) (v2 : stay ≤ 100000000) (w1 : 0 ≤ back) (w2 : back ≤ 100000000)
    (e1 : T1 = sh 0 ra begin) (e2 : T2 = sh start rb (begin + there)) (e3 : T3 = sh start rb (begin + there + stay)) (e4 : T4 = sh 0 ra (begin + there + stay + back)) (e5 : B4 = sh start rb (begin + there + stay + back)) :
    oE T1 T2 T3 T4 ppm = 0 ∧ T3 - T4 ≤ B4 - T4 ∧ B4 - T4 ≤ oH T1 T2 T4 ppm := by
  have q1 := sh_b (s := 0) (r := ra) t1 (by omega) (by omega) (by omega)
  have q2 := sh_b (s := start) (r := rb) (t := begin + there) (by omega) (by omega) (by omega) (by omega)
  have q3 := sh_b (s := start) (r := rb) (t := begin + there + stay) (by omega) (by omega) (by omega) (by omega)
  have q4 := sh_b (s := 0) (r := ra) (t := begin + there + stay + back) (by omega) (by omega) (by omega) (by omega)
  have q5 := sh_b (s := start) (r := rb) (t := begin + there + stay + back) (by omega) (by omega) (by omega) (by omega)
  have m1 := sh_mono (s := start) (r := rb) (t := begin + there) (d := stay) v1 (by omega) (by omega)
  have m2 := sh_mono (s := start) (r := rb) (t := begin + there + stay) (d := back) w1 (by omega) (by omega)
  have m3 := sh_mono (s := 0) (r := ra) (t := begin) (d := there + stay + back) (by omega) (by omega) (by omega)
  have st1 := (sh_step (s := start) (r := rb) (t := begin + there) (d := stay + back)).1
  have st2 := (sh_step (s := 0) (r := ra) (t := begin) (d := there + stay + back)).2
  have r1 : begin + (there + stay + back) = begin + there + stay + back := by omega
  have r2 : begin + there + (stay + back) = begin + there + stay + back := by omega
  rw [r1] at m3 st2
  rw [r2] at st1
  rw [← e1] at q1 m3 st2
  rw [← e2] at q2 m1 st1
  rw [← e3] at q3 m1 m2
  rw [← e4] at q4 m3 st2
  rw [← e5] at q5 m2 st1
  have sl := slack (x := B4 - T2) (N := T4 - T1) (d := stay + back) (D := there + stay + back) (by omega) (by omega) p1 p2 a1 a2 b1 b2 (by omega) st1 st2
  have hh : B4 - T4 ≤ oH T1 T2 T4 ppm := by unfold oH; omega
  have hu : oH T1 T2 T4 ppm ≤ 1000000000000 ∧ -1000000000000 ≤ oH T1 T2 T4 ppm := by
    have n1 : (T4 - T1) * 3 * ppm ≤ 402000000 * 3 * 1000 := mul_high (by omega) p1 (by omega) p2
    have n2 : 0 ≤ (T4 - T1) * 3 * ppm := mul_low (by omega) p1
    unfold oH
    generalize (T4 - T1) * 3 * ppm = X at *
    omega
  refine ⟨oE_fine ?_ (decide_eq_true (by omega)) (tmB_mk (by omega)) (tmB_mk (by omega)) (by omega), by omega, hh⟩
  unfold pE
  rw [if_pos ⟨tmB_mk (by omega), tmB_mk (by omega), tmB_mk (by omega), tmB_mk (by omega)⟩, if_neg (by omega)]
end Go.Proofs.YthejaecljkjliaiGreatDoor
namespace Go.Proofs.YthejaecljkjliaiGreatDoor
set_option linter.unusedVariables false

/-- Who it is, of how many, its rate, what it showed last; of which others it knows anything, what, and since when. -/
structure Nd where
  id : Nat
  n : Nat
  p : Int
  h : Int
  has : Nat → Bool
  lo : Nat → Int
  hi : Nat → Int
  at_ : Nat → Int
/-- Another value at one place. -/
def updN {α : Type} (f : Nat → α) (k : Nat) (x : α) : Nat → α := fun i => if i = k then x else f i
theorem updN_at {α : Type} (f : Nat → α) (k : Nat) (x : α) : updN f k x k = x := if_pos rfl
theorem updN_ne {α : Type} {f : Nat → α} {k i : Nat} {x : α} (h : i ≠ k) : updN f k x i = f i := if_neg h
namespace Nd
/-- How much wider it is by now. -/
def sk (c : Nd) (i : Nat) (t : Int) : Int := 2 + ((t - c.at_ i) * 3 * c.p + 1000000 - 1) / 1000000
def alo (c : Nd) (i : Nat) (t : Int) : Int := c.lo i - c.sk i t
def ahi (c : Nd) (i : Nat) (t : Int) : Int := c.hi i + c.sk i t
def made (id n : Nat) (p : Int) : Nd := ⟨id, n, p, -1, fun _ => false, fun _ => 0, fun _ => 0, fun _ => 0⟩
/-- It is no time to be told anything. -/
def bk (c : Nd) (t : Int) : Prop := t < 0 ∨ 1000000000000 < t ∨ t < c.h
/-- The letter is none for it. -/
def bad (c : Nd) (l : Lt) : Prop := l.to ≠ c.id ∨ l.frm = c.id ∨ l.frm < 0 ∨ (c.n : Int) ≤ l.frm
/-- What both have. -/
def bLo (c : Nd) (k : Nat) (t a : Int) : Int := if c.has k = true then (if a < c.alo k t then c.alo k t else a) else a
def bHi (c : Nd) (k : Nat) (t b : Int) : Int := if c.has k = true then (if c.ahi k t < b then c.ahi k t else b) else b
/-- What an answer says. -/
def oL (l : Lt) (t : Int) : Int := l.t - t
def oU (c : Nd) (l : Lt) (t : Int) : Int := oH l.t1 l.t2 t c.p
def kept (c : Nd) (k : Nat) (t a b : Int) : Nd := { c with h := t, has := updN c.has k true, lo := updN c.lo k a, hi := updN c.hi k b, at_ := updN c.at_ k t }
end Nd
/-- A letter is heard: what it is behind it, whether anything is kept, the fault. -/
def HearR (c : Nd) (l : Lt) (t : Int) (c' : Nd) (B : Bool) (e : Int) : Prop :=
  (c.bk t ∧ c' = c ∧ B = false ∧ e = 8) ∨
  (¬ c.bk t ∧ c.bad l ∧ c' = c ∧ B = false ∧ e = 3) ∨
  (¬ c.bk t ∧ ¬ c.bad l ∧ l.ans = false ∧ c' = { c with h := t } ∧ B = false ∧ e = 0) ∨
  (¬ c.bk t ∧ ¬ c.bad l ∧ l.ans = true ∧ oE l.t1 l.t2 l.t t c.p ≠ 0 ∧ c' = c ∧ B = false ∧ e = oE l.t1 l.t2 l.t t c.p) ∨
  (¬ c.bk t ∧ ¬ c.bad l ∧ l.ans = true ∧ oE l.t1 l.t2 l.t t c.p = 0 ∧ c.bHi l.frm.toNat t (c.oU l t) < c.bLo l.frm.toNat t (Nd.oL l t) ∧ c' = c ∧ B = false ∧ e = 7) ∨
  (¬ c.bk t ∧ ¬ c.bad l ∧ l.ans = true ∧ oE l.t1 l.t2 l.t t c.p = 0 ∧ c.bLo l.frm.toNat t (Nd.oL l t) ≤ c.bHi l.frm.toNat t (c.oU l t) ∧ c' = c.kept l.frm.toNat t (c.bLo l.frm.toNat t (Nd.oL l t)) (c.bHi l.frm.toNat t (c.oU l t)) ∧ B = true ∧ e = 0)
theorem hearR_some (c : Nd) (l : Lt) (t : Int) : ∃ c' B e, HearR c l t c' B e := by
  by_cases h1 : c.bk t
  · exact ⟨_, _, _, Or.inl ⟨h1, rfl, rfl, rfl⟩⟩
  by_cases h2 : c.bad l
  · exact ⟨_, _, _, Or.inr (Or.inl ⟨h1, h2, rfl, rfl, rfl⟩)⟩
  cases h3 : l.ans with
  | false => exact ⟨_, _, _, Or.inr (Or.inr (Or.inl ⟨h1, h2, h3, rfl, rfl, rfl⟩))⟩
  | true =>
    by_cases h4 : oE l.t1 l.t2 l.t t c.p = 0
    · by_cases h5 : c.bLo l.frm.toNat t (Nd.oL l t) ≤ c.bHi l.frm.toNat t (c.oU l t)
      · exact ⟨_, _, _, Or.inr (Or.inr (Or.inr (Or.inr (Or.inr ⟨h1, h2, h3, h4, h5, rfl, rfl, rfl⟩))))⟩
      · exact ⟨_, _, _, Or.inr (Or.inr (Or.inr (Or.inr (Or.inl ⟨h1, h2, h3, h4, by omega, rfl, rfl, rfl⟩))))⟩
    · exact ⟨_, _, _, Or.inr (Or.inr (Or.inr (Or.inl ⟨h1, h2, h3, h4, rfl, rfl, rfl⟩)))⟩
theorem hearR_uniq {c c1 c2 : Nd} {l : Lt} {t e1 e2 : Int} {B1 B2 : Bool} (h : HearR c l t c1 B1 e1) (h' : HearR c l t c2 B2 e2) : c1 = c2 ∧ B1 = B2 ∧ e1 = e2 := by
  rcases h with ⟨a, rfl, rfl, rfl⟩ | ⟨a, b, rfl, rfl, rfl⟩ | ⟨a, b, d, rfl, rfl, rfl⟩ | ⟨a, b, d, f, rfl, rfl, rfl⟩ | ⟨a, b, d, f, g, rfl, rfl, rfl⟩ | ⟨a, b, d, f, g, rfl, rfl, rfl⟩ <;>
  rcases h' with ⟨a', rfl, rfl, rfl⟩ | ⟨a', b', rfl, rfl, rfl⟩ | ⟨a', b', d', rfl, rfl, rfl⟩ | ⟨a', b', d', f', rfl, rfl, rfl⟩ | ⟨a', b', d', f', g', rfl, rfl, rfl⟩ | ⟨a', b', d', f', g', rfl, rfl, rfl⟩ <;>
  first | exact ⟨rfl, rfl, rfl⟩ | exact absurd a a' | exact absurd a' a | exact absurd b b' | exact absurd b' b | (rw [d] at d'; exact absurd d' (by decide)) | exact absurd f f' | exact absurd f' f | (exfalso; omega)
/-- What is always so. -/
structure Nd.I (c : Nd) : Prop where
  idn : c.id < c.n
  n6 : c.n ≤ 6
  p0 : 0 ≤ c.p
  p1 : c.p ≤ 1000
  h0 : -1 ≤ c.h
  h1 : c.h ≤ 1000000000000
  kn : ∀ i, c.has i = true → i < c.n ∧ i ≠ c.id ∧ okB (c.lo i) (c.hi i) = true ∧ 0 ≤ c.at_ i ∧ c.at_ i ≤ c.h
theorem Nd.made_i {id n : Nat} {p : Int} (h1 : id < n) (h2 : n ≤ 6) (h3 : 0 ≤ p) (h4 : p ≤ 1000) : (Nd.made id n p).I := ⟨h1, h2, h3, h4, by show (-1 : Int) ≤ -1; omega, by show (-1 : Int) ≤ 1000000000000; omega, fun i h => by cases h⟩
theorem HearR.i {c c' : Nd} {l : Lt} {t e : Int} {B : Bool} (h : HearR c l t c' B e) (g : c.I) : c'.I := by
  rcases h with ⟨_, rfl, _⟩ | ⟨_, _, rfl, _⟩ | ⟨a, _, _, rfl, _⟩ | ⟨_, _, _, _, rfl, _⟩ | ⟨_, _, _, _, _, rfl, _⟩ | ⟨a, b, _, f, q, rfl, _⟩
  · exact g
  · exact g
  · unfold Nd.bk at a
    exact ⟨g.idn, g.n6, g.p0, g.p1, by show -1 ≤ t; omega, by show t ≤ _; omega, fun i hi => by
      obtain ⟨k1, k2, k3, k4, k5⟩ := g.kn i hi
      exact ⟨k1, k2, k3, k4, by show c.at_ i ≤ t; omega⟩⟩
  · exact g
  · exact g
  · unfold Nd.bk at a
    unfold Nd.bad at b
    obtain ⟨z1, z2, z3, z4, z5⟩ := oE_zero f
    have m3 := tmB_t z3
    have m4 := tmB_t z4
    refine ⟨g.idn, g.n6, g.p0, g.p1, by show -1 ≤ t; omega, by show t ≤ _; omega, fun i hi => ?_⟩
    show i < c.n ∧ i ≠ c.id ∧ okB (updN c.lo _ _ i) (updN c.hi _ _ i) = true ∧ 0 ≤ updN c.at_ _ _ i ∧ updN c.at_ _ _ i ≤ t
    by_cases e : i = l.frm.toNat
    · subst e
      rw [updN_at, updN_at, updN_at]
      refine ⟨by omega, by omega, okB_mk ⟨q, ?_, ?_⟩, by omega, Int.le_refl _⟩
      · unfold Nd.bLo Nd.oL; split <;> (try split) <;> omega
      · unfold Nd.bHi Nd.oU; split <;> (try split) <;> omega
    · rw [updN_ne e, updN_ne e, updN_ne e]
      have hi' : c.has i = true := by
        have : updN c.has l.frm.toNat true i = true := hi
        rwa [updN_ne e] at this
      obtain ⟨k1, k2, k3, k4, k5⟩ := g.kn i hi'
      exact ⟨k1, k2, k3, k4, by omega⟩
/-- What it knows of all: the fault. -/
def SpR (c : Nd) (t e : Int) : Prop :=
  (c.bk t ∧ e = 8) ∨ (¬ c.bk t ∧ (∃ i, i < c.n ∧ c.has i = true ∧ okB (c.alo i t) (c.ahi i t) = false) ∧ e = 1) ∨ (¬ c.bk t ∧ (∀ i, i < c.n → c.has i = true → okB (c.alo i t) (c.ahi i t) = true) ∧ e = 0)
theorem spR_some (c : Nd) (t : Int) : ∃ e, SpR c t e := by
  by_cases h1 : c.bk t
  · exact ⟨8, Or.inl ⟨h1, rfl⟩⟩
  by_cases h2 : ∃ i, i < c.n ∧ c.has i = true ∧ okB (c.alo i t) (c.ahi i t) = false
  · exact ⟨1, Or.inr (Or.inl ⟨h1, h2, rfl⟩)⟩
  · refine ⟨0, Or.inr (Or.inr ⟨h1, fun i hi hh => ?_, rfl⟩)⟩
    cases e : okB (c.alo i t) (c.ahi i t) with
    | true => rfl
    | false => exact absurd ⟨i, hi, hh, e⟩ h2
theorem spR_uniq {c : Nd} {t e e' : Int} (h : SpR c t e) (h' : SpR c t e') : e = e' := by
  rcases h with ⟨a, rfl⟩ | ⟨a, ⟨i, hi, hh, b⟩, rfl⟩ | ⟨a, b, rfl⟩ <;> rcases h' with ⟨a', rfl⟩ | ⟨a', ⟨i', hi', hh', b'⟩, rfl⟩ | ⟨a', b', rfl⟩ <;>
  first | rfl | exact absurd a a' | exact absurd a' a | (have := b' i hi hh; rw [b] at this; cases this) | (have := b i' hi' hh'; rw [b'] at this; cases this)
/-- .. as spans, and whether anything is. -/
def Nd.so (c : Nd) (t : Int) (i : Nat) : Int × Int := if c.has i = true then (c.alo i t, c.ahi i t) else (0, 0)
def Nd.ho (c : Nd) (i : Nat) : Bool := c.has i || decide (i = c.id)
/-- .. as edges. -/
def Nd.eo (c : Nd) (t : Int) : List Eg := ((List.range c.n).filter (fun i => c.has i)).map (fun (i : Nat) => (⟨(c.id : Int), (i : Int), c.alo i t, c.ahi i t⟩ : Eg))
/-- How much wider it may be. -/
theorem Nd.sk_b {c : Nd} (g : c.I) {t : Int} (hb : ¬ c.bk t) {i : Nat} (hi : c.has i = true) : 0 ≤ (t - c.at_ i) * 3 * c.p ∧ (t - c.at_ i) * 3 * c.p ≤ 3000000000000000 ∧ 2 ≤ c.sk i t ∧ c.sk i t ≤ 3000000003 := by
  obtain ⟨k1, k2, k3, k4, k5⟩ := g.kn i hi
  unfold bk at hb
  have b1 : 0 ≤ (t - c.at_ i) * 3 := by omega
  have b2 : (t - c.at_ i) * 3 ≤ 3000000000000 := by omega
  have m1 := Int.mul_nonneg b1 g.p0
  have m2 : (t - c.at_ i) * 3 * c.p ≤ 3000000000000 * 1000 := Int.mul_le_mul b2 g.p1 g.p0 (by omega)
  unfold sk
  omega
end Go.Proofs.YthejaecljkjliaiGreatDoor
namespace Go.Proofs.YthejaecljkjliaiGreatDoor
set_option linter.unusedVariables false

/-- The other way round: how far the own clock goes on ahead of the other one. -/
theorem slack2 {x N d ppm rb ra : Int} (hd : 0 ≤ d) (hp0 : 0 ≤ ppm) (hp : ppm ≤ 1000) (a1 : -ppm ≤ ra) (a2 : ra ≤ ppm) (b1 : -ppm ≤ rb) (b2 : rb ≤ ppm) (hN0 : 0 ≤ N)
    (hx : d * 1000000 + d * rb - 999999 ≤ 1000000 * x) (hN : 1000000 * N ≤ d * 1000000 + d * ra + 999999) (hM : d * 1000000 + d * ra - 999999 ≤ 1000000 * N) : N - x ≤ 2 + (N * 3 * ppm + 1000000 - 1) / 1000000 := by
  have c1 := rate_b hd b1 b2
  have c2 := rate_b hd a1 a2
  have n0 : 0 ≤ N * ppm := Int.mul_nonneg hN0 hp0
  have e3 : N * 3 * ppm = 3 * (N * ppm) := by rw [Int.mul_comm N 3, Int.mul_assoc]
  have d0 : d * ppm ≤ d * 1000 := Int.mul_le_mul_of_nonneg_left hp hd
  rw [e3]
  by_cases h4 : 4 ≤ d
  · have x4 : 4 * ppm ≤ d * ppm := Int.mul_le_mul_of_nonneg_right h4 hp0
    have hN2 : 999000 * d - 999999 ≤ 1000000 * N := by omega
    have hN3 := Int.mul_le_mul_of_nonneg_right hN2 hp0
    have e1 : (999000 * d - 999999) * ppm = 999000 * (d * ppm) - 999999 * ppm := by rw [Int.sub_mul, Int.mul_assoc]
    have e2 : 1000000 * N * ppm = 1000000 * (N * ppm) := by rw [Int.mul_assoc]
    rw [e1, e2] at hN3
    generalize N * ppm = Y at *
    generalize d * ra = Z at *
    generalize d * rb = V at *
    generalize d * ppm = U at *
    omega
  · generalize N * ppm = Y at *
    generalize d * ra = Z at *
    generalize d * rb = V at *
    generalize d * ppm = U at *
    omega
/-- Two clocks, at one time and at a later one. -/
theorem aged_true {sa ra sb rb p t u lo hi : Int} (hp0 : 0 ≤ p) (hp : p ≤ 1000) (a1 : -p ≤ ra) (a2 : ra ≤ p) (b1 : -p ≤ rb) (b2 : rb ≤ p) (htu : t ≤ u)
    (h1 : lo ≤ sh sb rb t - sh sa ra t) (h2 : sh sb rb t - sh sa ra t ≤ hi) :
    lo - (2 + ((sh sa ra u - sh sa ra t) * 3 * p + 1000000 - 1) / 1000000) ≤ sh sb rb u - sh sa ra u ∧ sh sb rb u - sh sa ra u ≤ hi + (2 + ((sh sa ra u - sh sa ra t) * 3 * p + 1000000 - 1) / 1000000) := by
  obtain ⟨d, rfl⟩ : ∃ d, u = t + d := ⟨u - t, by omega⟩
  have hd : 0 ≤ d := by omega
  have sA := sh_step (s := sa) (r := ra) (t := t) (d := d)
  have sB := sh_step (s := sb) (r := rb) (t := t) (d := d)
  have mA := sh_mono (s := sa) (r := ra) (t := t) (d := d) hd (by omega) (by omega)
  have k1 := slack (x := sh sb rb (t + d) - sh sb rb t) (N := sh sa ra (t + d) - sh sa ra t) hd (Int.le_refl d) hp0 hp a1 a2 b1 b2 (by omega) sB.1 sA.2
  have k2 := slack2 (x := sh sb rb (t + d) - sh sb rb t) (N := sh sa ra (t + d) - sh sa ra t) hd hp0 hp a1 a2 b1 b2 (by omega) sB.2 sA.1 sA.2
  omega
/-- A probe, sent at t1, answered at t2, heard at u. -/
theorem probe_holds {sa ra sb rb p t1 t2 u : Int} (hp0 : 0 ≤ p) (hp : p ≤ 1000) (a1 : -p ≤ ra) (a2 : ra ≤ p) (b1 : -p ≤ rb) (b2 : rb ≤ p) (h1 : t1 ≤ t2) (h2 : t2 ≤ u) :
    sh sb rb t2 - sh sa ra u ≤ sh sb rb u - sh sa ra u ∧ sh sb rb u - sh sa ra u ≤ oH (sh sa ra t1) (sh sb rb t2) (sh sa ra u) p := by
  obtain ⟨d, rfl⟩ : ∃ d, t2 = t1 + d := ⟨t2 - t1, by omega⟩
  obtain ⟨g, rfl⟩ : ∃ g, u = t1 + d + g := ⟨u - (t1 + d), by omega⟩
  have mB := sh_mono (s := sb) (r := rb) (t := t1 + d) (d := g) (by omega) (by omega) (by omega)
  have e : t1 + (d + g) = t1 + d + g := by omega
  have mA := sh_mono (s := sa) (r := ra) (t := t1) (d := d + g) (by omega) (by omega) (by omega)
  have sA := sh_step (s := sa) (r := ra) (t := t1) (d := d + g)
  rw [e] at mA sA
  have sB := sh_step (s := sb) (r := rb) (t := t1 + d) (d := g)
  have k := slack (x := sh sb rb (t1 + d + g) - sh sb rb (t1 + d)) (N := sh sa ra (t1 + d + g) - sh sa ra t1) (d := g) (D := d + g) (by omega) (by omega) hp0 hp a1 a2 b1 b2 (by omega) sB.1 sA.2
  refine ⟨by omega, ?_⟩
  unfold oH
  omega
/-- What clocks show is a time. -/
theorem sh_time {s r t : Int} (s0 : 0 ≤ s) (s1 : s ≤ 1000000) (r0 : -1000 ≤ r) (r1 : r ≤ 1000) (t0 : 0 ≤ t) (t1 : t ≤ 1000000000) : 0 ≤ sh s r t ∧ sh s r t ≤ 1002000000 := by
  have h := rate_b (p := 1000) t0 r0 r1
  unfold sh
  generalize t * r = X at *
  omega
end Go.Proofs.YthejaecljkjliaiGreatDoor
namespace Go.Proofs.YthejaecljkjliaiGreatDoor
set_option linter.unusedVariables false

/-- What a clock shows at a time. -/
def shw (S : Ws) (i : Nat) (t : Int) : Int := sh (S.starts i) (S.rates i) t
theorem shw_rd (S : Ws) (i : Nat) : shw S i S.time = S.rd i := rfl
/-- Rates within a bound. -/
structure RtB (S : Ws) (p : Int) : Prop where
  i : S.I
  p0 : 0 ≤ p
  p1 : p ≤ 1000
  ra : ∀ i, i < S.n → -p ≤ S.rates i ∧ S.rates i ≤ p
theorem shw_b {S : Ws} {p : Int} (g : RtB S p) {i : Nat} (hi : i < S.n) {t : Int} (t0 : 0 ≤ t) (t1 : t ≤ S.time) : 0 ≤ shw S i t ∧ shw S i t ≤ 1002000000 := by
  have a := g.i.st i hi
  have b := g.ra i hi
  have c := g.p1
  have d := g.i.t1
  exact sh_time a.1 a.2 (by omega) (by omega) t0 (by omega)
theorem shw_mono {S : Ws} {p : Int} (g : RtB S p) {i : Nat} (hi : i < S.n) {t u : Int} (h : t ≤ u) : shw S i t ≤ shw S i u := by
  have b := g.ra i hi
  have c := g.p1
  have := sh_mono (s := S.starts i) (r := S.rates i) (t := t) (d := u - t) (by omega) (by omega) (by omega)
  rw [show t + (u - t) = u by omega] at this
  exact this
/-- A letter under way: from one clock to another one, as it was written. -/
def Lk (S : Ws) (l : Lt) : Prop := ∃ a b : Nat, l.frm = a ∧ l.to = b ∧ a < S.n ∧ b < S.n ∧ a ≠ b ∧
  ((l.ans = false ∧ l.t1 = 0 ∧ l.t2 = 0 ∧ ∃ t, 0 ≤ t ∧ t ≤ S.time ∧ l.t = shw S a t) ∨
   (l.ans = true ∧ ∃ t1 t2, 0 ≤ t1 ∧ t1 ≤ t2 ∧ t2 ≤ S.time ∧ l.t1 = shw S b t1 ∧ l.t2 = shw S a t2 ∧ l.t = shw S a t2))
/-- What a node knows is true. -/
structure Kn (S : Ws) (p : Int) (i : Nat) (c : Nd) : Prop where
  id : c.id = i
  n : c.n = S.n
  p : c.p = p
  h0 : -1 ≤ c.h
  h1 : c.h ≤ S.rd i
  kn : ∀ k, c.has k = true → k < S.n ∧ k ≠ i ∧ -3000000000 ≤ c.lo k ∧ c.hi k ≤ 3000000000 ∧ ∃ t, 0 ≤ t ∧ t ≤ S.time ∧ c.at_ k = shw S i t ∧ c.at_ k ≤ c.h ∧ c.lo k ≤ shw S k t - shw S i t ∧ shw S k t - shw S i t ≤ c.hi k
theorem Kn.i {S : Ws} {p : Int} {i : Nat} {c : Nd} (h : Kn S p i c) (g : RtB S p) (hi : i < S.n) : c.I := by
  have b := shw_b g hi g.i.t0 (Int.le_refl _)
  rw [shw_rd] at b
  have h1 := h.h1
  refine ⟨by rw [h.id, h.n]; exact hi, by rw [h.n]; exact g.i.n6, by rw [h.p]; exact g.p0, by rw [h.p]; exact g.p1, h.h0, by omega, fun k hk => ?_⟩
  obtain ⟨k1, k2, k3, k4, t, t0, t1, ea, eh, l1, l2⟩ := h.kn k hk
  have b1 := shw_b g hi t0 t1
  exact ⟨by rw [h.n]; exact k1, by rw [h.id]; exact k2, okB_mk ⟨by omega, by omega, by omega⟩, by omega, eh⟩
theorem Kn.nbk {S : Ws} {p : Int} {i : Nat} {c : Nd} (h : Kn S p i c) (g : RtB S p) (hi : i < S.n) : ¬ c.bk (S.rd i) := by
  have b := shw_b g hi g.i.t0 (Int.le_refl _)
  rw [shw_rd] at b
  have h1 := h.h1
  unfold Nd.bk
  omega
/-- How the clocks truly differ is in what is told. -/
theorem Kn.aged {S : Ws} {p : Int} {i : Nat} {c : Nd} (h : Kn S p i c) (g : RtB S p) (hi : i < S.n) {k : Nat} (hk : c.has k = true) :
    c.alo k (S.rd i) ≤ S.rd k - S.rd i ∧ S.rd k - S.rd i ≤ c.ahi k (S.rd i) ∧ -4000000000 ≤ c.alo k (S.rd i) ∧ c.ahi k (S.rd i) ≤ 4000000000 := by
  obtain ⟨k1, k2, k3, k4, t, t0, t1, ea, eh, l1, l2⟩ := h.kn k hk
  have ri := g.ra i hi
  have rk := g.ra k k1
  have q := aged_true (sa := S.starts i) (ra := S.rates i) (sb := S.starts k) (rb := S.rates k) g.p0 g.p1 ri.1 ri.2 rk.1 rk.2 t1 l1 l2
  have b1 := shw_b g hi t0 t1
  have b2 := shw_b g hi g.i.t0 (Int.le_refl _)
  have m := shw_mono g hi t1
  have e : c.sk k (S.rd i) = 2 + ((shw S i S.time - shw S i t) * 3 * p + 1000000 - 1) / 1000000 := by
    unfold Nd.sk
    rw [ea, h.p, ← shw_rd]
  have m1 : 0 ≤ (shw S i S.time - shw S i t) * 3 * p := Int.mul_nonneg (by omega) g.p0
  have m2 : (shw S i S.time - shw S i t) * 3 * p ≤ 3006000000 * 1000 := Int.mul_le_mul (by omega) g.p1 g.p0 (by omega)
  unfold Nd.alo Nd.ahi
  rw [e]
  refine ⟨q.1, q.2, by omega, by omega⟩
/-- Time goes on. -/
def Ws.at_ (S : Ws) (u : Int) : Ws := { S with time := u }
theorem RtB.on {S S' : Ws} {p : Int} (g : RtB S p) (hi : S'.I) (hn : S'.n = S.n) (hr : S'.rates = S.rates) : RtB S' p := ⟨hi, g.p0, g.p1, fun i h => by rw [hr]; exact g.ra i (by rw [hn] at h; exact h)⟩
/-- .. and what was true is. -/
theorem Lk.on {S S' : Ws} {l : Lt} (h : Lk S l) (hn : S'.n = S.n) (hs : S'.starts = S.starts) (hr : S'.rates = S.rates) (ht : S.time ≤ S'.time) : Lk S' l := by
  have e : ∀ i t, shw S' i t = shw S i t := fun i t => by unfold shw; rw [hs, hr]
  obtain ⟨a, b, h1, h2, h3, h4, h5, q⟩ := h
  refine ⟨a, b, h1, h2, by rw [hn]; exact h3, by rw [hn]; exact h4, h5, ?_⟩
  rcases q with ⟨q1, q2, q3, t, t0, t1, q4⟩ | ⟨q1, t1, t2, t0, t3, t4, q2, q3, q4⟩
  · exact Or.inl ⟨q1, q2, q3, t, t0, by omega, by rw [e]; exact q4⟩
  · exact Or.inr ⟨q1, t1, t2, t0, t3, by omega, by rw [e]; exact q2, by rw [e]; exact q3, by rw [e]; exact q4⟩
theorem Kn.on {S S' : Ws} {p : Int} {i : Nat} {c : Nd} (h : Kn S p i c) (g : RtB S p) (hi : i < S.n) (hn : S'.n = S.n) (hs : S'.starts = S.starts) (hr : S'.rates = S.rates) (ht : S.time ≤ S'.time) : Kn S' p i c := by
  have e : ∀ i t, shw S' i t = shw S i t := fun i t => by unfold shw; rw [hs, hr]
  have m := shw_mono g hi ht
  have q : S'.rd i = shw S i S'.time := by rw [← shw_rd, e]
  refine ⟨h.id, by rw [hn]; exact h.n, h.p, h.h0, by have := h.h1; rw [q]; rw [shw_rd] at m; omega, fun k hk => ?_⟩
  obtain ⟨k1, k2, k3, k4, t, t0, t1, ea, eh, l1, l2⟩ := h.kn k hk
  exact ⟨by rw [hn]; exact k1, k2, k3, k4, t, t0, by omega, by rw [e]; exact ea, eh, by rw [e, e]; exact l1, by rw [e, e]; exact l2⟩
/-- A letter that comes is heard: nothing is at fault, and what is kept is true. -/
theorem hear_true {S : Ws} {p : Int} {l : Lt} {c : Nd} (g : RtB S p) (hl : Lk S l) (hc : Kn S p l.to.toNat c) : ∃ c', HearR c l (S.rd l.to.toNat) c' l.ans 0 ∧ Kn S p l.to.toNat c' := by
  obtain ⟨a, b, h1, h2, h3, h4, h5, q⟩ := hl
  have eb : l.to.toNat = b := by rw [h2]; exact Int.toNat_natCast b
  have ea : l.frm.toNat = a := by rw [h1]; exact Int.toNat_natCast a
  rw [eb] at hc ⊢
  have nb := hc.nbk g h4
  have ng : ¬ c.bad l := by
    clear q
    unfold Nd.bad
    rw [hc.id, hc.n]
    omega
  have bb := shw_b g h4 g.i.t0 (Int.le_refl _)
  rw [shw_rd] at bb
  rcases q with ⟨q1, q2, q3, t, t0, t1, q4⟩ | ⟨q1, t1, t2, t0, t3, t4, q2, q3, q4⟩
  · rw [q1]
    refine ⟨{ c with h := S.rd b }, Or.inr (Or.inr (Or.inl ⟨nb, ng, q1, rfl, rfl, rfl⟩)), ⟨hc.id, hc.n, hc.p, by show -1 ≤ S.rd b; omega, Int.le_refl _, fun k hk => ?_⟩⟩
    obtain ⟨k1, k2, k3, k4, t, t0, t1, ea, eh, l1, l2⟩ := hc.kn k hk
    exact ⟨k1, k2, k3, k4, t, t0, t1, ea, by have := hc.h1; show c.at_ k ≤ S.rd b; omega, l1, l2⟩
  · have rb := g.ra b h4
    have ra := g.ra a h3
    have pt := probe_holds (sa := S.starts b) (ra := S.rates b) (sb := S.starts a) (rb := S.rates a) g.p0 g.p1 rb.1 rb.2 ra.1 ra.2 t3 t4
    have pt' : l.t - S.rd b ≤ S.rd a - S.rd b ∧ S.rd a - S.rd b ≤ oH l.t1 l.t2 (S.rd b) c.p := by
      rw [q2, q3, q4, hc.p]
      exact pt
    have b1 := shw_b g h4 t0 (show t1 ≤ S.time by omega)
    have b2 := shw_b g h3 (show 0 ≤ t2 by omega) t4
    have ba := shw_b g h3 g.i.t0 (Int.le_refl _)
    rw [shw_rd] at ba
    have m := shw_mono g h4 (show t1 ≤ S.time by omega)
    rw [shw_rd] at m
    have pp := hc.p
    have p0 := g.p0
    have p1 := g.p1
    have m1 : 0 ≤ (S.rd b - l.t1) * 3 * c.p := Int.mul_nonneg (by omega) (by omega)
    have m2 : (S.rd b - l.t1) * 3 * c.p ≤ 3006000000 * 1000 := Int.mul_le_mul (by omega) (by omega) (by omega) (by omega)
    have ob : oH l.t1 l.t2 (S.rd b) c.p ≤ 2000000000 := by unfold oH; omega
    have oe : oE l.t1 l.t2 l.t (S.rd b) c.p = 0 := by
      refine oE_fine ?_ (decide_eq_true (by omega)) (tmB_mk (by omega)) (tmB_mk (by omega)) (by omega)
      unfold pE
      rw [if_pos ⟨tmB_mk (by omega), tmB_mk (by omega), tmB_mk (by omega), tmB_mk (by omega)⟩, if_neg (by omega)]
    have ag : c.has a = true → c.alo a (S.rd b) ≤ S.rd a - S.rd b ∧ S.rd a - S.rd b ≤ c.ahi a (S.rd b) := fun h => ⟨(hc.aged g h4 h).1, (hc.aged g h4 h).2.1⟩
    have x1 : c.bLo a (S.rd b) (Nd.oL l (S.rd b)) ≤ S.rd a - S.rd b ∧ Nd.oL l (S.rd b) ≤ c.bLo a (S.rd b) (Nd.oL l (S.rd b)) := by
      have el : Nd.oL l (S.rd b) = l.t - S.rd b := rfl
      unfold Nd.bLo
      split
      · rename_i h
        have := (ag h).1
        split <;> omega
      · omega
    have x2 : S.rd a - S.rd b ≤ c.bHi a (S.rd b) (c.oU l (S.rd b)) ∧ c.bHi a (S.rd b) (c.oU l (S.rd b)) ≤ c.oU l (S.rd b) := by
      have eu : c.oU l (S.rd b) = oH l.t1 l.t2 (S.rd b) c.p := rfl
      unfold Nd.bHi
      split
      · rename_i h
        have := (ag h).2
        split <;> omega
      · omega
    have el : Nd.oL l (S.rd b) = l.t - S.rd b := rfl
    have eu : c.oU l (S.rd b) = oH l.t1 l.t2 (S.rd b) c.p := rfl
    rw [q1]
    refine ⟨_, Or.inr (Or.inr (Or.inr (Or.inr (Or.inr ⟨nb, ng, q1, oe, by rw [ea]; omega, rfl, rfl, rfl⟩)))), ?_⟩
    rw [ea]
    refine ⟨hc.id, hc.n, hc.p, by show -1 ≤ S.rd b; omega, Int.le_refl _, fun k hk => ?_⟩
    by_cases e : k = a
    · subst e
      refine ⟨h3, h5, ?_, ?_, S.time, g.i.t0, Int.le_refl _, ?_, ?_, ?_, ?_⟩
      · show -3000000000 ≤ updN c.lo k _ k
        rw [updN_at]; omega
      · show updN c.hi k _ k ≤ 3000000000
        rw [updN_at]; omega
      · show updN c.at_ k _ k = _
        rw [updN_at, shw_rd]
      · show updN c.at_ k _ k ≤ S.rd b
        rw [updN_at]; exact Int.le_refl _
      · show updN c.lo k _ k ≤ _
        rw [updN_at, shw_rd, shw_rd]; exact x1.1
      · show _ ≤ updN c.hi k _ k
        rw [updN_at, shw_rd, shw_rd]; exact x2.1
    · have hk' : c.has k = true := by
        have : updN c.has a true k = true := hk
        rwa [updN_ne e] at this
      obtain ⟨k1, k2, k3, k4, t, t0, t1, fa, fh, l1, l2⟩ := hc.kn k hk'
      refine ⟨k1, k2, ?_, ?_, t, t0, t1, ?_, ?_, ?_, ?_⟩
      · show -3000000000 ≤ updN c.lo a _ k
        rw [updN_ne e]; exact k3
      · show updN c.hi a _ k ≤ 3000000000
        rw [updN_ne e]; exact k4
      · show updN c.at_ a _ k = _
        rw [updN_ne e]; exact fa
      · show updN c.at_ a _ k ≤ S.rd b
        rw [updN_ne e]; have := hc.h1; omega
      · show updN c.lo a _ k ≤ _
        rw [updN_ne e]; exact l1
      · show _ ≤ updN c.hi a _ k
        rw [updN_ne e]; exact l2
/-- A net: its world, the bound of its rates, its nodes. -/
structure Nn where
  W : Ws
  p : Int
  nd : Nat → Nd
/-- What is always so of a net. -/
structure Nn.T (N : Nn) : Prop where
  g : RtB N.W N.p
  lk : ∀ l, l ∈ N.W.under → Lk N.W l
  kn : ∀ i, i < N.W.n → Kn N.W N.p i (N.nd i)
def Nn.made (n : Nat) (z r : Nat → Int) (p : Int) : Nn := ⟨ws0 n z r, p, fun i => Nd.made i n p⟩
theorem Nn.made_t {n m : Nat} {z r : Nat → Int} {p : Int} (h : BeE n z m r p 0) : (Nn.made n z r p).T := by
  have hi := ws0_i h
  rcases h with ⟨_, e⟩ | ⟨_, _, e⟩ | ⟨_, _, _, e⟩ | ⟨⟨a, b, c, d⟩, _, q, _⟩
  · cases e
  · cases e
  · cases e
  have g : RtB (ws0 n z r) p := ⟨hi, a, b, fun i hi => ⟨(q i hi).2.2.1, (q i hi).2.2.2⟩⟩
  refine ⟨g, fun l hl => ?_, fun i hi => ?_⟩
  · cases hl
  · have w := shw_b g (i := i) hi (t := 0) (by omega) (by show (0 : Int) ≤ 0; omega)
    refine ⟨rfl, rfl, rfl, by show (-1 : Int) ≤ -1; omega, ?_, fun k hk => by cases hk⟩
    have : shw (ws0 n z r) i 0 = (ws0 n z r).rd i := rfl
    show (-1 : Int) ≤ (ws0 n z r).rd i
    omega
/-- An act: what the net is behind it, its fault. -/
def NDoR (N : Nn) (wh a b : Int) (N' : Nn) (e : Int) : Prop :=
  ∃ S' r e1, DoR N.W wh a b S' r e1 ∧
    ((r = none ∧ N' = ⟨S', N.p, N.nd⟩ ∧ e = e1) ∨
     (∃ l c', r = some l ∧ e1 = 0 ∧ Lk S' l ∧ HearR (N.nd l.to.toNat) l (S'.rd l.to.toNat) c' l.ans 0 ∧
       ((l.ans = true ∧ N' = ⟨S', N.p, updN N.nd l.to.toNat c'⟩ ∧ e = 0) ∨
        (l.ans = false ∧ ∃ S'', AnR S' l S'' e ∧ N' = ⟨S'', N.p, updN N.nd l.to.toNat c'⟩))))
/-- What an act leaves as it was. -/
theorem DoR.same {S S' : Ws} {wh a b e : Int} {r : Option Lt} (h : DoR S wh a b S' r e) : S'.n = S.n ∧ S'.starts = S.starts ∧ S'.rates = S.rates ∧ (S.I → S.time ≤ S'.time) := by
  rcases h with ⟨_, _, rfl, _⟩ | ⟨_, c, rfl, _⟩ | ⟨_, _, rfl, _⟩ | ⟨_, _, _, rfl, _⟩ | ⟨_, _, _, _, rfl, _⟩ | ⟨_, _, _, l, rfl, _⟩ | ⟨_, _, rfl, _⟩ | ⟨_, _, rfl, _⟩ | ⟨_, _, rfl, _⟩ | ⟨_, _, rfl, _⟩ | ⟨_, rfl, _⟩
  · exact ⟨rfl, rfl, rfl, fun _ => Int.le_refl _⟩
  · exact ⟨rfl, rfl, rfl, fun _ => by show S.time ≤ S.time + a; omega⟩
  all_goals exact ⟨rfl, rfl, rfl, fun _ => Int.le_refl _⟩
/-- What is under way then. -/
theorem DoR.lk {S S' : Ws} {p wh a b e : Int} {r : Option Lt} (h : DoR S wh a b S' r e) (g : RtB S p) (lk : ∀ l, l ∈ S.under → Lk S l) : (∀ l, l ∈ S'.under → Lk S' l) ∧ (∀ l, r = some l → Lk S' l) ∧ (∀ l, r = some l → e = 0) := by
  have sm := h.same
  have on : ∀ l, l ∈ S.under → Lk S' l := fun l hl => (lk l hl).on sm.1 sm.2.1 sm.2.2.1 (sm.2.2.2 g.i)
  rcases h with ⟨_, _, rfl, rfl, _⟩ | ⟨_, c, rfl, rfl, _⟩ | ⟨_, _, rfl, rfl, _⟩ | ⟨_, _, _, rfl, rfl, _⟩ | ⟨_, _, _, _, rfl, rfl, _⟩ | ⟨_, q, ne, l, rfl, rfl, _⟩ | ⟨_, _, rfl, rfl, _⟩ | ⟨_, c, rfl, rfl, rfl⟩ | ⟨_, _, rfl, rfl, _⟩ | ⟨_, _, rfl, rfl, rfl⟩ | ⟨_, rfl, rfl, _⟩
  · exact ⟨on, (fun l h => by cases h), (fun l h => by cases h)⟩
  · exact ⟨on, (fun l h => by cases h), (fun l h => by cases h)⟩
  · exact ⟨on, (fun l h => by cases h), (fun l h => by cases h)⟩
  · exact ⟨on, (fun l h => by cases h), (fun l h => by cases h)⟩
  · exact ⟨on, (fun l h => by cases h), (fun l h => by cases h)⟩
  · refine ⟨fun x hx => ?_, (fun l h => by cases h), (fun l h => by cases h)⟩
    rcases List.mem_append.1 hx with hx | hx
    · exact on x hx
    · obtain rfl := List.mem_singleton.1 hx
      unfold Ws.hs at q
      exact ⟨a.toNat, b.toNat, by show a = _; omega, by show b = _; omega, by show a.toNat < S.n; omega, by show b.toNat < S.n; omega, by omega, Or.inl ⟨rfl, rfl, rfl, S.time, g.i.t0, Int.le_refl _, rfl⟩⟩
  · exact ⟨on, (fun l h => by cases h), (fun l h => by cases h)⟩
  · exact ⟨fun x hx => on x (List.mem_of_mem_eraseIdx hx), fun l h => on l (List.mem_of_getElem? h), fun l h => rfl⟩
  · exact ⟨fun x hx => on x (List.mem_of_mem_eraseIdx hx), (fun l h => by cases h), (fun l h => by cases h)⟩
  · exact ⟨on, fun l h => on l (List.mem_of_getElem? h), fun l h => rfl⟩
  · exact ⟨on, (fun l h => by cases h), (fun l h => by cases h)⟩
theorem nDoR_some {N : Nn} (g : N.T) (wh a b : Int) : ∃ N' e, NDoR N wh a b N' e := by
  obtain ⟨S', r, e1, h⟩ := doR_some N.W wh a b
  cases r with
  | none => exact ⟨_, _, S', none, e1, h, Or.inl ⟨rfl, rfl, rfl⟩⟩
  | some l =>
    have sm := h.same
    obtain ⟨k1, k2, k3⟩ := h.lk g.g g.lk
    have hl := k2 l rfl
    have g' := g.g.on (h.i g.g.i) sm.1 sm.2.2.1
    have hb : l.to.toNat < N.W.n := by
      obtain ⟨a', b', _, q2, _, q4, _⟩ := hl
      rw [sm.1] at q4
      omega
    have hk := (g.kn _ hb).on g.g hb sm.1 sm.2.1 sm.2.2.1 (sm.2.2.2 g.g.i)
    obtain ⟨c', hh, _⟩ := hear_true g' hl hk
    cases ha : l.ans with
    | true => exact ⟨_, _, S', some l, e1, h, Or.inr ⟨l, c', rfl, k3 l rfl, hl, hh, Or.inl ⟨ha, rfl, rfl⟩⟩⟩
    | false =>
      obtain ⟨S'', e, hA⟩ := anR_some S' l
      exact ⟨_, _, S', some l, e1, h, Or.inr ⟨l, c', rfl, k3 l rfl, hl, hh, Or.inr ⟨ha, S'', hA, rfl⟩⟩⟩
theorem AnR.same {S S' : Ws} {l : Lt} {e : Int} (h : AnR S l S' e) : S'.n = S.n ∧ S'.starts = S.starts ∧ S'.rates = S.rates ∧ S'.time = S.time := by
  rcases h with ⟨_, rfl, _⟩ | ⟨_, _, rfl, _⟩ | ⟨_, _, _, rfl, _⟩ | ⟨_, _, q, rfl, _⟩ <;> exact ⟨rfl, rfl, rfl, rfl⟩
/-- What is always so stays so, and nothing clashes. -/
theorem NDoR.t {N N' : Nn} {wh a b e : Int} (h : NDoR N wh a b N' e) (g : N.T) : N'.T ∧ N'.W.n = N.W.n ∧ e ≠ 7 := by
  obtain ⟨S', r, e1, hD, q⟩ := h
  have sm := hD.same
  obtain ⟨k1, k2, k3⟩ := hD.lk g.g g.lk
  have g' := g.g.on (hD.i g.g.i) sm.1 sm.2.2.1
  have kn' : ∀ i, i < N.W.n → Kn S' N.p i (N.nd i) := fun i hi => (g.kn i hi).on g.g hi sm.1 sm.2.1 sm.2.2.1 (sm.2.2.2 g.g.i)
  rcases q with ⟨rfl, rfl, rfl⟩ | ⟨l, c', rfl, rfl, hl, hh, q⟩
  · refine ⟨⟨g', k1, fun i hi => kn' i (by rw [← sm.1]; exact hi)⟩, sm.1, ?_⟩
    rcases hD with ⟨_, _, _, _, rfl⟩ | ⟨_, _, _, _, rfl⟩ | ⟨_, _, _, _, rfl⟩ | ⟨_, _, _, _, _, rfl⟩ | ⟨_, _, _, _, _, _, rfl⟩ | ⟨_, _, _, _, _, _, rfl⟩ | ⟨_, _, _, _, rfl⟩ | ⟨_, _, _, _, rfl⟩ | ⟨_, _, _, _, rfl⟩ | ⟨_, _, _, _, rfl⟩ | ⟨_, _, _, rfl⟩ <;> decide
  · have hb : l.to.toNat < N.W.n := by
      obtain ⟨a', b', _, q2, _, q4, _⟩ := hl
      rw [sm.1] at q4
      omega
    obtain ⟨c2, hh2, kc⟩ := hear_true g' hl (kn' _ hb)
    obtain ⟨rfl, _, _⟩ := hearR_uniq hh hh2
    have kn2 : ∀ i, i < N.W.n → Kn S' N.p i (updN N.nd l.to.toNat c' i) := fun i hi => by
      by_cases e : i = l.to.toNat
      · rw [e, updN_at]; exact kc
      · rw [updN_ne e]; exact kn' i hi
    rcases q with ⟨_, rfl, rfl⟩ | ⟨_, S'', hA, rfl⟩
    · exact ⟨⟨g', k1, fun i hi => kn2 i (by rw [← sm.1]; exact hi)⟩, sm.1, by decide⟩
    · have sa := hA.same
      have g'' := g'.on (hA.i g'.i) sa.1 sa.2.2.1
      refine ⟨⟨g'', ?_, fun i hi => (kn2 i (by rw [← sm.1, ← sa.1]; exact hi)).on g' (by rw [← sa.1]; exact hi) sa.1 sa.2.1 sa.2.2.1 (by rw [sa.2.2.2]; exact Int.le_refl _)⟩, by show S''.n = _; rw [sa.1, sm.1], ?_⟩
      · have on : ∀ x, x ∈ S'.under → Lk S'' x := fun x hx => (k1 x hx).on sa.1 sa.2.1 sa.2.2.1 (by rw [sa.2.2.2]; exact Int.le_refl _)
        show ∀ x, x ∈ S''.under → Lk S'' x
        rcases hA with ⟨_, rfl, _⟩ | ⟨_, _, rfl, _⟩ | ⟨_, _, _, rfl, _⟩ | ⟨nA, _, _, rfl, _⟩
        · exact on
        · exact on
        · exact on
        · intro x hx
          rcases List.mem_append.1 hx with hx | hx
          · exact on x hx
          · obtain rfl := List.mem_singleton.1 hx
            obtain ⟨a', b', h1, h2, h3, h4, h5, z⟩ := hl
            have ez : l.to.toNat = b' := by rw [h2]; exact Int.toNat_natCast b'
            rcases z with ⟨_, _, _, t, t0, t1, zt⟩ | ⟨z, _⟩
            · refine ⟨b', a', h2, h1, h4, h3, Ne.symm h5, Or.inr ⟨rfl, t, S'.time, t0, t1, Int.le_refl _, zt, ?_, ?_⟩⟩
              · show S'.rd l.to.toNat = _
                rw [ez]; rfl
              · show S'.rd l.to.toNat = _
                rw [ez]; rfl
            · rw [nA] at z; cases z
      · rcases hA with ⟨_, _, rfl⟩ | ⟨_, _, _, rfl⟩ | ⟨_, _, _, _, rfl⟩ | ⟨_, _, _, _, rfl⟩ <;> decide
end Go.Proofs.YthejaecljkjliaiGreatDoor
namespace Go.Proofs.YthejaecljkjliaiGreatDoor
open Go.ChangeShapes Go.WideShapes Go.ChangeAt Go.RowKit
set_option linter.unusedVariables false

/-- All blocks but those of S are as they were. -/
structure Keeps (S : Nat → Prop) (w w' : World) : Prop where
  os : w'.os = w.os
  tape : w'.tape = w.tape
  output : w'.output = w.output
  size : w.heap.size ≤ w'.heap.size
  block : ∀ k, k < w.heap.size → ¬ S k → w'.heap[k]? = w.heap[k]?
section
variable {S : Nat → Prop} {a b c w W u : World} {B k : Nat} {vs : List Value}
theorem Keeps.refl (S : Nat → Prop) (w : World) : Keeps S w w := ⟨rfl, rfl, rfl, Nat.le_refl _, fun _ _ _ => rfl⟩
theorem Keeps.trans (h : Keeps S a b) (g : Keeps S b c) : Keeps S a c :=
  ⟨g.os.trans h.os, g.tape.trans h.tape, g.output.trans h.output, Nat.le_trans h.size g.size, fun i hi hn => (g.block i (Nat.lt_of_lt_of_le hi h.size) hn).trans (h.block i hi hn)⟩
theorem Keeps.of (h : Below a.heap.size a b) : Keeps S a b := ⟨h.os, h.tape, h.output, h.size, fun i hi _ => h.block i hi⟩
theorem Keeps.on (hb : Below W.heap.size W u) (h : Keeps S w W) : Keeps S w u := h.trans (.of hb)
theorem Keeps.al {ob : Obj} (h : Keeps S w W) : Keeps S w (W.alloc ob) := h.trans ⟨rfl, rfl, rfl, by simp, fun k hk _ => Below.heap_alloc _ _ _ hk⟩
theorem Keeps.dr (h : Keeps S w W) : Keeps S w W.drew := h.trans ⟨rfl, rfl, rfl, Nat.le_refl _, fun _ _ _ => rfl⟩
theorem Keeps.drn {n : Nat} (h : Keeps S w W) : Keeps S w (W.drewN n) := h.trans ⟨rfl, rfl, rfl, Nat.le_refl _, fun _ _ _ => rfl⟩
theorem Keeps.put {p : Addr} {x : Value} (hp : S p.block) (h : Keeps S w W) : Keeps S w (W.setCell p x) :=
  h.trans ⟨rfl, rfl, rfl, by simp [World.setCell], fun k hk hn => Below.heap_setCell _ _ _ _ (fun e => hn (e ▸ hp))⟩
theorem Keeps.below (hB : B ≤ w.heap.size) (hS : ∀ k, S k → B ≤ k) (h : Keeps S w W) : Below B w W :=
  ⟨h.os, h.tape, h.output, h.size, fun k hk => h.block k (by omega) (fun s => by have := hS k s; omega)⟩
theorem Keeps.cell {p : Addr} {v : Value} (h : Keeps S w W) (hn : ¬ S p.block) (hc : w.cell? p = some v) : W.cell? p = some v :=
  (World.cell?_of_block (w := w) (h.block p.block (World.block_lt_of_cell? _ _ hc) hn)).trans hc
theorem Keeps.row (h : Keeps S w W) (hn : ¬ S k) (r : Row w k vs) : Row W k vs :=
  ⟨fun i v hv => h.cell hn (r.c i v hv), fun i v hv => (World.frozen?_of_block (w := w) (h.block k (World.block_lt_of_cell? _ _ (r.c i v hv)) hn)).trans (r.f i v hv)⟩
end

end Go.Proofs.YthejaecljkjliaiGreatDoor
namespace Go.Proofs.YthejaecljkjliaiGreatDoor
open Go.ChangeShapes Go.WideShapes Go.ChangeAt Go.RowKit
set_option linter.unusedVariables false

/-- An error by its number; 0: none. -/
def errc (e : Int) : Value := if e = 0 then .nilIface else .iface 85 (.int .i64 e)
theorem errc_zero : errc 0 = .nilIface := if_pos rfl
theorem errc_not {e : Int} (h : e ≠ 0) : errc e = .iface 85 (.int .i64 e) := if_neg h
/-- A number that an int can be. -/
abbrev In64 (n : Int) : Prop := (Lit.int .i64 n).wf = true
end Go.Proofs.YthejaecljkjliaiGreatDoor
namespace Go.Proofs.YthejaecljkjliaiGreatDoor
open Go.ChangeShapes Go.WideShapes Go.ChangeAt Go.RowKit
set_option linter.unusedVariables false

/-- n numbers lie in a row behind an address. -/
def Nrd (w : World) (b off n : Nat) (z : Nat → Int) : Prop := ∀ i, i < n → w.cell? ⟨b, off + i, none⟩ = some (.int .i64 (z i))
theorem Nrd.on {W u : World} {b off n : Nat} {z : Nat → Int} (hb : Below W.heap.size W u) (h : Nrd W b off n z) : Nrd u b off n z := fun i hi => by
  rw [hb.cell (World.block_lt_of_cell? _ _ (h i hi))]; exact h i hi
def NHanded (w : World) (a : Option Addr) (n : Nat) (z : Nat → Int) : Prop := n ≤ 9223372036854775807 ∧ (n = 0 ∨ ∃ b off : Nat, a = some ⟨b, off, none⟩ ∧ Nrd w b off n z)
theorem NHanded.on {W u : World} {a : Option Addr} {n : Nat} {z : Nat → Int} (hb : Below W.heap.size W u) (h : NHanded W a n z) : NHanded u a n z :=
  ⟨h.1, h.2.imp id (fun ⟨b, off, e, s⟩ => ⟨b, off, e, s.on hb⟩)⟩
end Go.Proofs.YthejaecljkjliaiGreatDoor
namespace Go.Proofs.YthejaecljkjliaiGreatDoor
open Go.ChangeShapes Go.WideShapes Go.ChangeAt Go.RowKit
set_option linter.unusedVariables false

def Bls (w : World) (b off n : Nat) (f : Nat → Bool) : Prop := ∀ i, i < n → w.cell? ⟨b, off + i, none⟩ = some (.bool (f i))
theorem Bls.on {W u : World} {b off n : Nat} {f : Nat → Bool} (hb : Below W.heap.size W u) (h : Bls W b off n f) : Bls u b off n f := fun i hi => by
  rw [hb.cell (World.block_lt_of_cell? _ _ (h i hi))]; exact h i hi
def BHanded (w : World) (a : Option Addr) (n : Nat) (f : Nat → Bool) : Prop := n ≤ 9223372036854775807 ∧ (n = 0 ∨ ∃ b off : Nat, a = some ⟨b, off, none⟩ ∧ Bls w b off n f)
theorem BHanded.on {W u : World} {a : Option Addr} {n : Nat} {f : Nat → Bool} (hb : Below W.heap.size W u) (h : BHanded W a n f) : BHanded u a n f :=
  ⟨h.1, h.2.imp id (fun ⟨b, off, e, s⟩ => ⟨b, off, e, s.on hb⟩)⟩
def Sls (w : World) (b off n : Nat) (f : Nat → Int × Int) : Prop := ∀ i, i < n → w.cell? ⟨b, off + i * 2, none⟩ = some (.int .i64 (f i).1) ∧ w.cell? ⟨b, off + i * 2 + 1, none⟩ = some (.int .i64 (f i).2)
theorem Sls.on {W u : World} {b off n : Nat} {f : Nat → Int × Int} (hb : Below W.heap.size W u) (h : Sls W b off n f) : Sls u b off n f := fun i hi => by
  obtain ⟨h0, h1⟩ := h i hi
  exact ⟨by rw [hb.cell (World.block_lt_of_cell? _ _ h0)]; exact h0, by rw [hb.cell (World.block_lt_of_cell? _ _ h1)]; exact h1⟩
def SHanded (w : World) (a : Option Addr) (n : Nat) (f : Nat → Int × Int) : Prop := n ≤ 9223372036854775807 ∧ (n = 0 ∨ ∃ b off : Nat, a = some ⟨b, off, none⟩ ∧ Sls w b off n f)
theorem SHanded.on {W u : World} {a : Option Addr} {n : Nat} {f : Nat → Int × Int} (hb : Below W.heap.size W u) (h : SHanded W a n f) : SHanded u a n f :=
  ⟨h.1, h.2.imp id (fun ⟨b, off, e, s⟩ => ⟨b, off, e, s.on hb⟩)⟩
end Go.Proofs.YthejaecljkjliaiGreatDoor
namespace Go.Proofs.YthejaecljkjliaiGreatDoor
open Go.ChangeShapes Go.WideShapes Go.ChangeAt Go.RowKit
set_option linter.unusedVariables false

/-- Numbers as cells. -/
def icn (t : Nat → Int) : Nat → List Value
  | 0 => []
  | m + 1 => icn t m ++ [.int .i64 (t m)]
theorem icn_len (t : Nat → Int) : ∀ m, (icn t m).length = m
  | 0 => rfl
  | m + 1 => by simp [icn, icn_len t m]
theorem icn_at (t : Nat → Int) : ∀ {m i : Nat}, i < m → (icn t m)[i]? = some (.int .i64 (t i))
  | 0, i, h => by omega
  | m + 1, i, h => by
    simp only [icn]
    by_cases c : i = m
    · subst c
      rw [List.getElem?_append_right (by rw [icn_len]; omega), icn_len]
      simp
    · rw [List.getElem?_append_left (by rw [icn_len]; omega)]
      exact icn_at t (by omega)
theorem infoIntN : (Tryz.prog.info? 3).map (fun i => (i.zero, i.size, i.bytes)) = some (some (.int .i64 0), 1, 8) := by kernel_rfl
theorem own_onN {W u : World} {base n size : Nat} {e : TypeId} {v : Value} {xs : List Value} (hb : Below W.heap.size W u) (h : W.ownsRow base e size v n xs) : u.ownsRow base e size v n xs := by
  refine ⟨h.1, ?_⟩
  rcases h.2 with h' | ⟨g, cap, cur, h1, h2, h3, h4⟩
  · exact Or.inl h'
  · refine Or.inr ⟨g, cap, cur, h1, h2, (hb.block g ?_).trans h3, h4⟩
    rcases Nat.lt_or_ge g W.heap.size with hlt | hge
    · exact hlt
    · rw [Array.getElem?_eq_none hge] at h3; cases h3
/-- .. and where some blocks turn that it does not lie in. -/
theorem own_keepN {W u : World} {base n size : Nat} {e : TypeId} {v : Value} {xs : List Value} {F : Nat → Prop} (k : Keeps F W u) (hn : ∀ g, v.ownBlock = some g → ¬ F g) (h : W.ownsRow base e size v n xs) : u.ownsRow base e size v n xs := by
  refine ⟨h.1, ?_⟩
  rcases h.2 with h' | ⟨g, cap, cur, h1, h2, h3, h4⟩
  · exact Or.inl h'
  · refine Or.inr ⟨g, cap, cur, h1, h2, (k.block g ?_ (hn g (by rw [h1]; rfl))).trans h3, h4⟩
    rcases Nat.lt_or_ge g W.heap.size with hlt | hge
    · exact hlt
    · rw [Array.getElem?_eq_none hge] at h3; cases h3
/-- .. and where another row grows. -/
theorem own_grownN {W u : World} {base n size : Nat} {e : TypeId} {v : Value} {xs : List Value} {row : Option Nat} (hg : W.grownBy u row) (hn : ∀ g, v.ownBlock = some g → some g ≠ row) (h : W.ownsRow base e size v n xs) : u.ownsRow base e size v n xs := by
  refine ⟨h.1, ?_⟩
  rcases h.2 with h' | ⟨g, cap, cur, h1, h2, h3, h4⟩
  · exact Or.inl h'
  · refine Or.inr ⟨g, cap, cur, h1, h2, (hg.block g ?_ (hn g (by rw [h1]; rfl))).trans h3, h4⟩
    rcases Nat.lt_or_ge g W.heap.size with hlt | hge
    · exact hlt
    · rw [Array.getElem?_eq_none hge] at h3; cases h3
theorem own_intsN {w : World} {base k : Nat} {v : Value} {t : Nat → Int} (h : w.ownsRow base 3 1 v k (icn t k)) (hk : k ≤ 9223372036854775807) : ∃ a cap, v = .slice a k cap ∧ NHanded w a k t ∧ (k = 0 ∨ ∃ g, a = some ⟨g, 0, none⟩ ∧ v.ownBlock = some g) := by
  rcases h.2 with ⟨rfl, e⟩ | ⟨g, cap, cur, rfl, hb, hg, hc, _, hcs, htk⟩
  · subst e
    exact ⟨none, 0, rfl, ⟨hk, Or.inl rfl⟩, Or.inl rfl⟩
  · refine ⟨_, cap, rfl, ⟨hk, Or.inr ⟨g, 0, rfl, fun i hi => ?_⟩⟩, Or.inr ⟨g, rfl, rfl⟩⟩
    rw [Nat.zero_add, h.cellAt i (by omega)]
    exact icn_at t hi
theorem own_capN {w : World} {base k : Nat} {v : Value} {t : Nat → Int} (h : w.ownsRow base 3 1 v k (icn t k)) (hk : k ≤ 9223372036854775807) : ∃ a cap, v = .slice a k cap ∧ NHanded w a k t ∧ k ≤ cap := by
  rcases h.2 with ⟨rfl, e⟩ | ⟨g, cap, cur, rfl, hb, hg, hc, _, hcs, htk⟩
  · subst e
    exact ⟨none, 0, rfl, ⟨hk, Or.inl rfl⟩, Nat.le_refl _⟩
  · refine ⟨_, cap, rfl, ⟨hk, Or.inr ⟨g, 0, rfl, fun i hi => ?_⟩⟩, hc⟩
    rw [Nat.zero_add, h.cellAt i (by omega)]
    exact icn_at t hi
theorem row2N {W : World} {B : Nat} {z : Nat → Int} (r : Row W B [.int .i64 (z 0), .int .i64 (z 1)]) : NHanded W (some ⟨B, 0, none⟩) 2 z := ⟨by omega, Or.inr ⟨B, 0, rfl, fun i hi => by
  have : i = 0 ∨ i = 1 := by omega
  rcases this with rfl | rfl
  · exact r.c 0 _ rfl
  · exact r.c 1 _ rfl⟩⟩
theorem in64N {n : Int} (h : -9223372036854775808 ≤ n ∧ n ≤ 9223372036854775807) : (Lit.int .i64 n).wf = true := by
  simp [Lit.wf, IntKind.min, IntKind.max, IntKind.signed, IntKind.bits]
  omega
end Go.Proofs.YthejaecljkjliaiGreatDoor
namespace Go.Proofs.YthejaecljkjliaiGreatDoor
open Go.ChangeShapes Go.WideShapes Go.ChangeAt Go.RowKit
set_option linter.unusedVariables false
set_option linter.unusedSimpArgs false

theorem cell_putk {u : World} {b j m : Nat} {x y : Value} (h : u.cell? ⟨b, m, none⟩ = some y) : (u.setCell ⟨b, m, none⟩ x).cell? ⟨b, j, none⟩ = if j = m then some x else u.cell? ⟨b, j, none⟩ := by
  by_cases e : j = m
  · subst e; rw [if_pos rfl]; exact World.cell?_setCell_same _ _ _ h
  · rw [if_neg e]; exact World.cell?_setCell_other _ _ _ _ (fun q => e (by injection q with _ q; exact q.symm))
theorem kinfoBool : (Tryz.prog.info? 4).map (fun i => (i.zero, i.size, i.bytes)) = some (some (.bool false), 1, 1) := by kernel_rfl
theorem kinfoSpan : (Tryz.prog.info? 38).map (fun i => (i.zero, i.size, i.bytes)) = some (some (.agg #[.int .i64 0, .int .i64 0]), 2, 16) := by kernel_rfl
theorem kmade_cells (z : Value) (hz : z.cells = #[z]) (n : Nat) : madeCells z.cells (n * 1) = (List.replicate n z).toArray := by
  rw [hz, Nat.mul_one]
  apply Array.ext
  · simp [madeCells]
  · intro i h1 h2
    simp [madeCells, Nat.mod_one]
theorem kmade_spans (n : Nat) : madeCells (sp 0 0).cells (n * 2) = (List.replicate (n * 2) (.int .i64 0)).toArray := by
  apply Array.ext
  · simp [madeCells]
  · intro i h1 h2
    simp only [madeCells, Array.getElem_ofFn, List.getElem_toArray, List.getElem_replicate]
    have : i % 2 = 0 ∨ i % 2 = 1 := by omega
    simp [Value.cells]
    rcases this with e | e <;> simp [e]
theorem kmk_bools (n : Nat) (h6 : n ≤ 6) (W : World) : (Instr.makeSlice 67 (.int .i64 n) (.int .i64 n)).run Tryz.prog W = .ok (.slice (some ⟨W.heap.size, 0, none⟩) n n) (W.alloc (.cells (List.replicate n (.bool false)).toArray 4)) := by
  obtain ⟨i0, hi0, hz0, hz1, hz2⟩ := info_parts kinfoBool
  have h := run_makeSlice W 67 4 i0 _ Tryz.underlying67 hi0 hz0 .i64 .i64 n n (by omega) (by omega) (by rw [hz1]; simp; omega) (by rw [hz2]; simp; omega) (by omega)
  rw [hz1, Int.toNat_natCast, kmade_cells _ rfl n] at h
  exact h
theorem kmk_spans (n : Nat) (h6 : n ≤ 6) (W : World) : (Instr.makeSlice 66 (.int .i64 n) (.int .i64 n)).run Tryz.prog W = .ok (.slice (some ⟨W.heap.size, 0, none⟩) n n) (W.alloc (.cells (List.replicate (n * 2) (.int .i64 0)).toArray 38)) := by
  obtain ⟨i0, hi0, hz0, hz1, hz2⟩ := info_parts kinfoSpan
  have h := run_makeSlice W 66 38 i0 _ Tryz.underlying66 hi0 hz0 .i64 .i64 n n (by omega) (by omega) (by rw [hz1]; simp; omega) (by rw [hz2]; simp; omega) (by omega)
  rw [hz1, Int.toNat_natCast, kmade_spans n] at h
  exact h
/-- The two rows while they are filled. -/
structure StN (u : World) (s g i : Nat) (c : Nd) (t : Int) : Prop where
  a : ∀ j, j < c.n → u.cell? ⟨s, j * 2, none⟩ = some (.int .i64 (if j < i then (c.so t j).1 else 0))
  b : ∀ j, j < c.n → u.cell? ⟨s, j * 2 + 1, none⟩ = some (.int .i64 (if j < i then (c.so t j).2 else 0))
  h : ∀ j, j < c.n → u.cell? ⟨g, j, none⟩ = some (.bool (if j < i then c.ho j else decide (j = c.id)))
  fa : ∀ j, j < c.n * 2 → u.frozen? ⟨s, j, none⟩ = false
  fh : ∀ j, j < c.n → u.frozen? ⟨g, j, none⟩ = false
  ne : s ≠ g
section
variable {u u' : World} {s g i : Nat} {c : Nd} {t : Int}
theorem StN.block (h1 : u'.heap[s]? = u.heap[s]?) (h2 : u'.heap[g]? = u.heap[g]?) (h : StN u s g i c t) : StN u' s g i c t := by
  have e1 : ∀ j, u'.cell? ⟨s, j, none⟩ = u.cell? ⟨s, j, none⟩ := fun j => World.cell?_of_block (w := u) (a := ⟨s, j, none⟩) h1
  have e2 : ∀ j, u'.cell? ⟨g, j, none⟩ = u.cell? ⟨g, j, none⟩ := fun j => World.cell?_of_block (w := u) (a := ⟨g, j, none⟩) h2
  exact ⟨fun j hj => by rw [e1]; exact h.a j hj, fun j hj => by rw [e1]; exact h.b j hj, fun j hj => by rw [e2]; exact h.h j hj, fun j hj => (World.frozen?_of_block (w := u) (a := ⟨s, j, none⟩) h1).trans (h.fa j hj), fun j hj => (World.frozen?_of_block (w := u) (a := ⟨g, j, none⟩) h2).trans (h.fh j hj), h.ne⟩
theorem StN.on (h0 : 0 < c.n) (hb : Below u.heap.size u u') (h : StN u s g i c t) : StN u' s g i c t :=
  h.block (hb.block s (World.block_lt_of_cell? _ _ (h.a 0 h0))) (hb.block (g) (World.block_lt_of_cell? _ _ (h.h 0 h0)))
theorem StN.skip (hh : c.has i = false) (h : StN u s g i c t) : StN u s g (i + 1) c t := by
  have e : c.so t i = (0, 0) := by unfold Nd.so; rw [hh]; rfl
  have e2 : c.ho i = decide (i = c.id) := by unfold Nd.ho; rw [hh]; rfl
  refine ⟨fun j hj => ?_, fun j hj => ?_, fun j hj => ?_, h.fa, h.fh, h.ne⟩
  · rw [h.a j hj]
    by_cases q : j = i
    · subst q; rw [if_neg (by omega), if_pos (by omega), e]
    · by_cases r : j < i
      · rw [if_pos r, if_pos (by omega)]
      · rw [if_neg r, if_neg (by omega)]
  · rw [h.b j hj]
    by_cases q : j = i
    · subst q; rw [if_neg (by omega), if_pos (by omega), e]
    · by_cases r : j < i
      · rw [if_pos r, if_pos (by omega)]
      · rw [if_neg r, if_neg (by omega)]
  · rw [h.h j hj]
    by_cases q : j = i
    · subst q; rw [if_neg (by omega), if_pos (by omega), e2]
    · by_cases r : j < i
      · rw [if_pos r, if_pos (by omega)]
      · rw [if_neg r, if_neg (by omega)]
theorem StN.put {lo hi : Int} (hi' : i < c.n) (hs : c.so t i = (lo, hi)) (ho : c.ho i = true) (h : StN u s g i c t) : StN (((u.setCell ⟨s, i * 2, none⟩ (.int .i64 lo)).setCell ⟨s, i * 2 + 1, none⟩ (.int .i64 hi)).setCell ⟨g, i, none⟩ (.bool true)) s g (i + 1) c t := by
  have c1 := h.a i hi'
  have c2 : (u.setCell ⟨s, i * 2, none⟩ (.int .i64 lo)).cell? ⟨s, i * 2 + 1, none⟩ = some (.int .i64 (if i < i then (c.so t i).2 else 0)) := by rw [cell_putk c1, if_neg (by omega)]; exact h.b i hi'
  have c3 : ((u.setCell ⟨s, i * 2, none⟩ (.int .i64 lo)).setCell ⟨s, i * 2 + 1, none⟩ (.int .i64 hi)).cell? ⟨g, i, none⟩ = some (.bool (if i < i then c.ho i else decide (i = c.id))) := by
    rw [World.cell?_setCell_far _ _ _ _ h.ne, World.cell?_setCell_far _ _ _ _ h.ne]; exact h.h i hi'
  have e1 : ∀ j, (((u.setCell ⟨s, i * 2, none⟩ (.int .i64 lo)).setCell ⟨s, i * 2 + 1, none⟩ (.int .i64 hi)).setCell ⟨g, i, none⟩ (.bool true)).cell? ⟨s, j, none⟩ = if j = i * 2 + 1 then some (.int .i64 hi) else if j = i * 2 then some (.int .i64 lo) else u.cell? ⟨s, j, none⟩ := fun j => by
    rw [World.cell?_setCell_far _ _ _ _ (fun q => h.ne q.symm), cell_putk c2, cell_putk c1]
  have e2 : ∀ j, (((u.setCell ⟨s, i * 2, none⟩ (.int .i64 lo)).setCell ⟨s, i * 2 + 1, none⟩ (.int .i64 hi)).setCell ⟨g, i, none⟩ (.bool true)).cell? ⟨g, j, none⟩ = if j = i then some (.bool true) else u.cell? ⟨g, j, none⟩ := fun j => by
    rw [cell_putk c3]
    by_cases q : j = i
    · rw [if_pos q, if_pos q]
    · rw [if_neg q, if_neg q, World.cell?_setCell_far _ _ _ _ h.ne, World.cell?_setCell_far _ _ _ _ h.ne]
  refine ⟨fun j hj => ?_, fun j hj => ?_, fun j hj => ?_, fun j hj => by simp only [World.frozen?_setCell]; exact h.fa j hj, fun j hj => by simp only [World.frozen?_setCell]; exact h.fh j hj, h.ne⟩
  · rw [e1, if_neg (by omega)]
    by_cases q : j = i
    · subst q; rw [if_pos rfl, if_pos (by omega), hs]
    · rw [if_neg (by omega), h.a j hj]
      by_cases r : j < i
      · rw [if_pos r, if_pos (by omega)]
      · rw [if_neg r, if_neg (by omega)]
  · rw [e1]
    by_cases q : j = i
    · subst q; rw [if_pos rfl, if_pos (by omega), hs]
    · rw [if_neg (by omega), if_neg (by omega), h.b j hj]
      by_cases r : j < i
      · rw [if_pos r, if_pos (by omega)]
      · rw [if_neg r, if_neg (by omega)]
  · rw [e2]
    by_cases q : j = i
    · subst q; rw [if_pos rfl, if_pos (by omega), ho]
    · rw [if_neg q, h.h j hj]
      by_cases r : j < i
      · rw [if_pos r, if_pos (by omega)]
      · rw [if_neg r, if_neg (by omega)]
end
theorem StN.start {u : World} {s g : Nat} {c : Nd} {t : Int} (ra : Row u s (List.replicate (c.n * 2) (Value.int .i64 0))) (rb : Row u g ((List.replicate c.n (Value.bool false)).set c.id (.bool true))) (hid : c.id < c.n) (hne : s ≠ g) : StN u s g 0 c t := by
  refine ⟨fun j hj => ?_, fun j hj => ?_, fun j hj => ?_, fun j hj => ?_, fun j hj => ?_, hne⟩
  · rw [if_neg (by omega)]; exact ra.c _ _ (by rw [List.getElem?_replicate, if_pos (by omega)])
  · rw [if_neg (by omega)]; exact ra.c _ _ (by rw [List.getElem?_replicate, if_pos (by omega)])
  · rw [if_neg (by omega)]
    refine rb.c _ _ ?_
    by_cases q : c.id = j
    · subst q; rw [List.getElem?_set_self (by simp; omega)]; simp
    · rw [List.getElem?_set_ne q, List.getElem?_replicate, if_pos hj, decide_eq_false (fun e => q e.symm)]
  · exact ra.f j _ (by rw [List.getElem?_replicate, if_pos hj])
  · refine rb.f j (if c.id = j then .bool true else .bool false) ?_
    by_cases q : c.id = j
    · subst q; rw [List.getElem?_set_self (by simp; omega), if_pos rfl]
    · rw [List.getElem?_set_ne q, List.getElem?_replicate, if_pos hj, if_neg q]
end Go.Proofs.YthejaecljkjliaiGreatDoor
namespace Go.Proofs.YthejaecljkjliaiGreatDoor
open Go.ChangeShapes Go.WideShapes Go.ChangeAt Go.RowKit Go.Proofs.YthejaecljkjliaiGreatDoor.told
set_option linter.unusedVariables false
set_option linter.unusedSimpArgs false

theorem error_diffN (k f : Int) (w : World) (he : EnvE w) (h : k ≠ f) :
    Calls Tryz.prog 7 #[.iface 85 (.int .i64 k), .int .i64 f] w fun e w' => e = .returned (.bool false) ∧ Below w.heap.size w w' := by
  have H : Hid (EnvE w) := he
  have h' : (k == f) = false := by simpa using h
  clear he h
  go_enter Tryz.func7, Tryz.ntmps7
  go_wp2_with (go_at_call 28; refine (told_errno k _ H.out).mono ?_; rintro e u ⟨rfl, hb⟩)
  go_ret
  exact ⟨by simp [h'], hb⟩
theorem error_niln (f : Int) (w : World) (h : f ≠ 0) :
    Calls Tryz.prog 7 #[.nilIface, .int .i64 f] w fun e w' => e = .returned (.bool false) ∧ Below w.heap.size w w' := by
  have h' : ((0 : Int) == f) = false := by simpa using (Ne.symm h)
  clear h
  go_enter Tryz.func7, Tryz.ntmps7
  go_wp2_with (go_at_call 28; refine (told_nil _).mono ?_; rintro e u ⟨rfl, hb⟩)
  go_ret
  exact ⟨by simp [h'], hb⟩
/-- Another error than f, or none. -/
theorem error_not (e f : Int) (w : World) (he : EnvE w) (h : e ≠ f) (h0 : f ≠ 0) :
    Calls Tryz.prog 7 #[errc e, .int .i64 f] w fun e w' => e = .returned (.bool false) ∧ Below w.heap.size w w' := by
  by_cases z : e = 0
  · subst z; rw [errc_zero]; exact error_niln f w h0
  · rw [errc_not z]; exact error_diffN e f w he h
theorem error_is (f : Int) (w : World) (he : EnvE w) :
    Calls Tryz.prog 7 #[errc f, .int .i64 f] w fun e w' => e = .returned (.bool true) ∧ Below w.heap.size w w' := error_same f w he
end Go.Proofs.YthejaecljkjliaiGreatDoor
