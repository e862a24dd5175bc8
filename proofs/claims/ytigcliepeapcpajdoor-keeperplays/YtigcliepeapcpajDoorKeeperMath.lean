/- A keeper of readings, as the document says it: plain mathematics. -/
import Derived.Test.YtigcliepeapcpajDoorRow
namespace Go.Proofs.YtigcliepeapcpajDoor
set_option linter.unusedVariables false

/-- How far ahead it writes; what it told last (one less than what is kept, if nothing); what is kept; how often it was written. -/
structure Kp where
  a : Int
  l : Int
  k : Int
  s : Int
/-- As it is made. -/
def Kp.made (a : Int) : Kp := ⟨a, -1, 0, 0⟩
/-- What would be told. -/
def Kp.n (c : Kp) (x : Int) : Int := if c.l + 1 < x then x else c.l + 1
def Kp.readE (c : Kp) (x : Int) : Int := if x < 0 ∨ 1000000000000 < x then 1 else if 1000000000000 < c.n x then 4 else 0
def Kp.readN (c : Kp) (x : Int) : Int := if c.readE x = 0 then c.n x else 0
def Kp.readC (c : Kp) (x : Int) : Kp := if c.readE x = 0 then (if c.n x < c.k then { c with l := c.n x } else ⟨c.a, c.n x, c.n x + c.a, c.s + 1⟩) else c
def Kp.crashC (c : Kp) : Kp := { c with l := c.k - 1 }
/-- What is always so, m readings since. -/
structure Kp.I (c : Kp) (m : Nat) : Prop where
  a0 : 1 ≤ c.a
  a1 : c.a ≤ 1000000
  l0 : -1 ≤ c.l
  lk : c.l < c.k
  l1 : c.l ≤ 1000001000000
  k1 : c.k ≤ 1000001000000
  s0 : 0 ≤ c.s
  s1 : c.s ≤ m
section
variable {c : Kp} {m : Nat} {x : Int}
theorem Kp.made_i {a : Int} (h0 : 1 ≤ a) (h1 : a ≤ 1000000) : (Kp.made a).I 0 := ⟨h0, h1, by show (-1 : Int) ≤ -1; omega, by show (-1 : Int) < 0; omega, by show (-1 : Int) ≤ 1000001000000; omega, by show (0 : Int) ≤ 1000001000000; omega, by show (0 : Int) ≤ 0; omega, by show (0 : Int) ≤ ((0 : Nat) : Int); omega⟩
theorem Kp.I.more (h : c.I m) {m' : Nat} (q : m ≤ m') : c.I m' := ⟨h.a0, h.a1, h.l0, h.lk, h.l1, h.k1, h.s0, by have := h.s1; omega⟩
theorem Kp.n_ge : c.l < c.n x ∧ x ≤ c.n x := by unfold Kp.n; split <;> omega
theorem Kp.read_i (h : c.I m) (x : Int) : (c.readC x).I (m + 1) := by
  obtain ⟨a0, a1, l0, lk, l1, k1, s0, s1⟩ := h
  unfold Kp.readC
  by_cases e : c.readE x = 0
  · rw [if_pos e]
    have g := Kp.n_ge (c := c) (x := x)
    have n1 : c.n x ≤ 1000000000000 := by
      unfold Kp.readE at e
      by_cases q : x < 0 ∨ 1000000000000 < x
      · rw [if_pos q] at e; cases e
      · rw [if_neg q] at e
        by_cases r : 1000000000000 < c.n x
        · rw [if_pos r] at e; cases e
        · omega
    by_cases q : c.n x < c.k
    · rw [if_pos q]
      exact ⟨a0, a1, by show -1 ≤ c.n x; omega, q, by show c.n x ≤ _; omega, k1, s0, by show c.s ≤ ((m + 1 : Nat) : Int); omega⟩
    · rw [if_neg q]
      exact ⟨a0, a1, by show -1 ≤ c.n x; omega, by show c.n x < c.n x + c.a; omega, by show c.n x ≤ _; omega, by show c.n x + c.a ≤ _; omega, by show 0 ≤ c.s + 1; omega, by show c.s + 1 ≤ ((m + 1 : Nat) : Int); omega⟩
  · rw [if_neg e]
    exact ⟨a0, a1, l0, lk, l1, k1, s0, by omega⟩
theorem Kp.crash_i (h : c.I m) : (c.crashC).I m := ⟨h.a0, h.a1, by show -1 ≤ c.k - 1; have := h.l0; have := h.lk; omega, by show c.k - 1 < c.k; omega, by show c.k - 1 ≤ _; have := h.k1; omega, h.k1, h.s0, h.s1⟩
/-- A reading that is told. -/
theorem Kp.told (h : c.I m) (e : c.readE x = 0) : c.readN x = c.n x ∧ c.l < c.readN x ∧ x ≤ c.readN x ∧ c.readN x < (c.readC x).k ∧ (c.readC x).l = c.readN x ∧ 0 ≤ c.readN x ∧ c.readN x ≤ 1000000000000 := by
  have g := Kp.n_ge (c := c) (x := x)
  have r : c.readN x = c.n x := by unfold Kp.readN; rw [if_pos e]
  have a0 := h.a0
  have l0 := h.l0
  have hl : (c.readC x).l = c.n x := by unfold Kp.readC; rw [if_pos e]; split <;> rfl
  have hk : c.n x < (c.readC x).k := by
    unfold Kp.readC
    rw [if_pos e]
    by_cases q : c.n x < c.k
    · rw [if_pos q]; exact q
    · rw [if_neg q]; show c.n x < c.n x + c.a; omega
  have n1 : c.n x ≤ 1000000000000 := by
    unfold Kp.readE at e
    by_cases q : x < 0 ∨ 1000000000000 < x
    · rw [if_pos q] at e; cases e
    · rw [if_neg q] at e
      by_cases r : 1000000000000 < c.n x
      · rw [if_pos r] at e; cases e
      · omega
  rw [r]
  exact ⟨rfl, g.1, g.2, hk, hl, by omega, n1⟩
/-- Of readings one behind the other: behind i of them. -/
def Kp.at (a : Int) (i : Nat) : Kp := ⟨a, (i : Int) - 1, ((i : Int) + a - 1) / a * a, ((i : Int) + a - 1) / a⟩
theorem Kp.at_zero {a : Int} (h0 : 1 ≤ a) : Kp.at a 0 = Kp.made a := by
  unfold Kp.at Kp.made
  have e : (((0 : Nat) : Int) + a - 1) / a = 0 := Int.ediv_eq_zero_of_lt (by omega) (by omega)
  rw [e]
  simp
theorem Kp.at_next {a : Int} {i : Nat} (h0 : 1 ≤ a) (h1 : a ≤ 1000000) (hi : i ≤ 1000) : (Kp.at a i).readE 0 = 0 ∧ (Kp.at a i).readN 0 = i ∧ (Kp.at a i).readC 0 = Kp.at a (i + 1) := by
  have n : (Kp.at a i).n 0 = i := by
    unfold Kp.n Kp.at
    show (if (i : Int) - 1 + 1 < 0 then 0 else (i : Int) - 1 + 1) = i
    rw [if_neg (by omega)]
    omega
  have e : (Kp.at a i).readE 0 = 0 := by
    unfold Kp.readE
    rw [n, if_neg (by omega), if_neg (by omega)]
  refine ⟨e, by unfold Kp.readN; rw [if_pos e, n], ?_⟩
  unfold Kp.readC
  rw [if_pos e, n]
  obtain ⟨q, hq⟩ : ∃ q, q = ((i : Int) + a - 1) / a := ⟨_, rfl⟩
  obtain ⟨r, hr⟩ : ∃ r, r = ((i : Int) + a - 1) % a := ⟨_, rfl⟩
  have dm : a * q + r = (i : Int) + a - 1 := by rw [hq, hr]; exact Int.mul_ediv_add_emod _ _
  have r0 : 0 ≤ r := by rw [hr]; exact Int.emod_nonneg _ (by omega)
  have r1 : r < a := by rw [hr]; exact Int.emod_lt_of_pos _ (by omega)
  have mc : q * a = a * q := Int.mul_comm _ _
  have next : (((i + 1 : Nat) : Int) + a - 1) / a = if (i : Int) < q * a then q else q + 1 := by
    have ee : ((i + 1 : Nat) : Int) + a - 1 = a * q + (r + 1) := by omega
    rw [ee, Int.add_comm, Int.add_mul_ediv_left _ _ (by omega)]
    by_cases c : (i : Int) < q * a
    · rw [if_pos c, Int.ediv_eq_zero_of_lt (by omega) (by omega)]
      omega
    · rw [if_neg c]
      have : r + 1 = a := by omega
      rw [this, Int.ediv_self (by omega)]
      omega
  unfold Kp.at
  rw [next, ← hq]
  show (if (i : Int) < q * a then (⟨a, (i : Int), q * a, q⟩ : Kp) else ⟨a, (i : Int), (i : Int) + a, q + 1⟩) = _
  by_cases c : (i : Int) < q * a
  · rw [if_pos c, if_pos c]
    congr 1
    omega
  · rw [if_neg c, if_neg c]
    have ia : (i : Int) = q * a := by omega
    have x2 : (q + 1) * a = (i : Int) + a := by rw [Int.add_mul, Int.one_mul]; omega
    rw [x2]
    congr 1
    omega
end
end Go.Proofs.YtigcliepeapcpajDoor
