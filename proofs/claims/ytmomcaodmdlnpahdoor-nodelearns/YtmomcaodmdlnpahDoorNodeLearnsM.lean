/- What a node of two knows behind one probe, and behind another one: plain mathematics. -/
import Derived.Test.YtmomcaodmdlnpahDoorNodeMath
namespace Go.Proofs.YtmomcaodmdlnpahDoor.nodeLearns
set_option linter.unusedVariables false

def c0 (p : Int) : Nd := Nd.made 0 2 p
def l1 : Lt := ⟨1, 0, true, 0, 5, 5⟩
def c1 (p : Int) : Nd := (c0 p).kept 1 10 (-5) (oH 0 5 10 p)
def l2 (b t : Int) : Lt := ⟨1, 0, true, 10 + b, 10 + b + t, 10 + b + t⟩
theorem i0 {p : Int} (h0 : 0 ≤ p) (h1 : p ≤ 1000) : (c0 p).I := Nd.made_i (by omega) (by omega) h0 h1
theorem sp0 (p : Int) : SpR (c0 p) 0 0 := by
  refine Or.inr (Or.inr ⟨?_, fun i _ h => (by cases h), rfl⟩)
  show ¬ ((0 : Int) < 0 ∨ 1000000000000 < (0 : Int) ∨ (0 : Int) < -1)
  omega
theorem tm {n : Int} (h0 : 0 ≤ n) (h1 : n ≤ 1000000000000) : tmB n = true := tmB_mk (by omega)
theorem o1 {p : Int} (h0 : 0 ≤ p) (h1 : p ≤ 1000) : 7 ≤ oH 0 5 10 p ∧ oH 0 5 10 p ≤ 8 := by
  unfold oH
  omega
theorem e1 {p : Int} (h0 : 0 ≤ p) (h1 : p ≤ 1000) : oE 0 5 5 10 p = 0 := by
  have := o1 h0 h1
  exact oE_fine (by decide) (decide_eq_true (by omega)) (by decide) (tmB_mk (by omega)) (by omega)
theorem hear1 {p : Int} (h0 : 0 ≤ p) (h1 : p ≤ 1000) : HearR (c0 p) l1 10 (c1 p) true 0 := by
  have b := o1 h0 h1
  refine Or.inr (Or.inr (Or.inr (Or.inr (Or.inr ⟨?_, ?_, rfl, e1 h0 h1, ?_, rfl, rfl, rfl⟩))))
  · show ¬ ((10 : Int) < 0 ∨ 1000000000000 < (10 : Int) ∨ (10 : Int) < -1)
    omega
  · show ¬ ((0 : Int) ≠ ((0 : Nat) : Int) ∨ (1 : Int) = ((0 : Nat) : Int) ∨ (1 : Int) < 0 ∨ ((2 : Nat) : Int) ≤ 1)
    omega
  · show (5 : Int) - 10 ≤ oH 0 5 10 p
    omega
theorem i1 {p : Int} (h0 : 0 ≤ p) (h1 : p ≤ 1000) : (c1 p).I := (hear1 h0 h1).i (i0 h0 h1)
/-- How much wider it is by then. -/
def wd (p at_ : Int) : Int := 2 + ((at_ - 10) * 3 * p + 1000000 - 1) / 1000000
theorem wd_b {p n : Int} (h0 : 0 ≤ p) (h1 : p ≤ 1000) (n0 : 10 ≤ n) (n1 : n ≤ 3000010) : 2 ≤ wd p n ∧ wd p n ≤ 9003 := by
  have m1 : 0 ≤ (n - 10) * 3 * p := Int.mul_nonneg (by omega) h0
  have m2 : (n - 10) * 3 * p ≤ 9000000 * 1000 := Int.mul_le_mul (by omega) h1 h0 (by omega)
  unfold wd
  omega
theorem a1 (p n : Int) : (c1 p).alo 1 n = -5 - wd p n ∧ (c1 p).ahi 1 n = oH 0 5 10 p + wd p n := ⟨rfl, rfl⟩
theorem has1 (p : Int) : (c1 p).has 1 = true := rfl
theorem has0 (p : Int) : (c1 p).has 0 = false := rfl
theorem two {i : Nat} (h : i < 2) : i = 0 ∨ i = 1 := by omega
theorem nbk {p n : Int} (n0 : 10 ≤ n) (n1 : n ≤ 3000010) : ¬ (c1 p).bk n := by
  show ¬ (n < 0 ∨ 1000000000000 < n ∨ n < 10)
  omega
theorem sp1 {p n : Int} (h0 : 0 ≤ p) (h1 : p ≤ 1000) (n0 : 10 ≤ n) (n1 : n ≤ 3000010) : SpR (c1 p) n 0 := by
  have b := o1 h0 h1
  have w := wd_b h0 h1 n0 n1
  refine Or.inr (Or.inr ⟨nbk n0 n1, fun i hi h => ?_, rfl⟩)
  rcases two hi with rfl | rfl
  · rw [has0] at h; cases h
  · rw [(a1 p n).1, (a1 p n).2]
    exact okB_mk (by omega)
/-- What another probe makes of it: nothing at all in both, or no wider than it was, but for the last bits. -/
theorem hear2 {p b t k : Int} (h0 : 0 ≤ p) (h1 : p ≤ 1000) (b0 : 0 ≤ b) (b1 : b ≤ 1000000) (t0 : 0 ≤ t) (t1 : t ≤ 1000000) (k0 : 0 ≤ k) (k1 : k ≤ 1000000) :
    (∃ c2, HearR (c1 p) (l2 b t) (10 + b + t + k) c2 false 7) ∨
    (∃ c2, HearR (c1 p) (l2 b t) (10 + b + t + k) c2 true 0 ∧ SpR c2 (10 + b + t + k) 0 ∧ c2.n = 2 ∧ c2.ho 1 = true ∧ (c2.so (10 + b + t + k) 1).2 - (c2.so (10 + b + t + k) 1).1 ≤ ((c1 p).so (10 + b + t + k) 1).2 - ((c1 p).so (10 + b + t + k) 1).1 + 4 ∧ -1000000000000 ≤ (c2.so (10 + b + t + k) 1).1 ∧ (c2.so (10 + b + t + k) 1).2 ≤ 1000000000000 ∧ (c2.so (10 + b + t + k) 1).1 ≤ (c2.so (10 + b + t + k) 1).2) := by
  have n0 : 10 ≤ 10 + b + t + k := by omega
  have n1 : 10 + b + t + k ≤ 3000010 := by omega
  have w := wd_b h0 h1 n0 n1
  have o := o1 h0 h1
  obtain ⟨x1, x2⟩ := a1 p (10 + b + t + k)
  have d1 : 10 + b + t + k - (10 + b) = t + k := by omega
  have oh : oH (10 + b) (10 + b + t) (10 + b + t + k) p = t + 2 + ((t + k) * 3 * p + 1000000 - 1) / 1000000 := by
    unfold oH
    rw [d1]
    omega
  have m1 : 0 ≤ (t + k) * 3 * p := Int.mul_nonneg (by omega) h0
  have m2 : (t + k) * 3 * p ≤ 6000000 * 1000 := Int.mul_le_mul (by omega) h1 h0 (by omega)
  have q : oE (10 + b) (10 + b + t) (10 + b + t) (10 + b + t + k) p = 0 := by
    refine oE_fine ?_ ?_ (tmB_mk (by omega)) (tmB_mk (by omega)) (by omega)
    · unfold pE
      rw [if_pos ⟨tm (by omega) (by omega), tm (by omega) (by omega), tm (by omega) (by omega), tm (by omega) (by omega)⟩, if_neg (by omega)]
    · exact decide_eq_true (by omega)
  have nb := nbk (p := p) n0 n1
  have ng : ¬ (c1 p).bad (l2 b t) := by
    show ¬ ((0 : Int) ≠ ((0 : Nat) : Int) ∨ (1 : Int) = ((0 : Nat) : Int) ∨ (1 : Int) < 0 ∨ ((2 : Nat) : Int) ≤ 1)
    omega
  generalize hn : 10 + b + t + k = n at *
  have l : (c1 p).bLo 1 n (Nd.oL (l2 b t) n) = if Nd.oL (l2 b t) n < -5 - wd p n then -5 - wd p n else Nd.oL (l2 b t) n := rfl
  have h : (c1 p).bHi 1 n ((c1 p).oU (l2 b t) n) = if oH 0 5 10 p + wd p n < (c1 p).oU (l2 b t) n then oH 0 5 10 p + wd p n else (c1 p).oU (l2 b t) n := rfl
  have eL : Nd.oL (l2 b t) n = 10 + b + t - n := rfl
  have eU : (c1 p).oU (l2 b t) n = oH (10 + b) (10 + b + t) n p := rfl
  by_cases c : (c1 p).bLo 1 n (Nd.oL (l2 b t) n) ≤ (c1 p).bHi 1 n ((c1 p).oU (l2 b t) n)
  · refine Or.inr ⟨_, Or.inr (Or.inr (Or.inr (Or.inr (Or.inr ⟨nb, ng, rfl, q, c, rfl, rfl, rfl⟩)))), ?_⟩
    generalize hx : (c1 p).bLo 1 n (Nd.oL (l2 b t) n) = x at *
    generalize hy : (c1 p).bHi 1 n ((c1 p).oU (l2 b t) n) = y at *
    have hx2 : (c1 p).bLo (l2 b t).frm.toNat n (Nd.oL (l2 b t) n) = x := hx
    have hy2 : (c1 p).bHi (l2 b t).frm.toNat n ((c1 p).oU (l2 b t) n) = y := hy
    rw [hx2, hy2]
    have zs : ((c1 p).kept (l2 b t).frm.toNat n x y).sk 1 n = 2 := by
      show 2 + ((n - n) * 3 * p + 1000000 - 1) / 1000000 = 2
      rw [Int.sub_self, Int.zero_mul, Int.zero_mul]
      decide
    have za : ((c1 p).kept (l2 b t).frm.toNat n x y).alo 1 n = x - 2 := by
      show x - ((c1 p).kept (l2 b t).frm.toNat n x y).sk 1 n = x - 2
      rw [zs]
    have zb : ((c1 p).kept (l2 b t).frm.toNat n x y).ahi 1 n = y + 2 := by
      show y + ((c1 p).kept (l2 b t).frm.toNat n x y).sk 1 n = y + 2
      rw [zs]
    have zo : ((c1 p).kept (l2 b t).frm.toNat n x y).so n 1 = (x - 2, y + 2) := by
      show (((c1 p).kept (l2 b t).frm.toNat n x y).alo 1 n, ((c1 p).kept (l2 b t).frm.toNat n x y).ahi 1 n) = _
      rw [za, zb]
    have zp : (c1 p).so n 1 = (-5 - wd p n, oH 0 5 10 p + wd p n) := rfl
    have x1 : -5 - wd p n ≤ x := by rw [l]; split <;> omega
    have y1 : y ≤ oH 0 5 10 p + wd p n := by rw [h]; split <;> omega
    rw [zo, zp]
    refine ⟨?_, rfl, rfl, ?_, ?_, ?_, ?_⟩
    · refine Or.inr (Or.inr ⟨?_, fun i hi hh => ?_, rfl⟩)
      · show ¬ (n < 0 ∨ 1000000000000 < n ∨ n < n)
        omega
      · rcases two hi with rfl | rfl
        · cases hh
        · rw [za, zb]
          exact okB_mk (by omega)
    · show y + 2 - (x - 2) ≤ oH 0 5 10 p + wd p n - (-5 - wd p n) + 4
      omega
    · show -1000000000000 ≤ x - 2
      omega
    · show y + 2 ≤ 1000000000000
      omega
    · show x - 2 ≤ y + 2
      omega
  · exact Or.inl ⟨_, Or.inr (Or.inr (Or.inr (Or.inr (Or.inl ⟨nb, ng, rfl, q, by have : (c1 p).bHi 1 n ((c1 p).oU (l2 b t) n) < (c1 p).bLo 1 n (Nd.oL (l2 b t) n) := (by omega); exact this, rfl, rfl, rfl⟩))))⟩
end Go.Proofs.YtmomcaodmdlnpahDoor.nodeLearns
