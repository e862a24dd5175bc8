/- Steps along edges, loops of them, and which edge is at fault: plain mathematics; what package loops must answer. Steps tried again and again, as Bellman and Ford did: plain mathematics. A step is of use where it makes the node that it leads to lower; who was moved n times in a row, by n nodes, lies behind a loop without room. -/
import Derived.Test.YthejaecljkjliaiGreatDoorNm07
namespace Go.Proofs.YthejaecljkjliaiGreatDoor
open Go.ChangeShapes Go.WideShapes Go.ChangeAt Go.RowKit
set_option linter.unusedVariables false

/-- The edge of a step; where it leads from and to; what it adds. -/
def ixS (x : Int) : Nat := if 0 < x then (x - 1).toNat else (-x - 1).toNat
def frS (q : Nat → Eg) (x : Int) : Int := if 0 < x then (q (ixS x)).a else (q (ixS x)).b
def toS (q : Nat → Eg) (x : Int) : Int := if 0 < x then (q (ixS x)).b else (q (ixS x)).a
def coS (q : Nat → Eg) (x : Int) : Int := if 0 < x then (q (ixS x)).hi else -(q (ixS x)).lo
/-- A step of an edge. -/
def okS (m : Nat) (x : Int) : Prop := x ≠ 0 ∧ x ≤ m ∧ -(m : Int) ≤ x
/-- The room of the first k steps. -/
def rmS (q : Nat → Eg) (s : Nat → Int) : Nat → Int
  | 0 => 0
  | k + 1 => rmS q s k + coS q (s k)
/-- Does step i end where the next one begins? -/
def joS (q : Nat → Eg) (s : Nat → Int) (k i : Nat) : Prop := toS q (s i) = frS q (s ((i + 1) % k))
/-- Room, of edges as they may be. -/
def RmR (q : Nat → Eg) (m k : Nat) (s : Nat → Int) (r e : Int) : Prop :=
  (k = 0 ∧ r = 0 ∧ e = 5) ∨ (40 < k ∧ r = 0 ∧ e = 4) ∨ ((0 < k ∧ k ≤ 40) ∧ (∃ i, i < k ∧ ¬ okS m (s i)) ∧ r = 0 ∧ e = 1) ∨
  ((0 < k ∧ k ≤ 40) ∧ (∀ i, i < k → okS m (s i)) ∧ (∃ i, i < k ∧ ¬ joS q s k i) ∧ r = 0 ∧ e = 3) ∨
  ((0 < k ∧ k ≤ 40) ∧ (∀ i, i < k → okS m (s i)) ∧ (∀ i, i < k → joS q s k i) ∧ r = rmS q s k ∧ e = 0)
def RoomA (z : Int) (q : Nat → Eg) (m k : Nat) (s : Nat → Int) (r e : Int) : Prop := (eE z q m ≠ 0 ∧ r = 0 ∧ e = eE z q m) ∨ (eE z q m = 0 ∧ RmR q m k s r e)
theorem rmR_some (q : Nat → Eg) (m k : Nat) (s : Nat → Int) : ∃ r e, RmR q m k s r e := by
  by_cases h0 : k = 0
  · exact ⟨0, 5, Or.inl ⟨h0, rfl, rfl⟩⟩
  by_cases h1 : 40 < k
  · exact ⟨0, 4, Or.inr (Or.inl ⟨h1, rfl, rfl⟩)⟩
  by_cases h2 : ∃ i, i < k ∧ ¬ okS m (s i)
  · exact ⟨0, 1, Or.inr (Or.inr (Or.inl ⟨⟨by omega, by omega⟩, h2, rfl, rfl⟩))⟩
  have h2' : ∀ i, i < k → okS m (s i) := fun i hi => Classical.byContradiction fun c => h2 ⟨i, hi, c⟩
  by_cases h3 : ∃ i, i < k ∧ ¬ joS q s k i
  · exact ⟨0, 3, Or.inr (Or.inr (Or.inr (Or.inl ⟨⟨by omega, by omega⟩, h2', h3, rfl, rfl⟩)))⟩
  · exact ⟨_, 0, Or.inr (Or.inr (Or.inr (Or.inr ⟨⟨by omega, by omega⟩, h2', fun i hi => Classical.byContradiction fun c => h3 ⟨i, hi, c⟩, rfl, rfl⟩)))⟩
theorem roomA_some (z : Int) (q : Nat → Eg) (m k : Nat) (s : Nat → Int) : ∃ r e, RoomA z q m k s r e := by
  by_cases h : eE z q m = 0
  · obtain ⟨r, e, g⟩ := rmR_some q m k s
    exact ⟨r, e, Or.inr ⟨h, g⟩⟩
  · exact ⟨0, _, Or.inl ⟨h, rfl, rfl⟩⟩
theorem ixS_lt {m : Nat} {x : Int} (h : okS m x) : ixS x < m := by
  obtain ⟨h1, h2, h3⟩ := h
  unfold ixS
  split <;> omega
section
variable {q : Nat → Eg} {m n k : Nat} {s : Nat → Int}
theorem frS_in (hE : Egs n q m) {x : Int} (h : okS m x) : 0 ≤ frS q x ∧ frS q x < n := by
  obtain ⟨⟨a1, a2, a3, a4⟩, _⟩ := hE.each _ (ixS_lt h)
  unfold frS
  split
  · exact ⟨a1, a2⟩
  · exact ⟨a3, a4⟩
theorem toS_in (hE : Egs n q m) {x : Int} (h : okS m x) : 0 ≤ toS q x ∧ toS q x < n := by
  obtain ⟨⟨a1, a2, a3, a4⟩, _⟩ := hE.each _ (ixS_lt h)
  unfold toS
  split
  · exact ⟨a3, a4⟩
  · exact ⟨a1, a2⟩
theorem coS_in (hE : Egs n q m) {x : Int} (h : okS m x) : -1000000000000 ≤ coS q x ∧ coS q x ≤ 1000000000000 := by
  obtain ⟨_, _, o⟩ := hE.each _ (ixS_lt h)
  have := okB_t o
  unfold coS
  split <;> omega
theorem arc_step {x : Int} (h : okS m x) {u v : Nat} (hu : (u : Int) = frS q x) (hv : (v : Int) = toS q x) : Arc q m u v (coS q x) := by
  refine ⟨ixS x, ixS_lt h, ?_⟩
  unfold frS at hu
  unfold toS at hv
  unfold coS
  by_cases c : 0 < x
  · rw [if_pos c] at hu hv ⊢; exact Or.inl ⟨hu, hv, rfl⟩
  · rw [if_neg c] at hu hv ⊢; exact Or.inr ⟨hu, hv, rfl⟩
/-- A loop is a way around. -/
theorem loop_wk (hE : Egs n q m) (k0 : 0 < k) (ok : ∀ i, i < k → okS m (s i)) (jo : ∀ i, i < k → joS q s k i) : ∃ i, i < n ∧ Wk (Arc q m) k i i (rmS q s k) := by
  have f0 := frS_in hE (ok 0 k0)
  have fr : ∀ j, ((frS q (s (j % k))).toNat : Int) = frS q (s (j % k)) := fun j => Int.toNat_of_nonneg (frS_in hE (ok _ (Nat.mod_lt _ k0))).1
  refine ⟨(frS q (s 0)).toNat, by omega, fun j => (frS q (s (j % k))).toNat, rmS q s, ?_, ?_, rfl, rfl, fun t ht => ?_⟩
  · show (frS q (s (0 % k))).toNat = _
    rw [Nat.zero_mod]
  · show (frS q (s (k % k))).toNat = _
    rw [Nat.mod_self]
  · rw [show rmS q s (t + 1) - rmS q s t = coS q (s t) by simp only [rmS]; omega]
    refine arc_step (ok t ht) ?_ ?_
    · rw [fr t, Nat.mod_eq_of_lt ht]
    · rw [fr (t + 1)]; exact (jo t ht).symm
theorem rm_neg (hE : Egs n q m) {r : Int} (h : RmR q m k s r 0) (lt : r < 0) : Neg (Arc q m) n := by
  rcases h with ⟨_, _, e⟩ | ⟨_, _, e⟩ | ⟨_, _, _, e⟩ | ⟨_, _, _, _, e⟩ | ⟨⟨k0, _⟩, ok, jo, rfl, _⟩
  · cases e
  · cases e
  · cases e
  · cases e
  · obtain ⟨i, hi, w⟩ := loop_wk hE k0 ok jo
    exact ⟨_, i, _, hi, w, lt⟩
end
/-- Fault, and Find's error. -/
def FaultA (z : Int) (q : Nat → Eg) (m : Nat) (f e : Int) : Prop :=
  (eE z q m ≠ 0 ∧ f = 0 ∧ e = eE z q m) ∨ (eE z q m = 0 ∧ ¬ Neg (Arc q m) z.toNat ∧ f = 0 ∧ e = 5) ∨ (eE z q m = 0 ∧ e = 0 ∧ ∃ i : Nat, i < m ∧ f = i ∧ Neg (Arc q (i + 1)) z.toNat ∧ ¬ Neg (Arc q i) z.toNat)
def FindE (z : Int) (q : Nat → Eg) (m : Nat) (e : Int) : Prop := (eE z q m ≠ 0 ∧ e = eE z q m) ∨ (eE z q m = 0 ∧ ¬ Neg (Arc q m) z.toNat ∧ e = 5) ∨ (eE z q m = 0 ∧ Neg (Arc q m) z.toNat ∧ e = 0)
theorem findE_some (z : Int) (q : Nat → Eg) (m : Nat) : ∃ e, FindE z q m e := by
  by_cases h : eE z q m = 0
  · by_cases g : Neg (Arc q m) z.toNat
    · exact ⟨0, Or.inr (Or.inr ⟨h, g, rfl⟩)⟩
    · exact ⟨5, Or.inr (Or.inl ⟨h, g, rfl⟩)⟩
  · exact ⟨_, Or.inl ⟨h, rfl⟩⟩
theorem arc_none {q : Nat → Eg} {n : Nat} : ¬ Neg (Arc q 0) n := fun ⟨r, i, c, _, w, lt⟩ => by
  have := wk_fit (x := fun _ => 0) (fun u v c g => by obtain ⟨j, hj, _⟩ := g; omega) w
  omega
theorem first_neg {q : Nat → Eg} {n : Nat} : ∀ m, Neg (Arc q m) n → ∃ i, i < m ∧ Neg (Arc q (i + 1)) n ∧ ¬ Neg (Arc q i) n
  | 0, h => absurd h arc_none
  | m + 1, h => by
    by_cases g : Neg (Arc q m) n
    · obtain ⟨i, a, b, c⟩ := first_neg m g
      exact ⟨i, by omega, b, c⟩
    · exact ⟨m, by omega, h, g⟩
theorem neg_less {q : Nat → Eg} {n i m : Nat} (hi : i ≤ m) (h : Neg (Arc q i) n) : Neg (Arc q m) n := h.more (fun u v c g => g.less hi)
theorem faultA_some (z : Int) (q : Nat → Eg) (m : Nat) : ∃ f e, FaultA z q m f e := by
  by_cases h : eE z q m = 0
  · by_cases g : Neg (Arc q m) z.toNat
    · obtain ⟨i, a, b, c⟩ := first_neg m g
      exact ⟨i, 0, Or.inr (Or.inr ⟨h, rfl, i, a, rfl, b, c⟩)⟩
    · exact ⟨0, 5, Or.inr (Or.inl ⟨h, g, rfl, rfl⟩)⟩
  · exact ⟨0, _, Or.inl ⟨h, rfl, rfl⟩⟩
theorem mod_next (i k : Nat) (h : i < k) : (((i : Int) + 1).tmod (k : Int)) = (((i + 1) % k : Nat) : Int) := by
  rw [Int.tmod_eq_emod_of_nonneg (by omega), show (i : Int) + 1 = ((i + 1 : Nat) : Int) by omega]
  rfl
/-! ### Around -/
section
variable {n : Nat} {more : Int}
/-- Edge i: from i to i + 1, the last one to 0. -/
def ring (n : Nat) (more : Int) (i : Nat) : Eg := ⟨i, ((i + 1) % n : Nat), more, more⟩
/-- Along or back. -/
def sgS (x : Int) : Int := if 0 < x then 1 else -1
def sumS (s : Nat → Int) : Nat → Int
  | 0 => 0
  | k + 1 => sumS s k + sgS (s k)
theorem ring_co {x : Int} : coS (ring n more) x = more * sgS x := by
  unfold coS sgS ring
  split <;> simp
theorem ring_rm (s : Nat → Int) : ∀ k, rmS (ring n more) s k = more * sumS s k
  | 0 => by simp [rmS, sumS]
  | k + 1 => by simp only [rmS, sumS]; rw [ring_rm s k, ring_co, Int.mul_add]
theorem sum_le (s : Nat → Int) : ∀ k : Nat, -(k : Int) ≤ sumS s k ∧ sumS s k ≤ k
  | 0 => by simp [sumS]
  | k + 1 => by
    have := sum_le s k
    simp only [sumS, sgS]
    split <;> omega
theorem ring_step (n0 : 0 < n) {x : Int} (h : okS n x) : (toS (ring n more) x - frS (ring n more) x - sgS x) % (n : Int) = 0 := by
  have hi := ixS_lt h
  unfold toS frS sgS ring
  by_cases c : 0 < x
  · rw [if_pos c, if_pos c, if_pos c]
    show (((ixS x + 1) % n : Nat) - (ixS x : Int) - 1) % (n : Int) = 0
    by_cases e : ixS x + 1 = n
    · rw [e, Nat.mod_self]
      rw [show ((0 : Nat) : Int) - (ixS x : Int) - 1 = -(n : Int) by omega]
      simp
    · rw [Nat.mod_eq_of_lt (by omega), show ((ixS x + 1 : Nat) : Int) - (ixS x : Int) - 1 = 0 by omega]
      simp
  · rw [if_neg c, if_neg c, if_neg c]
    show ((ixS x : Int) - ((ixS x + 1) % n : Nat) - -1) % (n : Int) = 0
    by_cases e : ixS x + 1 = n
    · rw [e, Nat.mod_self]
      rw [show (ixS x : Int) - ((0 : Nat) : Int) - -1 = (n : Int) by omega]
      simp
    · rw [Nat.mod_eq_of_lt (by omega), show (ixS x : Int) - ((ixS x + 1 : Nat) : Int) - -1 = 0 by omega]
      simp
theorem ring_sum (n0 : 0 < n) {k : Nat} {s : Nat → Int} (k0 : 0 < k) (ok : ∀ i, i < k → okS n (s i)) (jo : ∀ i, i < k → joS (ring n more) s k i) : ∀ t, t ≤ k → (frS (ring n more) (s (t % k)) - frS (ring n more) (s 0) - sumS s t) % (n : Int) = 0
  | 0, _ => by simp [sumS]
  | t + 1, h => by
    have ih := ring_sum n0 k0 ok jo t (by omega)
    have st := ring_step (more := more) n0 (ok t (by omega))
    have j := jo t (by omega)
    unfold joS at j
    rw [Nat.mod_eq_of_lt (show t < k by omega)] at ih
    rw [← j]
    simp only [sumS]
    rw [show toS (ring n more) (s t) - frS (ring n more) (s 0) - (sumS s t + sgS (s t)) = (toS (ring n more) (s t) - frS (ring n more) (s t) - sgS (s t)) + (frS (ring n more) (s t) - frS (ring n more) (s 0) - sumS s t) by omega]
    rw [Int.add_emod, st, ih]
    simp
/-- A loop around that has no room goes by all nodes. -/
theorem ring_len (n0 : 0 < n) {k : Nat} {s : Nat → Int} {r : Int} (h : RmR (ring n more) n k s r 0) (lt : r < 0) (hk : k ≤ n) : k = n := by
  rcases h with ⟨_, _, e⟩ | ⟨_, _, e⟩ | ⟨_, _, _, e⟩ | ⟨_, _, _, _, e⟩ | ⟨⟨k0, _⟩, ok, jo, rfl, _⟩
  · cases e
  · cases e
  · cases e
  · cases e
  · have e := ring_sum n0 k0 ok jo k (Nat.le_refl _)
    rw [Nat.mod_self, Int.sub_self, Int.zero_sub] at e
    rw [ring_rm] at lt
    have b := sum_le s k
    have ne : sumS s k ≠ 0 := fun z => by rw [z] at lt; simp at lt
    have d : (n : Int) ∣ sumS s k := Int.dvd_neg.1 (Int.dvd_of_emod_eq_zero e)
    obtain ⟨c, hc⟩ := d
    apply Classical.byContradiction
    intro kn
    have kl : (k : Int) < n := by omega
    rcases Int.lt_trichotomy c 0 with c1 | c1 | c1
    · have : (n : Int) * c ≤ (n : Int) * (-1) := Int.mul_le_mul_of_nonneg_left (by omega) (by omega)
      omega
    · rw [c1, Int.mul_zero] at hc; exact ne hc
    · have : (n : Int) * 1 ≤ (n : Int) * c := Int.mul_le_mul_of_nonneg_left (by omega) (by omega)
      omega
/-- What there is around: edges as they may be; a way around just if it says something. -/
theorem ring_egs (h3 : 3 ≤ n) (h6 : n ≤ 6) (l1 : -1000 ≤ more) (l2 : more ≤ 1000) : eE n (ring n more) n = 0 := by
  unfold eE
  rw [if_neg (by omega), if_neg (by omega)]
  refine eFr_ok fun i hi => ?_
  have hb : (i + 1) % n < n := Nat.mod_lt _ (by omega)
  have ne : (i : Int) ≠ (((i + 1) % n : Nat) : Int) := by
    by_cases e : i + 1 = n
    · rw [e, Nat.mod_self]; omega
    · rw [Nat.mod_eq_of_lt (by omega)]; omega
  unfold eEr
  show (if (i : Int) < 0 ∨ (n : Int) ≤ i ∨ (((i + 1) % n : Nat) : Int) < 0 ∨ (n : Int) ≤ (((i + 1) % n : Nat) : Int) then (1 : Int) else if (i : Int) = (((i + 1) % n : Nat) : Int) then 3 else if okB more more = true then 0 else 1) = 0
  rw [if_neg (by omega), if_neg ne, if_pos (okB_mk ⟨Int.le_refl _, by omega, by omega⟩)]
theorem ring_fwd (n0 : 0 < n) : ∀ k, k ≤ n → Wk (Arc (ring n more) n) k 0 (k % n) ((k : Int) * more)
  | 0, _ => by
    rw [Nat.zero_mod]
    have := Wk.nil (R := Arc (ring n more) n) 0
    simpa using this
  | k + 1, h => by
    have ih := ring_fwd n0 k (by omega)
    rw [Nat.mod_eq_of_lt (show k < n by omega)] at ih
    have g : Arc (ring n more) n k ((k + 1) % n) more := ⟨k, by omega, Or.inl ⟨rfl, rfl, rfl⟩⟩
    have w := ih.snoc g
    rw [show (((k + 1 : Nat) : Int)) * more = (k : Int) * more + more by rw [show (((k + 1 : Nat) : Int)) = (k : Int) + 1 by omega, Int.add_mul, Int.one_mul]]
    exact w
theorem ring_bwd (n0 : 0 < n) : ∀ k, k ≤ n → Wk (Arc (ring n more) n) k (k % n) 0 (-((k : Int) * more))
  | 0, _ => by
    rw [Nat.zero_mod]
    have := Wk.nil (R := Arc (ring n more) n) 0
    simpa using this
  | k + 1, h => by
    have ih := ring_bwd n0 k (by omega)
    rw [Nat.mod_eq_of_lt (show k < n by omega)] at ih
    have g : Arc (ring n more) n ((k + 1) % n) k (-more) := ⟨k, by omega, Or.inr ⟨rfl, rfl, rfl⟩⟩
    have w := ((Wk.nil ((k + 1) % n)).snoc g).app ih
    rw [show (-((((k + 1 : Nat) : Int)) * more)) = (0 + -more) + -((k : Int) * more) by rw [show (((k + 1 : Nat) : Int)) = (k : Int) + 1 by omega, Int.add_mul, Int.one_mul]; omega]
    rw [show k + 1 = 0 + 1 + k by omega] at *
    exact w
theorem ring_neg (h3 : 3 ≤ n) (ne : more ≠ 0) : Neg (Arc (ring n more) n) n := by
  have w1 := ring_fwd (more := more) (show 0 < n by omega) n (Nat.le_refl _)
  have w2 := ring_bwd (more := more) (show 0 < n by omega) n (Nat.le_refl _)
  rw [Nat.mod_self] at w1 w2
  rcases Int.lt_trichotomy more 0 with c | c | c
  · exact ⟨n, 0, _, by omega, w1, Int.mul_neg_of_pos_of_neg (by omega) c⟩
  · exact absurd c ne
  · have := Int.mul_pos (show (0 : Int) < n by omega) c
    exact ⟨n, 0, _, by omega, w2, by omega⟩
theorem ring_less (h3 : 3 ≤ n) : ¬ Neg (Arc (ring n more) (n - 1)) n := fun h => by
  refine h.unfit (x := fun i : Nat => (i : Int) * more) ?_
  rintro u v c ⟨j, hj, ⟨h1, h2, hc⟩ | ⟨h1, h2, hc⟩⟩
  · have h1' : (u : Int) = j := h1
    have h2' : (v : Int) = (((j + 1) % n : Nat) : Int) := h2
    rw [Nat.mod_eq_of_lt (show j + 1 < n by omega)] at h2'
    have hc' : c = more := hc
    show (v : Int) * more - (u : Int) * more ≤ c
    rw [h1', h2', show ((j + 1 : Nat) : Int) = (j : Int) + 1 by omega, Int.add_mul, Int.one_mul]
    omega
  · have h1' : (u : Int) = (((j + 1) % n : Nat) : Int) := h1
    have h2' : (v : Int) = j := h2
    rw [Nat.mod_eq_of_lt (show j + 1 < n by omega)] at h1'
    have hc' : c = -more := hc
    show (v : Int) * more - (u : Int) * more ≤ c
    rw [h1', h2', show ((j + 1 : Nat) : Int) = (j : Int) + 1 by omega, Int.add_mul, Int.one_mul]
    omega
theorem ring_zero : ¬ Neg (Arc (ring n 0) n) n := fun h => by
  refine h.unfit (x := fun _ => 0) ?_
  rintro u v c ⟨j, hj, ⟨h1, h2, rfl⟩ | ⟨h1, h2, rfl⟩⟩
  · show (0 : Int) - 0 ≤ 0
    omega
  · show (0 : Int) - 0 ≤ -0
    omega
end
end Go.Proofs.YthejaecljkjliaiGreatDoor
namespace Go.Proofs.YthejaecljkjliaiGreatDoor
open Go.ChangeShapes Go.WideShapes Go.ChangeAt Go.RowKit
set_option linter.unusedVariables false

/-- One value turned. -/
def updI (M : Nat → Int) (v : Nat) (x : Int) : Nat → Int := fun i => if i = v then x else M i
theorem updI_at (M : Nat → Int) (v : Nat) (x : Int) : updI M v x v = x := if_pos rfl
theorem updI_ne (M : Nat → Int) {v i : Nat} (x : Int) (h : i ≠ v) : updI M v x i = M i := if_neg h
def updL (M : Nat → Nat) (v x : Nat) : Nat → Nat := fun i => if i = v then x else M i
theorem updL_at (M : Nat → Nat) (v x : Nat) : updL M v x v = x := if_pos rfl
theorem updL_ne (M : Nat → Nat) {v i : Nat} (x : Nat) (h : i ≠ v) : updL M v x i = M i := if_neg h
/-- Where a step leads from and to, as places. -/
def frN (q : Nat → Eg) (x : Int) : Nat := (frS q x).toNat
def toN (q : Nat → Eg) (x : Int) : Nat := (toS q x).toNat
/-- A step that is of no use. -/
def Tgt (q : Nat → Eg) (M : Nat → Int) (x : Int) : Prop := M (toN q x) ≤ M (frN q x) + coS q x
section
variable {q : Nat → Eg} {m n : Nat} {x : Int}
theorem frN_lt (hE : Egs n q m) (h : okS m x) : frN q x < n := by
  have := frS_in hE h
  unfold frN
  omega
theorem toN_lt (hE : Egs n q m) (h : okS m x) : toN q x < n := by
  have := toS_in hE h
  unfold toN
  omega
theorem frN_eq (hE : Egs n q m) (h : okS m x) : (frN q x : Int) = frS q x := Int.toNat_of_nonneg (frS_in hE h).1
theorem toN_eq (hE : Egs n q m) (h : okS m x) : (toN q x : Int) = toS q x := Int.toNat_of_nonneg (toS_in hE h).1
theorem fr_ne_to (hE : Egs n q m) (h : okS m x) : frN q x ≠ toN q x := by
  obtain ⟨_, ne, _⟩ := hE.each _ (ixS_lt h)
  have h1 := frN_eq hE h
  have h2 := toN_eq hE h
  intro e
  have e' : frS q x = toS q x := by omega
  unfold frS toS at e'
  split at e'
  · exact ne e'
  · exact ne e'.symm
end
/-- The search within its pass number k + 1: c steps were tried in it (at most), those of D; who was moved last. T and t are when a node was moved last: by steps and by passes. -/
structure BfG (q : Nat → Eg) (n m k c : Nat) (D : Int → Prop) (M Y : Nat → Int) (mv : Int) (T t : Nat → Nat) (tau : Nat) : Prop where
  no : ∀ v, v < n → Y v = 0 → t v = 0
  stp : ∀ v, v < n → Y v ≠ 0 → okS m (Y v) ∧ toN q (Y v) = v ∧ t v ≤ t (frN q (Y v)) + 1 ∧ (M (frN q (Y v)) + coS q (Y v) < M v ∨ (M (frN q (Y v)) + coS q (Y v) ≤ M v ∧ T (frN q (Y v)) < T v))
  tle : ∀ v, v < n → t v ≤ k + 1
  Tle : ∀ v, v < n → T v ≤ tau
  useD : ∀ x, okS m x → D x → Tgt q M x ∨ k + 1 ≤ t (frN q x)
  useN : ∀ x, okS m x → Tgt q M x ∨ k ≤ t (frN q x)
  low : ∀ v, v < n → -(1000000000000 * (tau : Int)) ≤ M v ∧ M v ≤ 0
  cnt : tau ≤ 80 * k + c
  mvd : (mv = -1 ∧ ∀ x, okS m x → D x → Tgt q M x) ∨ (0 ≤ mv ∧ mv < n ∧ t mv.toNat = k + 1)
def Bf (q : Nat → Eg) (n m k c : Nat) (D : Int → Prop) (M Y : Nat → Int) (mv : Int) : Prop := ∃ T t tau, BfG q n m k c D M Y mv T t tau
section
variable {q : Nat → Eg} {n m k c : Nat} {D D' : Int → Prop} {M Y : Nat → Int} {mv : Int}
theorem bf_zero : Bf q n m 0 0 (fun _ => False) (fun _ => 0) (fun _ => 0) (-1) :=
  ⟨fun _ => 0, fun _ => 0, 0, fun _ _ _ => rfl, fun v _ h => absurd rfl h, fun _ _ => by omega, fun _ _ => by omega, fun _ _ h => h.elim, fun _ _ => Or.inr (by omega), fun _ _ => ⟨by decide, by decide⟩, by omega, Or.inl ⟨rfl, fun _ _ h => h.elim⟩⟩
/-- What a node may be. -/
theorem Bf.low (h : Bf q n m k c D M Y mv) (hk : k < 6) (hc : c ≤ 80) {v : Nat} (hv : v < n) : -480000000000000 ≤ M v ∧ M v ≤ 0 := by
  obtain ⟨T, t, tau, g⟩ := h
  have h1 := g.low v hv
  have h2 := g.cnt
  omega
/-- A step of no use was tried. -/
theorem Bf.keep (h : Bf q n m k c D M Y mv) {x : Int} (hD : ∀ y, D' y → D y ∨ y = x) (hx : Tgt q M x) : Bf q n m k (c + 1) D' M Y mv := by
  obtain ⟨T, t, tau, g⟩ := h
  refine ⟨T, t, tau, g.no, g.stp, g.tle, g.Tle, fun y hy d => ?_, g.useN, g.low, by have := g.cnt; omega, ?_⟩
  · rcases hD y d with d | rfl
    · exact g.useD y hy d
    · exact Or.inl hx
  · rcases g.mvd with ⟨e, a⟩ | h
    · refine Or.inl ⟨e, fun y hy d => ?_⟩
      rcases hD y d with d | rfl
      · exact a y hy d
      · exact hx
    · exact Or.inr h
/-- A step of use was tried. -/
theorem Bf.move (hE : Egs n q m) (h : Bf q n m k c D M Y mv) {x : Int} (ok : okS m x) (hD : ∀ y, D' y → D y ∨ y = x) (hx : ¬ Tgt q M x) : Bf q n m k (c + 1) D' (updI M (toN q x) (M (frN q x) + coS q x)) (updI Y (toN q x) x) (toS q x) := by
  obtain ⟨T, t, tau, g⟩ := h
  have hu := frN_lt hE ok
  have hv := toN_lt hE ok
  have ne := fr_ne_to hE ok
  have eT := toN_eq hE ok
  have co := coS_in hE ok
  have tu : k ≤ t (frN q x) := by
    rcases g.useN x ok with h | h
    · exact absurd h hx
    · exact h
  have lt : M (frN q x) + coS q x < M (toN q x) := by
    unfold Tgt at hx
    omega
  have mono : ∀ i, updI M (toN q x) (M (frN q x) + coS q x) i ≤ M i := fun i => by
    by_cases e : i = toN q x
    · rw [e, updI_at]; omega
    · rw [updI_ne _ _ e]; exact Int.le_refl _
  have use : ∀ y (K : Nat), okS m y → K ≤ k + 1 → (Tgt q M y ∨ K ≤ t (frN q y)) → Tgt q (updI M (toN q x) (M (frN q x) + coS q x)) y ∨ K ≤ updL t (toN q x) (k + 1) (frN q y) := fun y K hy hK h => by
    by_cases e : frN q y = toN q x
    · rw [e, updL_at]; exact Or.inr hK
    · rw [updL_ne _ _ e]
      rcases h with h | h
      · refine Or.inl ?_
        unfold Tgt at h ⊢
        rw [updI_ne M _ e]
        have := mono (toN q y)
        omega
      · exact Or.inr h
  refine ⟨updL T (toN q x) (tau + 1), updL t (toN q x) (k + 1), tau + 1, fun v vn e => ?_, fun v vn e => ?_, fun v vn => ?_, fun v vn => ?_, fun y hy d => ?_, fun y hy => ?_, fun v vn => ?_, by have := g.cnt; omega, Or.inr ⟨by omega, by omega, ?_⟩⟩
  · by_cases q' : v = toN q x
    · rw [q', updI_at] at e
      exact absurd e ok.1
    · rw [updI_ne _ _ q'] at e
      rw [updL_ne _ _ q']
      exact g.no v vn e
  · by_cases q' : v = toN q x
    · subst q'
      rw [updI_at, updI_at, updL_at, updL_ne _ _ ne, updI_ne _ _ ne, updL_ne _ _ ne, updL_at]
      exact ⟨ok, rfl, by omega, Or.inr ⟨Int.le_refl _, by have := g.Tle _ hu; omega⟩⟩
    · rw [updI_ne _ _ q'] at e ⊢
      rw [updI_ne _ _ q', updL_ne _ _ q', updL_ne _ _ q']
      obtain ⟨a1, a2, a3, a4⟩ := g.stp v vn e
      have a5 := g.tle v vn
      refine ⟨a1, a2, ?_, ?_⟩
      · by_cases f : frN q (Y v) = toN q x
        · rw [f, updL_at]; omega
        · rw [updL_ne _ _ f]; exact a3
      · by_cases f : frN q (Y v) = toN q x
        · rw [f, updI_at]
          rw [f] at a4
          exact Or.inl (by omega)
        · rw [updI_ne _ _ f, updL_ne _ _ f]; exact a4
  · by_cases q' : v = toN q x
    · rw [q', updL_at]; exact Nat.le_refl _
    · rw [updL_ne _ _ q']; exact g.tle v vn
  · by_cases q' : v = toN q x
    · rw [q', updL_at]; exact Nat.le_refl _
    · rw [updL_ne _ _ q']; have := g.Tle v vn; omega
  · by_cases e : y = x
    · subst e
      refine Or.inl ?_
      unfold Tgt
      rw [updI_at, updI_ne _ _ ne]
      exact Int.le_refl _
    · rcases hD y d with d | d
      · exact use y (k + 1) hy (Nat.le_refl _) (g.useD y hy d)
      · exact absurd d e
  · exact use y k hy (by omega) (g.useN y hy)
  · have h1 := g.low v vn
    have h2 := g.low _ hu
    have h3 := mono v
    refine ⟨?_, by omega⟩
    by_cases q' : v = toN q x
    · rw [q', updI_at]; omega
    · rw [updI_ne _ _ q']; omega
  · exact updL_at _ _ _
/-- The next pass. -/
theorem Bf.next (h : Bf q n m k c D M Y mv) (hc : c ≤ 80) (hD : ∀ x, okS m x → D x) : Bf q n m (k + 1) 0 (fun _ => False) M Y (-1) := by
  obtain ⟨T, t, tau, g⟩ := h
  exact ⟨T, t, tau, g.no, g.stp, fun v hv => by have := g.tle v hv; omega, g.Tle, fun _ _ h => h.elim, fun x hx => g.useD x hx (hD x hx), g.low, by have := g.cnt; omega, Or.inl ⟨rfl, fun _ _ h => h.elim⟩⟩
theorem Bf.sub (h : Bf q n m k c D M Y mv) {c' : Nat} (hc : c ≤ c') (hD : ∀ x, D' x → D x) : Bf q n m k c' D' M Y mv := by
  obtain ⟨T, t, tau, g⟩ := h
  refine ⟨T, t, tau, g.no, g.stp, g.tle, g.Tle, fun x hx d => g.useD x hx (hD x d), g.useN, g.low, by have := g.cnt; omega, ?_⟩
  rcases g.mvd with ⟨e, a⟩ | h
  · exact Or.inl ⟨e, fun x hx d => a x hx (hD x d)⟩
  · exact Or.inr h
theorem Bf.mv_in (h : Bf q n m k c D M Y mv) : mv = -1 ∨ (0 ≤ mv ∧ mv < n) := by
  obtain ⟨T, t, tau, g⟩ := h
  rcases g.mvd with ⟨e, _⟩ | ⟨a, b, _⟩
  · exact Or.inl e
  · exact Or.inr ⟨a, b⟩
/-- If no step was of use clocks fit. -/
theorem Bf.fit (hE : Egs n q m) (h : Bf q n m k c D M Y (-1)) (hD : ∀ x, okS m x → D x) : ¬ Neg (Arc q m) n := by
  obtain ⟨T, t, tau, g⟩ := h
  have al : ∀ x, okS m x → Tgt q M x := by
    rcases g.mvd with ⟨_, a⟩ | ⟨a, _⟩
    · exact fun x hx => a x hx (hD x hx)
    · exact absurd a (by decide)
  intro ng
  refine ng.unfit (x := M) ?_
  rintro u v c' ⟨j, hj, ⟨h1, h2, h3⟩ | ⟨h1, h2, h3⟩⟩
  · have ok : okS m ((j : Int) + 1) := ⟨by omega, by omega, by omega⟩
    have ix : ixS ((j : Int) + 1) = j := by unfold ixS; rw [if_pos (by omega)]; omega
    have a := al _ ok
    unfold Tgt toN frN toS frS coS at a
    rw [if_pos (by omega), if_pos (by omega), if_pos (by omega), ix, ← h1, ← h2, ← h3, Int.toNat_natCast, Int.toNat_natCast] at a
    omega
  · have ok : okS m (-((j : Int) + 1)) := ⟨by omega, by omega, by omega⟩
    have ix : ixS (-((j : Int) + 1)) = j := by unfold ixS; rw [if_neg (by omega)]; omega
    have a := al _ ok
    unfold Tgt toN frN toS frS coS at a
    rw [if_neg (by omega), if_neg (by omega), if_neg (by omega), ix, ← h1, ← h2, ← h3, Int.toNat_natCast, Int.toNat_natCast] at a
    omega
end
/-- j steps back from a node, by the step that moved each last. -/
def bk (q : Nat → Eg) (Y : Nat → Int) (v : Nat) : Nat → Nat
  | 0 => v
  | j + 1 => frN q (Y (bk q Y v j))
theorem bk_add (q : Nat → Eg) (Y : Nat → Int) (v i : Nat) : ∀ j, bk q Y v (i + j) = bk q Y (bk q Y v i) j
  | 0 => rfl
  | j + 1 => by
    show frN q (Y (bk q Y v (i + j))) = frN q (Y (bk q Y (bk q Y v i) j))
    rw [bk_add q Y v i j]
/-- A node that lies on a loop back, of d steps and no fewer. -/
structure Rng (q : Nat → Eg) (n m : Nat) (M Y : Nat → Int) (T : Nat → Nat) (c d : Nat) : Prop where
  d0 : 0 < d
  dn : d ≤ n
  ok : ∀ j, bk q Y c j < n ∧ okS m (Y (bk q Y c j)) ∧ toN q (Y (bk q Y c j)) = bk q Y c j
  co : ∀ j, (M (bk q Y c (j + 1)) + coS q (Y (bk q Y c j)) < M (bk q Y c j) ∨ (M (bk q Y c (j + 1)) + coS q (Y (bk q Y c j)) ≤ M (bk q Y c j) ∧ T (bk q Y c (j + 1)) < T (bk q Y c j)))
  back : bk q Y c d = c
  first : ∀ j, 0 < j → j < d → bk q Y c j ≠ c
section
variable {q : Nat → Eg} {n m k c : Nat} {D : Int → Prop} {M Y : Nat → Int} {mv : Nat}
/-- Who was moved by the n-th pass: n steps back from it lies a loop. -/
theorem Bf.ring (hE : Egs n q m) (h : Bf q n m k c D M Y mv) (hk : k + 1 = n) : mv < n ∧ (∀ j, bk q Y mv j < n ∧ okS m (Y (bk q Y mv j))) ∧ ∃ T d, Rng q n m M Y T (bk q Y mv n) d := by
  obtain ⟨T, t, tau, g⟩ := h
  have h0 : mv < n ∧ t mv = n := by
    rcases g.mvd with ⟨e, _⟩ | ⟨_, b, e⟩
    · omega
    · rw [Int.toNat_natCast] at e
      omega
  have a1 : ∀ j, j ≤ n → bk q Y mv j < n ∧ n ≤ t (bk q Y mv j) + j := by
    intro j
    induction j with
    | zero => intro _; exact ⟨h0.1, by show n ≤ t mv + 0; omega⟩
    | succ j ih =>
      intro hj
      obtain ⟨b1, b2⟩ := ih (by omega)
      have ne : Y (bk q Y mv j) ≠ 0 := fun e => by have := g.no _ b1 e; omega
      obtain ⟨o1, o2, o3, _⟩ := g.stp _ b1 ne
      refine ⟨frN_lt hE o1, ?_⟩
      show n ≤ t (frN q (Y (bk q Y mv j))) + (j + 1)
      omega
  have a2 : ∀ j, j < n → Y (bk q Y mv j) ≠ 0 := fun j hj e => by
    obtain ⟨b1, b2⟩ := a1 j (by omega)
    have := g.no _ b1 e
    omega
  obtain ⟨s, r, sr, rn, e⟩ := pigeon n (bk q Y mv) (fun j hj => (a1 j hj).1)
  have per : ∀ j, bk q Y mv (r + j) = bk q Y mv (s + j) := fun j => by rw [bk_add, bk_add, e]
  have a3 : ∀ j, bk q Y mv j < n ∧ Y (bk q Y mv j) ≠ 0 := by
    intro j
    induction j using Nat.strongRecOn with
    | _ j ih =>
      by_cases hj : j < n
      · exact ⟨(a1 j (by omega)).1, a2 j hj⟩
      · have p := per (j - r)
        rw [show r + (j - r) = j by omega] at p
        rw [p]
        exact ih (s + (j - r)) (by omega)
  have a4 : ∀ j, bk q Y mv j < n ∧ okS m (Y (bk q Y mv j)) := fun j => ⟨(a3 j).1, (g.stp _ (a3 j).1 (a3 j).2).1⟩
  refine ⟨h0.1, a4, T, ?_⟩
  have pn : bk q Y (bk q Y mv n) (r - s) = bk q Y mv n := by
    rw [← bk_add]
    have p := per (n - s)
    rw [show r + (n - s) = n + (r - s) by omega, show s + (n - s) = n by omega] at p
    exact p
  obtain ⟨d, ⟨hd0, hd⟩, hm⟩ := least_nat (fun d => 0 < d ∧ bk q Y (bk q Y mv n) d = bk q Y mv n) (r - s) ⟨by omega, pn⟩
  have dr : d ≤ r - s := by
    apply Classical.byContradiction
    intro k'
    exact hm (r - s) (by omega) ⟨by omega, pn⟩
  refine ⟨d, hd0, by omega, fun j => ?_, fun j => ?_, hd, fun j j0 jd e' => hm j jd ⟨j0, e'⟩⟩
  · rw [← bk_add]
    obtain ⟨o1, o2, _⟩ := g.stp _ (a3 (n + j)).1 (a3 (n + j)).2
    exact ⟨(a3 (n + j)).1, o1, o2⟩
  · show (M (frN q (Y (bk q Y (bk q Y mv n) j))) + _ < _ ∨ (M (frN q (Y (bk q Y (bk q Y mv n) j))) + _ ≤ _ ∧ T (frN q (Y (bk q Y (bk q Y mv n) j))) < _))
    rw [← bk_add]
    exact (g.stp _ (a3 (n + j)).1 (a3 (n + j)).2).2.2.2
end
/-- The loop, from its far end. -/
def lpS (q : Nat → Eg) (Y : Nat → Int) (c d : Nat) (i : Nat) : Int := Y (bk q Y c (d - 1 - i))
section
variable {q : Nat → Eg} {n m c d : Nat} {M Y : Nat → Int} {T : Nat → Nat}
theorem Rng.sum (R : Rng q n m M Y T c d) : ∀ i, i ≤ d → rmS q (lpS q Y c d) i < M (bk q Y c (d - i)) - M (bk q Y c d) ∨ (rmS q (lpS q Y c d) i ≤ M (bk q Y c (d - i)) - M (bk q Y c d) ∧ (i = 0 ∨ T (bk q Y c d) < T (bk q Y c (d - i))))
  | 0, _ => Or.inr ⟨by show (0 : Int) ≤ M (bk q Y c d) - M (bk q Y c d); omega, Or.inl rfl⟩
  | i + 1, h => by
    have ih := R.sum i (by omega)
    have s := R.co (d - 1 - i)
    rw [show d - 1 - i + 1 = d - i by omega] at s
    rw [show d - (i + 1) = d - 1 - i by omega]
    show rmS q (lpS q Y c d) i + coS q (Y (bk q Y c (d - 1 - i))) < _ ∨ (rmS q (lpS q Y c d) i + coS q (Y (bk q Y c (d - 1 - i))) ≤ _ ∧ _)
    rcases ih with ih | ⟨ih, ti⟩
    · rcases s with s | ⟨s, _⟩
      · exact Or.inl (by omega)
      · exact Or.inl (by omega)
    · rcases s with s | ⟨s, ts⟩
      · exact Or.inl (by omega)
      · refine Or.inr ⟨by omega, Or.inr ?_⟩
        rcases ti with rfl | ti
        · rw [Nat.sub_zero] at ts ⊢; exact ts
        · omega
theorem Rng.below (R : Rng q n m M Y T c d) : rmS q (lpS q Y c d) d < 0 := by
  have s := R.sum d (Nat.le_refl _)
  rw [Nat.sub_self, R.back] at s
  have e : M (bk q Y c 0) = M c := rfl
  have e' : T (bk q Y c 0) = T c := rfl
  have := R.d0
  rcases s with s | ⟨s, z | t⟩
  · omega
  · omega
  · omega
theorem Rng.room (hE : Egs n q m) (R : Rng q n m M Y T c d) : RmR q m d (lpS q Y c d) (rmS q (lpS q Y c d) d) 0 := by
  have h6 := hE.n6
  have d0 := R.d0
  have dn := R.dn
  refine Or.inr (Or.inr (Or.inr (Or.inr ⟨⟨d0, by omega⟩, fun i hi => (R.ok _).2.1, fun i hi => ?_, rfl, rfl⟩)))
  unfold joS
  obtain ⟨_, o1, o2⟩ := R.ok (d - 1 - i)
  have t1 := toN_eq hE o1
  show toS q (Y (bk q Y c (d - 1 - i))) = frS q (Y (bk q Y c (d - 1 - (i + 1) % d)))
  rw [← t1, o2]
  by_cases e : i + 1 = d
  · rw [e, Nat.mod_self]
    obtain ⟨_, p1, _⟩ := R.ok (d - 1 - 0)
    rw [← frN_eq hE p1]
    show ((bk q Y c (d - 1 - i) : Nat) : Int) = ((bk q Y c (d - 1 - 0 + 1) : Nat) : Int)
    rw [show d - 1 - 0 + 1 = d by omega, show d - 1 - i = 0 by omega, R.back]
    rfl
  · rw [Nat.mod_eq_of_lt (by omega)]
    obtain ⟨_, p1, _⟩ := R.ok (d - 1 - (i + 1))
    rw [← frN_eq hE p1]
    show ((bk q Y c (d - 1 - i) : Nat) : Int) = ((bk q Y c (d - 1 - (i + 1) + 1) : Nat) : Int)
    rw [show d - 1 - (i + 1) + 1 = d - 1 - i by omega]
end
end Go.Proofs.YthejaecljkjliaiGreatDoor
