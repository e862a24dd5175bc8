/- Steps along edges, loops of them, and which edge is at fault: plain mathematics; what package loops must answer. -/
import Derived.Test.YtiebojccnaelbaeDoorBoundsMore
namespace Go.Proofs.YtiebojccnaelbaeDoor
open Go.ChangeShapes Go.WideShapes Go.ChangeAt Go.RowKit
set_option linter.unusedVariables false

/-- The edge of a step; where it leads from and to; what it adds. -/
def ixS (x : Int) : Nat := if 0 < x then (x - 1).toNat else (-x - 1).toNat
def frS (q : Nat → Eg) (x : Int) : Int := if 0 < x then (q (ixS x)).a else (q (ixS x)).b
def toS (q : Nat → Eg) (x : Int) : Int := if 0 < x then (q (ixS x)).b else (q (ixS x)).a
def coS (q : Nat → Eg) (x : Int) : Int := if 0 < x then (q (ixS x)).hi else -(q (ixS x)).lo
/-- A step of an edge. -/
def okS (m : Nat) (x : Int) : Prop := x ≠ 0 ∧ x ≤ m ∧ -(m : Int) ≤ x
/-- The room of the first k steps. -/
def rmS (q : Nat → Eg) (s : Nat → Int) : Nat → Int
  | 0 => 0
  | k + 1 => rmS q s k + coS q (s k)
/-- Does step i end where the next one begins? -/
def joS (q : Nat → Eg) (s : Nat → Int) (k i : Nat) : Prop := toS q (s i) = frS q (s ((i + 1) % k))
/-- Room, of edges as they may be. -/
def RmR (q : Nat → Eg) (m k : Nat) (s : Nat → Int) (r e : Int) : Prop :=
  (k = 0 ∧ r = 0 ∧ e = 5) ∨ (40 < k ∧ r = 0 ∧ e = 4) ∨ ((0 < k ∧ k ≤ 40) ∧ (∃ i, i < k ∧ ¬ okS m (s i)) ∧ r = 0 ∧ e = 1) ∨
  ((0 < k ∧ k ≤ 40) ∧ (∀ i, i < k → okS m (s i)) ∧ (∃ i, i < k ∧ ¬ joS q s k i) ∧ r = 0 ∧ e = 3) ∨
  ((0 < k ∧ k ≤ 40) ∧ (∀ i, i < k → okS m (s i)) ∧ (∀ i, i < k → joS q s k i) ∧ r = rmS q s k ∧ e = 0)
def RoomA (z : Int) (q : Nat → Eg) (m k : Nat) (s : Nat → Int) (r e : Int) : Prop := (eE z q m ≠ 0 ∧ r = 0 ∧ e = eE z q m) ∨ (eE z q m = 0 ∧ RmR q m k s r e)
theorem rmR_some (q : Nat → Eg) (m k : Nat) (s : Nat → Int) : ∃ r e, RmR q m k s r e := by
  by_cases h0 : k = 0
  · exact ⟨0, 5, Or.inl ⟨h0, rfl, rfl⟩⟩
  by_cases h1 : 40 < k
  · exact ⟨0, 4, Or.inr (Or.inl ⟨h1, rfl, rfl⟩)⟩
  by_cases h2 : ∃ i, i < k ∧ ¬ okS m (s i)
  · exact ⟨0, 1, Or.inr (Or.inr (Or.inl ⟨⟨by omega, by omega⟩, h2, rfl, rfl⟩))⟩
  have h2' : ∀ i, i < k → okS m (s i) := fun i hi => Classical.byContradiction fun c => h2 ⟨i, hi, c⟩
  by_cases h3 : ∃ i, i < k ∧ ¬ joS q s k i
  · exact ⟨0, 3, Or.inr (Or.inr (Or.inr (Or.inl ⟨⟨by omega, by omega⟩, h2', h3, rfl, rfl⟩)))⟩
  · exact ⟨_, 0, Or.inr (Or.inr (Or.inr (Or.inr ⟨⟨by omega, by omega⟩, h2', fun i hi => Classical.byContradiction fun c => h3 ⟨i, hi, c⟩, rfl, rfl⟩)))⟩
theorem roomA_some (z : Int) (q : Nat → Eg) (m k : Nat) (s : Nat → Int) : ∃ r e, RoomA z q m k s r e := by
  by_cases h : eE z q m = 0
  · obtain ⟨r, e, g⟩ := rmR_some q m k s
    exact ⟨r, e, Or.inr ⟨h, g⟩⟩
  · exact ⟨0, _, Or.inl ⟨h, rfl, rfl⟩⟩
theorem ixS_lt {m : Nat} {x : Int} (h : okS m x) : ixS x < m := by
  obtain ⟨h1, h2, h3⟩ := h
  unfold ixS
  split <;> omega
section
variable {q : Nat → Eg} {m n k : Nat} {s : Nat → Int}
theorem frS_in (hE : Egs n q m) {x : Int} (h : okS m x) : 0 ≤ frS q x ∧ frS q x < n := by
  obtain ⟨⟨a1, a2, a3, a4⟩, _⟩ := hE.each _ (ixS_lt h)
  unfold frS
  split
  · exact ⟨a1, a2⟩
  · exact ⟨a3, a4⟩
theorem toS_in (hE : Egs n q m) {x : Int} (h : okS m x) : 0 ≤ toS q x ∧ toS q x < n := by
  obtain ⟨⟨a1, a2, a3, a4⟩, _⟩ := hE.each _ (ixS_lt h)
  unfold toS
  split
  · exact ⟨a3, a4⟩
  · exact ⟨a1, a2⟩
theorem coS_in (hE : Egs n q m) {x : Int} (h : okS m x) : -1000000000000 ≤ coS q x ∧ coS q x ≤ 1000000000000 := by
  obtain ⟨_, _, o⟩ := hE.each _ (ixS_lt h)
  have := okB_t o
  unfold coS
  split <;> omega
theorem arc_step {x : Int} (h : okS m x) {u v : Nat} (hu : (u : Int) = frS q x) (hv : (v : Int) = toS q x) : Arc q m u v (coS q x) := by
  refine ⟨ixS x, ixS_lt h, ?_⟩
  unfold frS at hu
  unfold toS at hv
  unfold coS
  by_cases c : 0 < x
  · rw [if_pos c] at hu hv ⊢; exact Or.inl ⟨hu, hv, rfl⟩
  · rw [if_neg c] at hu hv ⊢; exact Or.inr ⟨hu, hv, rfl⟩
/-- A loop is a way around. -/
theorem loop_wk (hE : Egs n q m) (k0 : 0 < k) (ok : ∀ i, i < k → okS m (s i)) (jo : ∀ i, i < k → joS q s k i) : ∃ i, i < n ∧ Wk (Arc q m) k i i (rmS q s k) := by
  have f0 := frS_in hE (ok 0 k0)
  have fr : ∀ j, ((frS q (s (j % k))).toNat : Int) = frS q (s (j % k)) := fun j => Int.toNat_of_nonneg (frS_in hE (ok _ (Nat.mod_lt _ k0))).1
  refine ⟨(frS q (s 0)).toNat, by omega, fun j => (frS q (s (j % k))).toNat, rmS q s, ?_, ?_, rfl, rfl, fun t ht => ?_⟩
  · show (frS q (s (0 % k))).toNat = _
    rw [Nat.zero_mod]
  · show (frS q (s (k % k))).toNat = _
    rw [Nat.mod_self]
  · rw [show rmS q s (t + 1) - rmS q s t = coS q (s t) by simp only [rmS]; omega]
    refine arc_step (ok t ht) ?_ ?_
    · rw [fr t, Nat.mod_eq_of_lt ht]
    · rw [fr (t + 1)]; exact (jo t ht).symm
theorem rm_neg (hE : Egs n q m) {r : Int} (h : RmR q m k s r 0) (lt : r < 0) : Neg (Arc q m) n := by
  rcases h with ⟨_, _, e⟩ | ⟨_, _, e⟩ | ⟨_, _, _, e⟩ | ⟨_, _, _, _, e⟩ | ⟨⟨k0, _⟩, ok, jo, rfl, _⟩
  · cases e
  · cases e
  · cases e
  · cases e
  · obtain ⟨i, hi, w⟩ := loop_wk hE k0 ok jo
    exact ⟨_, i, _, hi, w, lt⟩
end
/-- Fault, and Find's error. -/
def FaultA (z : Int) (q : Nat → Eg) (m : Nat) (f e : Int) : Prop :=
  (eE z q m ≠ 0 ∧ f = 0 ∧ e = eE z q m) ∨ (eE z q m = 0 ∧ ¬ Neg (Arc q m) z.toNat ∧ f = 0 ∧ e = 5) ∨ (eE z q m = 0 ∧ e = 0 ∧ ∃ i : Nat, i < m ∧ f = i ∧ Neg (Arc q (i + 1)) z.toNat ∧ ¬ Neg (Arc q i) z.toNat)
def FindE (z : Int) (q : Nat → Eg) (m : Nat) (e : Int) : Prop := (eE z q m ≠ 0 ∧ e = eE z q m) ∨ (eE z q m = 0 ∧ ¬ Neg (Arc q m) z.toNat ∧ e = 5) ∨ (eE z q m = 0 ∧ Neg (Arc q m) z.toNat ∧ e = 0)
theorem findE_some (z : Int) (q : Nat → Eg) (m : Nat) : ∃ e, FindE z q m e := by
  by_cases h : eE z q m = 0
  · by_cases g : Neg (Arc q m) z.toNat
    · exact ⟨0, Or.inr (Or.inr ⟨h, g, rfl⟩)⟩
    · exact ⟨5, Or.inr (Or.inl ⟨h, g, rfl⟩)⟩
  · exact ⟨_, Or.inl ⟨h, rfl⟩⟩
theorem arc_none {q : Nat → Eg} {n : Nat} : ¬ Neg (Arc q 0) n := fun ⟨r, i, c, _, w, lt⟩ => by
  have := wk_fit (x := fun _ => 0) (fun u v c g => by obtain ⟨j, hj, _⟩ := g; omega) w
  omega
theorem first_neg {q : Nat → Eg} {n : Nat} : ∀ m, Neg (Arc q m) n → ∃ i, i < m ∧ Neg (Arc q (i + 1)) n ∧ ¬ Neg (Arc q i) n
  | 0, h => absurd h arc_none
  | m + 1, h => by
    by_cases g : Neg (Arc q m) n
    · obtain ⟨i, a, b, c⟩ := first_neg m g
      exact ⟨i, by omega, b, c⟩
    · exact ⟨m, by omega, h, g⟩
theorem neg_less {q : Nat → Eg} {n i m : Nat} (hi : i ≤ m) (h : Neg (Arc q i) n) : Neg (Arc q m) n := h.more (fun u v c g => g.less hi)
theorem faultA_some (z : Int) (q : Nat → Eg) (m : Nat) : ∃ f e, FaultA z q m f e := by
  by_cases h : eE z q m = 0
  · by_cases g : Neg (Arc q m) z.toNat
    · obtain ⟨i, a, b, c⟩ := first_neg m g
      exact ⟨i, 0, Or.inr (Or.inr ⟨h, rfl, i, a, rfl, b, c⟩)⟩
    · exact ⟨0, 5, Or.inr (Or.inl ⟨h, g, rfl, rfl⟩)⟩
  · exact ⟨0, _, Or.inl ⟨h, rfl, rfl⟩⟩
/-- What package loops must answer, behind a world w0. -/
structure Ls (w0 : World) : Prop where
  room : ∀ (z : Int) (a : Option Addr) (m cap : Nat) (q : Nat → Eg) (la : Option Addr) (k lc : Nat) (s : Nat → Int) (r e : Int) (u : World), Below w0.heap.size w0 u → EHanded u a m q → NHanded u la k s → In64 z → RoomA z q m k s r e → Calls Tryd.prog 8 #[.int .i64 z, .slice a m cap, .slice la k lc] u fun o w' => o = .returned (.tuple #[.int .i64 r, errc e]) ∧ Below u.heap.size u w'
  fault : ∀ (z : Int) (a : Option Addr) (m cap : Nat) (q : Nat → Eg) (f e : Int) (u : World), Below w0.heap.size w0 u → EHanded u a m q → m ≤ cap → cap ≤ 9223372036854775807 → In64 z → FaultA z q m f e → Calls Tryd.prog 11 #[.int .i64 z, .slice a m cap] u fun o w' => o = .returned (.tuple #[.int .i64 f, errc e]) ∧ Below u.heap.size u w'
  find : ∀ (z : Int) (a : Option Addr) (m cap : Nat) (q : Nat → Eg) (e : Int) (u : World), Below w0.heap.size w0 u → EHanded u a m q → In64 z → FindE z q m e → Calls Tryd.prog 12 #[.int .i64 z, .slice a m cap] u fun o w' => ∃ (la : Option Addr) (k lc : Nat) (s : Nat → Int), o = .returned (.tuple #[.slice la k lc, errc e]) ∧ NHanded w' la k s ∧ (e = 0 → k ≤ z.toNat ∧ ∃ r, RoomA z q m k s r 0 ∧ r < 0) ∧ Below u.heap.size u w'
theorem mod_next (i k : Nat) (h : i < k) : (((i : Int) + 1).tmod (k : Int)) = (((i + 1) % k : Nat) : Int) := by
  rw [Int.tmod_eq_emod_of_nonneg (by omega), show (i : Int) + 1 = ((i + 1 : Nat) : Int) by omega]
  rfl
/-! ### Around -/
section
variable {n : Nat} {more : Int}
/-- Edge i: from i to i + 1, the last one to 0. -/
def ring (n : Nat) (more : Int) (i : Nat) : Eg := ⟨i, ((i + 1) % n : Nat), more, more⟩
/-- Along or back. -/
def sgS (x : Int) : Int := if 0 < x then 1 else -1
def sumS (s : Nat → Int) : Nat → Int
  | 0 => 0
  | k + 1 => sumS s k + sgS (s k)
theorem ring_co {x : Int} : coS (ring n more) x = more * sgS x := by
  unfold coS sgS ring
  split <;> simp
theorem ring_rm (s : Nat → Int) : ∀ k, rmS (ring n more) s k = more * sumS s k
  | 0 => by simp [rmS, sumS]
  | k + 1 => by simp only [rmS, sumS]; rw [ring_rm s k, ring_co, Int.mul_add]
theorem sum_le (s : Nat → Int) : ∀ k : Nat, -(k : Int) ≤ sumS s k ∧ sumS s k ≤ k
  | 0 => by simp [sumS]
  | k + 1 => by
    have := sum_le s k
    simp only [sumS, sgS]
    split <;> omega
theorem ring_step (n0 : 0 < n) {x : Int} (h : okS n x) : (toS (ring n more) x - frS (ring n more) x - sgS x) % (n : Int) = 0 := by
  have hi := ixS_lt h
  unfold toS frS sgS ring
  by_cases c : 0 < x
  · rw [if_pos c, if_pos c, if_pos c]
    show (((ixS x + 1) % n : Nat) - (ixS x : Int) - 1) % (n : Int) = 0
    by_cases e : ixS x + 1 = n
    · rw [e, Nat.mod_self]
      rw [show ((0 : Nat) : Int) - (ixS x : Int) - 1 = -(n : Int) by omega]
      simp
    · rw [Nat.mod_eq_of_lt (by omega), show ((ixS x + 1 : Nat) : Int) - (ixS x : Int) - 1 = 0 by omega]
      simp
  · rw [if_neg c, if_neg c, if_neg c]
    show ((ixS x : Int) - ((ixS x + 1) % n : Nat) - -1) % (n : Int) = 0
    by_cases e : ixS x + 1 = n
    · rw [e, Nat.mod_self]
      rw [show (ixS x : Int) - ((0 : Nat) : Int) - -1 = (n : Int) by omega]
      simp
    · rw [Nat.mod_eq_of_lt (by omega), show (ixS x : Int) - ((ixS x + 1 : Nat) : Int) - -1 = 0 by omega]
      simp
theorem ring_sum (n0 : 0 < n) {k : Nat} {s : Nat → Int} (k0 : 0 < k) (ok : ∀ i, i < k → okS n (s i)) (jo : ∀ i, i < k → joS (ring n more) s k i) : ∀ t, t ≤ k → (frS (ring n more) (s (t % k)) - frS (ring n more) (s 0) - sumS s t) % (n : Int) = 0
  | 0, _ => by simp [sumS]
  | t + 1, h => by
    have ih := ring_sum n0 k0 ok jo t (by omega)
    have st := ring_step (more := more) n0 (ok t (by omega))
    have j := jo t (by omega)
    unfold joS at j
    rw [Nat.mod_eq_of_lt (show t < k by omega)] at ih
    rw [← j]
    simp only [sumS]
    rw [show toS (ring n more) (s t) - frS (ring n more) (s 0) - (sumS s t + sgS (s t)) = (toS (ring n more) (s t) - frS (ring n more) (s t) - sgS (s t)) + (frS (ring n more) (s t) - frS (ring n more) (s 0) - sumS s t) by omega]
    rw [Int.add_emod, st, ih]
    simp
/-- A loop around that has no room goes by all nodes. -/
theorem ring_len (n0 : 0 < n) {k : Nat} {s : Nat → Int} {r : Int} (h : RmR (ring n more) n k s r 0) (lt : r < 0) (hk : k ≤ n) : k = n := by
  rcases h with ⟨_, _, e⟩ | ⟨_, _, e⟩ | ⟨_, _, _, e⟩ | ⟨_, _, _, _, e⟩ | ⟨⟨k0, _⟩, ok, jo, rfl, _⟩
  · cases e
  · cases e
  · cases e
  · cases e
  · have e := ring_sum n0 k0 ok jo k (Nat.le_refl _)
    rw [Nat.mod_self, Int.sub_self, Int.zero_sub] at e
    rw [ring_rm] at lt
    have b := sum_le s k
    have ne : sumS s k ≠ 0 := fun z => by rw [z] at lt; simp at lt
    have d : (n : Int) ∣ sumS s k := Int.dvd_neg.1 (Int.dvd_of_emod_eq_zero e)
    obtain ⟨c, hc⟩ := d
    apply Classical.byContradiction
    intro kn
    have kl : (k : Int) < n := by omega
    rcases Int.lt_trichotomy c 0 with c1 | c1 | c1
    · have : (n : Int) * c ≤ (n : Int) * (-1) := Int.mul_le_mul_of_nonneg_left (by omega) (by omega)
      omega
    · rw [c1, Int.mul_zero] at hc; exact ne hc
    · have : (n : Int) * 1 ≤ (n : Int) * c := Int.mul_le_mul_of_nonneg_left (by omega) (by omega)
      omega
/-- What there is around: edges as they may be; a way around just if it says something. -/
theorem ring_egs (h3 : 3 ≤ n) (h6 : n ≤ 6) (l1 : -1000 ≤ more) (l2 : more ≤ 1000) : eE n (ring n more) n = 0 := by
  unfold eE
  rw [if_neg (by omega), if_neg (by omega)]
  refine eFr_ok fun i hi => ?_
  have hb : (i + 1) % n < n := Nat.mod_lt _ (by omega)
  have ne : (i : Int) ≠ (((i + 1) % n : Nat) : Int) := by
    by_cases e : i + 1 = n
    · rw [e, Nat.mod_self]; omega
    · rw [Nat.mod_eq_of_lt (by omega)]; omega
  unfold eEr
  show (if (i : Int) < 0 ∨ (n : Int) ≤ i ∨ (((i + 1) % n : Nat) : Int) < 0 ∨ (n : Int) ≤ (((i + 1) % n : Nat) : Int) then (1 : Int) else if (i : Int) = (((i + 1) % n : Nat) : Int) then 3 else if okB more more = true then 0 else 1) = 0
  rw [if_neg (by omega), if_neg ne, if_pos (okB_mk ⟨Int.le_refl _, by omega, by omega⟩)]
theorem ring_fwd (n0 : 0 < n) : ∀ k, k ≤ n → Wk (Arc (ring n more) n) k 0 (k % n) ((k : Int) * more)
  | 0, _ => by
    rw [Nat.zero_mod]
    have := Wk.nil (R := Arc (ring n more) n) 0
    simpa using this
  | k + 1, h => by
    have ih := ring_fwd n0 k (by omega)
    rw [Nat.mod_eq_of_lt (show k < n by omega)] at ih
    have g : Arc (ring n more) n k ((k + 1) % n) more := ⟨k, by omega, Or.inl ⟨rfl, rfl, rfl⟩⟩
    have w := ih.snoc g
    rw [show (((k + 1 : Nat) : Int)) * more = (k : Int) * more + more by rw [show (((k + 1 : Nat) : Int)) = (k : Int) + 1 by omega, Int.add_mul, Int.one_mul]]
    exact w
theorem ring_bwd (n0 : 0 < n) : ∀ k, k ≤ n → Wk (Arc (ring n more) n) k (k % n) 0 (-((k : Int) * more))
  | 0, _ => by
    rw [Nat.zero_mod]
    have := Wk.nil (R := Arc (ring n more) n) 0
    simpa using this
  | k + 1, h => by
    have ih := ring_bwd n0 k (by omega)
    rw [Nat.mod_eq_of_lt (show k < n by omega)] at ih
    have g : Arc (ring n more) n ((k + 1) % n) k (-more) := ⟨k, by omega, Or.inr ⟨rfl, rfl, rfl⟩⟩
    have w := ((Wk.nil ((k + 1) % n)).snoc g).app ih
    rw [show (-((((k + 1 : Nat) : Int)) * more)) = (0 + -more) + -((k : Int) * more) by rw [show (((k + 1 : Nat) : Int)) = (k : Int) + 1 by omega, Int.add_mul, Int.one_mul]; omega]
    rw [show k + 1 = 0 + 1 + k by omega] at *
    exact w
theorem ring_neg (h3 : 3 ≤ n) (ne : more ≠ 0) : Neg (Arc (ring n more) n) n := by
  have w1 := ring_fwd (more := more) (show 0 < n by omega) n (Nat.le_refl _)
  have w2 := ring_bwd (more := more) (show 0 < n by omega) n (Nat.le_refl _)
  rw [Nat.mod_self] at w1 w2
  rcases Int.lt_trichotomy more 0 with c | c | c
  · exact ⟨n, 0, _, by omega, w1, Int.mul_neg_of_pos_of_neg (by omega) c⟩
  · exact absurd c ne
  · have := Int.mul_pos (show (0 : Int) < n by omega) c
    exact ⟨n, 0, _, by omega, w2, by omega⟩
theorem ring_less (h3 : 3 ≤ n) : ¬ Neg (Arc (ring n more) (n - 1)) n := fun h => by
  refine h.unfit (x := fun i : Nat => (i : Int) * more) ?_
  rintro u v c ⟨j, hj, ⟨h1, h2, hc⟩ | ⟨h1, h2, hc⟩⟩
  · have h1' : (u : Int) = j := h1
    have h2' : (v : Int) = (((j + 1) % n : Nat) : Int) := h2
    rw [Nat.mod_eq_of_lt (show j + 1 < n by omega)] at h2'
    have hc' : c = more := hc
    show (v : Int) * more - (u : Int) * more ≤ c
    rw [h1', h2', show ((j + 1 : Nat) : Int) = (j : Int) + 1 by omega, Int.add_mul, Int.one_mul]
    omega
  · have h1' : (u : Int) = (((j + 1) % n : Nat) : Int) := h1
    have h2' : (v : Int) = j := h2
    rw [Nat.mod_eq_of_lt (show j + 1 < n by omega)] at h1'
    have hc' : c = -more := hc
    show (v : Int) * more - (u : Int) * more ≤ c
    rw [h1', h2', show ((j + 1 : Nat) : Int) = (j : Int) + 1 by omega, Int.add_mul, Int.one_mul]
    omega
theorem ring_zero : ¬ Neg (Arc (ring n 0) n) n := fun h => by
  refine h.unfit (x := fun _ => 0) ?_
  rintro u v c ⟨j, hj, ⟨h1, h2, rfl⟩ | ⟨h1, h2, rfl⟩⟩
  · show (0 : Int) - 0 ≤ 0
    omega
  · show (0 : Int) - 0 ≤ -0
    omega
end
end Go.Proofs.YtiebojccnaelbaeDoor
