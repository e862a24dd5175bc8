/- What there is to be answered of bounds is there. What a net's edges say: plain mathematics. What package net must answer. -/
import Derived.Test.YtnagdjipmpjaaahDoorNm10
import Derived.Test.YtnagdjipmpjaaahDoorNetMath
import Derived.Test.YtnagdjipmpjaaahDoorNm05
import Derived.Test.YtnagdjipmpjaaahDoorNm04
import Derived.Test.YtnagdjipmpjaaahDoorNm02
namespace Go.Proofs.YtnagdjipmpjaaahDoor
open Go.ChangeShapes Go.WideShapes Go.ChangeAt Go.RowKit
set_option linter.unusedVariables false

theorem least_nat (P : Nat → Prop) : ∀ n, P n → ∃ k, P k ∧ ∀ j, j < k → ¬ P j := by
  intro n
  induction n using Nat.strongRecOn with
  | _ n ih =>
    intro h
    by_cases c : ∃ j, j < n ∧ P j
    · obtain ⟨j, hj, hp⟩ := c
      exact ih j hj hp
    · exact ⟨n, h, fun j hj hp => c ⟨j, hj, hp⟩⟩
section
variable {q : Nat → Eg} {m n : Nat}
theorem wk_low (hE : Egs n q m) : ∀ {r i k : Nat} {c : Int}, Wk (Arc q m) r i k c → -((r : Int) * 1000000000000) ≤ c := by
  intro r
  induction r with
  | zero =>
    intro i k c w
    obtain ⟨_, rfl⟩ := w.zero
    omega
  | succ r ih =>
    intro i k c w
    obtain ⟨j, a, b, w1, g, rfl⟩ := w.last
    have h1 := ih w1
    have h2 := hE.small g
    omega
theorem dst_some (hE : Egs n q m) (hN : ¬ Neg (Arc q m) n) {i k r : Nat} {c : Int} (hi : i < n) (w : Wk (Arc q m) r i k c) : ∃ d, Dst (Arc q m) i k d := by
  have low : ∀ r c, Wk (Arc q m) r i k c → -6000000000000 ≤ c := fun r c w => by
    obtain ⟨r', c', h1, h2, w'⟩ := short hE.arc (not_neg hN) r i k c hi w
    have h3 := wk_low hE w'
    have h4 := hE.n6
    omega
  obtain ⟨t, ⟨r', w'⟩, hm⟩ := least_nat (fun t => ∃ r, Wk (Arc q m) r i k ((t : Int) - 6000000000000)) (c + 6000000000000).toNat (by
    have := low r c w
    refine ⟨r, ?_⟩
    rw [show (((c + 6000000000000).toNat : Nat) : Int) - 6000000000000 = c by omega]
    exact w)
  refine ⟨(t : Int) - 6000000000000, ⟨r', w'⟩, fun s c' v => ?_⟩
  apply Classical.byContradiction
  intro h
  have := low s c' v
  refine hm (c' + 6000000000000).toNat (by omega) ⟨s, ?_⟩
  rw [show (((c' + 6000000000000).toNat : Nat) : Int) - 6000000000000 = c' by omega]
  exact v
open Classical in
theorem isT_some (hE : Egs n q m) (hN : ¬ Neg (Arc q m) n) : ∃ T, IsT q m n T := by
  refine ⟨fun i k => if h : ∃ c, Dst (Arc q m) i k c then some h.choose else none, fun i k hi => ⟨fun x e => ?_, fun e r c w => ?_⟩⟩
  · by_cases h : ∃ c, Dst (Arc q m) i k c
    · simp only [dif_pos h] at e
      obtain rfl := Option.some.inj e
      exact h.choose_spec
    · simp only [dif_neg h] at e
      cases e
  · have h := dst_some hE hN hi w
    simp only [dif_pos h] at e
    cases e
theorem allA_some (hE : Egs n q m) : ∃ e T, AllA q m n e T := by
  by_cases hN : Neg (Arc q m) n
  · exact ⟨7, tb0, Or.inl ⟨hN, rfl⟩⟩
  · obtain ⟨T, hT⟩ := isT_some hE hN
    by_cases f : Far n T
    · exact ⟨1, T, Or.inr ⟨hN, hT, Or.inl ⟨f, rfl⟩⟩⟩
    · exact ⟨0, T, Or.inr ⟨hN, hT, Or.inr ⟨f, rfl⟩⟩⟩
end
theorem fitA_some (z : Int) (q : Nat → Eg) (m k : Nat) (c : Nat → Int) : ∃ b e, FitA z q m k c b e := by
  by_cases h : eE z q m = 0
  · by_cases h1 : (k : Int) = z
    · by_cases h2 : badC c k
      · exact ⟨_, _, Or.inr (Or.inr (Or.inl ⟨h, h1, h2, rfl, rfl⟩))⟩
      · exact ⟨_, _, Or.inr (Or.inr (Or.inr ⟨h, h1, h2, rfl, rfl⟩))⟩
    · exact ⟨_, _, Or.inr (Or.inl ⟨h, h1, rfl, rfl⟩)⟩
  · exact ⟨_, _, Or.inl ⟨h, rfl, rfl⟩⟩
theorem betA_some {q : Nat → Eg} {m n : Nat} {f : Int} {T : Tb} (hZ : eE n q m = 0) (hA : AllA q m n f T) (a b : Int) : ∃ lo hi e, BetA n q m a b lo hi e := by
  by_cases c : 0 ≤ a ∧ a < n ∧ 0 ≤ b ∧ b < n
  · by_cases h : f = 0
    · cases t : T a.toNat b.toNat with
      | none => exact ⟨0, 0, 5, Or.inr (Or.inr ⟨hZ, c, f, T, by rw [Int.toNat_natCast]; exact hA, Or.inr (Or.inl ⟨h, t, rfl, rfl, rfl⟩)⟩)⟩
      | some x => exact ⟨_, _, 0, Or.inr (Or.inr ⟨hZ, c, f, T, by rw [Int.toNat_natCast]; exact hA, Or.inr (Or.inr ⟨h, ⟨x, t⟩, rfl, rfl, rfl⟩)⟩)⟩
    · exact ⟨0, 0, f, Or.inr (Or.inr ⟨hZ, c, f, T, by rw [Int.toNat_natCast]; exact hA, Or.inl ⟨h, rfl, rfl, rfl⟩⟩)⟩
  · exact ⟨0, 0, 1, Or.inr (Or.inl ⟨hZ, by omega, rfl, rfl, rfl⟩)⟩
end Go.Proofs.YtnagdjipmpjaaahDoor
namespace Go.Proofs.YtnagdjipmpjaaahDoor
set_option linter.unusedVariables false

/-- The edges of all nodes, one node behind the other. -/
def eoN (N : Nn) : List Eg := (List.range N.W.n).flatMap (fun i => (N.nd i).eo (N.W.rd i))
/-- What each of them is. -/
structure EdT (N : Nn) (x : Eg) : Prop where
  ex : ∃ i k : Nat, i < N.W.n ∧ k < N.W.n ∧ i ≠ k ∧ (N.nd i).has k = true ∧ x.a = i ∧ x.b = k ∧ x.lo = (N.nd i).alo k (N.W.rd i) ∧ x.hi = (N.nd i).ahi k (N.W.rd i) ∧ x.lo ≤ N.W.rd k - N.W.rd i ∧ N.W.rd k - N.W.rd i ≤ x.hi ∧ -4000000000 ≤ x.lo ∧ x.hi ≤ 4000000000
theorem eo_mem {c : Nd} {t : Int} {x : Eg} (h : x ∈ c.eo t) : ∃ k : Nat, k < c.n ∧ c.has k = true ∧ x = ⟨(c.id : Int), (k : Int), c.alo k t, c.ahi k t⟩ := by
  unfold Nd.eo at h
  obtain ⟨k, hk, rfl⟩ := List.mem_map.1 h
  obtain ⟨h1, h2⟩ := List.mem_filter.1 hk
  exact ⟨k, List.mem_range.1 h1, h2, rfl⟩
theorem eoN_mem {N : Nn} (g : N.T) {x : Eg} (h : x ∈ eoN N) : EdT N x := by
  obtain ⟨i, hi, hx⟩ := List.mem_flatMap.1 h
  have hi' := List.mem_range.1 hi
  have kn := g.kn i hi'
  obtain ⟨k, k1, k2, rfl⟩ := eo_mem hx
  have ag := kn.aged g.g hi' k2
  obtain ⟨q1, q2, _⟩ := kn.kn k k2
  exact ⟨i, k, hi', q1, fun e => q2 e.symm, k2, by show ((N.nd i).id : Int) = i; rw [kn.id], rfl, rfl, rfl, ag.1, ag.2.1, ag.2.2.1, ag.2.2.2⟩
theorem eo_len (c : Nd) (t : Int) : (c.eo t).length ≤ c.n := by
  unfold Nd.eo
  rw [List.length_map]
  exact Nat.le_trans (List.length_filter_le _ _) (by rw [List.length_range]; exact Nat.le_refl _)
theorem flat_len {α β : Type} (f : α → List β) (m : Nat) : ∀ (l : List α), (∀ x, x ∈ l → (f x).length ≤ m) → (l.flatMap f).length ≤ l.length * m
  | [], _ => by simp
  | a :: r, h => by
    rw [List.flatMap_cons, List.length_append, List.length_cons, Nat.succ_mul]
    have := h a (by simp)
    have := flat_len f m r (fun x hx => h x (by simp [hx]))
    omega
theorem eoN_len {N : Nn} (g : N.T) : (eoN N).length ≤ 36 := by
  have h6 := g.g.i.n6
  have := flat_len (fun i => (N.nd i).eo (N.W.rd i)) 6 (List.range N.W.n) (fun i hi => by
    have e := (g.kn i (List.mem_range.1 hi)).n
    have := eo_len (N.nd i) (N.W.rd i)
    omega)
  rw [List.length_range] at this
  unfold eoN
  omega
theorem egf_mem {l : List Eg} {i : Nat} (h : i < l.length) : egf l i ∈ l := by
  unfold egf
  rw [List.getD_eq_getElem?_getD, List.getElem?_eq_getElem h]
  exact List.getElem_mem h
theorem eoN_egs {N : Nn} (g : N.T) : Egs N.W.n (egf (eoN N)) (eoN N).length := by
  refine ⟨by have := g.g.i.n1; omega, by have := g.g.i.n6; omega, by have := eoN_len g; omega, fun i hi => ?_⟩
  obtain ⟨a, b, h1, h2, h3, h4, h5, h6, _, _, h7, h8, h9, h10⟩ := (eoN_mem g (egf_mem hi)).ex
  refine ⟨?_, by rw [h5, h6]; omega, okB_mk ⟨by omega, by omega, by omega⟩⟩
  unfold inN
  rw [h5, h6]
  omega
theorem egs_e {n : Int} {q : Nat → Eg} {m : Nat} (h : Egs n q m) : eE n q m = 0 := by
  have n1 := h.n1
  have n6 := h.n6
  have m40 := h.m40
  unfold eE
  rw [if_neg (by omega), if_neg (by omega)]
  refine eFr_ok (fun i hi => ?_)
  obtain ⟨h1, h2, h3⟩ := h.each i hi
  unfold inN at h1
  unfold eEr
  rw [if_neg (by omega), if_neg h2, if_pos h3]
/-- All clocks, as they are, fit all edges. -/
theorem eoN_arc {N : Nn} (g : N.T) : ∀ u v c, Arc (egf (eoN N)) (eoN N).length u v c → N.W.rd v - N.W.rd u ≤ c ∧ c ≤ 4000000000 := by
  rintro u v c ⟨j, hj, q⟩
  obtain ⟨a, b, h1, h2, h3, h4, h5, h6, _, _, h7, h8, h9, h10⟩ := (eoN_mem g (egf_mem hj)).ex
  rcases q with ⟨q1, q2, rfl⟩ | ⟨q1, q2, rfl⟩
  · obtain rfl : u = a := by omega
    obtain rfl : v = b := by omega
    exact ⟨h8, h10⟩
  · obtain rfl : u = b := by omega
    obtain rfl : v = a := by omega
    omega
theorem fitB_of {q : Nat → Eg} {c : Nat → Int} : ∀ m, (∀ j, j < m → (q j).lo ≤ c (q j).b.toNat - c (q j).a.toNat ∧ c (q j).b.toNat - c (q j).a.toNat ≤ (q j).hi) → fitB q c m = true
  | 0, _ => rfl
  | m + 1, h => by
    have h1 := h m (by omega)
    simp only [fitB, Bool.and_eq_true, decide_eq_true_eq]
    exact ⟨fitB_of m (fun j hj => h j (by omega)), h1.1, h1.2⟩
theorem eoN_fit {N : Nn} (g : N.T) : fitB (egf (eoN N)) (fun i => N.W.rd i) (eoN N).length = true := by
  refine fitB_of _ (fun j hj => ?_)
  obtain ⟨a, b, h1, h2, h3, h4, h5, h6, _, _, h7, h8, h9, h10⟩ := (eoN_mem g (egf_mem hj)).ex
  rw [h5, h6, Int.toNat_natCast, Int.toNat_natCast]
  exact ⟨h7, h8⟩
theorem rd_t {N : Nn} (g : N.T) {i : Nat} (hi : i < N.W.n) : 0 ≤ N.W.rd i ∧ N.W.rd i ≤ 1002000000 := by
  have := shw_b g.g hi g.g.i.t0 (Int.le_refl _)
  rwa [shw_rd] at this
theorem eoN_fitA {N : Nn} (g : N.T) : FitA N.W.n (egf (eoN N)) (eoN N).length N.W.n (fun i => N.W.rd i) true 0 := by
  refine Or.inr (Or.inr (Or.inr ⟨egs_e (eoN_egs g), rfl, ?_, (eoN_fit g).symm, rfl⟩))
  rintro ⟨i, hi, h⟩
  have := rd_t g hi
  have h' : N.W.rd i < -1000000000000 ∨ 1000000000000 < N.W.rd i := h
  omega
theorem eoN_nn {N : Nn} (g : N.T) (n : Nat) : ¬ Neg (Arc (egf (eoN N)) (eoN N).length) n := fun h => h.unfit (x := fun i => N.W.rd i) (fun u v c q => (eoN_arc g u v c q).1)
theorem wk_top {R : Nat → Nat → Int → Prop} {K : Int} (hR : ∀ u v c, R u v c → c ≤ K) : ∀ {r i k : Nat} {c : Int}, Wk R r i k c → c ≤ (r : Int) * K := by
  intro r
  induction r with
  | zero =>
    intro i k c w
    obtain ⟨rfl, rfl⟩ := w.zero
    omega
  | succ r ih =>
    intro i k c w
    obtain ⟨j, a, b, w1, g, rfl⟩ := w.last
    have h1 := ih w1
    have h2 := hR _ _ _ g
    have e : ((r + 1 : Nat) : Int) * K = (r : Int) * K + K := by rw [Int.natCast_add, Int.add_mul]; simp
    omega
theorem eoN_all {N : Nn} (g : N.T) : ∃ T, AllA (egf (eoN N)) (eoN N).length N.W.n 0 T := by
  have hE := eoN_egs g
  obtain ⟨T, hT⟩ := isT_some hE (eoN_nn g N.W.n)
  refine ⟨T, Or.inr ⟨eoN_nn g N.W.n, hT, Or.inr ⟨?_, rfl⟩⟩⟩
  rintro ⟨i, k, x, hi, hk, e, f⟩
  obtain ⟨⟨r, w⟩, m⟩ := (hT i k hi).1 x e
  have lo := wk_fit (x := fun i => N.W.rd i) (fun u v c q => (eoN_arc g u v c q).1) w
  obtain ⟨r', c', h1, h2, w'⟩ := short hE.arc (not_neg (eoN_nn g N.W.n)) r i k x hi w
  have h3 := m r' c' w'
  have h4 := wk_top (K := 4000000000) (fun u v c q => (eoN_arc g u v c q).2) w'
  have ri := rd_t g hi
  have rk := rd_t g hk
  have h6 := g.g.i.n6
  have lo' : N.W.rd k - N.W.rd i ≤ x := lo
  have h5 : (r' : Int) * 4000000000 ≤ 5 * 4000000000 := Int.mul_le_mul_of_nonneg_right (by omega) (by omega)
  omega
/-- What is told of two nodes has how their clocks truly differ. -/
theorem eoN_bet {N : Nn} (g : N.T) {a b lo hi e : Int} (ha : 0 ≤ a ∧ a < N.W.n ∧ 0 ≤ b ∧ b < N.W.n) (h : BetA N.W.n (egf (eoN N)) (eoN N).length a b lo hi e) :
    (e = 5 ∧ lo = 0 ∧ hi = 0 ∧ (∀ r c, ¬ Wk (Arc (egf (eoN N)) (eoN N).length) r a.toNat b.toNat c)) ∨ (e = 0 ∧ lo ≤ N.W.rd b.toNat - N.W.rd a.toNat ∧ N.W.rd b.toNat - N.W.rd a.toNat ≤ hi ∧ -1000000000000 ≤ lo ∧ hi ≤ 1000000000000 ∧ Dst (Arc (egf (eoN N)) (eoN N).length) a.toNat b.toNat hi ∧ Dst (Arc (egf (eoN N)) (eoN N).length) b.toNat a.toNat (-lo)) := by
  have hE := eoN_egs g
  obtain ⟨T0, h0⟩ := eoN_all g
  rcases h with ⟨h, _⟩ | ⟨_, h, _⟩ | ⟨_, _, f, T, hA, q⟩
  · exact absurd (egs_e hE) h
  · omega
  · rw [Int.toNat_natCast] at hA
    have f0 := hA.e_one h0
    subst f0
    have hA2 := hA
    rcases hA with ⟨_, c⟩ | ⟨_, hT, ⟨_, c⟩ | ⟨nf, _⟩⟩
    · cases c
    · cases c
    · have a1 : a.toNat < N.W.n := by omega
      have b1 : b.toNat < N.W.n := by omega
      rcases q with ⟨c, _⟩ | ⟨_, n, rfl, rfl, rfl⟩ | ⟨_, ⟨x, s⟩, rfl, rfl, rfl⟩
      · exact absurd rfl c
      · exact Or.inl ⟨rfl, rfl, rfl, (hT _ _ a1).2 n⟩
      · obtain ⟨y, s'⟩ := hT.back a1 b1 s
        have d1 := (hT _ _ a1).1 x s
        have d2 := (hT _ _ b1).1 y s'
        have eh : spHi T a.toNat b.toNat = x := by unfold spHi; rw [s]; rfl
        have el : spLo T a.toNat b.toNat = -y := by unfold spLo; rw [s, s']; rfl
        have fit : ∀ u v c, Arc (egf (eoN N)) (eoN N).length u v c → (fun i => N.W.rd i) v - (fun i => N.W.rd i) u ≤ c := fun u v c q => (eoN_arc g u v c q).1
        obtain ⟨⟨r1, w1⟩, _⟩ := d1
        obtain ⟨⟨r2, w2⟩, _⟩ := d2
        have x1 := wk_fit fit w1
        have x2 := wk_fit fit w2
        have n1 := not_far nf a1 b1 s
        have n2 := not_far nf b1 a1 s'
        rw [eh, el]
        refine Or.inr ⟨rfl, ?_, x1, by omega, by omega, (hT _ _ a1).1 x s, by rw [Int.neg_neg]; exact (hT _ _ b1).1 y s'⟩
        have x2' : N.W.rd a.toNat - N.W.rd b.toNat ≤ y := x2
        omega
theorem Kn.sp {S : Ws} {p : Int} {i : Nat} {c : Nd} (h : Kn S p i c) (g : RtB S p) (hi : i < S.n) : SpR c (S.rd i) 0 := by
  refine Or.inr (Or.inr ⟨h.nbk g hi, fun k _ hk => ?_, rfl⟩)
  have a := h.aged g hi hk
  exact okB_mk ⟨by omega, by omega, by omega⟩
/-- The edges of the first nodes. -/
def eoK (N : Nn) (k : Nat) : List Eg := (List.range k).flatMap (fun i => (N.nd i).eo (N.W.rd i))
theorem eoK_all (N : Nn) : eoK N N.W.n = eoN N := rfl
theorem eoK_more (N : Nn) (k : Nat) : eoK N (k + 1) = eoK N k ++ (N.nd k).eo (N.W.rd k) := by
  unfold eoK
  rw [List.range_succ, List.flatMap_append]
  simp
theorem eoK_len {N : Nn} (g : N.T) {k : Nat} (hk : k ≤ N.W.n) : (eoK N k).length ≤ 36 := by
  have h6 := g.g.i.n6
  have := flat_len (fun i => (N.nd i).eo (N.W.rd i)) 6 (List.range k) (fun i hi => by
    have e := (g.kn i (Nat.lt_of_lt_of_le (List.mem_range.1 hi) hk)).n
    have := eo_len (N.nd i) (N.W.rd i)
    omega)
  rw [List.length_range] at this
  unfold eoK
  omega
/-- How wide all are together. -/
def wid (n : Nat) (T : Tb) : Int := ((List.range n).map (fun a => ((List.range n).map (fun b => if a < b ∧ (T a b).isSome = true then spHi T a b - spLo T a b else 0)).sum)).sum
end Go.Proofs.YtnagdjipmpjaaahDoor
namespace Go.Proofs.YtnagdjipmpjaaahDoor
open Go.ChangeShapes Go.WideShapes Go.ChangeAt Go.RowKit
set_option linter.unusedVariables false

/-- Package net, behind a world w0: R: what a net keeps, at block b, in blocks F. -/
structure Nt (w0 : World) where
  R : World → Nat → (Nat → Prop) → Nn → Prop
  on : ∀ {u v : World} {b : Nat} {F : Nat → Prop} {N : Nn}, R u b F N → u.heap.size ≤ v.heap.size → (∀ k, F k → v.heap[k]? = u.heap[k]?) → R v b F N
  lt : ∀ {u : World} {b : Nat} {F : Nat → Prop} {N : Nn}, R u b F N → ∀ k, F k → k < u.heap.size
  new : ∀ (sa : Option Addr) (n sc : Nat) (z : Nat → Int) (ra : Option Addr) (m rc : Nat) (r : Nat → Int) (ppm e : Int) (u : World), Below w0.heap.size w0 u → NHanded u sa n z → NHanded u ra m r → In64 ppm → BeE n z m r ppm e → Calls Tryd.prog 30 #[.slice sa n sc, .slice ra m rc, .int .i64 ppm] u fun o w' => ∃ pv, o = .returned (.tuple #[pv, errc e]) ∧ Below u.heap.size u w' ∧ (e = 0 → ∃ b F, pv = .pointer (some ⟨b, 0, none⟩) ∧ R w' b F (Nn.made n z r ppm) ∧ ∀ k, F k → u.heap.size ≤ k)
  act : ∀ (b : Nat) (F : Nat → Prop) (N N' : Nn) (wh x y e : Int) (u : World), R u b F N → N.T → In64 wh → In64 x → In64 y → NDoR N wh x y N' e → Calls Tryd.prog 31 #[.pointer (some ⟨b, 0, none⟩), .agg #[.int .i64 wh, .int .i64 x, .int .i64 y]] u fun o w' => ∃ F', o = .returned (errc e) ∧ R w' b F' N' ∧ Keeps F u w' ∧ ∀ k, F' k → F k ∨ u.heap.size ≤ k
/-- A net as a law has it on the way. -/
structure Nv (w : World) (C : Nt w) (u : World) (b : Nat) (F : Nat → Prop) (N : Nn) : Prop where
  h : C.R u b F N
  t : N.T
  lo : ∀ k, F k → w.heap.size ≤ k
  hw : Below w.heap.size w u
section
variable {w u v : World} {C : Nt w} {b : Nat} {F : Nat → Prop} {N N' : Nn}
theorem Nv.on (g : Nv w C u b F N) (hb : Below u.heap.size u v) : Nv w C v b F N := ⟨C.on g.h hb.size (fun k hk => hb.block k (C.lt g.h k hk)), g.t, g.lo, rbel_on hb g.hw⟩
theorem Nv.made (C : Nt w) {sa ra : Option Addr} {n sc m rc : Nat} {z r : Nat → Int} {ppm : Int} (hu : Below w.heap.size w u) (h1 : NHanded u sa n z) (h2 : NHanded u ra m r) (hp : In64 ppm) (hE : BeE n z m r ppm 0) : Calls Tryd.prog 30 #[.slice sa n sc, .slice ra m rc, .int .i64 ppm] u fun o w' => ∃ b F, o = .returned (.tuple #[.pointer (some ⟨b, 0, none⟩), .nilIface]) ∧ Nv w C w' b F (Nn.made n z r ppm) ∧ Below u.heap.size u w' ∧ ∀ k, F k → u.heap.size ≤ k :=
  (C.new sa n sc z ra m rc r ppm 0 u hu h1 h2 hp hE).mono (by
    rintro o w' ⟨pv, rfl, hb, h⟩
    obtain ⟨b, F, rfl, h1, h2⟩ := h rfl
    rw [errc_zero]
    exact ⟨b, F, rfl, ⟨h1, Nn.made_t hE, fun k hk => Nat.le_trans hu.size (h2 k hk), rbel_on hb hu⟩, hb, h2⟩)
theorem Nv.act (g : Nv w C u b F N) {wh x y e : Int} (h1 : In64 wh) (h2 : In64 x) (h3 : In64 y) (hD : NDoR N wh x y N' e) : Calls Tryd.prog 31 #[.pointer (some ⟨b, 0, none⟩), .agg #[.int .i64 wh, .int .i64 x, .int .i64 y]] u fun o w' => ∃ F', o = .returned (errc e) ∧ Nv w C w' b F' N' ∧ Keeps F u w' ∧ ∀ k, F' k → F k ∨ u.heap.size ≤ k :=
  (C.act b F N N' wh x y e u g.h g.t h1 h2 h3 hD).mono (by
    rintro o w' ⟨F', rfl, h1, hK, hF⟩
    have sz := g.hw.size
    exact ⟨F', rfl, ⟨h1, (hD.t g.t).1, fun k hk => (hF k hk).elim (g.lo k) (fun h => Nat.le_trans sz h), g.hw.trans (hK.below sz g.lo)⟩, hK, hF⟩)
/-- A row grows that it does not lie in. -/
theorem Nv.grown (g : Nv w C u b F N) {row : Option Nat} (hg : u.grownBy v row) (hn : ∀ k, F k → some k ≠ row) (hv : Below w.heap.size w v) : Nv w C v b F N := ⟨C.on g.h hg.size (fun k hk => hg.block k (C.lt g.h k hk) (hn k hk)), g.t, g.lo, hv⟩
end
end Go.Proofs.YtnagdjipmpjaaahDoor
