/- What a net's edges say: plain mathematics. What package net must answer. A table of spans as it lies in memory, row by row, and whether there is any. What package net must answer: Offset. What package clock must answer. A net, act by act: asked, answered: plain mathematics. A net of two clocks, of which one serves the other one: plain mathematics. -/
import Derived.Test.YtigcliepeapcpajGreatDoorNm03
import Derived.Test.YtigcliepeapcpajGreatDoorNm04
import Derived.Test.YtigcliepeapcpajGreatDoorNm06
import Derived.Test.YtigcliepeapcpajGreatDoorNm01
namespace Go.Proofs.YtigcliepeapcpajGreatDoor
set_option linter.unusedVariables false

/-- The edges of all nodes, one node behind the other. -/
def eoN (N : Nn) : List Eg := (List.range N.W.n).flatMap (fun i => (N.nd i).eo (N.W.rd i))
/-- What each of them is. -/
structure EdT (N : Nn) (x : Eg) : Prop where
  ex : ∃ i k : Nat, i < N.W.n ∧ k < N.W.n ∧ i ≠ k ∧ (N.nd i).has k = true ∧ x.a = i ∧ x.b = k ∧ x.lo = (N.nd i).alo k (N.W.rd i) ∧ x.hi = (N.nd i).ahi k (N.W.rd i) ∧ x.lo ≤ N.W.rd k - N.W.rd i ∧ N.W.rd k - N.W.rd i ≤ x.hi ∧ -4000000000 ≤ x.lo ∧ x.hi ≤ 4000000000
theorem eo_mem {c : Nd} {t : Int} {x : Eg} (h : x ∈ c.eo t) : ∃ k : Nat, k < c.n ∧ c.has k = true ∧ x = ⟨(c.id : Int), (k : Int), c.alo k t, c.ahi k t⟩ := by
  unfold Nd.eo at h
  obtain ⟨k, hk, rfl⟩ := List.mem_map.1 h
  obtain ⟨h1, h2⟩ := List.mem_filter.1 hk
  exact ⟨k, List.mem_range.1 h1, h2, rfl⟩
theorem eoN_mem {N : Nn} (g : N.T) {x : Eg} (h : x ∈ eoN N) : EdT N x := by
  obtain ⟨i, hi, hx⟩ := List.mem_flatMap.1 h
  have hi' := List.mem_range.1 hi
  have kn := g.kn i hi'
  obtain ⟨k, k1, k2, rfl⟩ := eo_mem hx
  have ag := kn.aged g.g hi' k2
  obtain ⟨q1, q2, _⟩ := kn.kn k k2
  exact ⟨i, k, hi', q1, fun e => q2 e.symm, k2, by show ((N.nd i).id : Int) = i; rw [kn.id], rfl, rfl, rfl, ag.1, ag.2.1, ag.2.2.1, ag.2.2.2⟩
theorem eo_len (c : Nd) (t : Int) : (c.eo t).length ≤ c.n := by
  unfold Nd.eo
  rw [List.length_map]
  exact Nat.le_trans (List.length_filter_le _ _) (by rw [List.length_range]; exact Nat.le_refl _)
theorem flat_len {α β : Type} (f : α → List β) (m : Nat) : ∀ (l : List α), (∀ x, x ∈ l → (f x).length ≤ m) → (l.flatMap f).length ≤ l.length * m
  | [], _ => by simp
  | a :: r, h => by
    rw [List.flatMap_cons, List.length_append, List.length_cons, Nat.succ_mul]
    have := h a (by simp)
    have := flat_len f m r (fun x hx => h x (by simp [hx]))
    omega
theorem eoN_len {N : Nn} (g : N.T) : (eoN N).length ≤ 36 := by
  have h6 := g.g.i.n6
  have := flat_len (fun i => (N.nd i).eo (N.W.rd i)) 6 (List.range N.W.n) (fun i hi => by
    have e := (g.kn i (List.mem_range.1 hi)).n
    have := eo_len (N.nd i) (N.W.rd i)
    omega)
  rw [List.length_range] at this
  unfold eoN
  omega
theorem egf_mem {l : List Eg} {i : Nat} (h : i < l.length) : egf l i ∈ l := by
  unfold egf
  rw [List.getD_eq_getElem?_getD, List.getElem?_eq_getElem h]
  exact List.getElem_mem h
theorem eoN_egs {N : Nn} (g : N.T) : Egs N.W.n (egf (eoN N)) (eoN N).length := by
  refine ⟨by have := g.g.i.n1; omega, by have := g.g.i.n6; omega, by have := eoN_len g; omega, fun i hi => ?_⟩
  obtain ⟨a, b, h1, h2, h3, h4, h5, h6, _, _, h7, h8, h9, h10⟩ := (eoN_mem g (egf_mem hi)).ex
  refine ⟨?_, by rw [h5, h6]; omega, okB_mk ⟨by omega, by omega, by omega⟩⟩
  unfold inN
  rw [h5, h6]
  omega
theorem egs_e {n : Int} {q : Nat → Eg} {m : Nat} (h : Egs n q m) : eE n q m = 0 := by
  have n1 := h.n1
  have n6 := h.n6
  have m40 := h.m40
  unfold eE
  rw [if_neg (by omega), if_neg (by omega)]
  refine eFr_ok (fun i hi => ?_)
  obtain ⟨h1, h2, h3⟩ := h.each i hi
  unfold inN at h1
  unfold eEr
  rw [if_neg (by omega), if_neg h2, if_pos h3]
/-- All clocks, as they are, fit all edges. -/
theorem eoN_arc {N : Nn} (g : N.T) : ∀ u v c, Arc (egf (eoN N)) (eoN N).length u v c → N.W.rd v - N.W.rd u ≤ c ∧ c ≤ 4000000000 := by
  rintro u v c ⟨j, hj, q⟩
  obtain ⟨a, b, h1, h2, h3, h4, h5, h6, _, _, h7, h8, h9, h10⟩ := (eoN_mem g (egf_mem hj)).ex
  rcases q with ⟨q1, q2, rfl⟩ | ⟨q1, q2, rfl⟩
  · obtain rfl : u = a := by omega
    obtain rfl : v = b := by omega
    exact ⟨h8, h10⟩
  · obtain rfl : u = b := by omega
    obtain rfl : v = a := by omega
    omega
theorem fitB_of {q : Nat → Eg} {c : Nat → Int} : ∀ m, (∀ j, j < m → (q j).lo ≤ c (q j).b.toNat - c (q j).a.toNat ∧ c (q j).b.toNat - c (q j).a.toNat ≤ (q j).hi) → fitB q c m = true
  | 0, _ => rfl
  | m + 1, h => by
    have h1 := h m (by omega)
    simp only [fitB, Bool.and_eq_true, decide_eq_true_eq]
    exact ⟨fitB_of m (fun j hj => h j (by omega)), h1.1, h1.2⟩
theorem eoN_fit {N : Nn} (g : N.T) : fitB (egf (eoN N)) (fun i => N.W.rd i) (eoN N).length = true := by
  refine fitB_of _ (fun j hj => ?_)
  obtain ⟨a, b, h1, h2, h3, h4, h5, h6, _, _, h7, h8, h9, h10⟩ := (eoN_mem g (egf_mem hj)).ex
  rw [h5, h6, Int.toNat_natCast, Int.toNat_natCast]
  exact ⟨h7, h8⟩
theorem rd_t {N : Nn} (g : N.T) {i : Nat} (hi : i < N.W.n) : 0 ≤ N.W.rd i ∧ N.W.rd i ≤ 1002000000 := by
  have := shw_b g.g hi g.g.i.t0 (Int.le_refl _)
  rwa [shw_rd] at this
theorem eoN_fitA {N : Nn} (g : N.T) : FitA N.W.n (egf (eoN N)) (eoN N).length N.W.n (fun i => N.W.rd i) true 0 := by
  refine Or.inr (Or.inr (Or.inr ⟨egs_e (eoN_egs g), rfl, ?_, (eoN_fit g).symm, rfl⟩))
  rintro ⟨i, hi, h⟩
  have := rd_t g hi
  have h' : N.W.rd i < -1000000000000 ∨ 1000000000000 < N.W.rd i := h
  omega
theorem eoN_nn {N : Nn} (g : N.T) (n : Nat) : ¬ Neg (Arc (egf (eoN N)) (eoN N).length) n := fun h => h.unfit (x := fun i => N.W.rd i) (fun u v c q => (eoN_arc g u v c q).1)
theorem wk_top {R : Nat → Nat → Int → Prop} {K : Int} (hR : ∀ u v c, R u v c → c ≤ K) : ∀ {r i k : Nat} {c : Int}, Wk R r i k c → c ≤ (r : Int) * K := by
  intro r
  induction r with
  | zero =>
    intro i k c w
    obtain ⟨rfl, rfl⟩ := w.zero
    omega
  | succ r ih =>
    intro i k c w
    obtain ⟨j, a, b, w1, g, rfl⟩ := w.last
    have h1 := ih w1
    have h2 := hR _ _ _ g
    have e : ((r + 1 : Nat) : Int) * K = (r : Int) * K + K := by rw [Int.natCast_add, Int.add_mul]; simp
    omega
theorem eoN_all {N : Nn} (g : N.T) : ∃ T, AllA (egf (eoN N)) (eoN N).length N.W.n 0 T := by
  have hE := eoN_egs g
  obtain ⟨T, hT⟩ := isT_some hE (eoN_nn g N.W.n)
  refine ⟨T, Or.inr ⟨eoN_nn g N.W.n, hT, Or.inr ⟨?_, rfl⟩⟩⟩
  rintro ⟨i, k, x, hi, hk, e, f⟩
  obtain ⟨⟨r, w⟩, m⟩ := (hT i k hi).1 x e
  have lo := wk_fit (x := fun i => N.W.rd i) (fun u v c q => (eoN_arc g u v c q).1) w
  obtain ⟨r', c', h1, h2, w'⟩ := short hE.arc (not_neg (eoN_nn g N.W.n)) r i k x hi w
  have h3 := m r' c' w'
  have h4 := wk_top (K := 4000000000) (fun u v c q => (eoN_arc g u v c q).2) w'
  have ri := rd_t g hi
  have rk := rd_t g hk
  have h6 := g.g.i.n6
  have lo' : N.W.rd k - N.W.rd i ≤ x := lo
  have h5 : (r' : Int) * 4000000000 ≤ 5 * 4000000000 := Int.mul_le_mul_of_nonneg_right (by omega) (by omega)
  omega
/-- What is told of two nodes has how their clocks truly differ. -/
theorem eoN_bet {N : Nn} (g : N.T) {a b lo hi e : Int} (ha : 0 ≤ a ∧ a < N.W.n ∧ 0 ≤ b ∧ b < N.W.n) (h : BetA N.W.n (egf (eoN N)) (eoN N).length a b lo hi e) :
    (e = 5 ∧ lo = 0 ∧ hi = 0 ∧ (∀ r c, ¬ Wk (Arc (egf (eoN N)) (eoN N).length) r a.toNat b.toNat c)) ∨ (e = 0 ∧ lo ≤ N.W.rd b.toNat - N.W.rd a.toNat ∧ N.W.rd b.toNat - N.W.rd a.toNat ≤ hi ∧ -1000000000000 ≤ lo ∧ hi ≤ 1000000000000 ∧ Dst (Arc (egf (eoN N)) (eoN N).length) a.toNat b.toNat hi ∧ Dst (Arc (egf (eoN N)) (eoN N).length) b.toNat a.toNat (-lo)) := by
  have hE := eoN_egs g
  obtain ⟨T0, h0⟩ := eoN_all g
  rcases h with ⟨h, _⟩ | ⟨_, h, _⟩ | ⟨_, _, f, T, hA, q⟩
  · exact absurd (egs_e hE) h
  · omega
  · rw [Int.toNat_natCast] at hA
    have f0 := hA.e_one h0
    subst f0
    have hA2 := hA
    rcases hA with ⟨_, c⟩ | ⟨_, hT, ⟨_, c⟩ | ⟨nf, _⟩⟩
    · cases c
    · cases c
    · have a1 : a.toNat < N.W.n := by omega
      have b1 : b.toNat < N.W.n := by omega
      rcases q with ⟨c, _⟩ | ⟨_, n, rfl, rfl, rfl⟩ | ⟨_, ⟨x, s⟩, rfl, rfl, rfl⟩
      · exact absurd rfl c
      · exact Or.inl ⟨rfl, rfl, rfl, (hT _ _ a1).2 n⟩
      · obtain ⟨y, s'⟩ := hT.back a1 b1 s
        have d1 := (hT _ _ a1).1 x s
        have d2 := (hT _ _ b1).1 y s'
        have eh : spHi T a.toNat b.toNat = x := by unfold spHi; rw [s]; rfl
        have el : spLo T a.toNat b.toNat = -y := by unfold spLo; rw [s, s']; rfl
        have fit : ∀ u v c, Arc (egf (eoN N)) (eoN N).length u v c → (fun i => N.W.rd i) v - (fun i => N.W.rd i) u ≤ c := fun u v c q => (eoN_arc g u v c q).1
        obtain ⟨⟨r1, w1⟩, _⟩ := d1
        obtain ⟨⟨r2, w2⟩, _⟩ := d2
        have x1 := wk_fit fit w1
        have x2 := wk_fit fit w2
        have n1 := not_far nf a1 b1 s
        have n2 := not_far nf b1 a1 s'
        rw [eh, el]
        refine Or.inr ⟨rfl, ?_, x1, by omega, by omega, (hT _ _ a1).1 x s, by rw [Int.neg_neg]; exact (hT _ _ b1).1 y s'⟩
        have x2' : N.W.rd a.toNat - N.W.rd b.toNat ≤ y := x2
        omega
theorem Kn.sp {S : Ws} {p : Int} {i : Nat} {c : Nd} (h : Kn S p i c) (g : RtB S p) (hi : i < S.n) : SpR c (S.rd i) 0 := by
  refine Or.inr (Or.inr ⟨h.nbk g hi, fun k _ hk => ?_, rfl⟩)
  have a := h.aged g hi hk
  exact okB_mk ⟨by omega, by omega, by omega⟩
/-- The edges of the first nodes. -/
def eoK (N : Nn) (k : Nat) : List Eg := (List.range k).flatMap (fun i => (N.nd i).eo (N.W.rd i))
theorem eoK_all (N : Nn) : eoK N N.W.n = eoN N := rfl
theorem eoK_more (N : Nn) (k : Nat) : eoK N (k + 1) = eoK N k ++ (N.nd k).eo (N.W.rd k) := by
  unfold eoK
  rw [List.range_succ, List.flatMap_append]
  simp
theorem eoK_len {N : Nn} (g : N.T) {k : Nat} (hk : k ≤ N.W.n) : (eoK N k).length ≤ 36 := by
  have h6 := g.g.i.n6
  have := flat_len (fun i => (N.nd i).eo (N.W.rd i)) 6 (List.range k) (fun i hi => by
    have e := (g.kn i (Nat.lt_of_lt_of_le (List.mem_range.1 hi) hk)).n
    have := eo_len (N.nd i) (N.W.rd i)
    omega)
  rw [List.length_range] at this
  unfold eoK
  omega
/-- How wide all are together. -/
def wid (n : Nat) (T : Tb) : Int := ((List.range n).map (fun a => ((List.range n).map (fun b => if a < b ∧ (T a b).isSome = true then spHi T a b - spLo T a b else 0)).sum)).sum
end Go.Proofs.YtigcliepeapcpajGreatDoor
namespace Go.Proofs.YtigcliepeapcpajGreatDoor
open Go.ChangeShapes Go.WideShapes Go.ChangeAt Go.RowKit
set_option linter.unusedVariables false

/-- Package net, behind a world w0: R: what a net keeps, at block b, in blocks F. -/
structure Nt (w0 : World) where
  R : World → Nat → (Nat → Prop) → Nn → Prop
  on : ∀ {u v : World} {b : Nat} {F : Nat → Prop} {N : Nn}, R u b F N → u.heap.size ≤ v.heap.size → (∀ k, F k → v.heap[k]? = u.heap[k]?) → R v b F N
  lt : ∀ {u : World} {b : Nat} {F : Nat → Prop} {N : Nn}, R u b F N → ∀ k, F k → k < u.heap.size
  new : ∀ (sa : Option Addr) (n sc : Nat) (z : Nat → Int) (ra : Option Addr) (m rc : Nat) (r : Nat → Int) (ppm e : Int) (u : World), Below w0.heap.size w0 u → NHanded u sa n z → NHanded u ra m r → In64 ppm → BeE n z m r ppm e → Calls Tryz.prog 5 #[.slice sa n sc, .slice ra m rc, .int .i64 ppm] u fun o w' => ∃ pv, o = .returned (.tuple #[pv, errc e]) ∧ Below u.heap.size u w' ∧ (e = 0 → ∃ b F, pv = .pointer (some ⟨b, 0, none⟩) ∧ R w' b F (Nn.made n z r ppm) ∧ ∀ k, F k → u.heap.size ≤ k)
  act : ∀ (b : Nat) (F : Nat → Prop) (N N' : Nn) (wh x y e : Int) (u : World), R u b F N → N.T → In64 wh → In64 x → In64 y → NDoR N wh x y N' e → Calls Tryz.prog 8 #[.pointer (some ⟨b, 0, none⟩), .agg #[.int .i64 wh, .int .i64 x, .int .i64 y]] u fun o w' => ∃ F', o = .returned (errc e) ∧ R w' b F' N' ∧ Keeps F u w' ∧ ∀ k, F' k → F k ∨ u.heap.size ≤ k
/-- A net as a law has it on the way. -/
structure Nv (w : World) (C : Nt w) (u : World) (b : Nat) (F : Nat → Prop) (N : Nn) : Prop where
  h : C.R u b F N
  t : N.T
  lo : ∀ k, F k → w.heap.size ≤ k
  hw : Below w.heap.size w u
section
variable {w u v : World} {C : Nt w} {b : Nat} {F : Nat → Prop} {N N' : Nn}
theorem Nv.on (g : Nv w C u b F N) (hb : Below u.heap.size u v) : Nv w C v b F N := ⟨C.on g.h hb.size (fun k hk => hb.block k (C.lt g.h k hk)), g.t, g.lo, rbel_on hb g.hw⟩
theorem Nv.made (C : Nt w) {sa ra : Option Addr} {n sc m rc : Nat} {z r : Nat → Int} {ppm : Int} (hu : Below w.heap.size w u) (h1 : NHanded u sa n z) (h2 : NHanded u ra m r) (hp : In64 ppm) (hE : BeE n z m r ppm 0) : Calls Tryz.prog 5 #[.slice sa n sc, .slice ra m rc, .int .i64 ppm] u fun o w' => ∃ b F, o = .returned (.tuple #[.pointer (some ⟨b, 0, none⟩), .nilIface]) ∧ Nv w C w' b F (Nn.made n z r ppm) ∧ Below u.heap.size u w' ∧ ∀ k, F k → u.heap.size ≤ k :=
  (C.new sa n sc z ra m rc r ppm 0 u hu h1 h2 hp hE).mono (by
    rintro o w' ⟨pv, rfl, hb, h⟩
    obtain ⟨b, F, rfl, h1, h2⟩ := h rfl
    rw [errc_zero]
    exact ⟨b, F, rfl, ⟨h1, Nn.made_t hE, fun k hk => Nat.le_trans hu.size (h2 k hk), rbel_on hb hu⟩, hb, h2⟩)
theorem Nv.act (g : Nv w C u b F N) {wh x y e : Int} (h1 : In64 wh) (h2 : In64 x) (h3 : In64 y) (hD : NDoR N wh x y N' e) : Calls Tryz.prog 8 #[.pointer (some ⟨b, 0, none⟩), .agg #[.int .i64 wh, .int .i64 x, .int .i64 y]] u fun o w' => ∃ F', o = .returned (errc e) ∧ Nv w C w' b F' N' ∧ Keeps F u w' ∧ ∀ k, F' k → F k ∨ u.heap.size ≤ k :=
  (C.act b F N N' wh x y e u g.h g.t h1 h2 h3 hD).mono (by
    rintro o w' ⟨F', rfl, h1, hK, hF⟩
    have sz := g.hw.size
    exact ⟨F', rfl, ⟨h1, (hD.t g.t).1, fun k hk => (hF k hk).elim (g.lo k) (fun h => Nat.le_trans sz h), g.hw.trans (hK.below sz g.lo)⟩, hK, hF⟩)
/-- A row grows that it does not lie in. -/
theorem Nv.grown (g : Nv w C u b F N) {row : Option Nat} (hg : u.grownBy v row) (hn : ∀ k, F k → some k ≠ row) (hv : Below w.heap.size w v) : Nv w C v b F N := ⟨C.on g.h hg.size (fun k hk => hg.block k (C.lt g.h k hk) (hn k hk)), g.t, g.lo, hv⟩
end
end Go.Proofs.YtigcliepeapcpajGreatDoor
namespace Go.Proofs.YtigcliepeapcpajGreatDoor
open Go.ChangeShapes Go.WideShapes Go.ChangeAt Go.RowKit
set_option linter.unusedVariables false

def xLo (P : Tx) (i k : Nat) : Int := match P i k with
  | none => 0
  | some x => x.1
def xHi (P : Tx) (i k : Nat) : Int := match P i k with
  | none => 0
  | some x => x.2
/-- A row of a table: its spans, end by end; whether there is any. -/
def rowS (P : Tx) (n i : Nat) : List Value := (List.range (n * 2)).map fun j => .int .i64 (if j % 2 = 0 then xLo P i (j / 2) else xHi P i (j / 2))
def rowK (P : Tx) (n i : Nat) : List Value := (List.range n).map fun k => .bool (P i k).isSome
theorem rowS_lo (P : Tx) (n i k : Nat) (h : k < n) : (rowS P n i)[k * 2]? = some (.int .i64 (xLo P i k)) := by
  unfold rowS
  rw [List.getElem?_map, List.getElem?_range (by omega)]
  show some (Value.int .i64 (if k * 2 % 2 = 0 then xLo P i (k * 2 / 2) else xHi P i (k * 2 / 2))) = _
  rw [if_pos (by omega), show k * 2 / 2 = k by omega]
theorem rowS_hi (P : Tx) (n i k : Nat) (h : k < n) : (rowS P n i)[k * 2 + 1]? = some (.int .i64 (xHi P i k)) := by
  unfold rowS
  rw [List.getElem?_map, List.getElem?_range (by omega)]
  show some (Value.int .i64 (if (k * 2 + 1) % 2 = 0 then xLo P i ((k * 2 + 1) / 2) else xHi P i ((k * 2 + 1) / 2))) = _
  rw [if_neg (by omega), show (k * 2 + 1) / 2 = k by omega]
theorem rowS_none (P : Tx) (n i j : Nat) (h : n * 2 ≤ j) : (rowS P n i)[j]? = none := by
  unfold rowS
  rw [List.getElem?_eq_none (by simp; omega)]
theorem rowK_at (P : Tx) (n i k : Nat) (h : k < n) : (rowK P n i)[k]? = some (.bool (P i k).isSome) := by simp [rowK, h]
theorem rowS_ext {P : Tx} {n i : Nat} {l : List Value} (h1 : ∀ k, k < n → l[k * 2]? = some (.int .i64 (xLo P i k)) ∧ l[k * 2 + 1]? = some (.int .i64 (xHi P i k))) (h2 : ∀ j, n * 2 ≤ j → l[j]? = none) : rowS P n i = l := by
  apply List.ext_getElem?
  intro j
  by_cases hj : j < n * 2
  · by_cases e : j % 2 = 0
    · obtain ⟨k, rfl⟩ : ∃ k, j = k * 2 := ⟨j / 2, by omega⟩
      rw [rowS_lo _ _ _ _ (by omega), (h1 k (by omega)).1]
    · obtain ⟨k, rfl⟩ : ∃ k, j = k * 2 + 1 := ⟨j / 2, by omega⟩
      rw [rowS_hi _ _ _ _ (by omega), (h1 k (by omega)).2]
  · rw [rowS_none _ _ _ _ (by omega), h2 j (by omega)]
theorem updx_lo (P : Tx) (a b i k : Nat) (x : Int × Int) : xLo (updx P a b x) i k = if i = a ∧ k = b then x.1 else xLo P i k := by
  unfold xLo
  by_cases h : i = a ∧ k = b
  · rw [if_pos h]; obtain ⟨rfl, rfl⟩ := h; rw [updx_at]
  · rw [if_neg h, updx_ne _ _ h]
theorem updx_hi (P : Tx) (a b i k : Nat) (x : Int × Int) : xHi (updx P a b x) i k = if i = a ∧ k = b then x.2 else xHi P i k := by
  unfold xHi
  by_cases h : i = a ∧ k = b
  · rw [if_pos h]; obtain ⟨rfl, rfl⟩ := h; rw [updx_at]
  · rw [if_neg h, updx_ne _ _ h]
theorem upd_rowS (P : Tx) (n i b : Nat) (x : Int × Int) (hb : b < n) : rowS (updx P i b x) n i = ((rowS P n i).set (b * 2) (.int .i64 x.1)).set (b * 2 + 1) (.int .i64 x.2) := by
  have len : (rowS P n i).length = n * 2 := by simp [rowS]
  refine rowS_ext (fun k hk => ?_) (fun j hj => ?_)
  · rw [updx_lo, updx_hi]
    by_cases e : k = b
    · subst e
      rw [if_pos ⟨rfl, rfl⟩, if_pos ⟨rfl, rfl⟩]
      refine ⟨?_, ?_⟩
      · rw [List.getElem?_set_ne (by omega), List.getElem?_set_self (by omega)]
      · rw [List.getElem?_set_self (by simp; omega)]
    · rw [if_neg (by omega), if_neg (by omega)]
      refine ⟨?_, ?_⟩
      · rw [List.getElem?_set_ne (by omega), List.getElem?_set_ne (by omega), rowS_lo _ _ _ _ hk]
      · rw [List.getElem?_set_ne (by omega), List.getElem?_set_ne (by omega), rowS_hi _ _ _ _ hk]
  · rw [List.getElem?_eq_none (by simp; omega)]
theorem upd_rowK (P : Tx) (n i b : Nat) (x : Int × Int) (hb : b < n) : rowK (updx P i b x) n i = (rowK P n i).set b (.bool true) := by
  apply List.ext_getElem?
  intro k
  by_cases hk : k < n
  · rw [rowK_at _ _ _ _ hk]
    by_cases e : b = k
    · subst e
      rw [List.getElem?_set_self (by simp [rowK]; exact hk), updx_at]; rfl
    · rw [List.getElem?_set_ne e, rowK_at _ _ _ _ hk, updx_ne _ _ (by omega)]
  · rw [List.getElem?_eq_none (by simp [rowK]; omega), List.getElem?_eq_none (by simp [rowK]; omega)]
theorem upd_rowS_other (P : Tx) (n i j b : Nat) (x : Int × Int) (h : j ≠ i) : rowS (updx P i b x) n j = rowS P n j := by
  unfold rowS
  apply List.map_congr_left
  intro y _
  rw [show xLo (updx P i b x) j (y / 2) = xLo P j (y / 2) by rw [updx_lo]; exact if_neg (by omega), show xHi (updx P i b x) j (y / 2) = xHi P j (y / 2) by rw [updx_hi]; exact if_neg (by omega)]
theorem upd_rowK_other (P : Tx) (n i j b : Nat) (x : Int × Int) (h : j ≠ i) : rowK (updx P i b x) n j = rowK P n j := by
  unfold rowK
  apply List.map_congr_left
  intro y _
  rw [updx_ne _ _ (by omega)]
/-- The rows of a slice of rows. -/
def outs (Sb : Nat → Nat) (n : Nat) : List Value := (List.range n).map fun i => .slice (some ⟨Sb i, 0, none⟩) n n
theorem outs_at (Sb : Nat → Nat) (n i : Nat) (h : i < n) : (outs Sb n)[i]? = some (.slice (some ⟨Sb i, 0, none⟩) n n) := by simp [outs, h]
/-- A table in memory. -/
structure Tbx (u : World) (gs gk n : Nat) (Sb Kb : Nat → Nat) (P : Tx) : Prop where
  outS : Blk u 124 gs (outs Sb n)
  outK : Blk u 123 gk (outs Kb n)
  inS : ∀ i, i < n → Blk u 41 (Sb i) (rowS P n i)
  inK : ∀ i, i < n → Blk u 4 (Kb i) (rowK P n i)
  oneS : ∀ i j, i < n → j < n → i ≠ j → Sb i ≠ Sb j
  oneK : ∀ i j, i < n → j < n → i ≠ j → Kb i ≠ Kb j
/-- The blocks of rows. -/
def Rwx (n : Nat) (Sb Kb : Nat → Nat) (k : Nat) : Prop := ∃ i, i < n ∧ (k = Sb i ∨ k = Kb i)
section
variable {u W : World} {gs gk n : Nat} {Sb Kb : Nat → Nat} {P : Tx}
theorem Tbx.sk (h : Tbx u gs gk n Sb Kb P) {i j : Nat} (hi : i < n) (hj : j < n) : Sb i ≠ Kb j := (h.inS i hi).ne (h.inK j hj) (by decide)
theorem Tbx.gsS (h : Tbx u gs gk n Sb Kb P) {i : Nat} (hi : i < n) : gs ≠ Sb i := h.outS.ne (h.inS i hi) (by decide)
theorem Tbx.gsK (h : Tbx u gs gk n Sb Kb P) {i : Nat} (hi : i < n) : gs ≠ Kb i := h.outS.ne (h.inK i hi) (by decide)
theorem Tbx.gkS (h : Tbx u gs gk n Sb Kb P) {i : Nat} (hi : i < n) : gk ≠ Sb i := h.outK.ne (h.inS i hi) (by decide)
theorem Tbx.gkK (h : Tbx u gs gk n Sb Kb P) {i : Nat} (hi : i < n) : gk ≠ Kb i := h.outK.ne (h.inK i hi) (by decide)
theorem Tbx.on (hb : Below W.heap.size W u) (h : Tbx W gs gk n Sb Kb P) : Tbx u gs gk n Sb Kb P :=
  ⟨h.outS.on hb, h.outK.on hb, fun i hi => (h.inS i hi).on hb, fun i hi => (h.inK i hi).on hb, h.oneS, h.oneK⟩
theorem Tbx.al {ob : Obj} (h : Tbx W gs gk n Sb Kb P) : Tbx (W.alloc ob) gs gk n Sb Kb P :=
  ⟨h.outS.al, h.outK.al, fun i hi => (h.inS i hi).al, fun i hi => (h.inK i hi).al, h.oneS, h.oneK⟩
theorem Tbx.drn {m : Nat} (h : Tbx W gs gk n Sb Kb P) : Tbx (W.drewN m) gs gk n Sb Kb P := ⟨h.outS, h.outK, h.inS, h.inK, h.oneS, h.oneK⟩
theorem Tbx.dr (h : Tbx W gs gk n Sb Kb P) : Tbx W.drew gs gk n Sb Kb P := ⟨h.outS, h.outK, h.inS, h.inK, h.oneS, h.oneK⟩
theorem Tbx.far {b i : Nat} {x : Value} (h : Tbx W gs gk n Sb Kb P) (h1 : gs ≠ b) (h2 : gk ≠ b) (h3 : ∀ i, i < n → Sb i ≠ b ∧ Kb i ≠ b) : Tbx (W.setCell ⟨b, i, none⟩ x) gs gk n Sb Kb P :=
  ⟨h.outS.far h1, h.outK.far h2, fun i hi => (h.inS i hi).far (h3 i hi).1, fun i hi => (h.inK i hi).far (h3 i hi).2, h.oneS, h.oneK⟩
theorem Tbx.lt (h : Tbx u gs gk n Sb Kb P) : gs < u.heap.size ∧ gk < u.heap.size ∧ ∀ i, i < n → Sb i < u.heap.size ∧ Kb i < u.heap.size := ⟨h.outS.lt, h.outK.lt, fun i hi => ⟨(h.inS i hi).lt, (h.inK i hi).lt⟩⟩
/-- A span is stored, and that there is one. -/
theorem Tbx.put (h : Tbx W gs gk n Sb Kb P) {a b : Nat} (ha : a < n) (hb : b < n) (lo hi : Int) : Tbx (((W.setCell ⟨Sb a, b * 2, none⟩ (.int .i64 lo)).setCell ⟨Sb a, b * 2 + 1, none⟩ (.int .i64 hi)).setCell ⟨Kb a, b, none⟩ (.bool true)) gs gk n Sb Kb (updx P a b (lo, hi)) := by
  refine ⟨?_, ?_, fun j hj => ?_, fun j hj => ?_, h.oneS, h.oneK⟩
  · exact ((h.outS.far (h.gsS ha)).far (h.gsS ha)).far (h.gsK ha)
  · exact ((h.outK.far (h.gkS ha)).far (h.gkS ha)).far (h.gkK ha)
  · by_cases e : j = a
    · subst e
      rw [upd_rowS _ _ _ _ _ hb]
      exact (((h.inS j hj).put _).put _).far (h.sk hj hj)
    · rw [upd_rowS_other _ _ _ _ _ _ e]
      exact (((h.inS j hj).far (h.oneS j a hj ha e)).far (h.oneS j a hj ha e)).far (h.sk hj ha)
  · by_cases e : j = a
    · subst e
      rw [upd_rowK _ _ _ _ _ hb]
      exact (((h.inK j hj).far (fun k => h.sk hj hj k.symm)).far (fun k => h.sk hj hj k.symm)).put b
    · rw [upd_rowK_other _ _ _ _ _ _ e]
      exact (((h.inK j hj).far (fun k => h.sk ha hj k.symm)).far (fun k => h.sk ha hj k.symm)).far (h.oneK j a hj ha e)
end
end Go.Proofs.YtigcliepeapcpajGreatDoor
namespace Go.Proofs.YtigcliepeapcpajGreatDoor
open Go.ChangeShapes Go.WideShapes Go.ChangeAt Go.RowKit
set_option linter.unusedVariables false

/-- .. and Offset. -/
structure NtO (w0 : World) extends Nt w0 where
  off : ∀ (b : Nat) (F : Nat → Prop) (N : Nn) (x y lo hi e : Int) (u : World), R u b F N → N.T → In64 x → In64 y → BetA N.W.n (egf (eoN N)) (eoN N).length x y lo hi e → Calls Tryz.prog 10 #[.pointer (some ⟨b, 0, none⟩), .int .i64 x, .int .i64 y] u fun o w' => o = .returned (.tuple #[.agg #[.int .i64 lo, .int .i64 hi], errc e]) ∧ Below u.heap.size u w'
end Go.Proofs.YtigcliepeapcpajGreatDoor
namespace Go.Proofs.YtigcliepeapcpajGreatDoor
open Go.ChangeShapes Go.WideShapes Go.ChangeAt Go.RowKit
set_option linter.unusedVariables false

/-- A clock lies in a block b, whatever it keeps there (R); what its methods answer, behind a world w0. -/
structure Cp (w0 : World) where
  R : World → Nat → Ck → Prop
  lt : ∀ {u : World} {b : Nat} {c : Ck}, R u b c → b < u.heap.size
  on : ∀ {u u' : World} {b : Nat} {c : Ck}, R u b c → u'.heap[b]? = u.heap[b]? → R u' b c
  new : ∀ (p : Int) (u : World), Below w0.heap.size w0 u → 0 ≤ p → p ≤ 1000 → Calls Tryz.prog 7 #[.int .i64 p] u fun o w' => ∃ b : Nat, o = .returned (.tuple #[.pointer (some ⟨b, 0, none⟩), .nilIface]) ∧ u.heap.size ≤ b ∧ R w' b (Ck.made p) ∧ Below u.heap.size u w'
  bad : ∀ (p : Int) (u : World), Below w0.heap.size w0 u → In64 p → (p < 0 ∨ 1000 < p) → Calls Tryz.prog 7 #[.int .i64 p] u fun o w' => ∃ v : Value, o = .returned (.tuple #[v, .iface 71 (.int .i64 1)]) ∧ Below u.heap.size u w'
  step : ∀ (b : Nat) (c : Ck) (x : Int) (u : World), Below w0.heap.size w0 u → w0.heap.size ≤ b → R u b c → c.I → In64 x → Calls Tryz.prog 11 #[.pointer (some ⟨b, 0, none⟩), .int .i64 x] u fun o w' => o = .returned (errc (c.stepE x)) ∧ R w' b (c.stepC x) ∧ Keeps (fun k => k = b) u w'
  learn : ∀ (b : Nat) (c : Ck) (x y : Int) (u : World), Below w0.heap.size w0 u → w0.heap.size ≤ b → R u b c → c.I → In64 x → In64 y → Calls Tryz.prog 12 #[.pointer (some ⟨b, 0, none⟩), .agg #[.int .i64 x, .int .i64 y]] u fun o w' => o = .returned (errc (c.learnE x y)) ∧ R w' b (c.learnC x y) ∧ Keeps (fun k => k = b) u w'
  now : ∀ (b : Nat) (c : Ck) (u : World), Below w0.heap.size w0 u → w0.heap.size ≤ b → R u b c → c.I → Calls Tryz.prog 13 #[.pointer (some ⟨b, 0, none⟩)] u fun o w' => o = .returned (.tuple #[.agg #[.int .i64 c.nowLo, .int .i64 c.nowHi], errc c.nowE]) ∧ R w' b c ∧ Keeps (fun k => k = b) u w'
/-- .. and Point, Here. -/
structure CpP (w0 : World) extends Cp w0 where
  point : ∀ (b : Nat) (c : Ck) (u : World), Below w0.heap.size w0 u → w0.heap.size ≤ b → R u b c → c.I → Calls Tryz.prog 15 #[.pointer (some ⟨b, 0, none⟩)] u fun o w' => o = .returned (.tuple #[.int .i64 c.pointN, errc c.pointE]) ∧ R w' b c.pointC ∧ Keeps (fun k => k = b) u w'
structure CpH (w0 : World) extends CpP w0 where
  here : ∀ (b : Nat) (c : Ck) (u : World), Below w0.heap.size w0 u → w0.heap.size ≤ b → R u b c → c.I → Calls Tryz.prog 120 #[.pointer (some ⟨b, 0, none⟩)] u fun o w' => o = .returned (.int .i64 c.h) ∧ R w' b c ∧ Keeps (fun k => k = b) u w'
section
variable {w0 u u' : World} {b : Nat} {c : Ck}
theorem Cp.keep (C : Cp w0) (h : C.R u b c) (hb : Below u.heap.size u u') : C.R u' b c := C.on h (hb.block b (C.lt h))
theorem Cp.al (C : Cp w0) {ob : Obj} (h : C.R u b c) : C.R (u.alloc ob) b c := C.on h (Below.heap_alloc _ _ _ (C.lt h))
theorem Cp.dr (C : Cp w0) (h : C.R u b c) : C.R u.drew b c := C.on h rfl
theorem Cp.drn (C : Cp w0) {n : Nat} (h : C.R u b c) : C.R (u.drewN n) b c := C.on h rfl
theorem Cp.put (C : Cp w0) {a i : Nat} {x : Value} (h : C.R u b c) (hne : b ≠ a) : C.R (u.setCell ⟨a, i, none⟩ x) b c := C.on h (Deep.blk_setCell_other u ⟨a, i, none⟩ x b hne)
theorem kbel {B : Nat} {w : World} (hB : w.heap.size ≤ b) (hK : Keeps (fun k => k = b) u u') (h : Below w.heap.size w u) : Below w.heap.size w u' :=
  h.trans (hK.below h.size (fun k hk => by rw [hk]; exact hB))
end
end Go.Proofs.YtigcliepeapcpajGreatDoor
namespace Go.Proofs.YtigcliepeapcpajGreatDoor
set_option linter.unusedVariables false

section
variable {N : Nn}
/-- One node asks another one. -/
theorem ask_ok (g : N.T) {a b : Nat} (ha : a < N.W.n) (hb : b < N.W.n) (ne : a ≠ b) (hu : N.W.under = []) :
    NDoR N 2 a b ⟨{ N.W with under := [⟨a, b, false, 0, 0, N.W.rd a⟩] }, N.p, N.nd⟩ 0 := by
  refine ⟨_, none, 0, Or.inr (Or.inr (Or.inr (Or.inr (Or.inr (Or.inl ⟨rfl, ⟨⟨by omega, by omega⟩, by omega, by omega⟩, by omega, by rw [hu]; decide, rfl, rfl, rfl⟩))))), Or.inl ⟨rfl, ?_, rfl⟩⟩
  rw [hu, Int.toNat_natCast]
  rfl
/-- Time goes on. -/
theorem go_ok (g : N.T) {t y : Int} (t0 : 0 ≤ t) (t1 : t ≤ 1000000) (t2 : N.W.time + t ≤ 1000000000) : NDoR N 1 t y ⟨{ N.W with time := N.W.time + t }, N.p, N.nd⟩ 0 :=
  ⟨_, none, 0, Or.inr (Or.inl ⟨rfl, ⟨t0, t1, t2⟩, rfl, rfl, rfl⟩), Or.inl ⟨rfl, rfl, rfl⟩⟩
/-- The question comes, and is answered. -/
theorem come_ask (g : N.T) {a b : Nat} {t y : Int} (hu : N.W.under = [⟨a, b, false, 0, 0, t⟩]) :
    NDoR N 3 0 y ⟨{ N.W with under := [⟨b, a, true, t, N.W.rd b, N.W.rd b⟩] }, N.p, updN N.nd b { N.nd b with h := N.W.rd b }⟩ 0 := by
  have hl := g.lk _ (by rw [hu]; exact List.mem_singleton.2 rfl)
  obtain ⟨a', b', h1, h2, h3, h4, h5, q⟩ := hl
  have ea : a' = a := by have : (a : Int) = a' := h1; omega
  have eb : b' = b := by have : (b : Int) = b' := h2; omega
  subst ea
  subst eb
  have kn := g.kn _ h4
  have e0 : ({ N.W with under := N.W.under.eraseIdx (0 : Int).toNat } : Ws) = { N.W with under := [] } := by rw [hu]; rfl
  refine ⟨{ N.W with under := [] }, some ⟨a', b', false, 0, 0, t⟩, 0, Or.inr (Or.inr (Or.inr (Or.inr (Or.inr (Or.inr (Or.inr (Or.inl ⟨rfl, ⟨by omega, by rw [hu]; show (0 : Int) < ((1 : Nat) : Int); decide⟩, e0.symm, by rw [hu]; rfl, rfl⟩))))))), Or.inr ⟨_, { N.nd b' with h := N.W.rd b' }, rfl, rfl, ⟨a', b', h1, h2, h3, h4, h5, q⟩, ?_, Or.inr ⟨rfl, _, Or.inr (Or.inr (Or.inr ⟨rfl, ⟨⟨by show (0 : Int) ≤ a'; omega, by show (a' : Int) < N.W.n; omega⟩, by show (0 : Int) ≤ b'; omega, by show (b' : Int) < N.W.n; omega⟩, by show 0 < 40; omega, rfl, rfl⟩)), ?_⟩⟩⟩
  · rw [Int.toNat_natCast]
    refine Or.inr (Or.inr (Or.inl ⟨kn.nbk g.g h4, ?_, rfl, rfl, rfl, rfl⟩))
    show ¬ ((b' : Int) ≠ (N.nd b').id ∨ (a' : Int) = (N.nd b').id ∨ (a' : Int) < 0 ∨ ((N.nd b').n : Int) ≤ a')
    rw [kn.id, kn.n]
    omega
  · simp only [Int.toNat_natCast]
    rfl
/-- The answer comes, and is kept. -/
theorem come_ans (g : N.T) {a b : Nat} {t1 t2 t y : Int} (hu : N.W.under = [⟨b, a, true, t1, t2, t⟩]) :
    NDoR N 3 0 y ⟨{ N.W with under := [] }, N.p, updN N.nd a ((N.nd a).kept b (N.W.rd a) ((N.nd a).bLo b (N.W.rd a) (t - N.W.rd a)) ((N.nd a).bHi b (N.W.rd a) (oH t1 t2 (N.W.rd a) (N.nd a).p)))⟩ 0 := by
  have hl := g.lk _ (by rw [hu]; exact List.mem_singleton.2 rfl)
  obtain ⟨c', hh, kc⟩ := hear_true g.g hl (g.kn _ (by
    obtain ⟨a', b', h1, h2, h3, h4, h5, q⟩ := hl
    have h2' : (a : Int) = b' := h2
    show ((a : Int)).toNat < N.W.n
    omega))
  have e0 : ({ N.W with under := N.W.under.eraseIdx (0 : Int).toNat } : Ws) = { N.W with under := [] } := by rw [hu]; rfl
  have ec : c' = (N.nd a).kept b (N.W.rd a) ((N.nd a).bLo b (N.W.rd a) (t - N.W.rd a)) ((N.nd a).bHi b (N.W.rd a) (oH t1 t2 (N.W.rd a) (N.nd a).p)) := by
    rcases hh with ⟨_, _, z, _⟩ | ⟨_, _, _, z, _⟩ | ⟨_, _, _, _, z, _⟩ | ⟨_, _, _, _, _, z, _⟩ | ⟨_, _, _, _, _, _, z, _⟩ | ⟨_, _, _, _, _, rfl, _⟩
    · cases z
    · cases z
    · cases z
    · cases z
    · cases z
    · simp only [Int.toNat_natCast]
      rfl
  refine ⟨{ N.W with under := [] }, some ⟨b, a, true, t1, t2, t⟩, 0, Or.inr (Or.inr (Or.inr (Or.inr (Or.inr (Or.inr (Or.inr (Or.inl ⟨rfl, ⟨by omega, by rw [hu]; show (0 : Int) < ((1 : Nat) : Int); decide⟩, e0.symm, by rw [hu]; rfl, rfl⟩))))))), Or.inr ⟨_, c', rfl, rfl, hl, hh, Or.inl ⟨rfl, ?_, rfl⟩⟩⟩
  rw [ec]
  simp only [Int.toNat_natCast]
end
end Go.Proofs.YtigcliepeapcpajGreatDoor
namespace Go.Proofs.YtigcliepeapcpajGreatDoor
set_option linter.unusedVariables false

/-- A clock learns what is so, and not too far. -/
theorem Hd.learnW {p r b T A B : Int} {c : Ck} (P : HdP p r b T) (h : Hd p r b T c) (h1 : A ≤ b + T - shM r T) (h2 : b + T - shM r T ≤ B) (h3 : -3000000 ≤ A) (h4 : B ≤ 3000000) : c.learnE A B = 0 ∧ Hd p r b T (c.learnC A B) ∧ (c.learnC A B).k = true := by
  have es : shM r T = T + T * r / 1000000 := rfl
  have o : okB A B = true := okB_mk (by omega)
  have bb : c.bLo A ≤ b - T * r / 1000000 ∧ b - T * r / 1000000 ≤ c.bHi B ∧ -3000000 ≤ c.bLo A ∧ c.bHi B ≤ 3000000 := by
    unfold Ck.bLo Ck.bHi
    cases k : c.k with
    | false => simp only [Bool.false_eq_true, if_false]; omega
    | true =>
      obtain ⟨n1, n2, n3, n4, n5, n6, n7⟩ := h.n P k
      simp only [if_true]
      refine ⟨?_, ?_, ?_, ?_⟩
      · split <;> omega
      · split <;> omega
      · split <;> omega
      · split <;> omega
  have e : c.learnE A B = 0 := by
    unfold Ck.learnE
    rw [if_pos o]
    cases k : c.k with
    | false => rfl
    | true =>
      rw [if_pos rfl, if_pos (h.now P k).1, if_pos (by omega)]
  have hi := Ck.learn_i h.i A B
  refine ⟨e, ?_, ?_⟩
  · unfold Ck.learnC at hi ⊢
    rw [if_pos e] at hi ⊢
    exact ⟨hi, h.ep, h.eh, fun _ => ⟨T, P.t0, Int.le_refl _, h.eh, bb.1, bb.2.1, bb.2.2.1, bb.2.2.2⟩⟩
  · unfold Ck.learnC
    rw [if_pos e]
/-- A net of two: the first goes at a rate, the second one as time does; nothing is under way. -/
structure Sv (st r p T : Int) (N : Nn) : Prop where
  t : N.T
  n : N.W.n = 2
  s0 : N.W.starts 0 = 0
  s1 : N.W.starts 1 = st
  r0 : N.W.rates 0 = r
  r1 : N.W.rates 1 = 0
  u : N.W.under = []
  tm : N.W.time = T
  p : N.p = p
section
variable {st r p T : Int} {N : Nn}
theorem Sv.rd0 (h : Sv st r p T N) : N.W.rd 0 = shM r T := by
  unfold Ws.rd shM
  rw [h.s0, h.tm, h.r0, Int.zero_add]
theorem Sv.rd1 (h : Sv st r p T N) : N.W.rd 1 = st + T := by
  unfold Ws.rd
  rw [h.s1, h.tm, h.r1]
  simp
theorem Sv.hp (h : Sv st r p T N) (ht : T ≤ 60000000) : HdP p r st T := by
  have g := h.t.g
  have a := g.ra 0 (by rw [h.n]; decide)
  have b := g.i.st 1 (by rw [h.n]; decide)
  rw [h.r0, h.p] at a
  rw [h.s1] at b
  exact ⟨by rw [← h.p]; exact g.p0, by rw [← h.p]; exact g.p1, a.1, a.2, b.1, b.2, by rw [← h.tm]; exact g.i.t0, ht⟩
/-- As it is made. -/
theorem Sv.made {z rt : Nat → Int} {m : Nat} (hE : BeE 2 z m rt p 0) (z0 : z 0 = 0) (r1 : rt 1 = 0) : Sv (z 1) (rt 0) p 0 (Nn.made 2 z rt p) := ⟨Nn.made_t hE, rfl, z0, rfl, rfl, r1, rfl, rfl, rfl⟩
/-- The way from one to the other one, if anything is known. -/
theorem two_arc (g : N.T) (hn : N.W.n = 2) (hk : (N.nd 0).has 1 = true) : Arc (egf (eoN N)) (eoN N).length 0 1 ((N.nd 0).ahi 1 (N.W.rd 0)) ∧ Arc (egf (eoN N)) (eoN N).length 1 0 (-((N.nd 0).alo 1 (N.W.rd 0))) := by
  have kn0 := g.kn 0 (by omega)
  have m : (⟨((N.nd 0).id : Int), ((1 : Nat) : Int), (N.nd 0).alo 1 (N.W.rd 0), (N.nd 0).ahi 1 (N.W.rd 0)⟩ : Eg) ∈ eoN N := by
    unfold eoN
    refine List.mem_flatMap.2 ⟨0, List.mem_range.2 (by omega), ?_⟩
    unfold Nd.eo
    exact List.mem_map.2 ⟨1, List.mem_filter.2 ⟨List.mem_range.2 (by rw [kn0.n]; omega), hk⟩, rfl⟩
  obtain ⟨j, hj, e⟩ := List.mem_iff_getElem.1 m
  have ej : egf (eoN N) j = ⟨((N.nd 0).id : Int), ((1 : Nat) : Int), (N.nd 0).alo 1 (N.W.rd 0), (N.nd 0).ahi 1 (N.W.rd 0)⟩ := by
    unfold egf
    rw [List.getD_eq_getElem?_getD, List.getElem?_eq_getElem hj]
    exact e
  have i0 : ((N.nd 0).id : Int) = ((0 : Nat) : Int) := by rw [kn0.id]
  exact ⟨⟨j, hj, Or.inl (by rw [ej]; exact ⟨i0.symm, rfl, rfl⟩)⟩, ⟨j, hj, Or.inr (by rw [ej]; exact ⟨rfl, i0.symm, rfl⟩)⟩⟩
/-- One round: asked, answered, and back behind a gap. -/
theorem Sv.round (h : Sv st r p T N) {g : Int} (g0 : 0 ≤ g) (g1 : g ≤ 1000000) (ht : T + g ≤ 60000000) :
    ∃ N1 N2 N3 N4, NDoR N 2 0 1 N1 0 ∧ NDoR N1 3 0 0 N2 0 ∧ NDoR N2 1 g 0 N3 0 ∧ NDoR N3 3 0 0 N4 0 ∧ Sv st r p (T + g) N4 ∧
      ∃ lo hi, BetA N4.W.n (egf (eoN N4)) (eoN N4).length 0 1 lo hi 0 ∧ lo ≤ st + (T + g) - shM r (T + g) ∧ st + (T + g) - shM r (T + g) ≤ hi ∧ -3000000 ≤ lo ∧ hi ≤ 3000000 := by
  have P := h.hp (by have := h.t.g.i.t0; omega)
  have a0 := h.t
  have q1 := ask_ok a0 (a := 0) (b := 1) (by rw [h.n]; decide) (by rw [h.n]; decide) (by decide) h.u
  obtain ⟨N1, e1⟩ : ∃ N1, N1 = (⟨{ N.W with under := [⟨(0 : Nat), (1 : Nat), false, 0, 0, N.W.rd 0⟩] }, N.p, N.nd⟩ : Nn) := ⟨_, rfl⟩
  have q1' : NDoR N 2 0 1 N1 0 := by rw [e1]; exact q1
  have a1 := (q1'.t a0).1
  have u1 : N1.W.under = [⟨(0 : Nat), (1 : Nat), false, 0, 0, N.W.rd 0⟩] := by rw [e1]
  have q2 := come_ask a1 (y := 0) u1
  have d1 : N1.W.rd 1 = N.W.rd 1 := by rw [e1]; rfl
  obtain ⟨N2, e2⟩ : ∃ N2, N2 = (⟨{ N1.W with under := [⟨(1 : Nat), (0 : Nat), true, N.W.rd 0, N1.W.rd 1, N1.W.rd 1⟩] }, N1.p, updN N1.nd 1 { N1.nd 1 with h := N1.W.rd 1 }⟩ : Nn) := ⟨_, rfl⟩
  have q2' : NDoR N1 3 0 0 N2 0 := by rw [e2]; exact q2
  have a2 := (q2'.t a1).1
  have t2 : N2.W.time = T := by rw [e2, e1]; exact h.tm
  have q3 := go_ok a2 (t := g) (y := 0) g0 g1 (by rw [t2]; omega)
  obtain ⟨N3, e3⟩ : ∃ N3, N3 = (⟨{ N2.W with time := N2.W.time + g }, N2.p, N2.nd⟩ : Nn) := ⟨_, rfl⟩
  have q3' : NDoR N2 1 g 0 N3 0 := by rw [e3]; exact q3
  have a3 := (q3'.t a2).1
  have u3 : N3.W.under = [⟨(1 : Nat), (0 : Nat), true, N.W.rd 0, N1.W.rd 1, N1.W.rd 1⟩] := by rw [e3, e2]
  have q4 := come_ans a3 (y := 0) u3
  obtain ⟨c, ec⟩ : ∃ c, c = (N3.nd 0).kept 1 (N3.W.rd 0) ((N3.nd 0).bLo 1 (N3.W.rd 0) (N1.W.rd 1 - N3.W.rd 0)) ((N3.nd 0).bHi 1 (N3.W.rd 0) (oH (N.W.rd 0) (N1.W.rd 1) (N3.W.rd 0) (N3.nd 0).p)) := ⟨_, rfl⟩
  rw [← ec] at q4
  obtain ⟨N4, e4⟩ : ∃ N4, N4 = (⟨{ N3.W with under := [] }, N3.p, updN N3.nd 0 c⟩ : Nn) := ⟨_, rfl⟩
  have q4' : NDoR N3 3 0 0 N4 0 := by rw [e4]; exact q4
  have a4 := (q4'.t a3).1
  have s4 : Sv st r p (T + g) N4 := by
    refine ⟨a4, ?_, ?_, ?_, ?_, ?_, ?_, ?_, ?_⟩
    · rw [e4, e3, e2, e1]; exact h.n
    · rw [e4, e3, e2, e1]; exact h.s0
    · rw [e4, e3, e2, e1]; exact h.s1
    · rw [e4, e3, e2, e1]; exact h.r0
    · rw [e4, e3, e2, e1]; exact h.r1
    · rw [e4]
    · rw [e4, e3]; show N2.W.time + g = T + g; rw [t2]
    · rw [e4, e3, e2, e1]; exact h.p
  have rd4 := s4.rd0
  have rd3 : N3.W.rd 0 = N4.W.rd 0 := by rw [e4]; rfl
  have p3 : (N3.nd 0).p = p := by
    have := (a3.kn 0 (by rw [e3, e2, e1]; show 0 < N.W.n; rw [h.n]; decide)).p
    rw [this, e3, e2, e1]
    exact h.p
  have nd4 : N4.nd 0 = c := by rw [e4]; exact updN_at N3.nd 0 c
  have has : (N4.nd 0).has 1 = true := by rw [nd4, ec]; exact updN_at (N3.nd 0).has 1 true
  obtain ⟨w1, w2⟩ := two_arc a4 s4.n has
  obtain ⟨Tb, hA⟩ := eoN_all a4
  obtain ⟨lo, hi, e, hB⟩ := betA_some (egs_e (eoN_egs a4)) hA 0 1
  have P4 := s4.hp ht
  have b0 := shc_b P.p0 P.p1 P.r0 P.r1 P.t0 P.t1
  have b4 := shc_b P4.p0 P4.p1 P4.r0 P4.r1 P4.t0 P4.t1
  have dr := sh_drift P.p0 P.p1 P.r0 P.r1 P.t0 (show T ≤ T + g by omega)
  rcases eoN_bet a4 (by rw [s4.n]; decide) hB with ⟨_, _, _, no⟩ | ⟨rfl, l1, l2, _, _, D1, D2⟩
  · exact absurd ((Wk.nil 0).snoc w1) (no _ _)
  · refine ⟨N1, N2, N3, N4, q1', q2', q3', q4', s4, lo, hi, hB, ?_, ?_, ?_, ?_⟩
    · have := l1; rw [show (1 : Int).toNat = 1 from rfl, show (0 : Int).toNat = 0 from rfl, s4.rd0, s4.rd1] at this; exact this
    · have := l2; rw [show (1 : Int).toNat = 1 from rfl, show (0 : Int).toNat = 0 from rfl, s4.rd0, s4.rd1] at this; exact this
    · have m := D2.2 _ _ ((Wk.nil 1).snoc w2)
      have sk : (N4.nd 0).sk 1 (N4.W.rd 0) ≤ 3 := by
        unfold Nd.sk
        rw [nd4, ec]
        show 2 + ((N4.W.rd 0 - updN (N3.nd 0).at_ 1 (N3.W.rd 0) 1) * 3 * (N3.nd 0).p + 1000000 - 1) / 1000000 ≤ 3
        rw [updN_at, rd3, Int.sub_self]
        omega
      have al : (N4.nd 0).alo 1 (N4.W.rd 0) = (N4.nd 0).lo 1 - (N4.nd 0).sk 1 (N4.W.rd 0) := rfl
      have lk : (N4.nd 0).lo 1 = (N3.nd 0).bLo 1 (N3.W.rd 0) (N1.W.rd 1 - N3.W.rd 0) := by rw [nd4, ec]; exact updN_at (N3.nd 0).lo 1 _
      have bl : N1.W.rd 1 - N3.W.rd 0 ≤ (N3.nd 0).bLo 1 (N3.W.rd 0) (N1.W.rd 1 - N3.W.rd 0) := by
        unfold Nd.bLo
        split
        · split <;> omega
        · omega
      rw [rd3, rd4, d1, h.rd1] at bl
      have pb := P.b0
      rw [rd3, rd4, d1, h.rd1] at lk
      have es : shM r (T + g) = T + g + (T + g) * r / 1000000 := rfl
      omega
    · have m := D1.2 _ _ ((Wk.nil 0).snoc w1)
      have sk : (N4.nd 0).sk 1 (N4.W.rd 0) ≤ 3 := by
        unfold Nd.sk
        rw [nd4, ec]
        show 2 + ((N4.W.rd 0 - updN (N3.nd 0).at_ 1 (N3.W.rd 0) 1) * 3 * (N3.nd 0).p + 1000000 - 1) / 1000000 ≤ 3
        rw [updN_at, rd3, Int.sub_self]
        omega
      have al : (N4.nd 0).ahi 1 (N4.W.rd 0) = (N4.nd 0).hi 1 + (N4.nd 0).sk 1 (N4.W.rd 0) := rfl
      have lk : (N4.nd 0).hi 1 = (N3.nd 0).bHi 1 (N3.W.rd 0) (oH (N.W.rd 0) (N1.W.rd 1) (N3.W.rd 0) (N3.nd 0).p) := by rw [nd4, ec]; exact updN_at (N3.nd 0).hi 1 _
      have bl : (N3.nd 0).bHi 1 (N3.W.rd 0) (oH (N.W.rd 0) (N1.W.rd 1) (N3.W.rd 0) (N3.nd 0).p) ≤ oH (N.W.rd 0) (N1.W.rd 1) (N3.W.rd 0) (N3.nd 0).p := by
        unfold Nd.bHi
        split
        · split <;> omega
        · omega
      have oh : oH (N.W.rd 0) (N1.W.rd 1) (N3.W.rd 0) (N3.nd 0).p ≤ 1600000 := by
        unfold oH
        rw [rd3, rd4, d1, h.rd1, h.rd0, p3]
        have x1 : 0 ≤ (shM r (T + g) - shM r T) * 3 := by omega
        have x2 : (shM r (T + g) - shM r T) * 3 ≤ 360000000 := by omega
        have x3 : (shM r (T + g) - shM r T) * 3 * p ≤ 360000000 * 1000 := Int.mul_le_mul x2 P.p1 P.p0 (by omega)
        have pb := P.b1
        have es : shM r T = T + T * r / 1000000 := rfl
        omega
      omega
end
end Go.Proofs.YtigcliepeapcpajGreatDoor
