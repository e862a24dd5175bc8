/- What a block of the call's own holds behind makings, stores, draws and calls, as one fact, of however many cells: so that a walk carries each struct in one name. A world of clocks, and letters: plain mathematics. A node that knows of others: plain mathematics. What a node knows of another one stays true while clocks go on: plain numbers alone. A net of nodes, in a world of clocks: plain mathematics. Edges in a row, and what is wrong with some. Leaps in a row, and what is wrong with some. Letters in memory, and as values. What package probe answers of any numbers: isTime, wide, Check. What probe.Offset answers of any probe and rate. An act has one outcome alone: plain mathematics. What is known of a table while it is made tighter, row by row and edge by edge: plain mathematics. -/
import Derived.Test.YtadkgnbagmnkkakGreatDoorNm01
import Derived.WalkKit
import Derived.Deep.Draws
import Derived.RowKit3
import Derived.Deep.RegionHeld
import Derived.Test.YtadkgnbagmnkkakGreatDoorNm02
import Derived.ProofKit
import Derived.OpenShut
import Derived.Outline
import Derived.IntWalk
import Derived.Deep.RegionWith
import Derived.WalkLawsBesides
namespace Go.Proofs.YtadkgnbagmnkkakGreatDoor
open Go.ChangeShapes Go.WideShapes Go.ChangeAt Go.RowKit
set_option linter.unusedVariables false

structure Row (u : World) (b : Nat) (vs : List Value) : Prop where
 c : ∀ i v, vs[i]? = some v → u.cell? ⟨b, i, none⟩ = some v
 f : ∀ i v, vs[i]? = some v → u.frozen? ⟨b, i, none⟩ = false

section
variable {W u w : World} {cs : Array Value} {t : TypeId} {b b' : Nat} {vs : List Value} {n i : Nat} {a : Addr} {x : Value} {ob : Obj}
theorem Row.lt (h : Row u b (x :: vs)) : b < u.heap.size := World.block_lt_of_cell? _ _ (h.c 0 x rfl)
theorem Row.on (hb : Below W.heap.size W u) (h : Row W b vs) : Row u b vs :=
 ⟨fun i v hv => by rw [hb.cell (World.block_lt_of_cell? _ _ (h.c i v hv))]; exact h.c i v hv, fun i v hv => by rw [hb.frozen (World.block_lt_of_cell? _ _ (h.c i v hv))]; exact h.f i v hv⟩
theorem Row.al (h : Row W b vs) : Row (W.alloc (.cells cs t)) b vs :=
 ⟨fun i v hv => by rw [World.cell?_alloc_lt _ _ _ (World.block_lt_of_cell? _ _ (h.c i v hv))]; exact h.c i v hv, fun i v hv => by rw [frozen?_alloc_cells]; exact h.f i v hv⟩
theorem Row.made (hb : b = W.heap.size) : Row (W.alloc (.cells vs.toArray t)) b vs :=
 ⟨fun i v hv => by rw [World.cell?_alloc_at _ _ _ _ hb]; simpa using hv, fun i v hv => World.frozen?_alloc_at _ _ _ _ hb⟩
theorem Row.dr (h : Row W b vs) : Row W.drew b vs := ⟨fun i v hv => h.c i v hv, fun i v hv => h.f i v hv⟩
theorem Row.drn (h : Row W b vs) : Row (W.drewN n) b vs := ⟨fun i v hv => h.c i v hv, fun i v hv => h.f i v hv⟩
theorem Row.put (i : Nat) (h : Row W b vs) : Row (W.setCell ⟨b, i, none⟩ x) b (vs.set i x) := by
 refine ⟨fun j v hv => ?_, fun j v hv => ?_⟩
 ·by_cases e : i = j
  ·subst e
   rw [List.getElem?_set_self'] at hv
   cases hx : vs[i]? with
   | none => rw [hx] at hv; cases hv
   | some y =>
    rw [hx] at hv
    obtain rfl := Option.some.inj hv
    exact World.cell?_setCell_same _ _ _ (h.c i y hx)
  ·rw [List.getElem?_set_ne e] at hv
   rw [World.cell?_setCell_other _ _ _ _ (fun q => e (by injection q))]; exact h.c j v hv
 ·rw [World.frozen?_setCell]
  by_cases e : i = j
  ·subst e
   rw [List.getElem?_set_self'] at hv
   cases hx : vs[i]? with
   | none => rw [hx] at hv; cases hv
   | some y => exact h.f i y hx
  ·rw [List.getElem?_set_ne e] at hv; exact h.f j v hv
theorem Row.far (hne : b' ≠ b) (h : Row W b vs) : Row (W.setCell ⟨b', i, none⟩ x) b vs :=
 ⟨fun j v hv => by rw [World.cell?_setCell_far _ _ _ _ hne]; exact h.c j v hv, fun j v hv => by rw [World.frozen?_setCell]; exact h.f j v hv⟩
theorem rbel_on (hb : Below W.heap.size W u) (h : Below w.heap.size w W) : Below w.heap.size w u := h.trans (hb.mono h.size)
theorem rbel_al (h : Below w.heap.size w W) : Below w.heap.size w (W.alloc ob) := h.alloc h.size _
theorem rbel_put (hne : w.heap.size ≤ b) (h : Below w.heap.size w W) : Below w.heap.size w (W.setCell ⟨b, i, none⟩ x) := h.setCell (p := ⟨b, i, none⟩) hne _
theorem rbel_dr (h : Below w.heap.size w W) : Below w.heap.size w W.drew := h.drew
theorem rbel_drn (h : Below w.heap.size w W) : Below w.heap.size w (W.drewN n) := ⟨h.os, h.tape, h.output, h.size, h.block⟩
end
end Go.Proofs.YtadkgnbagmnkkakGreatDoor
namespace Go.Proofs.YtadkgnbagmnkkakGreatDoor
set_option linter.unusedVariables false

structure Lt where
 frm : Int
 to : Int
 ans : Bool
 t1 : Int
 t2 : Int
 t : Int
structure Ws where
 n : Nat
 starts : Nat → Int
 rates : Nat → Int
 time : Int
 under : List Lt
namespace Ws
def rd (S : Ws) (i : Nat) : Int := S.starts i + S.time + (S.time * S.rates i) / 1000000
def hs (S : Ws) (i : Int) : Prop := 0 ≤ i ∧ i < S.n
structure I (S : Ws) : Prop where
 n1 : 1 ≤ S.n
 n6 : S.n ≤ 6
 st : ∀ i, i < S.n → 0 ≤ S.starts i ∧ S.starts i ≤ 1000000
 ra : ∀ i, i < S.n → -1000 ≤ S.rates i ∧ S.rates i ≤ 1000
 t0 : 0 ≤ S.time
 t1 : S.time ≤ 1000000000
 un : S.under.length ≤ 40
theorem rd_in {S : Ws} (h : S.I) {i : Nat} (hi : i < S.n) : -1000001 ≤ (S.time * S.rates i) / 1000000 ∧ (S.time * S.rates i) / 1000000 ≤ 1000000 ∧ -1000000000000 ≤ S.time * S.rates i ∧ S.time * S.rates i ≤ 1000000000000 ∧ -1 ≤ S.rd i ∧ S.rd i ≤ 1002000000 := by
 obtain ⟨a1, a2⟩ := h.st i hi
 obtain ⟨r1, r2⟩ := h.ra i hi
 have t0 := h.t0
 have t1 := h.t1
 have x1 : 0 ≤ S.time * (S.rates i + 1000) := Int.mul_nonneg t0 (by omega)
 have x2 : 0 ≤ S.time * (1000 - S.rates i) := Int.mul_nonneg t0 (by omega)
 have e1 : S.time * (S.rates i + 1000) = S.time * S.rates i + S.time * 1000 := by grind
 have e2 : S.time * (1000 - S.rates i) = S.time * 1000 - S.time * S.rates i := by grind
 unfold rd
 omega
end Ws
def BeE (n : Nat) (z : Nat → Int) (m : Nat) (r : Nat → Int) (ppm e : Int) : Prop :=
 ((ppm < 0 ∨ 1000 < ppm ∨ n < 1 ∨ 6 < n) ∧ e = 1) ∨ ((0 ≤ ppm ∧ ppm ≤ 1000 ∧ 1 ≤ n ∧ n ≤ 6) ∧ m ≠ n ∧ e = 3) ∨
 ((0 ≤ ppm ∧ ppm ≤ 1000 ∧ 1 ≤ n ∧ n ≤ 6) ∧ m = n ∧ (∃ i, i < n ∧ (z i < 0 ∨ 1000000 < z i ∨ r i < -ppm ∨ ppm < r i)) ∧ e = 1) ∨
 ((0 ≤ ppm ∧ ppm ≤ 1000 ∧ 1 ≤ n ∧ n ≤ 6) ∧ m = n ∧ (∀ i, i < n → 0 ≤ z i ∧ z i ≤ 1000000 ∧ -ppm ≤ r i ∧ r i ≤ ppm) ∧ e = 0)
def ws0 (n : Nat) (z r : Nat → Int) : Ws := ⟨n, z, r, 0, []⟩
theorem ws0_i {n m : Nat} {z r : Nat → Int} {ppm : Int} (h : BeE n z m r ppm 0) : (ws0 n z r).I := by
 rcases h with ⟨_, e⟩ | ⟨_, _, e⟩ | ⟨_, _, _, e⟩ | ⟨⟨a, b, c, d⟩, _, q, _⟩
 ·cases e
 ·cases e
 ·cases e
 ·exact ⟨c, d, fun i hi => ⟨(q i hi).1, (q i hi).2.1⟩, fun i hi => ⟨by have := (q i hi).2.2.1; show -1000 ≤ r i; omega, by have := (q i hi).2.2.2; show r i ≤ 1000; omega⟩, Int.le_refl _, by show (0 : Int) ≤ 1000000000; omega, by show 0 ≤ 40; omega⟩
def DoR (S : Ws) (wh a b : Int) (S' : Ws) (r : Option Lt) (e : Int) : Prop :=
 (wh = 1 ∧ (a < 0 ∨ 1000000 < a ∨ 1000000000 < S.time + a) ∧ S' = S ∧ r = none ∧ e = 1) ∨
 (wh = 1 ∧ (0 ≤ a ∧ a ≤ 1000000 ∧ S.time + a ≤ 1000000000) ∧ S' = { S with time := S.time + a } ∧ r = none ∧ e = 0) ∨
 (wh = 2 ∧ ¬ (S.hs a ∧ S.hs b) ∧ S' = S ∧ r = none ∧ e = 1) ∨
 (wh = 2 ∧ (S.hs a ∧ S.hs b) ∧ a = b ∧ S' = S ∧ r = none ∧ e = 3) ∨
 (wh = 2 ∧ (S.hs a ∧ S.hs b) ∧ a ≠ b ∧ 40 ≤ S.under.length ∧ S' = S ∧ r = none ∧ e = 4) ∨
 (wh = 2 ∧ (S.hs a ∧ S.hs b) ∧ a ≠ b ∧ S.under.length < 40 ∧ S' = { S with under := S.under ++ [⟨a, b, false, 0, 0, S.rd a.toNat⟩] } ∧ r = none ∧ e = 0) ∨
 ((wh = 3 ∨ wh = 4 ∨ wh = 5) ∧ (a < 0 ∨ (S.under.length : Int) ≤ a) ∧ S' = S ∧ r = none ∧ e = 5) ∨
 (wh = 3 ∧ (0 ≤ a ∧ a < S.under.length) ∧ S' = { S with under := S.under.eraseIdx a.toNat } ∧ r = S.under[a.toNat]? ∧ e = 0) ∨
 (wh = 4 ∧ (0 ≤ a ∧ a < S.under.length) ∧ S' = { S with under := S.under.eraseIdx a.toNat } ∧ r = none ∧ e = 0) ∨
 (wh = 5 ∧ (0 ≤ a ∧ a < S.under.length) ∧ S' = S ∧ r = S.under[a.toNat]? ∧ e = 0) ∨
 ((wh < 1 ∨ 5 < wh) ∧ S' = S ∧ r = none ∧ e = 1)
theorem doR_some (S : Ws) (wh a b : Int) : ∃ S' r e, DoR S wh a b S' r e := by
 by_cases w1 : wh = 1
 ·by_cases c : 0 ≤ a ∧ a ≤ 1000000 ∧ S.time + a ≤ 1000000000
  ·exact ⟨_, _, _, Or.inr (Or.inl ⟨w1, c, rfl, rfl, rfl⟩)⟩
  ·exact ⟨_, _, _, Or.inl ⟨w1, by omega, rfl, rfl, rfl⟩⟩
 by_cases w2 : wh = 2
 ·by_cases c : S.hs a ∧ S.hs b
  ·by_cases d : a = b
   ·exact ⟨_, _, _, Or.inr (Or.inr (Or.inr (Or.inl ⟨w2, c, d, rfl, rfl, rfl⟩)))⟩
   ·by_cases l : 40 ≤ S.under.length
    ·exact ⟨_, _, _, Or.inr (Or.inr (Or.inr (Or.inr (Or.inl ⟨w2, c, d, l, rfl, rfl, rfl⟩))))⟩
    ·exact ⟨_, _, _, Or.inr (Or.inr (Or.inr (Or.inr (Or.inr (Or.inl ⟨w2, c, d, by omega, rfl, rfl, rfl⟩)))))⟩
  ·exact ⟨_, _, _, Or.inr (Or.inr (Or.inl ⟨w2, c, rfl, rfl, rfl⟩))⟩
 by_cases wo : wh < 1 ∨ 5 < wh
 ·exact ⟨_, _, _, Or.inr (Or.inr (Or.inr (Or.inr (Or.inr (Or.inr (Or.inr (Or.inr (Or.inr (Or.inr ⟨wo, rfl, rfl, rfl⟩)))))))))⟩
 have w3 : wh = 3 ∨ wh = 4 ∨ wh = 5 := by omega
 by_cases c : 0 ≤ a ∧ a < S.under.length
 ·rcases w3 with w | w | w
  ·exact ⟨_, _, _, Or.inr (Or.inr (Or.inr (Or.inr (Or.inr (Or.inr (Or.inr (Or.inl ⟨w, c, rfl, rfl, rfl⟩)))))))⟩
  ·exact ⟨_, _, _, Or.inr (Or.inr (Or.inr (Or.inr (Or.inr (Or.inr (Or.inr (Or.inr (Or.inl ⟨w, c, rfl, rfl, rfl⟩))))))))⟩
  ·exact ⟨_, _, _, Or.inr (Or.inr (Or.inr (Or.inr (Or.inr (Or.inr (Or.inr (Or.inr (Or.inr (Or.inl ⟨w, c, rfl, rfl, rfl⟩)))))))))⟩
 ·exact ⟨_, _, _, Or.inr (Or.inr (Or.inr (Or.inr (Or.inr (Or.inr (Or.inl ⟨w3, by omega, rfl, rfl, rfl⟩))))))⟩
theorem DoR.i {S S' : Ws} {wh a b e : Int} {r : Option Lt} (h : DoR S wh a b S' r e) (g : S.I) : S'.I := by
 have era : ∀ k, ({ S with under := S.under.eraseIdx k } : Ws).I := fun k => ⟨g.n1, g.n6, g.st, g.ra, g.t0, g.t1, by
  have := g.un
  have l := List.length_eraseIdx_le (l := S.under) (i := k)
  show (S.under.eraseIdx k).length ≤ 40
  omega⟩
 rcases h with ⟨_, _, rfl, _⟩ | ⟨_, c, rfl, _⟩ | ⟨_, _, rfl, _⟩ | ⟨_, _, _, rfl, _⟩ | ⟨_, _, _, _, rfl, _⟩ | ⟨_, _, _, l, rfl, _⟩ | ⟨_, _, rfl, _⟩ | ⟨_, _, rfl, _⟩ | ⟨_, _, rfl, _⟩ | ⟨_, _, rfl, _⟩ | ⟨_, rfl, _⟩
 ·exact g
 ·exact ⟨g.n1, g.n6, g.st, g.ra, by have := g.t0; show 0 ≤ S.time + a; omega, c.2.2, g.un⟩
 ·exact g
 ·exact g
 ·exact g
 ·exact ⟨g.n1, g.n6, g.st, g.ra, g.t0, g.t1, by show (S.under ++ _).length ≤ 40; simp; omega⟩
 ·exact g
 ·exact era _
 ·exact era _
 ·exact g
 ·exact g
def AnR (S : Ws) (l : Lt) (S' : Ws) (e : Int) : Prop :=
 (l.ans = true ∧ S' = S ∧ e = 3) ∨ (l.ans = false ∧ ¬ (S.hs l.frm ∧ S.hs l.to) ∧ S' = S ∧ e = 1) ∨
 (l.ans = false ∧ (S.hs l.frm ∧ S.hs l.to) ∧ 40 ≤ S.under.length ∧ S' = S ∧ e = 4) ∨
 (l.ans = false ∧ (S.hs l.frm ∧ S.hs l.to) ∧ S.under.length < 40 ∧ S' = { S with under := S.under ++ [⟨l.to, l.frm, true, l.t, S.rd l.to.toNat, S.rd l.to.toNat⟩] } ∧ e = 0)
theorem anR_some (S : Ws) (l : Lt) : ∃ S' e, AnR S l S' e := by
 cases h : l.ans with
 | true => exact ⟨_, _, Or.inl ⟨h, rfl, rfl⟩⟩
 | false =>
  by_cases c : S.hs l.frm ∧ S.hs l.to
  ·by_cases d : 40 ≤ S.under.length
   ·exact ⟨_, _, Or.inr (Or.inr (Or.inl ⟨h, c, d, rfl, rfl⟩))⟩
   ·exact ⟨_, _, Or.inr (Or.inr (Or.inr ⟨h, c, by omega, rfl, rfl⟩))⟩
  ·exact ⟨_, _, Or.inr (Or.inl ⟨h, c, rfl, rfl⟩)⟩
theorem AnR.i {S S' : Ws} {l : Lt} {e : Int} (h : AnR S l S' e) (g : S.I) : S'.I := by
 rcases h with ⟨_, rfl, _⟩ | ⟨_, _, rfl, _⟩ | ⟨_, _, _, rfl, _⟩ | ⟨_, _, q, rfl, _⟩
 ·exact g
 ·exact g
 ·exact g
 ·exact ⟨g.n1, g.n6, g.st, g.ra, g.t0, g.t1, by show (S.under ++ _).length ≤ 40; simp; omega⟩
structure Nd where
 id : Nat
 n : Nat
 p : Int
 h : Int
 has : Nat → Bool
 lo : Nat → Int
 hi : Nat → Int
 at_ : Nat → Int
def updN {α : Type} (f : Nat → α) (k : Nat) (x : α) : Nat → α := fun i => if i = k then x else f i
theorem updN_at {α : Type} (f : Nat → α) (k : Nat) (x : α) : updN f k x k = x := if_pos rfl
theorem updN_ne {α : Type} {f : Nat → α} {k i : Nat} {x : α} (h : i ≠ k) : updN f k x i = f i := if_neg h
namespace Nd
def sk (c : Nd) (i : Nat) (t : Int) : Int := 2 + ((t - c.at_ i) * 3 * c.p + 1000000 - 1) / 1000000
def alo (c : Nd) (i : Nat) (t : Int) : Int := c.lo i - c.sk i t
def ahi (c : Nd) (i : Nat) (t : Int) : Int := c.hi i + c.sk i t
def made (id n : Nat) (p : Int) : Nd := ⟨id, n, p, -1, fun _ => false, fun _ => 0, fun _ => 0, fun _ => 0⟩
def bk (c : Nd) (t : Int) : Prop := t < 0 ∨ 1000000000000 < t ∨ t < c.h
def bad (c : Nd) (l : Lt) : Prop := l.to ≠ c.id ∨ l.frm = c.id ∨ l.frm < 0 ∨ (c.n : Int) ≤ l.frm
def bLo (c : Nd) (k : Nat) (t a : Int) : Int := if c.has k = true then (if a < c.alo k t then c.alo k t else a) else a
def bHi (c : Nd) (k : Nat) (t b : Int) : Int := if c.has k = true then (if c.ahi k t < b then c.ahi k t else b) else b
def oL (l : Lt) (t : Int) : Int := l.t - t
def oU (c : Nd) (l : Lt) (t : Int) : Int := oH l.t1 l.t2 t c.p
def kept (c : Nd) (k : Nat) (t a b : Int) : Nd := { c with h := t, has := updN c.has k true, lo := updN c.lo k a, hi := updN c.hi k b, at_ := updN c.at_ k t }
end Nd
def HearR (c : Nd) (l : Lt) (t : Int) (c' : Nd) (B : Bool) (e : Int) : Prop :=
 (c.bk t ∧ c' = c ∧ B = false ∧ e = 8) ∨
 (¬ c.bk t ∧ c.bad l ∧ c' = c ∧ B = false ∧ e = 3) ∨
 (¬ c.bk t ∧ ¬ c.bad l ∧ l.ans = false ∧ c' = { c with h := t } ∧ B = false ∧ e = 0) ∨
 (¬ c.bk t ∧ ¬ c.bad l ∧ l.ans = true ∧ oE l.t1 l.t2 l.t t c.p ≠ 0 ∧ c' = c ∧ B = false ∧ e = oE l.t1 l.t2 l.t t c.p) ∨
 (¬ c.bk t ∧ ¬ c.bad l ∧ l.ans = true ∧ oE l.t1 l.t2 l.t t c.p = 0 ∧ c.bHi l.frm.toNat t (c.oU l t) < c.bLo l.frm.toNat t (Nd.oL l t) ∧ c' = c ∧ B = false ∧ e = 7) ∨
 (¬ c.bk t ∧ ¬ c.bad l ∧ l.ans = true ∧ oE l.t1 l.t2 l.t t c.p = 0 ∧ c.bLo l.frm.toNat t (Nd.oL l t) ≤ c.bHi l.frm.toNat t (c.oU l t) ∧ c' = c.kept l.frm.toNat t (c.bLo l.frm.toNat t (Nd.oL l t)) (c.bHi l.frm.toNat t (c.oU l t)) ∧ B = true ∧ e = 0)
theorem hearR_uniq {c c1 c2 : Nd} {l : Lt} {t e1 e2 : Int} {B1 B2 : Bool} (h : HearR c l t c1 B1 e1) (h' : HearR c l t c2 B2 e2) : c1 = c2 ∧ B1 = B2 ∧ e1 = e2 := by
 rcases h with ⟨a, rfl, rfl, rfl⟩ | ⟨a, b, rfl, rfl, rfl⟩ | ⟨a, b, d, rfl, rfl, rfl⟩ | ⟨a, b, d, f, rfl, rfl, rfl⟩ | ⟨a, b, d, f, g, rfl, rfl, rfl⟩ | ⟨a, b, d, f, g, rfl, rfl, rfl⟩ <;>
 rcases h' with ⟨a', rfl, rfl, rfl⟩ | ⟨a', b', rfl, rfl, rfl⟩ | ⟨a', b', d', rfl, rfl, rfl⟩ | ⟨a', b', d', f', rfl, rfl, rfl⟩ | ⟨a', b', d', f', g', rfl, rfl, rfl⟩ | ⟨a', b', d', f', g', rfl, rfl, rfl⟩ <;>
 first | exact ⟨rfl, rfl, rfl⟩ | exact absurd a a' | exact absurd a' a | exact absurd b b' | exact absurd b' b | (rw [d] at d'; exact absurd d' (by decide)) | exact absurd f f' | exact absurd f' f | (exfalso; omega)
structure Nd.I (c : Nd) : Prop where
 idn : c.id < c.n
 n6 : c.n ≤ 6
 p0 : 0 ≤ c.p
 p1 : c.p ≤ 1000
 h0 : -1 ≤ c.h
 h1 : c.h ≤ 1000000000000
 kn : ∀ i, c.has i = true → i < c.n ∧ i ≠ c.id ∧ okB (c.lo i) (c.hi i) = true ∧ 0 ≤ c.at_ i ∧ c.at_ i ≤ c.h
theorem HearR.i {c c' : Nd} {l : Lt} {t e : Int} {B : Bool} (h : HearR c l t c' B e) (g : c.I) : c'.I := by
 rcases h with ⟨_, rfl, _⟩ | ⟨_, _, rfl, _⟩ | ⟨a, _, _, rfl, _⟩ | ⟨_, _, _, _, rfl, _⟩ | ⟨_, _, _, _, _, rfl, _⟩ | ⟨a, b, _, f, q, rfl, _⟩
 ·exact g
 ·exact g
 ·unfold Nd.bk at a
  exact ⟨g.idn, g.n6, g.p0, g.p1, by show -1 ≤ t; omega, by show t ≤ _; omega, fun i hi => by
   obtain ⟨k1, k2, k3, k4, k5⟩ := g.kn i hi
   exact ⟨k1, k2, k3, k4, by show c.at_ i ≤ t; omega⟩⟩
 ·exact g
 ·exact g
 ·unfold Nd.bk at a
  unfold Nd.bad at b
  obtain ⟨z1, z2, z3, z4, z5⟩ := oE_zero f
  have m3 := tmB_t z3
  have m4 := tmB_t z4
  refine ⟨g.idn, g.n6, g.p0, g.p1, by show -1 ≤ t; omega, by show t ≤ _; omega, fun i hi => ?_⟩
  show i < c.n ∧ i ≠ c.id ∧ okB (updN c.lo _ _ i) (updN c.hi _ _ i) = true ∧ 0 ≤ updN c.at_ _ _ i ∧ updN c.at_ _ _ i ≤ t
  by_cases e : i = l.frm.toNat
  ·subst e
   rw [updN_at, updN_at, updN_at]
   refine ⟨by omega, by omega, okB_mk ⟨q, ?_, ?_⟩, by omega, Int.le_refl _⟩
   ·unfold Nd.bLo Nd.oL; split <;> (try split) <;> omega
   ·unfold Nd.bHi Nd.oU; split <;> (try split) <;> omega
  ·rw [updN_ne e, updN_ne e, updN_ne e]
   have hi' : c.has i = true := by
    have : updN c.has l.frm.toNat true i = true := hi
    rwa [updN_ne e] at this
   obtain ⟨k1, k2, k3, k4, k5⟩ := g.kn i hi'
   exact ⟨k1, k2, k3, k4, by omega⟩
def SpR (c : Nd) (t e : Int) : Prop :=
 (c.bk t ∧ e = 8) ∨ (¬ c.bk t ∧ (∃ i, i < c.n ∧ c.has i = true ∧ okB (c.alo i t) (c.ahi i t) = false) ∧ e = 1) ∨ (¬ c.bk t ∧ (∀ i, i < c.n → c.has i = true → okB (c.alo i t) (c.ahi i t) = true) ∧ e = 0)
theorem spR_uniq {c : Nd} {t e e' : Int} (h : SpR c t e) (h' : SpR c t e') : e = e' := by
 rcases h with ⟨a, rfl⟩ | ⟨a, ⟨i, hi, hh, b⟩, rfl⟩ | ⟨a, b, rfl⟩ <;> rcases h' with ⟨a', rfl⟩ | ⟨a', ⟨i', hi', hh', b'⟩, rfl⟩ | ⟨a', b', rfl⟩ <;>
 first | rfl | exact absurd a a' | exact absurd a' a | (have := b' i hi hh; rw [b] at this; cases this) | (have := b i' hi' hh'; rw [b'] at this; cases this)
def Nd.so (c : Nd) (t : Int) (i : Nat) : Int × Int := if c.has i = true then (c.alo i t, c.ahi i t) else (0, 0)
def Nd.ho (c : Nd) (i : Nat) : Bool := c.has i || decide (i = c.id)
def Nd.eo (c : Nd) (t : Int) : List Eg := ((List.range c.n).filter (fun i => c.has i)).map (fun (i : Nat) => (⟨(c.id : Int), (i : Int), c.alo i t, c.ahi i t⟩ : Eg))
theorem Nd.sk_b {c : Nd} (g : c.I) {t : Int} (hb : ¬ c.bk t) {i : Nat} (hi : c.has i = true) : 0 ≤ (t - c.at_ i) * 3 * c.p ∧ (t - c.at_ i) * 3 * c.p ≤ 3000000000000000 ∧ 2 ≤ c.sk i t ∧ c.sk i t ≤ 3000000003 := by
 obtain ⟨k1, k2, k3, k4, k5⟩ := g.kn i hi
 unfold bk at hb
 have b1 : 0 ≤ (t - c.at_ i) * 3 := by omega
 have b2 : (t - c.at_ i) * 3 ≤ 3000000000000 := by omega
 have m1 := Int.mul_nonneg b1 g.p0
 have m2 : (t - c.at_ i) * 3 * c.p ≤ 3000000000000 * 1000 := Int.mul_le_mul b2 g.p1 g.p0 (by omega)
 unfold sk
 omega
theorem slack2 {x N d ppm rb ra : Int} (hd : 0 ≤ d) (hp0 : 0 ≤ ppm) (hp : ppm ≤ 1000) (a1 : -ppm ≤ ra) (a2 : ra ≤ ppm) (b1 : -ppm ≤ rb) (b2 : rb ≤ ppm) (hN0 : 0 ≤ N)
  (hx : d * 1000000 + d * rb - 999999 ≤ 1000000 * x) (hN : 1000000 * N ≤ d * 1000000 + d * ra + 999999) (hM : d * 1000000 + d * ra - 999999 ≤ 1000000 * N) : N - x ≤ 2 + (N * 3 * ppm + 1000000 - 1) / 1000000 := by
 have c1 := rate_b hd b1 b2
 have c2 := rate_b hd a1 a2
 have n0 : 0 ≤ N * ppm := Int.mul_nonneg hN0 hp0
 have e3 : N * 3 * ppm = 3 * (N * ppm) := by rw [Int.mul_comm N 3, Int.mul_assoc]
 have d0 : d * ppm ≤ d * 1000 := Int.mul_le_mul_of_nonneg_left hp hd
 rw [e3]
 by_cases h4 : 4 ≤ d
 ·have x4 : 4 * ppm ≤ d * ppm := Int.mul_le_mul_of_nonneg_right h4 hp0
  have hN2 : 999000 * d - 999999 ≤ 1000000 * N := by omega
  have hN3 := Int.mul_le_mul_of_nonneg_right hN2 hp0
  have e1 : (999000 * d - 999999) * ppm = 999000 * (d * ppm) - 999999 * ppm := by rw [Int.sub_mul, Int.mul_assoc]
  have e2 : 1000000 * N * ppm = 1000000 * (N * ppm) := by rw [Int.mul_assoc]
  rw [e1, e2] at hN3
  generalize N * ppm = Y at *
  generalize d * ra = Z at *
  generalize d * rb = V at *
  generalize d * ppm = U at *
  omega
 ·generalize N * ppm = Y at *
  generalize d * ra = Z at *
  generalize d * rb = V at *
  generalize d * ppm = U at *
  omega
theorem aged_true {sa ra sb rb p t u lo hi : Int} (hp0 : 0 ≤ p) (hp : p ≤ 1000) (a1 : -p ≤ ra) (a2 : ra ≤ p) (b1 : -p ≤ rb) (b2 : rb ≤ p) (htu : t ≤ u)
  (h1 : lo ≤ sh sb rb t - sh sa ra t) (h2 : sh sb rb t - sh sa ra t ≤ hi) :
  lo - (2 + ((sh sa ra u - sh sa ra t) * 3 * p + 1000000 - 1) / 1000000) ≤ sh sb rb u - sh sa ra u ∧ sh sb rb u - sh sa ra u ≤ hi + (2 + ((sh sa ra u - sh sa ra t) * 3 * p + 1000000 - 1) / 1000000) := by
 obtain ⟨d, rfl⟩ : ∃ d, u = t + d := ⟨u - t, by omega⟩
 have hd : 0 ≤ d := by omega
 have sA := sh_step (s := sa) (r := ra) (t := t) (d := d)
 have sB := sh_step (s := sb) (r := rb) (t := t) (d := d)
 have mA := sh_mono (s := sa) (r := ra) (t := t) (d := d) hd (by omega) (by omega)
 have k1 := slack (x := sh sb rb (t + d) - sh sb rb t) (N := sh sa ra (t + d) - sh sa ra t) hd (Int.le_refl d) hp0 hp a1 a2 b1 b2 (by omega) sB.1 sA.2
 have k2 := slack2 (x := sh sb rb (t + d) - sh sb rb t) (N := sh sa ra (t + d) - sh sa ra t) hd hp0 hp a1 a2 b1 b2 (by omega) sB.2 sA.1 sA.2
 omega
theorem probe_holds {sa ra sb rb p t1 t2 u : Int} (hp0 : 0 ≤ p) (hp : p ≤ 1000) (a1 : -p ≤ ra) (a2 : ra ≤ p) (b1 : -p ≤ rb) (b2 : rb ≤ p) (h1 : t1 ≤ t2) (h2 : t2 ≤ u) :
  sh sb rb t2 - sh sa ra u ≤ sh sb rb u - sh sa ra u ∧ sh sb rb u - sh sa ra u ≤ oH (sh sa ra t1) (sh sb rb t2) (sh sa ra u) p := by
 obtain ⟨d, rfl⟩ : ∃ d, t2 = t1 + d := ⟨t2 - t1, by omega⟩
 obtain ⟨g, rfl⟩ : ∃ g, u = t1 + d + g := ⟨u - (t1 + d), by omega⟩
 have mB := sh_mono (s := sb) (r := rb) (t := t1 + d) (d := g) (by omega) (by omega) (by omega)
 have e : t1 + (d + g) = t1 + d + g := by omega
 have mA := sh_mono (s := sa) (r := ra) (t := t1) (d := d + g) (by omega) (by omega) (by omega)
 have sA := sh_step (s := sa) (r := ra) (t := t1) (d := d + g)
 rw [e] at mA sA
 have sB := sh_step (s := sb) (r := rb) (t := t1 + d) (d := g)
 have k := slack (x := sh sb rb (t1 + d + g) - sh sb rb (t1 + d)) (N := sh sa ra (t1 + d + g) - sh sa ra t1) (d := g) (D := d + g) (by omega) (by omega) hp0 hp a1 a2 b1 b2 (by omega) sB.1 sA.2
 refine ⟨by omega, ?_⟩
 unfold oH
 omega
theorem sh_time {s r t : Int} (s0 : 0 ≤ s) (s1 : s ≤ 1000000) (r0 : -1000 ≤ r) (r1 : r ≤ 1000) (t0 : 0 ≤ t) (t1 : t ≤ 1000000000) : 0 ≤ sh s r t ∧ sh s r t ≤ 1002000000 := by
 have h := rate_b (p := 1000) t0 r0 r1
 unfold sh
 generalize t * r = X at *
 omega
def shw (S : Ws) (i : Nat) (t : Int) : Int := sh (S.starts i) (S.rates i) t
theorem shw_rd (S : Ws) (i : Nat) : shw S i S.time = S.rd i := rfl
structure RtB (S : Ws) (p : Int) : Prop where
  i : S.I
  p0 : 0 ≤ p
  p1 : p ≤ 1000
  ra : ∀ i, i < S.n → -p ≤ S.rates i ∧ S.rates i ≤ p
theorem shw_b {S : Ws} {p : Int} (g : RtB S p) {i : Nat} (hi : i < S.n) {t : Int} (t0 : 0 ≤ t) (t1 : t ≤ S.time) : 0 ≤ shw S i t ∧ shw S i t ≤ 1002000000 := by
  have a := g.i.st i hi
  have b := g.ra i hi
  have c := g.p1
  have d := g.i.t1
  exact sh_time a.1 a.2 (by omega) (by omega) t0 (by omega)
theorem shw_mono {S : Ws} {p : Int} (g : RtB S p) {i : Nat} (hi : i < S.n) {t u : Int} (h : t ≤ u) : shw S i t ≤ shw S i u := by
  have b := g.ra i hi
  have c := g.p1
  have := sh_mono (s := S.starts i) (r := S.rates i) (t := t) (d := u - t) (by omega) (by omega) (by omega)
  rw [show t + (u - t) = u by omega] at this
  exact this
def Lk (S : Ws) (l : Lt) : Prop := ∃ a b : Nat, l.frm = a ∧ l.to = b ∧ a < S.n ∧ b < S.n ∧ a ≠ b ∧
  ((l.ans = false ∧ l.t1 = 0 ∧ l.t2 = 0 ∧ ∃ t, 0 ≤ t ∧ t ≤ S.time ∧ l.t = shw S a t) ∨
   (l.ans = true ∧ ∃ t1 t2, 0 ≤ t1 ∧ t1 ≤ t2 ∧ t2 ≤ S.time ∧ l.t1 = shw S b t1 ∧ l.t2 = shw S a t2 ∧ l.t = shw S a t2))
structure Kn (S : Ws) (p : Int) (i : Nat) (c : Nd) : Prop where
  id : c.id = i
  n : c.n = S.n
  p : c.p = p
  h0 : -1 ≤ c.h
  h1 : c.h ≤ S.rd i
  kn : ∀ k, c.has k = true → k < S.n ∧ k ≠ i ∧ -3000000000 ≤ c.lo k ∧ c.hi k ≤ 3000000000 ∧ ∃ t, 0 ≤ t ∧ t ≤ S.time ∧ c.at_ k = shw S i t ∧ c.at_ k ≤ c.h ∧ c.lo k ≤ shw S k t - shw S i t ∧ shw S k t - shw S i t ≤ c.hi k
theorem Kn.i {S : Ws} {p : Int} {i : Nat} {c : Nd} (h : Kn S p i c) (g : RtB S p) (hi : i < S.n) : c.I := by
  have b := shw_b g hi g.i.t0 (Int.le_refl _)
  rw [shw_rd] at b
  have h1 := h.h1
  refine ⟨by rw [h.id, h.n]; exact hi, by rw [h.n]; exact g.i.n6, by rw [h.p]; exact g.p0, by rw [h.p]; exact g.p1, h.h0, by omega, fun k hk => ?_⟩
  obtain ⟨k1, k2, k3, k4, t, t0, t1, ea, eh, l1, l2⟩ := h.kn k hk
  have b1 := shw_b g hi t0 t1
  exact ⟨by rw [h.n]; exact k1, by rw [h.id]; exact k2, okB_mk ⟨by omega, by omega, by omega⟩, by omega, eh⟩
theorem Kn.nbk {S : Ws} {p : Int} {i : Nat} {c : Nd} (h : Kn S p i c) (g : RtB S p) (hi : i < S.n) : ¬ c.bk (S.rd i) := by
  have b := shw_b g hi g.i.t0 (Int.le_refl _)
  rw [shw_rd] at b
  have h1 := h.h1
  unfold Nd.bk
  omega
theorem Kn.aged {S : Ws} {p : Int} {i : Nat} {c : Nd} (h : Kn S p i c) (g : RtB S p) (hi : i < S.n) {k : Nat} (hk : c.has k = true) :
    c.alo k (S.rd i) ≤ S.rd k - S.rd i ∧ S.rd k - S.rd i ≤ c.ahi k (S.rd i) ∧ -4000000000 ≤ c.alo k (S.rd i) ∧ c.ahi k (S.rd i) ≤ 4000000000 := by
  obtain ⟨k1, k2, k3, k4, t, t0, t1, ea, eh, l1, l2⟩ := h.kn k hk
  have ri := g.ra i hi
  have rk := g.ra k k1
  have q := aged_true (sa := S.starts i) (ra := S.rates i) (sb := S.starts k) (rb := S.rates k) g.p0 g.p1 ri.1 ri.2 rk.1 rk.2 t1 l1 l2
  have b1 := shw_b g hi t0 t1
  have b2 := shw_b g hi g.i.t0 (Int.le_refl _)
  have m := shw_mono g hi t1
  have e : c.sk k (S.rd i) = 2 + ((shw S i S.time - shw S i t) * 3 * p + 1000000 - 1) / 1000000 := by
    unfold Nd.sk
    rw [ea, h.p, ← shw_rd]
  have m1 : 0 ≤ (shw S i S.time - shw S i t) * 3 * p := Int.mul_nonneg (by omega) g.p0
  have m2 : (shw S i S.time - shw S i t) * 3 * p ≤ 3006000000 * 1000 := Int.mul_le_mul (by omega) g.p1 g.p0 (by omega)
  unfold Nd.alo Nd.ahi
  rw [e]
  refine ⟨q.1, q.2, by omega, by omega⟩
def Ws.at_ (S : Ws) (u : Int) : Ws := { S with time := u }
theorem RtB.on {S S' : Ws} {p : Int} (g : RtB S p) (hi : S'.I) (hn : S'.n = S.n) (hr : S'.rates = S.rates) : RtB S' p := ⟨hi, g.p0, g.p1, fun i h => by rw [hr]; exact g.ra i (by rw [hn] at h; exact h)⟩
theorem Lk.on {S S' : Ws} {l : Lt} (h : Lk S l) (hn : S'.n = S.n) (hs : S'.starts = S.starts) (hr : S'.rates = S.rates) (ht : S.time ≤ S'.time) : Lk S' l := by
  have e : ∀ i t, shw S' i t = shw S i t := fun i t => by unfold shw; rw [hs, hr]
  obtain ⟨a, b, h1, h2, h3, h4, h5, q⟩ := h
  refine ⟨a, b, h1, h2, by rw [hn]; exact h3, by rw [hn]; exact h4, h5, ?_⟩
  rcases q with ⟨q1, q2, q3, t, t0, t1, q4⟩ | ⟨q1, t1, t2, t0, t3, t4, q2, q3, q4⟩
  · exact Or.inl ⟨q1, q2, q3, t, t0, by omega, by rw [e]; exact q4⟩
  · exact Or.inr ⟨q1, t1, t2, t0, t3, by omega, by rw [e]; exact q2, by rw [e]; exact q3, by rw [e]; exact q4⟩
theorem Kn.on {S S' : Ws} {p : Int} {i : Nat} {c : Nd} (h : Kn S p i c) (g : RtB S p) (hi : i < S.n) (hn : S'.n = S.n) (hs : S'.starts = S.starts) (hr : S'.rates = S.rates) (ht : S.time ≤ S'.time) : Kn S' p i c := by
  have e : ∀ i t, shw S' i t = shw S i t := fun i t => by unfold shw; rw [hs, hr]
  have m := shw_mono g hi ht
  have q : S'.rd i = shw S i S'.time := by rw [← shw_rd, e]
  refine ⟨h.id, by rw [hn]; exact h.n, h.p, h.h0, by have := h.h1; rw [q]; rw [shw_rd] at m; omega, fun k hk => ?_⟩
  obtain ⟨k1, k2, k3, k4, t, t0, t1, ea, eh, l1, l2⟩ := h.kn k hk
  exact ⟨by rw [hn]; exact k1, k2, k3, k4, t, t0, by omega, by rw [e]; exact ea, eh, by rw [e, e]; exact l1, by rw [e, e]; exact l2⟩
theorem hear_true {S : Ws} {p : Int} {l : Lt} {c : Nd} (g : RtB S p) (hl : Lk S l) (hc : Kn S p l.to.toNat c) : ∃ c', HearR c l (S.rd l.to.toNat) c' l.ans 0 ∧ Kn S p l.to.toNat c' := by
  obtain ⟨a, b, h1, h2, h3, h4, h5, q⟩ := hl
  have eb : l.to.toNat = b := by rw [h2]; exact Int.toNat_natCast b
  have ea : l.frm.toNat = a := by rw [h1]; exact Int.toNat_natCast a
  rw [eb] at hc ⊢
  have nb := hc.nbk g h4
  have ng : ¬ c.bad l := by
    clear q
    unfold Nd.bad
    rw [hc.id, hc.n]
    omega
  have bb := shw_b g h4 g.i.t0 (Int.le_refl _)
  rw [shw_rd] at bb
  rcases q with ⟨q1, q2, q3, t, t0, t1, q4⟩ | ⟨q1, t1, t2, t0, t3, t4, q2, q3, q4⟩
  · rw [q1]
    refine ⟨{ c with h := S.rd b }, Or.inr (Or.inr (Or.inl ⟨nb, ng, q1, rfl, rfl, rfl⟩)), ⟨hc.id, hc.n, hc.p, by show -1 ≤ S.rd b; omega, Int.le_refl _, fun k hk => ?_⟩⟩
    obtain ⟨k1, k2, k3, k4, t, t0, t1, ea, eh, l1, l2⟩ := hc.kn k hk
    exact ⟨k1, k2, k3, k4, t, t0, t1, ea, by have := hc.h1; show c.at_ k ≤ S.rd b; omega, l1, l2⟩
  · have rb := g.ra b h4
    have ra := g.ra a h3
    have pt := probe_holds (sa := S.starts b) (ra := S.rates b) (sb := S.starts a) (rb := S.rates a) g.p0 g.p1 rb.1 rb.2 ra.1 ra.2 t3 t4
    have pt' : l.t - S.rd b ≤ S.rd a - S.rd b ∧ S.rd a - S.rd b ≤ oH l.t1 l.t2 (S.rd b) c.p := by
      rw [q2, q3, q4, hc.p]
      exact pt
    have b1 := shw_b g h4 t0 (show t1 ≤ S.time by omega)
    have b2 := shw_b g h3 (show 0 ≤ t2 by omega) t4
    have ba := shw_b g h3 g.i.t0 (Int.le_refl _)
    rw [shw_rd] at ba
    have m := shw_mono g h4 (show t1 ≤ S.time by omega)
    rw [shw_rd] at m
    have pp := hc.p
    have p0 := g.p0
    have p1 := g.p1
    have m1 : 0 ≤ (S.rd b - l.t1) * 3 * c.p := Int.mul_nonneg (by omega) (by omega)
    have m2 : (S.rd b - l.t1) * 3 * c.p ≤ 3006000000 * 1000 := Int.mul_le_mul (by omega) (by omega) (by omega) (by omega)
    have ob : oH l.t1 l.t2 (S.rd b) c.p ≤ 2000000000 := by unfold oH; omega
    have oe : oE l.t1 l.t2 l.t (S.rd b) c.p = 0 := by
      refine oE_fine ?_ (decide_eq_true (by omega)) (tmB_mk (by omega)) (tmB_mk (by omega)) (by omega)
      unfold pE
      rw [if_pos ⟨tmB_mk (by omega), tmB_mk (by omega), tmB_mk (by omega), tmB_mk (by omega)⟩, if_neg (by omega)]
    have ag : c.has a = true → c.alo a (S.rd b) ≤ S.rd a - S.rd b ∧ S.rd a - S.rd b ≤ c.ahi a (S.rd b) := fun h => ⟨(hc.aged g h4 h).1, (hc.aged g h4 h).2.1⟩
    have x1 : c.bLo a (S.rd b) (Nd.oL l (S.rd b)) ≤ S.rd a - S.rd b ∧ Nd.oL l (S.rd b) ≤ c.bLo a (S.rd b) (Nd.oL l (S.rd b)) := by
      have el : Nd.oL l (S.rd b) = l.t - S.rd b := rfl
      unfold Nd.bLo
      split
      · rename_i h
        have := (ag h).1
        split <;> omega
      · omega
    have x2 : S.rd a - S.rd b ≤ c.bHi a (S.rd b) (c.oU l (S.rd b)) ∧ c.bHi a (S.rd b) (c.oU l (S.rd b)) ≤ c.oU l (S.rd b) := by
      have eu : c.oU l (S.rd b) = oH l.t1 l.t2 (S.rd b) c.p := rfl
      unfold Nd.bHi
      split
      · rename_i h
        have := (ag h).2
        split <;> omega
      · omega
    have el : Nd.oL l (S.rd b) = l.t - S.rd b := rfl
    have eu : c.oU l (S.rd b) = oH l.t1 l.t2 (S.rd b) c.p := rfl
    rw [q1]
    refine ⟨_, Or.inr (Or.inr (Or.inr (Or.inr (Or.inr ⟨nb, ng, q1, oe, by rw [ea]; omega, rfl, rfl, rfl⟩)))), ?_⟩
    rw [ea]
    refine ⟨hc.id, hc.n, hc.p, by show -1 ≤ S.rd b; omega, Int.le_refl _, fun k hk => ?_⟩
    by_cases e : k = a
    · subst e
      refine ⟨h3, h5, ?_, ?_, S.time, g.i.t0, Int.le_refl _, ?_, ?_, ?_, ?_⟩
      · show -3000000000 ≤ updN c.lo k _ k
        rw [updN_at]; omega
      · show updN c.hi k _ k ≤ 3000000000
        rw [updN_at]; omega
      · show updN c.at_ k _ k = _
        rw [updN_at, shw_rd]
      · show updN c.at_ k _ k ≤ S.rd b
        rw [updN_at]; exact Int.le_refl _
      · show updN c.lo k _ k ≤ _
        rw [updN_at, shw_rd, shw_rd]; exact x1.1
      · show _ ≤ updN c.hi k _ k
        rw [updN_at, shw_rd, shw_rd]; exact x2.1
    · have hk' : c.has k = true := by
        have : updN c.has a true k = true := hk
        rwa [updN_ne e] at this
      obtain ⟨k1, k2, k3, k4, t, t0, t1, fa, fh, l1, l2⟩ := hc.kn k hk'
      refine ⟨k1, k2, ?_, ?_, t, t0, t1, ?_, ?_, ?_, ?_⟩
      · show -3000000000 ≤ updN c.lo a _ k
        rw [updN_ne e]; exact k3
      · show updN c.hi a _ k ≤ 3000000000
        rw [updN_ne e]; exact k4
      · show updN c.at_ a _ k = _
        rw [updN_ne e]; exact fa
      · show updN c.at_ a _ k ≤ S.rd b
        rw [updN_ne e]; have := hc.h1; omega
      · show updN c.lo a _ k ≤ _
        rw [updN_ne e]; exact l1
      · show _ ≤ updN c.hi a _ k
        rw [updN_ne e]; exact l2
structure Nn where
  W : Ws
  p : Int
  nd : Nat → Nd
structure Nn.T (N : Nn) : Prop where
  g : RtB N.W N.p
  lk : ∀ l, l ∈ N.W.under → Lk N.W l
  kn : ∀ i, i < N.W.n → Kn N.W N.p i (N.nd i)
def Nn.made (n : Nat) (z r : Nat → Int) (p : Int) : Nn := ⟨ws0 n z r, p, fun i => Nd.made i n p⟩
theorem Nn.made_t {n m : Nat} {z r : Nat → Int} {p : Int} (h : BeE n z m r p 0) : (Nn.made n z r p).T := by
  have hi := ws0_i h
  rcases h with ⟨_, e⟩ | ⟨_, _, e⟩ | ⟨_, _, _, e⟩ | ⟨⟨a, b, c, d⟩, _, q, _⟩
  · cases e
  · cases e
  · cases e
  have g : RtB (ws0 n z r) p := ⟨hi, a, b, fun i hi => ⟨(q i hi).2.2.1, (q i hi).2.2.2⟩⟩
  refine ⟨g, fun l hl => ?_, fun i hi => ?_⟩
  · cases hl
  · have w := shw_b g (i := i) hi (t := 0) (by omega) (by show (0 : Int) ≤ 0; omega)
    refine ⟨rfl, rfl, rfl, by show (-1 : Int) ≤ -1; omega, ?_, fun k hk => by cases hk⟩
    have : shw (ws0 n z r) i 0 = (ws0 n z r).rd i := rfl
    show (-1 : Int) ≤ (ws0 n z r).rd i
    omega
def NDoR (N : Nn) (wh a b : Int) (N' : Nn) (e : Int) : Prop :=
  ∃ S' r e1, DoR N.W wh a b S' r e1 ∧
    ((r = none ∧ N' = ⟨S', N.p, N.nd⟩ ∧ e = e1) ∨
     (∃ l c', r = some l ∧ e1 = 0 ∧ Lk S' l ∧ HearR (N.nd l.to.toNat) l (S'.rd l.to.toNat) c' l.ans 0 ∧
       ((l.ans = true ∧ N' = ⟨S', N.p, updN N.nd l.to.toNat c'⟩ ∧ e = 0) ∨
        (l.ans = false ∧ ∃ S'', AnR S' l S'' e ∧ N' = ⟨S'', N.p, updN N.nd l.to.toNat c'⟩))))
theorem DoR.same {S S' : Ws} {wh a b e : Int} {r : Option Lt} (h : DoR S wh a b S' r e) : S'.n = S.n ∧ S'.starts = S.starts ∧ S'.rates = S.rates ∧ (S.I → S.time ≤ S'.time) := by
  rcases h with ⟨_, _, rfl, _⟩ | ⟨_, c, rfl, _⟩ | ⟨_, _, rfl, _⟩ | ⟨_, _, _, rfl, _⟩ | ⟨_, _, _, _, rfl, _⟩ | ⟨_, _, _, l, rfl, _⟩ | ⟨_, _, rfl, _⟩ | ⟨_, _, rfl, _⟩ | ⟨_, _, rfl, _⟩ | ⟨_, _, rfl, _⟩ | ⟨_, rfl, _⟩
  · exact ⟨rfl, rfl, rfl, fun _ => Int.le_refl _⟩
  · exact ⟨rfl, rfl, rfl, fun _ => by show S.time ≤ S.time + a; omega⟩
  all_goals exact ⟨rfl, rfl, rfl, fun _ => Int.le_refl _⟩
theorem DoR.lk {S S' : Ws} {p wh a b e : Int} {r : Option Lt} (h : DoR S wh a b S' r e) (g : RtB S p) (lk : ∀ l, l ∈ S.under → Lk S l) : (∀ l, l ∈ S'.under → Lk S' l) ∧ (∀ l, r = some l → Lk S' l) ∧ (∀ l, r = some l → e = 0) := by
  have sm := h.same
  have on : ∀ l, l ∈ S.under → Lk S' l := fun l hl => (lk l hl).on sm.1 sm.2.1 sm.2.2.1 (sm.2.2.2 g.i)
  rcases h with ⟨_, _, rfl, rfl, _⟩ | ⟨_, c, rfl, rfl, _⟩ | ⟨_, _, rfl, rfl, _⟩ | ⟨_, _, _, rfl, rfl, _⟩ | ⟨_, _, _, _, rfl, rfl, _⟩ | ⟨_, q, ne, l, rfl, rfl, _⟩ | ⟨_, _, rfl, rfl, _⟩ | ⟨_, c, rfl, rfl, rfl⟩ | ⟨_, _, rfl, rfl, _⟩ | ⟨_, _, rfl, rfl, rfl⟩ | ⟨_, rfl, rfl, _⟩
  · exact ⟨on, (fun l h => by cases h), (fun l h => by cases h)⟩
  · exact ⟨on, (fun l h => by cases h), (fun l h => by cases h)⟩
  · exact ⟨on, (fun l h => by cases h), (fun l h => by cases h)⟩
  · exact ⟨on, (fun l h => by cases h), (fun l h => by cases h)⟩
  · exact ⟨on, (fun l h => by cases h), (fun l h => by cases h)⟩
  · refine ⟨fun x hx => ?_, (fun l h => by cases h), (fun l h => by cases h)⟩
    rcases List.mem_append.1 hx with hx | hx
    · exact on x hx
    · obtain rfl := List.mem_singleton.1 hx
      unfold Ws.hs at q
      exact ⟨a.toNat, b.toNat, by show a = _; omega, by show b = _; omega, by show a.toNat < S.n; omega, by show b.toNat < S.n; omega, by omega, Or.inl ⟨rfl, rfl, rfl, S.time, g.i.t0, Int.le_refl _, rfl⟩⟩
  · exact ⟨on, (fun l h => by cases h), (fun l h => by cases h)⟩
  · exact ⟨fun x hx => on x (List.mem_of_mem_eraseIdx hx), fun l h => on l (List.mem_of_getElem? h), fun l h => rfl⟩
  · exact ⟨fun x hx => on x (List.mem_of_mem_eraseIdx hx), (fun l h => by cases h), (fun l h => by cases h)⟩
  · exact ⟨on, fun l h => on l (List.mem_of_getElem? h), fun l h => rfl⟩
  · exact ⟨on, (fun l h => by cases h), (fun l h => by cases h)⟩
theorem nDoR_some {N : Nn} (g : N.T) (wh a b : Int) : ∃ N' e, NDoR N wh a b N' e := by
  obtain ⟨S', r, e1, h⟩ := doR_some N.W wh a b
  cases r with
  | none => exact ⟨_, _, S', none, e1, h, Or.inl ⟨rfl, rfl, rfl⟩⟩
  | some l =>
    have sm := h.same
    obtain ⟨k1, k2, k3⟩ := h.lk g.g g.lk
    have hl := k2 l rfl
    have g' := g.g.on (h.i g.g.i) sm.1 sm.2.2.1
    have hb : l.to.toNat < N.W.n := by
      obtain ⟨a', b', _, q2, _, q4, _⟩ := hl
      rw [sm.1] at q4
      omega
    have hk := (g.kn _ hb).on g.g hb sm.1 sm.2.1 sm.2.2.1 (sm.2.2.2 g.g.i)
    obtain ⟨c', hh, _⟩ := hear_true g' hl hk
    cases ha : l.ans with
    | true => exact ⟨_, _, S', some l, e1, h, Or.inr ⟨l, c', rfl, k3 l rfl, hl, hh, Or.inl ⟨ha, rfl, rfl⟩⟩⟩
    | false =>
      obtain ⟨S'', e, hA⟩ := anR_some S' l
      exact ⟨_, _, S', some l, e1, h, Or.inr ⟨l, c', rfl, k3 l rfl, hl, hh, Or.inr ⟨ha, S'', hA, rfl⟩⟩⟩
theorem AnR.same {S S' : Ws} {l : Lt} {e : Int} (h : AnR S l S' e) : S'.n = S.n ∧ S'.starts = S.starts ∧ S'.rates = S.rates ∧ S'.time = S.time := by
  rcases h with ⟨_, rfl, _⟩ | ⟨_, _, rfl, _⟩ | ⟨_, _, _, rfl, _⟩ | ⟨_, _, q, rfl, _⟩ <;> exact ⟨rfl, rfl, rfl, rfl⟩
theorem NDoR.t {N N' : Nn} {wh a b e : Int} (h : NDoR N wh a b N' e) (g : N.T) : N'.T ∧ N'.W.n = N.W.n ∧ e ≠ 7 := by
  obtain ⟨S', r, e1, hD, q⟩ := h
  have sm := hD.same
  obtain ⟨k1, k2, k3⟩ := hD.lk g.g g.lk
  have g' := g.g.on (hD.i g.g.i) sm.1 sm.2.2.1
  have kn' : ∀ i, i < N.W.n → Kn S' N.p i (N.nd i) := fun i hi => (g.kn i hi).on g.g hi sm.1 sm.2.1 sm.2.2.1 (sm.2.2.2 g.g.i)
  rcases q with ⟨rfl, rfl, rfl⟩ | ⟨l, c', rfl, rfl, hl, hh, q⟩
  · refine ⟨⟨g', k1, fun i hi => kn' i (by rw [← sm.1]; exact hi)⟩, sm.1, ?_⟩
    rcases hD with ⟨_, _, _, _, rfl⟩ | ⟨_, _, _, _, rfl⟩ | ⟨_, _, _, _, rfl⟩ | ⟨_, _, _, _, _, rfl⟩ | ⟨_, _, _, _, _, _, rfl⟩ | ⟨_, _, _, _, _, _, rfl⟩ | ⟨_, _, _, _, rfl⟩ | ⟨_, _, _, _, rfl⟩ | ⟨_, _, _, _, rfl⟩ | ⟨_, _, _, _, rfl⟩ | ⟨_, _, _, rfl⟩ <;> decide
  · have hb : l.to.toNat < N.W.n := by
      obtain ⟨a', b', _, q2, _, q4, _⟩ := hl
      rw [sm.1] at q4
      omega
    obtain ⟨c2, hh2, kc⟩ := hear_true g' hl (kn' _ hb)
    obtain ⟨rfl, _, _⟩ := hearR_uniq hh hh2
    have kn2 : ∀ i, i < N.W.n → Kn S' N.p i (updN N.nd l.to.toNat c' i) := fun i hi => by
      by_cases e : i = l.to.toNat
      · rw [e, updN_at]; exact kc
      · rw [updN_ne e]; exact kn' i hi
    rcases q with ⟨_, rfl, rfl⟩ | ⟨_, S'', hA, rfl⟩
    · exact ⟨⟨g', k1, fun i hi => kn2 i (by rw [← sm.1]; exact hi)⟩, sm.1, by decide⟩
    · have sa := hA.same
      have g'' := g'.on (hA.i g'.i) sa.1 sa.2.2.1
      refine ⟨⟨g'', ?_, fun i hi => (kn2 i (by rw [← sm.1, ← sa.1]; exact hi)).on g' (by rw [← sa.1]; exact hi) sa.1 sa.2.1 sa.2.2.1 (by rw [sa.2.2.2]; exact Int.le_refl _)⟩, by show S''.n = _; rw [sa.1, sm.1], ?_⟩
      · have on : ∀ x, x ∈ S'.under → Lk S'' x := fun x hx => (k1 x hx).on sa.1 sa.2.1 sa.2.2.1 (by rw [sa.2.2.2]; exact Int.le_refl _)
        show ∀ x, x ∈ S''.under → Lk S'' x
        rcases hA with ⟨_, rfl, _⟩ | ⟨_, _, rfl, _⟩ | ⟨_, _, _, rfl, _⟩ | ⟨nA, _, _, rfl, _⟩
        · exact on
        · exact on
        · exact on
        · intro x hx
          rcases List.mem_append.1 hx with hx | hx
          · exact on x hx
          · obtain rfl := List.mem_singleton.1 hx
            obtain ⟨a', b', h1, h2, h3, h4, h5, z⟩ := hl
            have ez : l.to.toNat = b' := by rw [h2]; exact Int.toNat_natCast b'
            rcases z with ⟨_, _, _, t, t0, t1, zt⟩ | ⟨z, _⟩
            · refine ⟨b', a', h2, h1, h4, h3, Ne.symm h5, Or.inr ⟨rfl, t, S'.time, t0, t1, Int.le_refl _, zt, ?_, ?_⟩⟩
              · show S'.rd l.to.toNat = _
                rw [ez]; rfl
              · show S'.rd l.to.toNat = _
                rw [ez]; rfl
            · rw [nA] at z; cases z
      · rcases hA with ⟨_, _, rfl⟩ | ⟨_, _, _, rfl⟩ | ⟨_, _, _, _, rfl⟩ | ⟨_, _, _, _, rfl⟩ <;> decide
end Go.Proofs.YtadkgnbagmnkkakGreatDoor
namespace Go.Proofs.YtadkgnbagmnkkakGreatDoor
open Go.ChangeShapes Go.WideShapes Go.ChangeAt Go.RowKit
set_option linter.unusedVariables false

def Esp (w : World) (b off m : Nat) (q : Nat → Eg) : Prop := ∀ i, i < m → w.cell? ⟨b, off + i * 4, none⟩ = some (.int .i64 (q i).a) ∧ w.cell? ⟨b, off + i * 4 + 1, none⟩ = some (.int .i64 (q i).b) ∧ w.cell? ⟨b, off + i * 4 + 2, none⟩ = some (.int .i64 (q i).lo) ∧ w.cell? ⟨b, off + i * 4 + 3, none⟩ = some (.int .i64 (q i).hi)
theorem Esp.on {W u : World} {b off m : Nat} {q : Nat → Eg} (hb : Below W.heap.size W u) (h : Esp W b off m q) : Esp u b off m q := fun i hi => by
 obtain ⟨h0, h1, h2, h3⟩ := h i hi
 exact ⟨by rw [hb.cell (World.block_lt_of_cell? _ _ h0)]; exact h0, by rw [hb.cell (World.block_lt_of_cell? _ _ h1)]; exact h1, by rw [hb.cell (World.block_lt_of_cell? _ _ h2)]; exact h2, by rw [hb.cell (World.block_lt_of_cell? _ _ h3)]; exact h3⟩
def EHanded (w : World) (a : Option Addr) (m : Nat) (q : Nat → Eg) : Prop := m ≤ 9223372036854775807 ∧ (m = 0 ∨ ∃ b off : Nat, a = some ⟨b, off, none⟩ ∧ Esp w b off m q)
theorem EHanded.on {W u : World} {a : Option Addr} {m : Nat} {q : Nat → Eg} (hb : Below W.heap.size W u) (h : EHanded W a m q) : EHanded u a m q :=
 ⟨h.1, h.2.imp id (fun ⟨b, off, e, s⟩ => ⟨b, off, e, s.on hb⟩)⟩
def inN (n : Int) (e : Eg) : Prop := 0 ≤ e.a ∧ e.a < n ∧ 0 ≤ e.b ∧ e.b < n
def eEr (n : Int) (q : Nat → Eg) (i : Nat) : Int := if (q i).a < 0 ∨ n ≤ (q i).a ∨ (q i).b < 0 ∨ n ≤ (q i).b then 1 else if (q i).a = (q i).b then 3 else if okB (q i).lo (q i).hi = true then 0 else 1
theorem eEr_zero {n : Int} {q : Nat → Eg} {i : Nat} (h : eEr n q i = 0) : inN n (q i) ∧ (q i).a ≠ (q i).b ∧ okB (q i).lo (q i).hi = true := by
 unfold eEr at h
 split at h
 ·cases h
 ·split at h
  ·cases h
  ·split at h
   ·exact ⟨⟨by omega, by omega, by omega, by omega⟩, by assumption, by assumption⟩
   ·cases h
def eFr (n : Int) (q : Nat → Eg) : Nat → Int
 | 0 => 0
 | m + 1 => if eFr n q m = 0 then eEr n q m else eFr n q m
theorem eFr_zero {n : Int} {q : Nat → Eg} : ∀ {m : Nat}, eFr n q m = 0 → ∀ i, i < m → eEr n q i = 0
 | 0, _, i, hi => by omega
 | m + 1, h, i, hi => by
  simp only [eFr] at h
  split at h
  ·by_cases e : i = m
   ·subst e; exact h
   ·exact eFr_zero (by assumption) i (by omega)
  ·contradiction
theorem eFr_ok {n : Int} {q : Nat → Eg} : ∀ {m : Nat}, (∀ i, i < m → eEr n q i = 0) → eFr n q m = 0
 | 0, _ => rfl
 | m + 1, h => by simp only [eFr]; rw [if_pos (eFr_ok (fun i hi => h i (by omega)))]; exact h m (by omega)
theorem eFr_first {n : Int} {q : Nat → Eg} {k : Nat} (hg : ∀ i, i < k → eEr n q i = 0) (hb : eEr n q k ≠ 0) : ∀ m, k < m → eFr n q m = eEr n q k
 | 0, h => by omega
 | m + 1, h => by
  simp only [eFr]
  by_cases e : k = m
  ·subst e
   rw [if_pos (eFr_ok hg)]
  ·rw [eFr_first hg hb m (by omega), if_neg hb]
def eE (n : Int) (q : Nat → Eg) (m : Nat) : Int := if n < 1 ∨ 6 < n then 1 else if 40 < m then 4 else eFr n q m
structure Egs (n : Int) (q : Nat → Eg) (m : Nat) : Prop where
 n1 : 1 ≤ n
 n6 : n ≤ 6
 m40 : m ≤ 40
 each : ∀ i, i < m → inN n (q i) ∧ (q i).a ≠ (q i).b ∧ okB (q i).lo (q i).hi = true
theorem eE_zero {n : Int} {q : Nat → Eg} {m : Nat} (h : eE n q m = 0) : Egs n q m := by
 unfold eE at h
 split at h
 ·cases h
 ·split at h
  ·cases h
  ·exact ⟨by omega, by omega, by omega, fun i hi => eEr_zero (eFr_zero h i hi)⟩
theorem Egs.arc {n : Nat} {q : Nat → Eg} {m : Nat} (h : Egs n q m) : ∀ u v c, Arc q m u v c → u < n ∧ v < n := by
 rintro u v c ⟨j, hj, ⟨h1, h2, _⟩ | ⟨h1, h2, _⟩⟩
 ·obtain ⟨⟨a1, a2, a3, a4⟩, _⟩ := h.each j hj
  omega
 ·obtain ⟨⟨a1, a2, a3, a4⟩, _⟩ := h.each j hj
  omega
theorem Egs.small {n : Int} {q : Nat → Eg} {m : Nat} (h : Egs n q m) {u v : Nat} {c : Int} (g : Arc q m u v c) : -1000000000000 ≤ c ∧ c ≤ 1000000000000 := by
 obtain ⟨j, hj, ⟨h1, h2, rfl⟩ | ⟨h1, h2, rfl⟩⟩ := g
 ·obtain ⟨_, _, o⟩ := h.each j hj
  have := okB_t o
  omega
 ·obtain ⟨_, _, o⟩ := h.each j hj
  have := okB_t o
  omega
def Lsp (w : World) (b off n : Nat) (q : Nat → Int × Bool) : Prop := ∀ i, i < n → w.cell? ⟨b, off + i * 2, none⟩ = some (.int .i64 (q i).1) ∧ w.cell? ⟨b, off + i * 2 + 1, none⟩ = some (.bool (q i).2)
theorem Lsp.on {W u : World} {b off n : Nat} {q : Nat → Int × Bool} (hb : Below W.heap.size W u) (h : Lsp W b off n q) : Lsp u b off n q := fun i hi => by
 obtain ⟨h0, h1⟩ := h i hi
 exact ⟨by rw [hb.cell (World.block_lt_of_cell? _ _ h0)]; exact h0, by rw [hb.cell (World.block_lt_of_cell? _ _ h1)]; exact h1⟩
def LHanded (w : World) (a : Option Addr) (n : Nat) (q : Nat → Int × Bool) : Prop := n ≤ 9223372036854775807 ∧ (n = 0 ∨ ∃ b off : Nat, a = some ⟨b, off, none⟩ ∧ Lsp w b off n q)
theorem LHanded.on {W u : World} {a : Option Addr} {n : Nat} {q : Nat → Int × Bool} (hb : Below W.heap.size W u) (h : LHanded W a n q) : LHanded u a n q :=
 ⟨h.1, h.2.imp id (fun ⟨b, off, e, s⟩ => ⟨b, off, e, s.on hb⟩)⟩
def lEr (q : Nat → Int × Bool) (i : Nat) : Int := if (q i).1 < 1 ∨ 84005 ≤ (q i).1 then 1 else if 0 < i ∧ (q i).1 - 2 < (q (i - 1)).1 then 3 else 0
theorem lEr_zero {q : Nat → Int × Bool} {i : Nat} (h : lEr q i = 0) : 1 ≤ (q i).1 ∧ (q i).1 < 84005 ∧ (0 < i → (q (i - 1)).1 + 2 ≤ (q i).1) := by
 unfold lEr at h
 split at h
 ·cases h
 ·split at h
  ·cases h
  ·exact ⟨by omega, by omega, fun _ => by omega⟩
def lFr (q : Nat → Int × Bool) : Nat → Int
 | 0 => 0
 | n + 1 => if lFr q n = 0 then lEr q n else lFr q n
theorem lFr_zero {q : Nat → Int × Bool} : ∀ {n : Nat}, lFr q n = 0 → ∀ i, i < n → lEr q i = 0
 | 0, _, i, hi => by omega
 | n + 1, h, i, hi => by
  simp only [lFr] at h
  split at h
  ·by_cases e : i = n
   ·subst e; exact h
   ·exact lFr_zero (by assumption) i (by omega)
  ·contradiction
theorem lFr_first {q : Nat → Int × Bool} {m : Nat} (hg : ∀ i, i < m → lEr q i = 0) (hb : lEr q m ≠ 0) : ∀ n, m < n → lFr q n = lEr q m
 | 0, h => by omega
 | n + 1, h => by
  simp only [lFr]
  by_cases e : m = n
  ·subst e
   have z : ∀ k, k ≤ m → lFr q k = 0 := by
    intro k
    induction k with
    | zero => intro _; rfl
    | succ k ih => intro hk; simp only [lFr]; rw [if_pos (ih (by omega))]; exact hg k (by omega)
   rw [if_pos (z m (Nat.le_refl _))]
  ·have ih := lFr_first hg hb n (by omega)
   rw [ih, if_neg hb]
def lE (q : Nat → Int × Bool) (n : Nat) : Int := if 20 < n then 4 else lFr q n
theorem lE_zero {q : Nat → Int × Bool} {n : Nat} (h : lE q n = 0) : n ≤ 20 ∧ Lps q n := by
 unfold lE at h
 split at h
 ·cases h
 ·have z := lFr_zero h
  exact ⟨by omega, fun i hi => ⟨(lEr_zero (z i hi)).1, (lEr_zero (z i hi)).2.1⟩, fun i hi => (lEr_zero (z (i + 1) hi)).2.2 (by omega)⟩
theorem lFr_ok {q : Nat → Int × Bool} : ∀ {n : Nat}, (∀ i, i < n → lEr q i = 0) → lFr q n = 0
 | 0, _ => rfl
 | n + 1, h => by simp only [lFr]; rw [if_pos (lFr_ok (fun i hi => h i (by omega)))]; exact h n (by omega)
def ltc (l : Lt) : List Value := [.int .i64 l.frm, .int .i64 l.to, .bool l.ans, .int .i64 l.t1, .int .i64 l.t2, .int .i64 l.t]
def Lts (w : World) (b off : Nat) (l : List Lt) : Prop := ∀ i q, l[i]? = some q → ∀ j v, (ltc q)[j]? = some v → w.cell? ⟨b, off + i * 6 + j, none⟩ = some v
theorem Lts.on {W u : World} {b off : Nat} {l : List Lt} (hb : Below W.heap.size W u) (h : Lts W b off l) : Lts u b off l := fun i q hq j v hv => by
 have c := h i q hq j v hv
 rw [hb.cell (World.block_lt_of_cell? _ _ c)]; exact c
def WHanded (w : World) (a : Option Addr) (l : List Lt) : Prop := l.length ≤ 9223372036854775807 ∧ (l = [] ∨ ∃ b off : Nat, a = some ⟨b, off, none⟩ ∧ Lts w b off l)
theorem WHanded.on {W u : World} {a : Option Addr} {l : List Lt} (hb : Below W.heap.size W u) (h : WHanded W a l) : WHanded u a l :=
 ⟨h.1, h.2.imp id (fun ⟨b, off, e, s⟩ => ⟨b, off, e, s.on hb⟩)⟩
def ltv (l : Lt) : Value := .agg #[.int .i64 l.frm, .int .i64 l.to, .bool l.ans, .int .i64 l.t1, .int .i64 l.t2, .int .i64 l.t]
end Go.Proofs.YtadkgnbagmnkkakGreatDoor
namespace Go.Proofs.YtadkgnbagmnkkakGreatDoor
open Go.ChangeShapes Go.WideShapes Go.ChangeAt Go.RowKit
set_option linter.unusedVariables false
set_option linter.unusedSimpArgs false

set_option maxHeartbeats 1000000
theorem isTime_yes (n : Int) (w : World) (h : tmB n = true) :
  Calls Tryz.prog 207 #[.int .i64 n] w fun e w' => e = .returned (.bool true) ∧ Below w.heap.size w w' := by
 obtain ⟨h1, h2⟩ := tmB_t h
 clear h
 go_enter Tryz.func207, Tryz.ntmps207
 go_wp2
 go_ret
 exact ⟨rfl, by (repeat (first | assumption | exact Below.refl _ _ | refine Below.alloc ?_ (by first | (simp; done) | (simp; omega) | omega) _ | refine Below.setCell ?_ (by first | (with_reducible assumption) | (simp; done) | (simp; omega) | omega) _ | apply Below.drew | apply below_drewN | refine below_tr (by assumption) ?_))⟩

theorem isTime_low (n : Int) (w : World) (h : n < -1000000000000) :
  Calls Tryz.prog 207 #[.int .i64 n] w fun e w' => e = .returned (.bool false) ∧ Below w.heap.size w w' := by
 go_enter Tryz.func207, Tryz.ntmps207
 go_wp2
 go_ret
 exact ⟨rfl, by (repeat (first | assumption | exact Below.refl _ _ | refine Below.alloc ?_ (by first | (simp; done) | (simp; omega) | omega) _ | refine Below.setCell ?_ (by first | (with_reducible assumption) | (simp; done) | (simp; omega) | omega) _ | apply Below.drew | apply below_drewN | refine below_tr (by assumption) ?_))⟩

theorem isTime_high (n : Int) (w : World) (h : 1000000000000 < n) :
  Calls Tryz.prog 207 #[.int .i64 n] w fun e w' => e = .returned (.bool false) ∧ Below w.heap.size w w' := by
 have h2 : ¬ n < -1000000000000 := by omega
 have h3 : decide (n ≤ 1000000000000) = false := decide_eq_false (by omega)
 go_enter Tryz.func207, Tryz.ntmps207
 go_wp2
 go_ret
 exact ⟨rfl, by (repeat (first | assumption | exact Below.refl _ _ | refine Below.alloc ?_ (by first | (simp; done) | (simp; omega) | omega) _ | refine Below.setCell ?_ (by first | (with_reducible assumption) | (simp; done) | (simp; omega) | omega) _ | apply Below.drew | apply below_drewN | refine below_tr (by assumption) ?_))⟩

theorem isTime_no (n : Int) (w : World) (h : tmB n = false) :
  Calls Tryz.prog 207 #[.int .i64 n] w fun e w' => e = .returned (.bool false) ∧ Below w.heap.size w w' := by
 rcases tmB_f h with h | h
 ·exact isTime_low n w h
 ·exact isTime_high n w h

theorem pcheck_a (a b c d : Int) (w : World) (h0 : tmB a = false) :
  Calls Tryz.prog 205 #[.agg #[.int .i64 a, .int .i64 b, .int .i64 c, .int .i64 d]] w fun e w' => e = .returned (.iface 86 (.int .i64 (1))) ∧ Below w.heap.size w w' := by
 have cnt : Mark 0 := .mk _
 go_enter Tryz.func205, Tryz.ntmps205
 go_wp2_with (first | (go_at_call 207; have cq : Mark 0 := cnt; refine (isTime_no _ _ (by assumption)).mono ?_; clear cq cnt; have cnt : Mark 1 := .mk _; rintro e u0 ⟨rfl, hb⟩; replace hw : Below w.heap.size w u0 := rbel_on hb (rbel_al (Below.refl _ _)); replace PP : Row u0 (w.heap.size) [.int .i64 (a), .int .i64 (b), .int .i64 (c), .int .i64 (d)] := Row.on hb (Row.made (by simp)); replace cP0 := PP.c 0 _ rfl; replace cP1 := PP.c 1 _ rfl; replace cP2 := PP.c 2 _ rfl; replace cP3 := PP.c 3 _ rfl; replace zP := PP.lt; clear hb))
 go_ret
 exact ⟨rfl, by (repeat (first | assumption | exact Below.refl _ _ | refine Below.alloc ?_ (by first | (simp; done) | (simp; omega) | omega) _ | refine Below.setCell ?_ (by first | (with_reducible assumption) | (simp; done) | (simp; omega) | omega) _ | apply Below.drew | apply below_drewN | refine below_tr (by assumption) ?_))⟩

theorem pcheck_b (a b c d : Int) (w : World) (h0 : tmB a = true) (h1 : tmB b = false) :
  Calls Tryz.prog 205 #[.agg #[.int .i64 a, .int .i64 b, .int .i64 c, .int .i64 d]] w fun e w' => e = .returned (.iface 86 (.int .i64 (1))) ∧ Below w.heap.size w w' := by
 have cnt : Mark 0 := .mk _
 go_enter Tryz.func205, Tryz.ntmps205
 go_wp2_with (first | (go_at_call 207; have cq : Mark 0 := cnt; refine (isTime_yes _ _ (by assumption)).mono ?_; clear cq cnt; have cnt : Mark 1 := .mk _; rintro e u0 ⟨rfl, hb⟩; replace hw : Below w.heap.size w u0 := rbel_on hb (rbel_al (Below.refl _ _)); replace PP : Row u0 (w.heap.size) [.int .i64 (a), .int .i64 (b), .int .i64 (c), .int .i64 (d)] := Row.on hb (Row.made (by simp)); replace cP0 := PP.c 0 _ rfl; replace cP1 := PP.c 1 _ rfl; replace cP2 := PP.c 2 _ rfl; replace cP3 := PP.c 3 _ rfl; replace zP := PP.lt; clear hb) | (go_at_call 207; have cq : Mark 1 := cnt; refine (isTime_no _ _ (by assumption)).mono ?_; clear cq cnt; have cnt : Mark 2 := .mk _; rintro e u1 ⟨rfl, hb⟩; replace hw : Below w.heap.size w u1 := rbel_on hb (hw); replace PP : Row u1 (w.heap.size) [.int .i64 (a), .int .i64 (b), .int .i64 (c), .int .i64 (d)] := Row.on hb (PP); replace cP0 := PP.c 0 _ rfl; replace cP1 := PP.c 1 _ rfl; replace cP2 := PP.c 2 _ rfl; replace cP3 := PP.c 3 _ rfl; replace zP := PP.lt; clear hb))
 go_ret
 exact ⟨rfl, by (repeat (first | assumption | exact Below.refl _ _ | refine Below.alloc ?_ (by first | (simp; done) | (simp; omega) | omega) _ | refine Below.setCell ?_ (by first | (with_reducible assumption) | (simp; done) | (simp; omega) | omega) _ | apply Below.drew | apply below_drewN | refine below_tr (by assumption) ?_))⟩

theorem pcheck_c (a b c d : Int) (w : World) (h0 : tmB a = true) (h1 : tmB b = true) (h2 : tmB c = false) :
  Calls Tryz.prog 205 #[.agg #[.int .i64 a, .int .i64 b, .int .i64 c, .int .i64 d]] w fun e w' => e = .returned (.iface 86 (.int .i64 (1))) ∧ Below w.heap.size w w' := by
 have cnt : Mark 0 := .mk _
 go_enter Tryz.func205, Tryz.ntmps205
 go_wp2_with (first | (go_at_call 207; have cq : Mark 0 := cnt; refine (isTime_yes _ _ (by assumption)).mono ?_; clear cq cnt; have cnt : Mark 1 := .mk _; rintro e u0 ⟨rfl, hb⟩; replace hw : Below w.heap.size w u0 := rbel_on hb (rbel_al (Below.refl _ _)); replace PP : Row u0 (w.heap.size) [.int .i64 (a), .int .i64 (b), .int .i64 (c), .int .i64 (d)] := Row.on hb (Row.made (by simp)); replace cP0 := PP.c 0 _ rfl; replace cP1 := PP.c 1 _ rfl; replace cP2 := PP.c 2 _ rfl; replace cP3 := PP.c 3 _ rfl; replace zP := PP.lt; clear hb) | (go_at_call 207; have cq : Mark 1 := cnt; refine (isTime_yes _ _ (by assumption)).mono ?_; clear cq cnt; have cnt : Mark 2 := .mk _; rintro e u1 ⟨rfl, hb⟩; replace hw : Below w.heap.size w u1 := rbel_on hb (hw); replace PP : Row u1 (w.heap.size) [.int .i64 (a), .int .i64 (b), .int .i64 (c), .int .i64 (d)] := Row.on hb (PP); replace cP0 := PP.c 0 _ rfl; replace cP1 := PP.c 1 _ rfl; replace cP2 := PP.c 2 _ rfl; replace cP3 := PP.c 3 _ rfl; replace zP := PP.lt; clear hb) | (go_at_call 207; have cq : Mark 2 := cnt; refine (isTime_no _ _ (by assumption)).mono ?_; clear cq cnt; have cnt : Mark 3 := .mk _; rintro e u2 ⟨rfl, hb⟩; replace hw : Below w.heap.size w u2 := rbel_on hb (hw); replace PP : Row u2 (w.heap.size) [.int .i64 (a), .int .i64 (b), .int .i64 (c), .int .i64 (d)] := Row.on hb (PP); replace cP0 := PP.c 0 _ rfl; replace cP1 := PP.c 1 _ rfl; replace cP2 := PP.c 2 _ rfl; replace cP3 := PP.c 3 _ rfl; replace zP := PP.lt; clear hb))
 go_ret
 exact ⟨rfl, by (repeat (first | assumption | exact Below.refl _ _ | refine Below.alloc ?_ (by first | (simp; done) | (simp; omega) | omega) _ | refine Below.setCell ?_ (by first | (with_reducible assumption) | (simp; done) | (simp; omega) | omega) _ | apply Below.drew | apply below_drewN | refine below_tr (by assumption) ?_))⟩

theorem pcheck_d (a b c d : Int) (w : World) (h0 : tmB a = true) (h1 : tmB b = true) (h2 : tmB c = true) (h3 : tmB d = false) :
  Calls Tryz.prog 205 #[.agg #[.int .i64 a, .int .i64 b, .int .i64 c, .int .i64 d]] w fun e w' => e = .returned (.iface 86 (.int .i64 (1))) ∧ Below w.heap.size w w' := by
 have cnt : Mark 0 := .mk _
 go_enter Tryz.func205, Tryz.ntmps205
 go_wp2_with (first | (go_at_call 207; have cq : Mark 0 := cnt; refine (isTime_yes _ _ (by assumption)).mono ?_; clear cq cnt; have cnt : Mark 1 := .mk _; rintro e u0 ⟨rfl, hb⟩; replace hw : Below w.heap.size w u0 := rbel_on hb (rbel_al (Below.refl _ _)); replace PP : Row u0 (w.heap.size) [.int .i64 (a), .int .i64 (b), .int .i64 (c), .int .i64 (d)] := Row.on hb (Row.made (by simp)); replace cP0 := PP.c 0 _ rfl; replace cP1 := PP.c 1 _ rfl; replace cP2 := PP.c 2 _ rfl; replace cP3 := PP.c 3 _ rfl; replace zP := PP.lt; clear hb) | (go_at_call 207; have cq : Mark 1 := cnt; refine (isTime_yes _ _ (by assumption)).mono ?_; clear cq cnt; have cnt : Mark 2 := .mk _; rintro e u1 ⟨rfl, hb⟩; replace hw : Below w.heap.size w u1 := rbel_on hb (hw); replace PP : Row u1 (w.heap.size) [.int .i64 (a), .int .i64 (b), .int .i64 (c), .int .i64 (d)] := Row.on hb (PP); replace cP0 := PP.c 0 _ rfl; replace cP1 := PP.c 1 _ rfl; replace cP2 := PP.c 2 _ rfl; replace cP3 := PP.c 3 _ rfl; replace zP := PP.lt; clear hb) | (go_at_call 207; have cq : Mark 2 := cnt; refine (isTime_yes _ _ (by assumption)).mono ?_; clear cq cnt; have cnt : Mark 3 := .mk _; rintro e u2 ⟨rfl, hb⟩; replace hw : Below w.heap.size w u2 := rbel_on hb (hw); replace PP : Row u2 (w.heap.size) [.int .i64 (a), .int .i64 (b), .int .i64 (c), .int .i64 (d)] := Row.on hb (PP); replace cP0 := PP.c 0 _ rfl; replace cP1 := PP.c 1 _ rfl; replace cP2 := PP.c 2 _ rfl; replace cP3 := PP.c 3 _ rfl; replace zP := PP.lt; clear hb) | (go_at_call 207; have cq : Mark 3 := cnt; refine (isTime_no _ _ (by assumption)).mono ?_; clear cq cnt; have cnt : Mark 4 := .mk _; rintro e u3 ⟨rfl, hb⟩; replace hw : Below w.heap.size w u3 := rbel_on hb (hw); replace PP : Row u3 (w.heap.size) [.int .i64 (a), .int .i64 (b), .int .i64 (c), .int .i64 (d)] := Row.on hb (PP); replace cP0 := PP.c 0 _ rfl; replace cP1 := PP.c 1 _ rfl; replace cP2 := PP.c 2 _ rfl; replace cP3 := PP.c 3 _ rfl; replace zP := PP.lt; clear hb))
 go_ret
 exact ⟨rfl, by (repeat (first | assumption | exact Below.refl _ _ | refine Below.alloc ?_ (by first | (simp; done) | (simp; omega) | omega) _ | refine Below.setCell ?_ (by first | (with_reducible assumption) | (simp; done) | (simp; omega) | omega) _ | apply Below.drew | apply below_drewN | refine below_tr (by assumption) ?_))⟩

theorem pcheck_x (a b c d : Int) (w : World) (h0 : tmB a = true) (h1 : tmB b = true) (h2 : tmB c = true) (h3 : tmB d = true) (h4 : d < a) :
  Calls Tryz.prog 205 #[.agg #[.int .i64 a, .int .i64 b, .int .i64 c, .int .i64 d]] w fun e w' => e = .returned (.iface 86 (.int .i64 (3))) ∧ Below w.heap.size w w' := by
 have cnt : Mark 0 := .mk _
 go_enter Tryz.func205, Tryz.ntmps205
 go_wp2_with (first | (go_at_call 207; have cq : Mark 0 := cnt; refine (isTime_yes _ _ (by assumption)).mono ?_; clear cq cnt; have cnt : Mark 1 := .mk _; rintro e u0 ⟨rfl, hb⟩; replace hw : Below w.heap.size w u0 := rbel_on hb (rbel_al (Below.refl _ _)); replace PP : Row u0 (w.heap.size) [.int .i64 (a), .int .i64 (b), .int .i64 (c), .int .i64 (d)] := Row.on hb (Row.made (by simp)); replace cP0 := PP.c 0 _ rfl; replace cP1 := PP.c 1 _ rfl; replace cP2 := PP.c 2 _ rfl; replace cP3 := PP.c 3 _ rfl; replace zP := PP.lt; clear hb) | (go_at_call 207; have cq : Mark 1 := cnt; refine (isTime_yes _ _ (by assumption)).mono ?_; clear cq cnt; have cnt : Mark 2 := .mk _; rintro e u1 ⟨rfl, hb⟩; replace hw : Below w.heap.size w u1 := rbel_on hb (hw); replace PP : Row u1 (w.heap.size) [.int .i64 (a), .int .i64 (b), .int .i64 (c), .int .i64 (d)] := Row.on hb (PP); replace cP0 := PP.c 0 _ rfl; replace cP1 := PP.c 1 _ rfl; replace cP2 := PP.c 2 _ rfl; replace cP3 := PP.c 3 _ rfl; replace zP := PP.lt; clear hb) | (go_at_call 207; have cq : Mark 2 := cnt; refine (isTime_yes _ _ (by assumption)).mono ?_; clear cq cnt; have cnt : Mark 3 := .mk _; rintro e u2 ⟨rfl, hb⟩; replace hw : Below w.heap.size w u2 := rbel_on hb (hw); replace PP : Row u2 (w.heap.size) [.int .i64 (a), .int .i64 (b), .int .i64 (c), .int .i64 (d)] := Row.on hb (PP); replace cP0 := PP.c 0 _ rfl; replace cP1 := PP.c 1 _ rfl; replace cP2 := PP.c 2 _ rfl; replace cP3 := PP.c 3 _ rfl; replace zP := PP.lt; clear hb) | (go_at_call 207; have cq : Mark 3 := cnt; refine (isTime_yes _ _ (by assumption)).mono ?_; clear cq cnt; have cnt : Mark 4 := .mk _; rintro e u3 ⟨rfl, hb⟩; replace hw : Below w.heap.size w u3 := rbel_on hb (hw); replace PP : Row u3 (w.heap.size) [.int .i64 (a), .int .i64 (b), .int .i64 (c), .int .i64 (d)] := Row.on hb (PP); replace cP0 := PP.c 0 _ rfl; replace cP1 := PP.c 1 _ rfl; replace cP2 := PP.c 2 _ rfl; replace cP3 := PP.c 3 _ rfl; replace zP := PP.lt; clear hb))
 go_ret
 exact ⟨rfl, by (repeat (first | assumption | exact Below.refl _ _ | refine Below.alloc ?_ (by first | (simp; done) | (simp; omega) | omega) _ | refine Below.setCell ?_ (by first | (with_reducible assumption) | (simp; done) | (simp; omega) | omega) _ | apply Below.drew | apply below_drewN | refine below_tr (by assumption) ?_))⟩

theorem pcheck_y (a b c d : Int) (w : World) (h0 : tmB a = true) (h1 : tmB b = true) (h2 : tmB c = true) (h3 : tmB d = true) (h4 : a ≤ d) (h5 : c < b) :
  Calls Tryz.prog 205 #[.agg #[.int .i64 a, .int .i64 b, .int .i64 c, .int .i64 d]] w fun e w' => e = .returned (.iface 86 (.int .i64 (3))) ∧ Below w.heap.size w w' := by
 have cnt : Mark 0 := .mk _
 go_enter Tryz.func205, Tryz.ntmps205
 go_wp2_with (first | (go_at_call 207; have cq : Mark 0 := cnt; refine (isTime_yes _ _ (by assumption)).mono ?_; clear cq cnt; have cnt : Mark 1 := .mk _; rintro e u0 ⟨rfl, hb⟩; replace hw : Below w.heap.size w u0 := rbel_on hb (rbel_al (Below.refl _ _)); replace PP : Row u0 (w.heap.size) [.int .i64 (a), .int .i64 (b), .int .i64 (c), .int .i64 (d)] := Row.on hb (Row.made (by simp)); replace cP0 := PP.c 0 _ rfl; replace cP1 := PP.c 1 _ rfl; replace cP2 := PP.c 2 _ rfl; replace cP3 := PP.c 3 _ rfl; replace zP := PP.lt; clear hb) | (go_at_call 207; have cq : Mark 1 := cnt; refine (isTime_yes _ _ (by assumption)).mono ?_; clear cq cnt; have cnt : Mark 2 := .mk _; rintro e u1 ⟨rfl, hb⟩; replace hw : Below w.heap.size w u1 := rbel_on hb (hw); replace PP : Row u1 (w.heap.size) [.int .i64 (a), .int .i64 (b), .int .i64 (c), .int .i64 (d)] := Row.on hb (PP); replace cP0 := PP.c 0 _ rfl; replace cP1 := PP.c 1 _ rfl; replace cP2 := PP.c 2 _ rfl; replace cP3 := PP.c 3 _ rfl; replace zP := PP.lt; clear hb) | (go_at_call 207; have cq : Mark 2 := cnt; refine (isTime_yes _ _ (by assumption)).mono ?_; clear cq cnt; have cnt : Mark 3 := .mk _; rintro e u2 ⟨rfl, hb⟩; replace hw : Below w.heap.size w u2 := rbel_on hb (hw); replace PP : Row u2 (w.heap.size) [.int .i64 (a), .int .i64 (b), .int .i64 (c), .int .i64 (d)] := Row.on hb (PP); replace cP0 := PP.c 0 _ rfl; replace cP1 := PP.c 1 _ rfl; replace cP2 := PP.c 2 _ rfl; replace cP3 := PP.c 3 _ rfl; replace zP := PP.lt; clear hb) | (go_at_call 207; have cq : Mark 3 := cnt; refine (isTime_yes _ _ (by assumption)).mono ?_; clear cq cnt; have cnt : Mark 4 := .mk _; rintro e u3 ⟨rfl, hb⟩; replace hw : Below w.heap.size w u3 := rbel_on hb (hw); replace PP : Row u3 (w.heap.size) [.int .i64 (a), .int .i64 (b), .int .i64 (c), .int .i64 (d)] := Row.on hb (PP); replace cP0 := PP.c 0 _ rfl; replace cP1 := PP.c 1 _ rfl; replace cP2 := PP.c 2 _ rfl; replace cP3 := PP.c 3 _ rfl; replace zP := PP.lt; clear hb))
 go_ret
 exact ⟨rfl, by (repeat (first | assumption | exact Below.refl _ _ | refine Below.alloc ?_ (by first | (simp; done) | (simp; omega) | omega) _ | refine Below.setCell ?_ (by first | (with_reducible assumption) | (simp; done) | (simp; omega) | omega) _ | apply Below.drew | apply below_drewN | refine below_tr (by assumption) ?_))⟩

theorem pcheck_z (a b c d : Int) (w : World) (h0 : tmB a = true) (h1 : tmB b = true) (h2 : tmB c = true) (h3 : tmB d = true) (h4 : a ≤ d) (h5 : b ≤ c) :
  Calls Tryz.prog 205 #[.agg #[.int .i64 a, .int .i64 b, .int .i64 c, .int .i64 d]] w fun e w' => e = .returned (.nilIface) ∧ Below w.heap.size w w' := by
 have cnt : Mark 0 := .mk _
 go_enter Tryz.func205, Tryz.ntmps205
 go_wp2_with (first | (go_at_call 207; have cq : Mark 0 := cnt; refine (isTime_yes _ _ (by assumption)).mono ?_; clear cq cnt; have cnt : Mark 1 := .mk _; rintro e u0 ⟨rfl, hb⟩; replace hw : Below w.heap.size w u0 := rbel_on hb (rbel_al (Below.refl _ _)); replace PP : Row u0 (w.heap.size) [.int .i64 (a), .int .i64 (b), .int .i64 (c), .int .i64 (d)] := Row.on hb (Row.made (by simp)); replace cP0 := PP.c 0 _ rfl; replace cP1 := PP.c 1 _ rfl; replace cP2 := PP.c 2 _ rfl; replace cP3 := PP.c 3 _ rfl; replace zP := PP.lt; clear hb) | (go_at_call 207; have cq : Mark 1 := cnt; refine (isTime_yes _ _ (by assumption)).mono ?_; clear cq cnt; have cnt : Mark 2 := .mk _; rintro e u1 ⟨rfl, hb⟩; replace hw : Below w.heap.size w u1 := rbel_on hb (hw); replace PP : Row u1 (w.heap.size) [.int .i64 (a), .int .i64 (b), .int .i64 (c), .int .i64 (d)] := Row.on hb (PP); replace cP0 := PP.c 0 _ rfl; replace cP1 := PP.c 1 _ rfl; replace cP2 := PP.c 2 _ rfl; replace cP3 := PP.c 3 _ rfl; replace zP := PP.lt; clear hb) | (go_at_call 207; have cq : Mark 2 := cnt; refine (isTime_yes _ _ (by assumption)).mono ?_; clear cq cnt; have cnt : Mark 3 := .mk _; rintro e u2 ⟨rfl, hb⟩; replace hw : Below w.heap.size w u2 := rbel_on hb (hw); replace PP : Row u2 (w.heap.size) [.int .i64 (a), .int .i64 (b), .int .i64 (c), .int .i64 (d)] := Row.on hb (PP); replace cP0 := PP.c 0 _ rfl; replace cP1 := PP.c 1 _ rfl; replace cP2 := PP.c 2 _ rfl; replace cP3 := PP.c 3 _ rfl; replace zP := PP.lt; clear hb) | (go_at_call 207; have cq : Mark 3 := cnt; refine (isTime_yes _ _ (by assumption)).mono ?_; clear cq cnt; have cnt : Mark 4 := .mk _; rintro e u3 ⟨rfl, hb⟩; replace hw : Below w.heap.size w u3 := rbel_on hb (hw); replace PP : Row u3 (w.heap.size) [.int .i64 (a), .int .i64 (b), .int .i64 (c), .int .i64 (d)] := Row.on hb (PP); replace cP0 := PP.c 0 _ rfl; replace cP1 := PP.c 1 _ rfl; replace cP2 := PP.c 2 _ rfl; replace cP3 := PP.c 3 _ rfl; replace zP := PP.lt; clear hb))
 go_ret
 exact ⟨rfl, by (repeat (first | assumption | exact Below.refl _ _ | refine Below.alloc ?_ (by first | (simp; done) | (simp; omega) | omega) _ | refine Below.setCell ?_ (by first | (with_reducible assumption) | (simp; done) | (simp; omega) | omega) _ | apply Below.drew | apply below_drewN | refine below_tr (by assumption) ?_))⟩

theorem pcheck_ok (a b c d : Int) (w : World) (h : pE a b c d = 0) :
  Calls Tryz.prog 205 #[.agg #[.int .i64 a, .int .i64 b, .int .i64 c, .int .i64 d]] w fun e w' => e = .returned (.nilIface) ∧ Below w.heap.size w w' := by
 obtain ⟨h0, h1, h2, h3, h4, h5⟩ := pE_zero h
 exact pcheck_z a b c d w h0 h1 h2 h3 h4 h5

theorem pcheck_no (a b c d : Int) (w : World) (h : pE a b c d ≠ 0) :
  Calls Tryz.prog 205 #[.agg #[.int .i64 a, .int .i64 b, .int .i64 c, .int .i64 d]] w fun e w' => e = .returned (.iface 86 (.int .i64 (pE a b c d))) ∧ Below w.heap.size w w' := by
 rcases pE_some h with ⟨e, k⟩ | ⟨e, h0, h1, h2, h3, k⟩
 ·rw [e]
  cases h0 : tmB a with
  | false => exact pcheck_a a b c d w h0
  | true =>
  cases h1 : tmB b with
  | false => exact pcheck_b a b c d w h0 h1
  | true =>
  cases h2 : tmB c with
  | false => exact pcheck_c a b c d w h0 h1 h2
  | true =>
  cases h3 : tmB d with
  | false => exact pcheck_d a b c d w h0 h1 h2 h3
  | true => simp [h0, h1, h2, h3] at k
 ·rw [e]
  by_cases h4 : d < a
  ·exact pcheck_x a b c d w h0 h1 h2 h3 h4
  ·exact pcheck_y a b c d w h0 h1 h2 h3 (by omega) (by omega)

set_option maxHeartbeats 2000000
theorem growT_at (n p g : Int) (w : World) (h : rdy n p = true) (hg : Hid (g = (n * 3 * p + 1000000 - 1) / 1000000)) :
  Calls Tryz.prog 206 #[.int .i64 n, .int .i64 3, .int .i64 p] w fun e w' => e = .returned (.tuple #[.int .i64 g, .nilIface]) ∧ Below w.heap.size w w' := by
 rw [hg.out]; exact growT_ok n 3 p w h (by decide) (by decide)
theorem grow_b {n p : Int} (h : rdy n p = true) : 0 ≤ (n * 3 * p + 1000000 - 1) / 1000000 ∧ (n * 3 * p + 1000000 - 1) / 1000000 ≤ 3000000001 := by
 obtain ⟨h1, h2, h3, h4⟩ := rdy_t h
 have e : n * 3 * p = 3 * (n * p) := by rw [Int.mul_comm n 3, Int.mul_assoc]
 have := np_b h1 h2 h3 h4
 rw [e]
 generalize n * p = X at *
 omega

theorem off_p (a b c d p : Int) (w : World) (h : pE a b c d ≠ 0) :
  Calls Tryz.prog 196 #[.agg #[.int .i64 a, .int .i64 b, .int .i64 c, .int .i64 d], .int .i64 p] w fun e w' => e = .returned (.tuple #[.agg #[.int .i64 0, .int .i64 0], .iface 86 (.int .i64 (pE a b c d))]) ∧ Below w.heap.size w w' := by
 have cnt : Mark 0 := .mk _
 go_enter Tryz.func196, Tryz.ntmps196
 go_wp2_with (first | (go_at_call 205; have cq : Mark 0 := cnt; refine (pcheck_no a b c d _ h).mono ?_; clear cq cnt; have cnt : Mark 1 := .mk _; rintro e u0 ⟨rfl, hb⟩; replace hw : Below w.heap.size w u0 := rbel_on hb (rbel_al (rbel_al (Below.refl _ _))); replace PP : Row u0 (w.heap.size) [.int .i64 (a), .int .i64 (b), .int .i64 (c), .int .i64 (d)] := Row.on hb (Row.al (Row.made (by simp))); replace cP0 := PP.c 0 _ rfl; replace cP1 := PP.c 1 _ rfl; replace cP2 := PP.c 2 _ rfl; replace cP3 := PP.c 3 _ rfl; replace zP := PP.lt; replace PR : Row u0 (w.heap.size + 1) [.int .i64 0, .int .i64 0] := Row.on hb (Row.made (by simp)); replace cR0 := PR.c 0 _ rfl; replace cR1 := PR.c 1 _ rfl; replace zR := PR.lt; replace fR0 := PR.f 0 _ rfl; replace fR1 := PR.f 1 _ rfl; clear hb))
 exact bodyPost_ret (v := _) (by simp [results, Tryz.results196, go_sem, *]) rfl ⟨rfl, by (repeat (first | assumption | exact Below.refl _ _ | refine Below.alloc ?_ (by first | (simp; done) | (simp; omega) | omega) _ | refine Below.setCell ?_ (by first | (with_reducible assumption) | (simp; done) | (simp; omega) | omega) _ | apply Below.drew | apply below_drewN | refine below_tr (by assumption) ?_))⟩

theorem off_r (a b c d p : Int) (w : World) (h : pE a b c d = 0) (k : rdy (d - a) p = false) :
  Calls Tryz.prog 196 #[.agg #[.int .i64 a, .int .i64 b, .int .i64 c, .int .i64 d], .int .i64 p] w fun e w' => e = .returned (.tuple #[.agg #[.int .i64 0, .int .i64 0], .iface 86 (.int .i64 (1))]) ∧ Below w.heap.size w w' := by
 have cnt : Mark 0 := .mk _
 have q := pE_zero h
 have qa := tmB_t q.1
 have qb := tmB_t q.2.1
 have qc := tmB_t q.2.2.1
 have qd := tmB_t q.2.2.2.1
 have qx := q.2.2.2.2.1
 have qy := q.2.2.2.2.2
 clear q
 obtain ⟨a1, a2⟩ := qa
 obtain ⟨b1, b2⟩ := qb
 obtain ⟨c1, c2⟩ := qc
 obtain ⟨d1, d2⟩ := qd
 go_enter Tryz.func196, Tryz.ntmps196
 go_wp2_with (first | (go_at_call 205; have cq : Mark 0 := cnt; refine (pcheck_ok a b c d _ h).mono ?_; clear cq cnt; have cnt : Mark 1 := .mk _; rintro e u0 ⟨rfl, hb⟩; replace hw : Below w.heap.size w u0 := rbel_on hb (rbel_al (rbel_al (Below.refl _ _))); replace PP : Row u0 (w.heap.size) [.int .i64 (a), .int .i64 (b), .int .i64 (c), .int .i64 (d)] := Row.on hb (Row.al (Row.made (by simp))); replace cP0 := PP.c 0 _ rfl; replace cP1 := PP.c 1 _ rfl; replace cP2 := PP.c 2 _ rfl; replace cP3 := PP.c 3 _ rfl; replace zP := PP.lt; replace PR : Row u0 (w.heap.size + 1) [.int .i64 0, .int .i64 0] := Row.on hb (Row.made (by simp)); replace cR0 := PR.c 0 _ rfl; replace cR1 := PR.c 1 _ rfl; replace zR := PR.lt; replace fR0 := PR.f 0 _ rfl; replace fR1 := PR.f 1 _ rfl; clear hb) | (go_at_call 206; have cq : Mark 1 := cnt; refine (growT_no (d - a) 3 p _ k).mono ?_; clear cq cnt; have cnt : Mark 2 := .mk _; rintro e u1 ⟨rfl, hb⟩; replace hw : Below w.heap.size w u1 := rbel_on hb (hw); replace PP : Row u1 (w.heap.size) [.int .i64 (a), .int .i64 (b), .int .i64 (c), .int .i64 (d)] := Row.on hb (PP); replace cP0 := PP.c 0 _ rfl; replace cP1 := PP.c 1 _ rfl; replace cP2 := PP.c 2 _ rfl; replace cP3 := PP.c 3 _ rfl; replace zP := PP.lt; replace PR : Row u1 (w.heap.size + 1) [.int .i64 0, .int .i64 0] := Row.on hb (PR); replace cR0 := PR.c 0 _ rfl; replace cR1 := PR.c 1 _ rfl; replace zR := PR.lt; replace fR0 := PR.f 0 _ rfl; replace fR1 := PR.f 1 _ rfl; clear hb))
 exact bodyPost_ret (v := _) (by simp [results, Tryz.results196, go_sem, *]) rfl ⟨rfl, by (repeat (first | assumption | exact Below.refl _ _ | refine Below.alloc ?_ (by first | (simp; done) | (simp; omega) | omega) _ | refine Below.setCell ?_ (by first | (with_reducible assumption) | (simp; done) | (simp; omega) | omega) _ | apply Below.drew | apply below_drewN | refine below_tr (by assumption) ?_))⟩

theorem off_lo (a b c d p : Int) (w : World) (h : pE a b c d = 0) (k : rdy (d - a) p = true) (g : Int) (hg : Hid (g = ((d - a) * 3 * p + 1000000 - 1) / 1000000)) (g1 : 0 ≤ g) (g2 : g ≤ 3000000001) (l : tmB (c - d) = false) :
  Calls Tryz.prog 196 #[.agg #[.int .i64 a, .int .i64 b, .int .i64 c, .int .i64 d], .int .i64 p] w fun e w' => e = .returned (.tuple #[.agg #[.int .i64 0, .int .i64 0], .iface 86 (.int .i64 (1))]) ∧ Below w.heap.size w w' := by
 have cnt : Mark 0 := .mk _
 have q := pE_zero h
 have qa := tmB_t q.1
 have qb := tmB_t q.2.1
 have qc := tmB_t q.2.2.1
 have qd := tmB_t q.2.2.2.1
 have qx := q.2.2.2.2.1
 have qy := q.2.2.2.2.2
 clear q
 obtain ⟨a1, a2⟩ := qa
 obtain ⟨b1, b2⟩ := qb
 obtain ⟨c1, c2⟩ := qc
 obtain ⟨d1, d2⟩ := qd
 go_enter Tryz.func196, Tryz.ntmps196
 go_wp2_with (first | (go_at_call 205; have cq : Mark 0 := cnt; refine (pcheck_ok a b c d _ h).mono ?_; clear cq cnt; have cnt : Mark 1 := .mk _; rintro e u0 ⟨rfl, hb⟩; replace hw : Below w.heap.size w u0 := rbel_on hb (rbel_al (rbel_al (Below.refl _ _))); replace PP : Row u0 (w.heap.size) [.int .i64 (a), .int .i64 (b), .int .i64 (c), .int .i64 (d)] := Row.on hb (Row.al (Row.made (by simp))); replace cP0 := PP.c 0 _ rfl; replace cP1 := PP.c 1 _ rfl; replace cP2 := PP.c 2 _ rfl; replace cP3 := PP.c 3 _ rfl; replace zP := PP.lt; replace PR : Row u0 (w.heap.size + 1) [.int .i64 0, .int .i64 0] := Row.on hb (Row.made (by simp)); replace cR0 := PR.c 0 _ rfl; replace cR1 := PR.c 1 _ rfl; replace zR := PR.lt; replace fR0 := PR.f 0 _ rfl; replace fR1 := PR.f 1 _ rfl; clear hb) | (go_at_call 206; have cq : Mark 1 := cnt; refine (growT_at (d - a) p g _ k hg).mono ?_; clear cq cnt; have cnt : Mark 2 := .mk _; rintro e u1 ⟨rfl, hb⟩; replace hw : Below w.heap.size w u1 := rbel_on hb (hw); replace PP : Row u1 (w.heap.size) [.int .i64 (a), .int .i64 (b), .int .i64 (c), .int .i64 (d)] := Row.on hb (PP); replace cP0 := PP.c 0 _ rfl; replace cP1 := PP.c 1 _ rfl; replace cP2 := PP.c 2 _ rfl; replace cP3 := PP.c 3 _ rfl; replace zP := PP.lt; replace PR : Row u1 (w.heap.size + 1) [.int .i64 0, .int .i64 0] := Row.on hb (PR); replace cR0 := PR.c 0 _ rfl; replace cR1 := PR.c 1 _ rfl; replace zR := PR.lt; replace fR0 := PR.f 0 _ rfl; replace fR1 := PR.f 1 _ rfl; have y1_P_0 : w.heap.size < u1.heap.size := (by omega); have n1_P_0 : ¬ (u1.heap.size = w.heap.size) := (by omega); have m1_P_0 : ¬ (w.heap.size = u1.heap.size) := (by omega); have y1_R_0 : w.heap.size + 1 < u1.heap.size := (by omega); have n1_R_0 : ¬ (u1.heap.size = w.heap.size + 1) := (by omega); have m1_R_0 : ¬ (w.heap.size + 1 = u1.heap.size) := (by omega); clear hb) | (go_at_call 207; have cq : Mark 2 := cnt; refine (isTime_no _ _ l).mono ?_; clear cq cnt; have cnt : Mark 3 := .mk _; rintro e u2 ⟨rfl, hb⟩; replace hw : Below w.heap.size w u2 := rbel_on hb (rbel_al (hw)); replace PP : Row u2 (w.heap.size) [.int .i64 (a), .int .i64 (b), .int .i64 (c), .int .i64 (d)] := Row.on hb (Row.al (PP)); replace cP0 := PP.c 0 _ rfl; replace cP1 := PP.c 1 _ rfl; replace cP2 := PP.c 2 _ rfl; replace cP3 := PP.c 3 _ rfl; replace zP := PP.lt; replace PR : Row u2 (w.heap.size + 1) [.int .i64 0, .int .i64 0] := Row.on hb (Row.al (PR)); replace cR0 := PR.c 0 _ rfl; replace cR1 := PR.c 1 _ rfl; replace zR := PR.lt; replace fR0 := PR.f 0 _ rfl; replace fR1 := PR.f 1 _ rfl; replace PS : Row u2 (u1.heap.size) [.int .i64 (c - d), .int .i64 (b - a + 2 + g)] := Row.on hb (Row.made (by simp)); replace cS0 := PS.c 0 _ rfl; replace cS1 := PS.c 1 _ rfl; replace zS := PS.lt; clear hb))
 exact bodyPost_ret (v := _) (by simp [results, Tryz.results196, go_sem, *]) rfl ⟨rfl, by (repeat (first | assumption | exact Below.refl _ _ | refine Below.alloc ?_ (by first | (simp; done) | (simp; omega) | omega) _ | refine Below.setCell ?_ (by first | (with_reducible assumption) | (simp; done) | (simp; omega) | omega) _ | apply Below.drew | apply below_drewN | refine below_tr (by assumption) ?_))⟩

theorem off_hi (a b c d p : Int) (w : World) (h : pE a b c d = 0) (k : rdy (d - a) p = true) (g : Int) (hg : Hid (g = ((d - a) * 3 * p + 1000000 - 1) / 1000000)) (g1 : 0 ≤ g) (g2 : g ≤ 3000000001) (l : tmB (c - d) = true) (m : tmB (b - a + 2 + g) = false) :
  Calls Tryz.prog 196 #[.agg #[.int .i64 a, .int .i64 b, .int .i64 c, .int .i64 d], .int .i64 p] w fun e w' => e = .returned (.tuple #[.agg #[.int .i64 0, .int .i64 0], .iface 86 (.int .i64 (1))]) ∧ Below w.heap.size w w' := by
 have cnt : Mark 0 := .mk _
 have q := pE_zero h
 have qa := tmB_t q.1
 have qb := tmB_t q.2.1
 have qc := tmB_t q.2.2.1
 have qd := tmB_t q.2.2.2.1
 have qx := q.2.2.2.2.1
 have qy := q.2.2.2.2.2
 clear q
 obtain ⟨a1, a2⟩ := qa
 obtain ⟨b1, b2⟩ := qb
 obtain ⟨c1, c2⟩ := qc
 obtain ⟨d1, d2⟩ := qd
 go_enter Tryz.func196, Tryz.ntmps196
 go_wp2_with (first | (go_at_call 205; have cq : Mark 0 := cnt; refine (pcheck_ok a b c d _ h).mono ?_; clear cq cnt; have cnt : Mark 1 := .mk _; rintro e u0 ⟨rfl, hb⟩; replace hw : Below w.heap.size w u0 := rbel_on hb (rbel_al (rbel_al (Below.refl _ _))); replace PP : Row u0 (w.heap.size) [.int .i64 (a), .int .i64 (b), .int .i64 (c), .int .i64 (d)] := Row.on hb (Row.al (Row.made (by simp))); replace cP0 := PP.c 0 _ rfl; replace cP1 := PP.c 1 _ rfl; replace cP2 := PP.c 2 _ rfl; replace cP3 := PP.c 3 _ rfl; replace zP := PP.lt; replace PR : Row u0 (w.heap.size + 1) [.int .i64 0, .int .i64 0] := Row.on hb (Row.made (by simp)); replace cR0 := PR.c 0 _ rfl; replace cR1 := PR.c 1 _ rfl; replace zR := PR.lt; replace fR0 := PR.f 0 _ rfl; replace fR1 := PR.f 1 _ rfl; clear hb) | (go_at_call 206; have cq : Mark 1 := cnt; refine (growT_at (d - a) p g _ k hg).mono ?_; clear cq cnt; have cnt : Mark 2 := .mk _; rintro e u1 ⟨rfl, hb⟩; replace hw : Below w.heap.size w u1 := rbel_on hb (hw); replace PP : Row u1 (w.heap.size) [.int .i64 (a), .int .i64 (b), .int .i64 (c), .int .i64 (d)] := Row.on hb (PP); replace cP0 := PP.c 0 _ rfl; replace cP1 := PP.c 1 _ rfl; replace cP2 := PP.c 2 _ rfl; replace cP3 := PP.c 3 _ rfl; replace zP := PP.lt; replace PR : Row u1 (w.heap.size + 1) [.int .i64 0, .int .i64 0] := Row.on hb (PR); replace cR0 := PR.c 0 _ rfl; replace cR1 := PR.c 1 _ rfl; replace zR := PR.lt; replace fR0 := PR.f 0 _ rfl; replace fR1 := PR.f 1 _ rfl; have y1_P_0 : w.heap.size < u1.heap.size := (by omega); have n1_P_0 : ¬ (u1.heap.size = w.heap.size) := (by omega); have m1_P_0 : ¬ (w.heap.size = u1.heap.size) := (by omega); have y1_R_0 : w.heap.size + 1 < u1.heap.size := (by omega); have n1_R_0 : ¬ (u1.heap.size = w.heap.size + 1) := (by omega); have m1_R_0 : ¬ (w.heap.size + 1 = u1.heap.size) := (by omega); clear hb) | (go_at_call 207; have cq : Mark 2 := cnt; refine (isTime_yes _ _ l).mono ?_; clear cq cnt; have cnt : Mark 3 := .mk _; rintro e u2 ⟨rfl, hb⟩; replace hw : Below w.heap.size w u2 := rbel_on hb (rbel_al (hw)); replace PP : Row u2 (w.heap.size) [.int .i64 (a), .int .i64 (b), .int .i64 (c), .int .i64 (d)] := Row.on hb (Row.al (PP)); replace cP0 := PP.c 0 _ rfl; replace cP1 := PP.c 1 _ rfl; replace cP2 := PP.c 2 _ rfl; replace cP3 := PP.c 3 _ rfl; replace zP := PP.lt; replace PR : Row u2 (w.heap.size + 1) [.int .i64 0, .int .i64 0] := Row.on hb (Row.al (PR)); replace cR0 := PR.c 0 _ rfl; replace cR1 := PR.c 1 _ rfl; replace zR := PR.lt; replace fR0 := PR.f 0 _ rfl; replace fR1 := PR.f 1 _ rfl; replace PS : Row u2 (u1.heap.size) [.int .i64 (c - d), .int .i64 (b - a + 2 + g)] := Row.on hb (Row.made (by simp)); replace cS0 := PS.c 0 _ rfl; replace cS1 := PS.c 1 _ rfl; replace zS := PS.lt; clear hb) | (go_at_call 207; have cq : Mark 3 := cnt; refine (isTime_no _ _ m).mono ?_; clear cq cnt; have cnt : Mark 4 := .mk _; rintro e u3 ⟨rfl, hb⟩; replace hw : Below w.heap.size w u3 := rbel_on hb (hw); replace PP : Row u3 (w.heap.size) [.int .i64 (a), .int .i64 (b), .int .i64 (c), .int .i64 (d)] := Row.on hb (PP); replace cP0 := PP.c 0 _ rfl; replace cP1 := PP.c 1 _ rfl; replace cP2 := PP.c 2 _ rfl; replace cP3 := PP.c 3 _ rfl; replace zP := PP.lt; replace PR : Row u3 (w.heap.size + 1) [.int .i64 0, .int .i64 0] := Row.on hb (PR); replace cR0 := PR.c 0 _ rfl; replace cR1 := PR.c 1 _ rfl; replace zR := PR.lt; replace fR0 := PR.f 0 _ rfl; replace fR1 := PR.f 1 _ rfl; replace PS : Row u3 (u1.heap.size) [.int .i64 (c - d), .int .i64 (b - a + 2 + g)] := Row.on hb (PS); replace cS0 := PS.c 0 _ rfl; replace cS1 := PS.c 1 _ rfl; replace zS := PS.lt; clear hb))
 exact bodyPost_ret (v := _) (by simp [results, Tryz.results196, go_sem, *]) rfl ⟨rfl, by (repeat (first | assumption | exact Below.refl _ _ | refine Below.alloc ?_ (by first | (simp; done) | (simp; omega) | omega) _ | refine Below.setCell ?_ (by first | (with_reducible assumption) | (simp; done) | (simp; omega) | omega) _ | apply Below.drew | apply below_drewN | refine below_tr (by assumption) ?_))⟩

theorem off_xJ (a b c d p : Int) (w : World) (h : pE a b c d = 0) (k : rdy (d - a) p = true) (g : Int) (hg : Hid (g = ((d - a) * 3 * p + 1000000 - 1) / 1000000)) (g1 : 0 ≤ g) (g2 : g ≤ 3000000001) (l : tmB (c - d) = true) (m : tmB (b - a + 2 + g) = true) (E : Value) (H : ((b - a + 2 + g < c - d) ∧ E = (.tuple #[.agg #[.int .i64 0, .int .i64 0], .iface 86 (.int .i64 (7))])) ∨ ((c - d ≤ b - a + 2 + g) ∧ E = (.tuple #[.agg #[.int .i64 (c - d), .int .i64 (b - a + 2 + g)], .nilIface]))) :
  Calls Tryz.prog 196 #[.agg #[.int .i64 a, .int .i64 b, .int .i64 c, .int .i64 d], .int .i64 p] w fun e w' => e = .returned E ∧ Below w.heap.size w w' := by
 rcases H with ⟨n, rfl⟩ | ⟨n, rfl⟩
 all_goals
  have cnt : Mark 0 := .mk _
  have q := pE_zero h
  have qa := tmB_t q.1
  have qb := tmB_t q.2.1
  have qc := tmB_t q.2.2.1
  have qd := tmB_t q.2.2.2.1
  have qx := q.2.2.2.2.1
  have qy := q.2.2.2.2.2
  clear q
  obtain ⟨a1, a2⟩ := qa
  obtain ⟨b1, b2⟩ := qb
  obtain ⟨c1, c2⟩ := qc
  obtain ⟨d1, d2⟩ := qd
  go_enter Tryz.func196, Tryz.ntmps196
  go_wp2_with (first | (go_at_call 205; have cq : Mark 0 := cnt; refine (pcheck_ok a b c d _ h).mono ?_; clear cq cnt; have cnt : Mark 1 := .mk _; rintro e u0 ⟨rfl, hb⟩; replace hw : Below w.heap.size w u0 := rbel_on hb (rbel_al (rbel_al (Below.refl _ _))); replace PP : Row u0 (w.heap.size) [.int .i64 (a), .int .i64 (b), .int .i64 (c), .int .i64 (d)] := Row.on hb (Row.al (Row.made (by simp))); replace cP0 := PP.c 0 _ rfl; replace cP1 := PP.c 1 _ rfl; replace cP2 := PP.c 2 _ rfl; replace cP3 := PP.c 3 _ rfl; replace zP := PP.lt; replace PR : Row u0 (w.heap.size + 1) [.int .i64 0, .int .i64 0] := Row.on hb (Row.made (by simp)); replace cR0 := PR.c 0 _ rfl; replace cR1 := PR.c 1 _ rfl; replace zR := PR.lt; replace fR0 := PR.f 0 _ rfl; replace fR1 := PR.f 1 _ rfl; clear hb) | (go_at_call 206; have cq : Mark 1 := cnt; refine (growT_at (d - a) p g _ k hg).mono ?_; clear cq cnt; have cnt : Mark 2 := .mk _; rintro e u1 ⟨rfl, hb⟩; replace hw : Below w.heap.size w u1 := rbel_on hb (hw); replace PP : Row u1 (w.heap.size) [.int .i64 (a), .int .i64 (b), .int .i64 (c), .int .i64 (d)] := Row.on hb (PP); replace cP0 := PP.c 0 _ rfl; replace cP1 := PP.c 1 _ rfl; replace cP2 := PP.c 2 _ rfl; replace cP3 := PP.c 3 _ rfl; replace zP := PP.lt; replace PR : Row u1 (w.heap.size + 1) [.int .i64 0, .int .i64 0] := Row.on hb (PR); replace cR0 := PR.c 0 _ rfl; replace cR1 := PR.c 1 _ rfl; replace zR := PR.lt; replace fR0 := PR.f 0 _ rfl; replace fR1 := PR.f 1 _ rfl; have y1_P_0 : w.heap.size < u1.heap.size := (by omega); have n1_P_0 : ¬ (u1.heap.size = w.heap.size) := (by omega); have m1_P_0 : ¬ (w.heap.size = u1.heap.size) := (by omega); have y1_R_0 : w.heap.size + 1 < u1.heap.size := (by omega); have n1_R_0 : ¬ (u1.heap.size = w.heap.size + 1) := (by omega); have m1_R_0 : ¬ (w.heap.size + 1 = u1.heap.size) := (by omega); clear hb) | (go_at_call 207; have cq : Mark 2 := cnt; refine (isTime_yes _ _ l).mono ?_; clear cq cnt; have cnt : Mark 3 := .mk _; rintro e u2 ⟨rfl, hb⟩; replace hw : Below w.heap.size w u2 := rbel_on hb (rbel_al (hw)); replace PP : Row u2 (w.heap.size) [.int .i64 (a), .int .i64 (b), .int .i64 (c), .int .i64 (d)] := Row.on hb (Row.al (PP)); replace cP0 := PP.c 0 _ rfl; replace cP1 := PP.c 1 _ rfl; replace cP2 := PP.c 2 _ rfl; replace cP3 := PP.c 3 _ rfl; replace zP := PP.lt; replace PR : Row u2 (w.heap.size + 1) [.int .i64 0, .int .i64 0] := Row.on hb (Row.al (PR)); replace cR0 := PR.c 0 _ rfl; replace cR1 := PR.c 1 _ rfl; replace zR := PR.lt; replace fR0 := PR.f 0 _ rfl; replace fR1 := PR.f 1 _ rfl; replace PS : Row u2 (u1.heap.size) [.int .i64 (c - d), .int .i64 (b - a + 2 + g)] := Row.on hb (Row.made (by simp)); replace cS0 := PS.c 0 _ rfl; replace cS1 := PS.c 1 _ rfl; replace zS := PS.lt; clear hb) | (go_at_call 207; have cq : Mark 3 := cnt; refine (isTime_yes _ _ m).mono ?_; clear cq cnt; have cnt : Mark 4 := .mk _; rintro e u3 ⟨rfl, hb⟩; replace hw : Below w.heap.size w u3 := rbel_on hb (hw); replace PP : Row u3 (w.heap.size) [.int .i64 (a), .int .i64 (b), .int .i64 (c), .int .i64 (d)] := Row.on hb (PP); replace cP0 := PP.c 0 _ rfl; replace cP1 := PP.c 1 _ rfl; replace cP2 := PP.c 2 _ rfl; replace cP3 := PP.c 3 _ rfl; replace zP := PP.lt; replace PR : Row u3 (w.heap.size + 1) [.int .i64 0, .int .i64 0] := Row.on hb (PR); replace cR0 := PR.c 0 _ rfl; replace cR1 := PR.c 1 _ rfl; replace zR := PR.lt; replace fR0 := PR.f 0 _ rfl; replace fR1 := PR.f 1 _ rfl; replace PS : Row u3 (u1.heap.size) [.int .i64 (c - d), .int .i64 (b - a + 2 + g)] := Row.on hb (PS); replace cS0 := PS.c 0 _ rfl; replace cS1 := PS.c 1 _ rfl; replace zS := PS.lt; clear hb))
  exact bodyPost_ret (v := _) (by simp [results, Tryz.results196, go_sem, *]) rfl ⟨rfl, by (repeat (first | assumption | exact Below.refl _ _ | refine Below.alloc ?_ (by first | (simp; done) | (simp; omega) | omega) _ | refine Below.setCell ?_ (by first | (with_reducible assumption) | (simp; done) | (simp; omega) | omega) _ | apply Below.drew | apply below_drewN | refine below_tr (by assumption) ?_))⟩
theorem off_x (a b c d p : Int) (w : World) (h : pE a b c d = 0) (k : rdy (d - a) p = true) (g : Int) (hg : Hid (g = ((d - a) * 3 * p + 1000000 - 1) / 1000000)) (g1 : 0 ≤ g) (g2 : g ≤ 3000000001) (l : tmB (c - d) = true) (m : tmB (b - a + 2 + g) = true) (n : b - a + 2 + g < c - d) : Calls Tryz.prog 196 #[.agg #[.int .i64 a, .int .i64 b, .int .i64 c, .int .i64 d], .int .i64 p] w fun e w' => e = .returned (.tuple #[.agg #[.int .i64 0, .int .i64 0], .iface 86 (.int .i64 (7))]) ∧ Below w.heap.size w w' := off_xJ a b c d p w h k g hg g1 g2 l m (.tuple #[.agg #[.int .i64 0, .int .i64 0], .iface 86 (.int .i64 (7))]) (Or.inl ⟨n, rfl⟩)
theorem off_y (a b c d p : Int) (w : World) (h : pE a b c d = 0) (k : rdy (d - a) p = true) (g : Int) (hg : Hid (g = ((d - a) * 3 * p + 1000000 - 1) / 1000000)) (g1 : 0 ≤ g) (g2 : g ≤ 3000000001) (l : tmB (c - d) = true) (m : tmB (b - a + 2 + g) = true) (n : c - d ≤ b - a + 2 + g) : Calls Tryz.prog 196 #[.agg #[.int .i64 a, .int .i64 b, .int .i64 c, .int .i64 d], .int .i64 p] w fun e w' => e = .returned (.tuple #[.agg #[.int .i64 (c - d), .int .i64 (b - a + 2 + g)], .nilIface]) ∧ Below w.heap.size w w' := off_xJ a b c d p w h k g hg g1 g2 l m (.tuple #[.agg #[.int .i64 (c - d), .int .i64 (b - a + 2 + g)], .nilIface]) (Or.inr (⟨n, rfl⟩))
theorem off_ok (a b c d p : Int) (w : World) (h : oE a b c d p = 0) :
  Calls Tryz.prog 196 #[.agg #[.int .i64 a, .int .i64 b, .int .i64 c, .int .i64 d], .int .i64 p] w fun e w' => e = .returned (.tuple #[.agg #[.int .i64 (c - d), .int .i64 (oH a b d p)], .nilIface]) ∧ Below w.heap.size w w' := by
 obtain ⟨h1, h2, h3, h4, h5⟩ := oE_zero h
 have g := grow_b h2
 exact off_y a b c d p w h1 h2 _ rfl g.1 g.2 h3 h4 h5

theorem off_no (a b c d p : Int) (w : World) (h : oE a b c d p ≠ 0) :
  Calls Tryz.prog 196 #[.agg #[.int .i64 a, .int .i64 b, .int .i64 c, .int .i64 d], .int .i64 p] w fun e w' => e = .returned (.tuple #[.agg #[.int .i64 0, .int .i64 0], .iface 86 (.int .i64 (oE a b c d p))]) ∧ Below w.heap.size w w' := by
 by_cases h1 : pE a b c d = 0
 ·cases h2 : rdy (d - a) p with
  | false => rw [oE_rdy h1 h2]; exact off_r a b c d p w h1 h2
  | true =>
  have g := grow_b h2
  cases h3 : tmB (c - d) with
  | false => rw [oE_lo h1 h2 h3]; exact off_lo a b c d p w h1 h2 _ rfl g.1 g.2 h3
  | true =>
  cases h4 : tmB (oH a b d p) with
  | false => rw [oE_hi h1 h2 h4]; exact off_hi a b c d p w h1 h2 _ rfl g.1 g.2 h3 h4
  | true =>
  by_cases h5 : oH a b d p < c - d
  ·rw [oE_clash h1 h2 h3 h4 h5]; exact off_x a b c d p w h1 h2 _ rfl g.1 g.2 h3 h4 h5
  ·exact absurd (oE_fine h1 h2 h3 h4 (by omega)) h
 ·rw [oE_p h1]; exact off_p a b c d p w h1

end Go.Proofs.YtadkgnbagmnkkakGreatDoor
namespace Go.Proofs.YtadkgnbagmnkkakGreatDoor
set_option linter.unusedVariables false

theorem doR_uniq {S S1 S2 : Ws} {wh a b e1 e2 : Int} {r1 r2 : Option Lt} (h : DoR S wh a b S1 r1 e1) (h' : DoR S wh a b S2 r2 e2) : S1 = S2 ∧ r1 = r2 ∧ e1 = e2 := by
 rcases h with ⟨a0, a1, rfl, rfl, rfl⟩ | ⟨a0, a1, rfl, rfl, rfl⟩ | ⟨a0, a1, rfl, rfl, rfl⟩ | ⟨a0, a1, a2, rfl, rfl, rfl⟩ | ⟨a0, a1, a2, a3, rfl, rfl, rfl⟩ | ⟨a0, a1, a2, a3, rfl, rfl, rfl⟩ | ⟨a0, a1, rfl, rfl, rfl⟩ | ⟨a0, a1, rfl, rfl, rfl⟩ | ⟨a0, a1, rfl, rfl, rfl⟩ | ⟨a0, a1, rfl, rfl, rfl⟩ | ⟨a0, rfl, rfl, rfl⟩ <;>
 rcases h' with ⟨b0, b1, rfl, rfl, rfl⟩ | ⟨b0, b1, rfl, rfl, rfl⟩ | ⟨b0, b1, rfl, rfl, rfl⟩ | ⟨b0, b1, b2, rfl, rfl, rfl⟩ | ⟨b0, b1, b2, b3, rfl, rfl, rfl⟩ | ⟨b0, b1, b2, b3, rfl, rfl, rfl⟩ | ⟨b0, b1, rfl, rfl, rfl⟩ | ⟨b0, b1, rfl, rfl, rfl⟩ | ⟨b0, b1, rfl, rfl, rfl⟩ | ⟨b0, b1, rfl, rfl, rfl⟩ | ⟨b0, rfl, rfl, rfl⟩ <;>
 first | exact ⟨rfl, rfl, rfl⟩ | (exfalso; omega) | exact absurd a1 b1 | exact absurd b1 a1 | exact absurd a2 b2 | exact absurd b2 a2
def Bnd (U : Tb) (c : Int) : Prop := ∀ i k x, U i k = some x → -(c * 1000000000000) ≤ x ∧ x ≤ c * 1000000000000
theorem Bnd.mono {U : Tb} {c c' : Int} (h : Bnd U c) (l : c ≤ c') : Bnd U c' := fun i k x e => by
 have := h i k x e; omega
theorem rlx_bnd {U : Tb} {c g : Int} (h : Bnd U c) (h0 : 0 ≤ c) (l1 : -1000000000000 ≤ g) (l2 : g ≤ 1000000000000) (i a b : Nat) : Bnd (rlx U i a b g) (c + 1) := fun i' k x e => by
 unfold rlx at e
 by_cases h' : i' = i ∧ k = b
 ·obtain ⟨rfl, rfl⟩ := h'
  rw [if_pos ⟨rfl, rfl⟩] at e
  cases ha : U i' a with
  | none => rw [ha] at e; have := h _ _ _ e; omega
  | some z =>
   have hz := h _ _ _ ha
   rw [ha] at e
   cases hb : U i' k with
   | none =>
    rw [hb] at e
    obtain rfl := Option.some.inj e
    omega
   | some y =>
    have hy := h _ _ _ hb
    rw [hb] at e
    simp only at e
    split at e
    ·obtain rfl := Option.some.inj e
     omega
    ·obtain rfl := Option.some.inj e
     omega
 ·rw [if_neg h'] at e; have := h _ _ _ e; omega
def Dn (q : Nat → Eg) (S U : Tb) (i j : Nat) : Prop := ∀ u v c x, Arc q j u v c → S i u = some x → ∃ y, U i v = some y ∧ y ≤ x + c
theorem Dn.lower {q : Nat → Eg} {S U U' : Tb} {i j : Nat} (h : Dn q S U i j) (l : Lower U U') : Dn q S U' i j := fun u v c x g e => by
 obtain ⟨y, h1, h2⟩ := h u v c x g e
 obtain ⟨z, g1, g2⟩ := l i v y h1
 exact ⟨z, g1, by omega⟩
structure Inv (q : Nat → Eg) (n m r i j : Nat) (S U : Tb) : Prop where
 sound : Sound (Arc q m) U
 lower : Lower S U
 rows : ∀ i', i' < i → Dn q S U i' m
 row : Dn q S U i j
 bnd : Bnd U (480 * r + 80 * i + 2 * j)
section
variable {q : Nat → Eg} {n m r i j : Nat} {S U : Tb}
theorem Inv.start (s : Sound (Arc q m) S) (b : Bnd S (480 * r)) : Inv q n m r 0 0 S S :=
 ⟨s, Lower.refl S, fun i' h => by omega, fun u v c x g e => by obtain ⟨j, hj, _⟩ := g; omega, b.mono (by omega)⟩
theorem Inv.step (h : Inv q n m r i j S U) (hE : Egs n q m) (hj : j < m) {A B : Nat} (hA : (q j).a = A) (hB : (q j).b = B) :
  Inv q n m r i (j + 1) S (rlx (rlx U i A B (q j).hi) i B A (-(q j).lo)) := by
 have l1 := rlx_lower U i A B (q j).hi
 have l2 := rlx_lower (rlx U i A B (q j).hi) i B A (-(q j).lo)
 obtain ⟨_, _, o⟩ := hE.each j hj
 have ob := okB_t o
 refine ⟨rlx_sound (rlx_sound h.sound ⟨j, hj, Or.inl ⟨hA.symm, hB.symm, rfl⟩⟩) ⟨j, hj, Or.inr ⟨hB.symm, hA.symm, rfl⟩⟩, h.lower.trans (l1.trans l2), fun i' hi' => (h.rows i' hi').lower (l1.trans l2), ?_, ?_⟩
 ·rintro u v c x ⟨j', hj', g⟩ e
  by_cases k : j' < j
  ·exact (h.row.lower (l1.trans l2)) u v c x ⟨j', k, g⟩ e
  ·obtain rfl : j' = j := by omega
   obtain ⟨z, e1, e2⟩ := h.lower i u x e
   rcases g with ⟨g1, g2, rfl⟩ | ⟨g1, g2, rfl⟩
   ·obtain rfl : u = A := by omega
    obtain rfl : v = B := by omega
    obtain ⟨y, y1, y2⟩ := rlx_does U i u v (q j').hi z e1
    obtain ⟨y', y3, y4⟩ := l2 i v y y1
    exact ⟨y', y3, by omega⟩
   ·obtain rfl : u = B := by omega
    obtain rfl : v = A := by omega
    obtain ⟨z', z1, z2⟩ := l1 i u z e1
    obtain ⟨y, y1, y2⟩ := rlx_does (rlx U i v u (q j').hi) i u v (-(q j').lo) z' z1
    exact ⟨y, y1, by omega⟩
 ·have b1 := rlx_bnd h.bnd (by omega) (by omega) (by omega) i A B (g := (q j).hi)
  have b2 := rlx_bnd b1 (by omega) (by omega) (by omega) i B A (g := -(q j).lo)
  exact b2.mono (by omega)
theorem Inv.next (h : Inv q n m r i m S U) (hE : Egs n q m) : Inv q n m r (i + 1) 0 S U :=
 ⟨h.sound, h.lower, fun i' hi' => by
  by_cases e : i' = i
  ·subst e; exact h.row
  ·exact h.rows i' (by omega), fun u v c x g e => by obtain ⟨j, hj, _⟩ := g; omega, h.bnd.mono (by have := hE.m40; omega)⟩
theorem Inv.round (h : Inv q n m r n 0 S U) (hE : Egs n q m) (up : Upto (Arc q m) n r S) : Upto (Arc q m) n (r + 1) U ∧ Sound (Arc q m) U ∧ Bnd U (480 * ((r + 1 : Nat) : Int)) :=
 ⟨up.next h.lower (fun i j k c x hi g e => h.rows i hi j k c x g e), h.sound, h.bnd.mono (by have := hE.n6; omega)⟩
theorem tb0_bnd : Bnd tb0 (480 * ((0 : Nat) : Int)) := fun i k x e => by
 unfold tb0 at e
 split at e
 ·obtain rfl := Option.some.inj e; omega
 ·cases e
end
def need (U : Tb) (i a b : Nat) (c : Int) : Bool := match U i a with
 | none => false
 | some x => match U i b with
  | none => true
  | some y => decide (x + c < y)
end Go.Proofs.YtadkgnbagmnkkakGreatDoor
