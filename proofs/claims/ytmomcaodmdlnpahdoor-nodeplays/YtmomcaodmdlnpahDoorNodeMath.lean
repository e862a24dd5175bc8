/- A node that knows of others: plain mathematics. -/
import Derived.Test.YtmomcaodmdlnpahDoorProbeMath
import Derived.Test.YtmomcaodmdlnpahDoorWorldMath
import Derived.Test.YtmomcaodmdlnpahDoorBoundsMath
namespace Go.Proofs.YtmomcaodmdlnpahDoor
set_option linter.unusedVariables false

/-- Who it is, of how many, its rate, what it showed last; of which others it knows anything, what, and since when. -/
structure Nd where
  id : Nat
  n : Nat
  p : Int
  h : Int
  has : Nat → Bool
  lo : Nat → Int
  hi : Nat → Int
  at_ : Nat → Int
/-- Another value at one place. -/
def updN {α : Type} (f : Nat → α) (k : Nat) (x : α) : Nat → α := fun i => if i = k then x else f i
theorem updN_at {α : Type} (f : Nat → α) (k : Nat) (x : α) : updN f k x k = x := if_pos rfl
theorem updN_ne {α : Type} {f : Nat → α} {k i : Nat} {x : α} (h : i ≠ k) : updN f k x i = f i := if_neg h
namespace Nd
/-- How much wider it is by now. -/
def sk (c : Nd) (i : Nat) (t : Int) : Int := 2 + ((t - c.at_ i) * 3 * c.p + 1000000 - 1) / 1000000
def alo (c : Nd) (i : Nat) (t : Int) : Int := c.lo i - c.sk i t
def ahi (c : Nd) (i : Nat) (t : Int) : Int := c.hi i + c.sk i t
def made (id n : Nat) (p : Int) : Nd := ⟨id, n, p, -1, fun _ => false, fun _ => 0, fun _ => 0, fun _ => 0⟩
/-- It is no time to be told anything. -/
def bk (c : Nd) (t : Int) : Prop := t < 0 ∨ 1000000000000 < t ∨ t < c.h
/-- The letter is none for it. -/
def bad (c : Nd) (l : Lt) : Prop := l.to ≠ c.id ∨ l.frm = c.id ∨ l.frm < 0 ∨ (c.n : Int) ≤ l.frm
/-- What both have. -/
def bLo (c : Nd) (k : Nat) (t a : Int) : Int := if c.has k = true then (if a < c.alo k t then c.alo k t else a) else a
def bHi (c : Nd) (k : Nat) (t b : Int) : Int := if c.has k = true then (if c.ahi k t < b then c.ahi k t else b) else b
/-- What an answer says. -/
def oL (l : Lt) (t : Int) : Int := l.t - t
def oU (c : Nd) (l : Lt) (t : Int) : Int := oH l.t1 l.t2 t c.p
def kept (c : Nd) (k : Nat) (t a b : Int) : Nd := { c with h := t, has := updN c.has k true, lo := updN c.lo k a, hi := updN c.hi k b, at_ := updN c.at_ k t }
end Nd
/-- A letter is heard: what it is behind it, whether anything is kept, the fault. -/
def HearR (c : Nd) (l : Lt) (t : Int) (c' : Nd) (B : Bool) (e : Int) : Prop :=
  (c.bk t ∧ c' = c ∧ B = false ∧ e = 8) ∨
  (¬ c.bk t ∧ c.bad l ∧ c' = c ∧ B = false ∧ e = 3) ∨
  (¬ c.bk t ∧ ¬ c.bad l ∧ l.ans = false ∧ c' = { c with h := t } ∧ B = false ∧ e = 0) ∨
  (¬ c.bk t ∧ ¬ c.bad l ∧ l.ans = true ∧ oE l.t1 l.t2 l.t t c.p ≠ 0 ∧ c' = c ∧ B = false ∧ e = oE l.t1 l.t2 l.t t c.p) ∨
  (¬ c.bk t ∧ ¬ c.bad l ∧ l.ans = true ∧ oE l.t1 l.t2 l.t t c.p = 0 ∧ c.bHi l.frm.toNat t (c.oU l t) < c.bLo l.frm.toNat t (Nd.oL l t) ∧ c' = c ∧ B = false ∧ e = 7) ∨
  (¬ c.bk t ∧ ¬ c.bad l ∧ l.ans = true ∧ oE l.t1 l.t2 l.t t c.p = 0 ∧ c.bLo l.frm.toNat t (Nd.oL l t) ≤ c.bHi l.frm.toNat t (c.oU l t) ∧ c' = c.kept l.frm.toNat t (c.bLo l.frm.toNat t (Nd.oL l t)) (c.bHi l.frm.toNat t (c.oU l t)) ∧ B = true ∧ e = 0)
theorem hearR_some (c : Nd) (l : Lt) (t : Int) : ∃ c' B e, HearR c l t c' B e := by
  by_cases h1 : c.bk t
  · exact ⟨_, _, _, Or.inl ⟨h1, rfl, rfl, rfl⟩⟩
  by_cases h2 : c.bad l
  · exact ⟨_, _, _, Or.inr (Or.inl ⟨h1, h2, rfl, rfl, rfl⟩)⟩
  cases h3 : l.ans with
  | false => exact ⟨_, _, _, Or.inr (Or.inr (Or.inl ⟨h1, h2, h3, rfl, rfl, rfl⟩))⟩
  | true =>
    by_cases h4 : oE l.t1 l.t2 l.t t c.p = 0
    · by_cases h5 : c.bLo l.frm.toNat t (Nd.oL l t) ≤ c.bHi l.frm.toNat t (c.oU l t)
      · exact ⟨_, _, _, Or.inr (Or.inr (Or.inr (Or.inr (Or.inr ⟨h1, h2, h3, h4, h5, rfl, rfl, rfl⟩))))⟩
      · exact ⟨_, _, _, Or.inr (Or.inr (Or.inr (Or.inr (Or.inl ⟨h1, h2, h3, h4, by omega, rfl, rfl, rfl⟩))))⟩
    · exact ⟨_, _, _, Or.inr (Or.inr (Or.inr (Or.inl ⟨h1, h2, h3, h4, rfl, rfl, rfl⟩)))⟩
theorem hearR_uniq {c c1 c2 : Nd} {l : Lt} {t e1 e2 : Int} {B1 B2 : Bool} (h : HearR c l t c1 B1 e1) (h' : HearR c l t c2 B2 e2) : c1 = c2 ∧ B1 = B2 ∧ e1 = e2 := by
  rcases h with ⟨a, rfl, rfl, rfl⟩ | ⟨a, b, rfl, rfl, rfl⟩ | ⟨a, b, d, rfl, rfl, rfl⟩ | ⟨a, b, d, f, rfl, rfl, rfl⟩ | ⟨a, b, d, f, g, rfl, rfl, rfl⟩ | ⟨a, b, d, f, g, rfl, rfl, rfl⟩ <;>
  rcases h' with ⟨a', rfl, rfl, rfl⟩ | ⟨a', b', rfl, rfl, rfl⟩ | ⟨a', b', d', rfl, rfl, rfl⟩ | ⟨a', b', d', f', rfl, rfl, rfl⟩ | ⟨a', b', d', f', g', rfl, rfl, rfl⟩ | ⟨a', b', d', f', g', rfl, rfl, rfl⟩ <;>
  first | exact ⟨rfl, rfl, rfl⟩ | exact absurd a a' | exact absurd a' a | exact absurd b b' | exact absurd b' b | (rw [d] at d'; exact absurd d' (by decide)) | exact absurd f f' | exact absurd f' f | (exfalso; omega)
/-- What is always so. -/
structure Nd.I (c : Nd) : Prop where
  idn : c.id < c.n
  n6 : c.n ≤ 6
  p0 : 0 ≤ c.p
  p1 : c.p ≤ 1000
  h0 : -1 ≤ c.h
  h1 : c.h ≤ 1000000000000
  kn : ∀ i, c.has i = true → i < c.n ∧ i ≠ c.id ∧ okB (c.lo i) (c.hi i) = true ∧ 0 ≤ c.at_ i ∧ c.at_ i ≤ c.h
theorem Nd.made_i {id n : Nat} {p : Int} (h1 : id < n) (h2 : n ≤ 6) (h3 : 0 ≤ p) (h4 : p ≤ 1000) : (Nd.made id n p).I := ⟨h1, h2, h3, h4, by show (-1 : Int) ≤ -1; omega, by show (-1 : Int) ≤ 1000000000000; omega, fun i h => by cases h⟩
theorem HearR.i {c c' : Nd} {l : Lt} {t e : Int} {B : Bool} (h : HearR c l t c' B e) (g : c.I) : c'.I := by
  rcases h with ⟨_, rfl, _⟩ | ⟨_, _, rfl, _⟩ | ⟨a, _, _, rfl, _⟩ | ⟨_, _, _, _, rfl, _⟩ | ⟨_, _, _, _, _, rfl, _⟩ | ⟨a, b, _, f, q, rfl, _⟩
  · exact g
  · exact g
  · unfold Nd.bk at a
    exact ⟨g.idn, g.n6, g.p0, g.p1, by show -1 ≤ t; omega, by show t ≤ _; omega, fun i hi => by
      obtain ⟨k1, k2, k3, k4, k5⟩ := g.kn i hi
      exact ⟨k1, k2, k3, k4, by show c.at_ i ≤ t; omega⟩⟩
  · exact g
  · exact g
  · unfold Nd.bk at a
    unfold Nd.bad at b
    obtain ⟨z1, z2, z3, z4, z5⟩ := oE_zero f
    have m3 := tmB_t z3
    have m4 := tmB_t z4
    refine ⟨g.idn, g.n6, g.p0, g.p1, by show -1 ≤ t; omega, by show t ≤ _; omega, fun i hi => ?_⟩
    show i < c.n ∧ i ≠ c.id ∧ okB (updN c.lo _ _ i) (updN c.hi _ _ i) = true ∧ 0 ≤ updN c.at_ _ _ i ∧ updN c.at_ _ _ i ≤ t
    by_cases e : i = l.frm.toNat
    · subst e
      rw [updN_at, updN_at, updN_at]
      refine ⟨by omega, by omega, okB_mk ⟨q, ?_, ?_⟩, by omega, Int.le_refl _⟩
      · unfold Nd.bLo Nd.oL; split <;> (try split) <;> omega
      · unfold Nd.bHi Nd.oU; split <;> (try split) <;> omega
    · rw [updN_ne e, updN_ne e, updN_ne e]
      have hi' : c.has i = true := by
        have : updN c.has l.frm.toNat true i = true := hi
        rwa [updN_ne e] at this
      obtain ⟨k1, k2, k3, k4, k5⟩ := g.kn i hi'
      exact ⟨k1, k2, k3, k4, by omega⟩
/-- What it knows of all: the fault. -/
def SpR (c : Nd) (t e : Int) : Prop :=
  (c.bk t ∧ e = 8) ∨ (¬ c.bk t ∧ (∃ i, i < c.n ∧ c.has i = true ∧ okB (c.alo i t) (c.ahi i t) = false) ∧ e = 1) ∨ (¬ c.bk t ∧ (∀ i, i < c.n → c.has i = true → okB (c.alo i t) (c.ahi i t) = true) ∧ e = 0)
theorem spR_some (c : Nd) (t : Int) : ∃ e, SpR c t e := by
  by_cases h1 : c.bk t
  · exact ⟨8, Or.inl ⟨h1, rfl⟩⟩
  by_cases h2 : ∃ i, i < c.n ∧ c.has i = true ∧ okB (c.alo i t) (c.ahi i t) = false
  · exact ⟨1, Or.inr (Or.inl ⟨h1, h2, rfl⟩)⟩
  · refine ⟨0, Or.inr (Or.inr ⟨h1, fun i hi hh => ?_, rfl⟩)⟩
    cases e : okB (c.alo i t) (c.ahi i t) with
    | true => rfl
    | false => exact absurd ⟨i, hi, hh, e⟩ h2
theorem spR_uniq {c : Nd} {t e e' : Int} (h : SpR c t e) (h' : SpR c t e') : e = e' := by
  rcases h with ⟨a, rfl⟩ | ⟨a, ⟨i, hi, hh, b⟩, rfl⟩ | ⟨a, b, rfl⟩ <;> rcases h' with ⟨a', rfl⟩ | ⟨a', ⟨i', hi', hh', b'⟩, rfl⟩ | ⟨a', b', rfl⟩ <;>
  first | rfl | exact absurd a a' | exact absurd a' a | (have := b' i hi hh; rw [b] at this; cases this) | (have := b i' hi' hh'; rw [b'] at this; cases this)
/-- .. as spans, and whether anything is. -/
def Nd.so (c : Nd) (t : Int) (i : Nat) : Int × Int := if c.has i = true then (c.alo i t, c.ahi i t) else (0, 0)
def Nd.ho (c : Nd) (i : Nat) : Bool := c.has i || decide (i = c.id)
/-- .. as edges. -/
def Nd.eo (c : Nd) (t : Int) : List Eg := ((List.range c.n).filter (fun i => c.has i)).map (fun (i : Nat) => (⟨(c.id : Int), (i : Int), c.alo i t, c.ahi i t⟩ : Eg))
/-- How much wider it may be. -/
theorem Nd.sk_b {c : Nd} (g : c.I) {t : Int} (hb : ¬ c.bk t) {i : Nat} (hi : c.has i = true) : 0 ≤ (t - c.at_ i) * 3 * c.p ∧ (t - c.at_ i) * 3 * c.p ≤ 3000000000000000 ∧ 2 ≤ c.sk i t ∧ c.sk i t ≤ 3000000003 := by
  obtain ⟨k1, k2, k3, k4, k5⟩ := g.kn i hi
  unfold bk at hb
  have b1 : 0 ≤ (t - c.at_ i) * 3 := by omega
  have b2 : (t - c.at_ i) * 3 ≤ 3000000000000 := by omega
  have m1 := Int.mul_nonneg b1 g.p0
  have m2 : (t - c.at_ i) * 3 * c.p ≤ 3000000000000 * 1000 := Int.mul_le_mul b2 g.p1 g.p0 (by omega)
  unfold sk
  omega
end Go.Proofs.YtmomcaodmdlnpahDoor
