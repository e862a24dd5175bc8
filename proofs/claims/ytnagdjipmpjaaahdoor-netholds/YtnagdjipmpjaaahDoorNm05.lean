/- A node that knows of others: plain mathematics. What a node knows of another one stays true while clocks go on: plain numbers alone. Letters as they are handed over, edges by their places. What package node must answer. A node of package node in memory: its five cells, and a map of what it keeps of others. -/
import Derived.Test.YtnagdjipmpjaaahDoorNm02
import Derived.Test.YtnagdjipmpjaaahDoorNm03
import Derived.Test.YtnagdjipmpjaaahDoorNm01
import Derived.Test.YtnagdjipmpjaaahDoorNm04
import Derived.Maps.OwnOps
import Derived.Maps.OwnSet
import Derived.Maps.Views
import Derived.IntWalk
namespace Go.Proofs.YtnagdjipmpjaaahDoor
set_option linter.unusedVariables false

/-- Who it is, of how many, its rate, what it showed last; of which others it knows anything, what, and since when. -/
structure Nd where
  id : Nat
  n : Nat
  p : Int
  h : Int
  has : Nat → Bool
  lo : Nat → Int
  hi : Nat → Int
  at_ : Nat → Int
/-- Another value at one place. -/
def updN {α : Type} (f : Nat → α) (k : Nat) (x : α) : Nat → α := fun i => if i = k then x else f i
theorem updN_at {α : Type} (f : Nat → α) (k : Nat) (x : α) : updN f k x k = x := if_pos rfl
theorem updN_ne {α : Type} {f : Nat → α} {k i : Nat} {x : α} (h : i ≠ k) : updN f k x i = f i := if_neg h
namespace Nd
/-- How much wider it is by now. -/
def sk (c : Nd) (i : Nat) (t : Int) : Int := 2 + ((t - c.at_ i) * 3 * c.p + 1000000 - 1) / 1000000
def alo (c : Nd) (i : Nat) (t : Int) : Int := c.lo i - c.sk i t
def ahi (c : Nd) (i : Nat) (t : Int) : Int := c.hi i + c.sk i t
def made (id n : Nat) (p : Int) : Nd := ⟨id, n, p, -1, fun _ => false, fun _ => 0, fun _ => 0, fun _ => 0⟩
/-- It is no time to be told anything. -/
def bk (c : Nd) (t : Int) : Prop := t < 0 ∨ 1000000000000 < t ∨ t < c.h
/-- The letter is none for it. -/
def bad (c : Nd) (l : Lt) : Prop := l.to ≠ c.id ∨ l.frm = c.id ∨ l.frm < 0 ∨ (c.n : Int) ≤ l.frm
/-- What both have. -/
def bLo (c : Nd) (k : Nat) (t a : Int) : Int := if c.has k = true then (if a < c.alo k t then c.alo k t else a) else a
def bHi (c : Nd) (k : Nat) (t b : Int) : Int := if c.has k = true then (if c.ahi k t < b then c.ahi k t else b) else b
/-- What an answer says. -/
def oL (l : Lt) (t : Int) : Int := l.t - t
def oU (c : Nd) (l : Lt) (t : Int) : Int := oH l.t1 l.t2 t c.p
def kept (c : Nd) (k : Nat) (t a b : Int) : Nd := { c with h := t, has := updN c.has k true, lo := updN c.lo k a, hi := updN c.hi k b, at_ := updN c.at_ k t }
end Nd
/-- A letter is heard: what it is behind it, whether anything is kept, the fault. -/
def HearR (c : Nd) (l : Lt) (t : Int) (c' : Nd) (B : Bool) (e : Int) : Prop :=
  (c.bk t ∧ c' = c ∧ B = false ∧ e = 8) ∨
  (¬ c.bk t ∧ c.bad l ∧ c' = c ∧ B = false ∧ e = 3) ∨
  (¬ c.bk t ∧ ¬ c.bad l ∧ l.ans = false ∧ c' = { c with h := t } ∧ B = false ∧ e = 0) ∨
  (¬ c.bk t ∧ ¬ c.bad l ∧ l.ans = true ∧ oE l.t1 l.t2 l.t t c.p ≠ 0 ∧ c' = c ∧ B = false ∧ e = oE l.t1 l.t2 l.t t c.p) ∨
  (¬ c.bk t ∧ ¬ c.bad l ∧ l.ans = true ∧ oE l.t1 l.t2 l.t t c.p = 0 ∧ c.bHi l.frm.toNat t (c.oU l t) < c.bLo l.frm.toNat t (Nd.oL l t) ∧ c' = c ∧ B = false ∧ e = 7) ∨
  (¬ c.bk t ∧ ¬ c.bad l ∧ l.ans = true ∧ oE l.t1 l.t2 l.t t c.p = 0 ∧ c.bLo l.frm.toNat t (Nd.oL l t) ≤ c.bHi l.frm.toNat t (c.oU l t) ∧ c' = c.kept l.frm.toNat t (c.bLo l.frm.toNat t (Nd.oL l t)) (c.bHi l.frm.toNat t (c.oU l t)) ∧ B = true ∧ e = 0)
theorem hearR_some (c : Nd) (l : Lt) (t : Int) : ∃ c' B e, HearR c l t c' B e := by
  by_cases h1 : c.bk t
  · exact ⟨_, _, _, Or.inl ⟨h1, rfl, rfl, rfl⟩⟩
  by_cases h2 : c.bad l
  · exact ⟨_, _, _, Or.inr (Or.inl ⟨h1, h2, rfl, rfl, rfl⟩)⟩
  cases h3 : l.ans with
  | false => exact ⟨_, _, _, Or.inr (Or.inr (Or.inl ⟨h1, h2, h3, rfl, rfl, rfl⟩))⟩
  | true =>
    by_cases h4 : oE l.t1 l.t2 l.t t c.p = 0
    · by_cases h5 : c.bLo l.frm.toNat t (Nd.oL l t) ≤ c.bHi l.frm.toNat t (c.oU l t)
      · exact ⟨_, _, _, Or.inr (Or.inr (Or.inr (Or.inr (Or.inr ⟨h1, h2, h3, h4, h5, rfl, rfl, rfl⟩))))⟩
      · exact ⟨_, _, _, Or.inr (Or.inr (Or.inr (Or.inr (Or.inl ⟨h1, h2, h3, h4, by omega, rfl, rfl, rfl⟩))))⟩
    · exact ⟨_, _, _, Or.inr (Or.inr (Or.inr (Or.inl ⟨h1, h2, h3, h4, rfl, rfl, rfl⟩)))⟩
theorem hearR_uniq {c c1 c2 : Nd} {l : Lt} {t e1 e2 : Int} {B1 B2 : Bool} (h : HearR c l t c1 B1 e1) (h' : HearR c l t c2 B2 e2) : c1 = c2 ∧ B1 = B2 ∧ e1 = e2 := by
  rcases h with ⟨a, rfl, rfl, rfl⟩ | ⟨a, b, rfl, rfl, rfl⟩ | ⟨a, b, d, rfl, rfl, rfl⟩ | ⟨a, b, d, f, rfl, rfl, rfl⟩ | ⟨a, b, d, f, g, rfl, rfl, rfl⟩ | ⟨a, b, d, f, g, rfl, rfl, rfl⟩ <;>
  rcases h' with ⟨a', rfl, rfl, rfl⟩ | ⟨a', b', rfl, rfl, rfl⟩ | ⟨a', b', d', rfl, rfl, rfl⟩ | ⟨a', b', d', f', rfl, rfl, rfl⟩ | ⟨a', b', d', f', g', rfl, rfl, rfl⟩ | ⟨a', b', d', f', g', rfl, rfl, rfl⟩ <;>
  first | exact ⟨rfl, rfl, rfl⟩ | exact absurd a a' | exact absurd a' a | exact absurd b b' | exact absurd b' b | (rw [d] at d'; exact absurd d' (by decide)) | exact absurd f f' | exact absurd f' f | (exfalso; omega)
/-- What is always so. -/
structure Nd.I (c : Nd) : Prop where
  idn : c.id < c.n
  n6 : c.n ≤ 6
  p0 : 0 ≤ c.p
  p1 : c.p ≤ 1000
  h0 : -1 ≤ c.h
  h1 : c.h ≤ 1000000000000
  kn : ∀ i, c.has i = true → i < c.n ∧ i ≠ c.id ∧ okB (c.lo i) (c.hi i) = true ∧ 0 ≤ c.at_ i ∧ c.at_ i ≤ c.h
theorem Nd.made_i {id n : Nat} {p : Int} (h1 : id < n) (h2 : n ≤ 6) (h3 : 0 ≤ p) (h4 : p ≤ 1000) : (Nd.made id n p).I := ⟨h1, h2, h3, h4, by show (-1 : Int) ≤ -1; omega, by show (-1 : Int) ≤ 1000000000000; omega, fun i h => by cases h⟩
theorem HearR.i {c c' : Nd} {l : Lt} {t e : Int} {B : Bool} (h : HearR c l t c' B e) (g : c.I) : c'.I := by
  rcases h with ⟨_, rfl, _⟩ | ⟨_, _, rfl, _⟩ | ⟨a, _, _, rfl, _⟩ | ⟨_, _, _, _, rfl, _⟩ | ⟨_, _, _, _, _, rfl, _⟩ | ⟨a, b, _, f, q, rfl, _⟩
  · exact g
  · exact g
  · unfold Nd.bk at a
    exact ⟨g.idn, g.n6, g.p0, g.p1, by show -1 ≤ t; omega, by show t ≤ _; omega, fun i hi => by
      obtain ⟨k1, k2, k3, k4, k5⟩ := g.kn i hi
      exact ⟨k1, k2, k3, k4, by show c.at_ i ≤ t; omega⟩⟩
  · exact g
  · exact g
  · unfold Nd.bk at a
    unfold Nd.bad at b
    obtain ⟨z1, z2, z3, z4, z5⟩ := oE_zero f
    have m3 := tmB_t z3
    have m4 := tmB_t z4
    refine ⟨g.idn, g.n6, g.p0, g.p1, by show -1 ≤ t; omega, by show t ≤ _; omega, fun i hi => ?_⟩
    show i < c.n ∧ i ≠ c.id ∧ okB (updN c.lo _ _ i) (updN c.hi _ _ i) = true ∧ 0 ≤ updN c.at_ _ _ i ∧ updN c.at_ _ _ i ≤ t
    by_cases e : i = l.frm.toNat
    · subst e
      rw [updN_at, updN_at, updN_at]
      refine ⟨by omega, by omega, okB_mk ⟨q, ?_, ?_⟩, by omega, Int.le_refl _⟩
      · unfold Nd.bLo Nd.oL; split <;> (try split) <;> omega
      · unfold Nd.bHi Nd.oU; split <;> (try split) <;> omega
    · rw [updN_ne e, updN_ne e, updN_ne e]
      have hi' : c.has i = true := by
        have : updN c.has l.frm.toNat true i = true := hi
        rwa [updN_ne e] at this
      obtain ⟨k1, k2, k3, k4, k5⟩ := g.kn i hi'
      exact ⟨k1, k2, k3, k4, by omega⟩
/-- What it knows of all: the fault. -/
def SpR (c : Nd) (t e : Int) : Prop :=
  (c.bk t ∧ e = 8) ∨ (¬ c.bk t ∧ (∃ i, i < c.n ∧ c.has i = true ∧ okB (c.alo i t) (c.ahi i t) = false) ∧ e = 1) ∨ (¬ c.bk t ∧ (∀ i, i < c.n → c.has i = true → okB (c.alo i t) (c.ahi i t) = true) ∧ e = 0)
theorem spR_some (c : Nd) (t : Int) : ∃ e, SpR c t e := by
  by_cases h1 : c.bk t
  · exact ⟨8, Or.inl ⟨h1, rfl⟩⟩
  by_cases h2 : ∃ i, i < c.n ∧ c.has i = true ∧ okB (c.alo i t) (c.ahi i t) = false
  · exact ⟨1, Or.inr (Or.inl ⟨h1, h2, rfl⟩)⟩
  · refine ⟨0, Or.inr (Or.inr ⟨h1, fun i hi hh => ?_, rfl⟩)⟩
    cases e : okB (c.alo i t) (c.ahi i t) with
    | true => rfl
    | false => exact absurd ⟨i, hi, hh, e⟩ h2
theorem spR_uniq {c : Nd} {t e e' : Int} (h : SpR c t e) (h' : SpR c t e') : e = e' := by
  rcases h with ⟨a, rfl⟩ | ⟨a, ⟨i, hi, hh, b⟩, rfl⟩ | ⟨a, b, rfl⟩ <;> rcases h' with ⟨a', rfl⟩ | ⟨a', ⟨i', hi', hh', b'⟩, rfl⟩ | ⟨a', b', rfl⟩ <;>
  first | rfl | exact absurd a a' | exact absurd a' a | (have := b' i hi hh; rw [b] at this; cases this) | (have := b i' hi' hh'; rw [b'] at this; cases this)
/-- .. as spans, and whether anything is. -/
def Nd.so (c : Nd) (t : Int) (i : Nat) : Int × Int := if c.has i = true then (c.alo i t, c.ahi i t) else (0, 0)
def Nd.ho (c : Nd) (i : Nat) : Bool := c.has i || decide (i = c.id)
/-- .. as edges. -/
def Nd.eo (c : Nd) (t : Int) : List Eg := ((List.range c.n).filter (fun i => c.has i)).map (fun (i : Nat) => (⟨(c.id : Int), (i : Int), c.alo i t, c.ahi i t⟩ : Eg))
/-- How much wider it may be. -/
theorem Nd.sk_b {c : Nd} (g : c.I) {t : Int} (hb : ¬ c.bk t) {i : Nat} (hi : c.has i = true) : 0 ≤ (t - c.at_ i) * 3 * c.p ∧ (t - c.at_ i) * 3 * c.p ≤ 3000000000000000 ∧ 2 ≤ c.sk i t ∧ c.sk i t ≤ 3000000003 := by
  obtain ⟨k1, k2, k3, k4, k5⟩ := g.kn i hi
  unfold bk at hb
  have b1 : 0 ≤ (t - c.at_ i) * 3 := by omega
  have b2 : (t - c.at_ i) * 3 ≤ 3000000000000 := by omega
  have m1 := Int.mul_nonneg b1 g.p0
  have m2 : (t - c.at_ i) * 3 * c.p ≤ 3000000000000 * 1000 := Int.mul_le_mul b2 g.p1 g.p0 (by omega)
  unfold sk
  omega
end Go.Proofs.YtnagdjipmpjaaahDoor
namespace Go.Proofs.YtnagdjipmpjaaahDoor
set_option linter.unusedVariables false

/-- The other way round: how far the own clock goes on ahead of the other one. -/
theorem slack2 {x N d ppm rb ra : Int} (hd : 0 ≤ d) (hp0 : 0 ≤ ppm) (hp : ppm ≤ 1000) (a1 : -ppm ≤ ra) (a2 : ra ≤ ppm) (b1 : -ppm ≤ rb) (b2 : rb ≤ ppm) (hN0 : 0 ≤ N)
    (hx : d * 1000000 + d * rb - 999999 ≤ 1000000 * x) (hN : 1000000 * N ≤ d * 1000000 + d * ra + 999999) (hM : d * 1000000 + d * ra - 999999 ≤ 1000000 * N) : N - x ≤ 2 + (N * 3 * ppm + 1000000 - 1) / 1000000 := by
  have c1 := rate_b hd b1 b2
  have c2 := rate_b hd a1 a2
  have n0 : 0 ≤ N * ppm := Int.mul_nonneg hN0 hp0
  have e3 : N * 3 * ppm = 3 * (N * ppm) := by rw [Int.mul_comm N 3, Int.mul_assoc]
  have d0 : d * ppm ≤ d * 1000 := Int.mul_le_mul_of_nonneg_left hp hd
  rw [e3]
  by_cases h4 : 4 ≤ d
  · have x4 : 4 * ppm ≤ d * ppm := Int.mul_le_mul_of_nonneg_right h4 hp0
    have hN2 : 999000 * d - 999999 ≤ 1000000 * N := by omega
    have hN3 := Int.mul_le_mul_of_nonneg_right hN2 hp0
    have e1 : (999000 * d - 999999) * ppm = 999000 * (d * ppm) - 999999 * ppm := by rw [Int.sub_mul, Int.mul_assoc]
    have e2 : 1000000 * N * ppm = 1000000 * (N * ppm) := by rw [Int.mul_assoc]
    rw [e1, e2] at hN3
    generalize N * ppm = Y at *
    generalize d * ra = Z at *
    generalize d * rb = V at *
    generalize d * ppm = U at *
    omega
  · generalize N * ppm = Y at *
    generalize d * ra = Z at *
    generalize d * rb = V at *
    generalize d * ppm = U at *
    omega
/-- Two clocks, at one time and at a later one. -/
theorem aged_true {sa ra sb rb p t u lo hi : Int} (hp0 : 0 ≤ p) (hp : p ≤ 1000) (a1 : -p ≤ ra) (a2 : ra ≤ p) (b1 : -p ≤ rb) (b2 : rb ≤ p) (htu : t ≤ u)
    (h1 : lo ≤ sh sb rb t - sh sa ra t) (h2 : sh sb rb t - sh sa ra t ≤ hi) :
    lo - (2 + ((sh sa ra u - sh sa ra t) * 3 * p + 1000000 - 1) / 1000000) ≤ sh sb rb u - sh sa ra u ∧ sh sb rb u - sh sa ra u ≤ hi + (2 + ((sh sa ra u - sh sa ra t) * 3 * p + 1000000 - 1) / 1000000) := by
  obtain ⟨d, rfl⟩ : ∃ d, u = t + d := ⟨u - t, by omega⟩
  have hd : 0 ≤ d := by omega
  have sA := sh_step (s := sa) (r := ra) (t := t) (d := d)
  have sB := sh_step (s := sb) (r := rb) (t := t) (d := d)
  have mA := sh_mono (s := sa) (r := ra) (t := t) (d := d) hd (by omega) (by omega)
  have k1 := slack (x := sh sb rb (t + d) - sh sb rb t) (N := sh sa ra (t + d) - sh sa ra t) hd (Int.le_refl d) hp0 hp a1 a2 b1 b2 (by omega) sB.1 sA.2
  have k2 := slack2 (x := sh sb rb (t + d) - sh sb rb t) (N := sh sa ra (t + d) - sh sa ra t) hd hp0 hp a1 a2 b1 b2 (by omega) sB.2 sA.1 sA.2
  omega
/-- A probe, sent at t1, answered at t2, heard at u. -/
theorem probe_holds {sa ra sb rb p t1 t2 u : Int} (hp0 : 0 ≤ p) (hp : p ≤ 1000) (a1 : -p ≤ ra) (a2 : ra ≤ p) (b1 : -p ≤ rb) (b2 : rb ≤ p) (h1 : t1 ≤ t2) (h2 : t2 ≤ u) :
    sh sb rb t2 - sh sa ra u ≤ sh sb rb u - sh sa ra u ∧ sh sb rb u - sh sa ra u ≤ oH (sh sa ra t1) (sh sb rb t2) (sh sa ra u) p := by
  obtain ⟨d, rfl⟩ : ∃ d, t2 = t1 + d := ⟨t2 - t1, by omega⟩
  obtain ⟨g, rfl⟩ : ∃ g, u = t1 + d + g := ⟨u - (t1 + d), by omega⟩
  have mB := sh_mono (s := sb) (r := rb) (t := t1 + d) (d := g) (by omega) (by omega) (by omega)
  have e : t1 + (d + g) = t1 + d + g := by omega
  have mA := sh_mono (s := sa) (r := ra) (t := t1) (d := d + g) (by omega) (by omega) (by omega)
  have sA := sh_step (s := sa) (r := ra) (t := t1) (d := d + g)
  rw [e] at mA sA
  have sB := sh_step (s := sb) (r := rb) (t := t1 + d) (d := g)
  have k := slack (x := sh sb rb (t1 + d + g) - sh sb rb (t1 + d)) (N := sh sa ra (t1 + d + g) - sh sa ra t1) (d := g) (D := d + g) (by omega) (by omega) hp0 hp a1 a2 b1 b2 (by omega) sB.1 sA.2
  refine ⟨by omega, ?_⟩
  unfold oH
  omega
/-- What clocks show is a time. -/
theorem sh_time {s r t : Int} (s0 : 0 ≤ s) (s1 : s ≤ 1000000) (r0 : -1000 ≤ r) (r1 : r ≤ 1000) (t0 : 0 ≤ t) (t1 : t ≤ 1000000000) : 0 ≤ sh s r t ∧ sh s r t ≤ 1002000000 := by
  have h := rate_b (p := 1000) t0 r0 r1
  unfold sh
  generalize t * r = X at *
  omega
end Go.Proofs.YtnagdjipmpjaaahDoor
namespace Go.Proofs.YtnagdjipmpjaaahDoor
open Go.ChangeShapes Go.WideShapes Go.ChangeAt Go.RowKit
set_option linter.unusedVariables false

/-- A letter's numbers are such that an int can be. -/
structure Lt.In6 (l : Lt) : Prop where
  a : In64 l.frm
  b : In64 l.to
  c : In64 l.t1
  d : In64 l.t2
  e : In64 l.t
/-- How many there are behind a fault: none. -/
def nOf (e : Int) (n : Nat) : Nat := if e = 0 then n else 0
/-- Edges by their places. -/
def egf (l : List Eg) (i : Nat) : Eg := l.getD i ⟨0, 0, 0, 0⟩
/-- A row lies in none of these blocks. -/
def Apt (F : Nat → Prop) (a : Option Addr) : Prop := ∀ (b off : Nat), a = some ⟨b, off, none⟩ → ¬ F b
end Go.Proofs.YtnagdjipmpjaaahDoor
namespace Go.Proofs.YtnagdjipmpjaaahDoor
open Go.ChangeShapes Go.WideShapes Go.ChangeAt Go.RowKit
set_option linter.unusedVariables false

/-- What Spans answers. -/
def SpO (F : Nat → Prop) (c : Nd) (t e : Int) (o : Ending) (w' : World) : Prop := ∃ (sa : Option Addr) (sc : Nat) (ha : Option Addr) (hc : Nat), o = .returned (.tuple #[.slice sa (nOf e c.n) sc, .slice ha (nOf e c.n) hc, errc e]) ∧ SHanded w' sa (nOf e c.n) (c.so t) ∧ BHanded w' ha (nOf e c.n) c.ho ∧ Apt F sa ∧ Apt F ha
/-- What Edges answers. -/
def EdO (c : Nd) (t e : Int) (o : Ending) (w' : World) : Prop := ∃ (ea : Option Addr) (ec : Nat), o = .returned (.tuple #[.slice ea (nOf e (c.eo t).length) ec, errc e]) ∧ EHanded w' ea (nOf e (c.eo t).length) (egf (c.eo t))
/-- Package node, behind a world w0: R: what a node keeps, at block b, in blocks F. -/
structure Np (w0 : World) where
  R : World → Nat → (Nat → Prop) → Nd → Prop
  on : ∀ {u v : World} {b : Nat} {F : Nat → Prop} {c : Nd}, R u b F c → u.heap.size ≤ v.heap.size → (∀ k, F k → v.heap[k]? = u.heap[k]?) → R v b F c
  lt : ∀ {u : World} {b : Nat} {F : Nat → Prop} {c : Nd}, R u b F c → ∀ k, F k → k < u.heap.size
  new : ∀ (id n : Nat) (p : Int) (u : World), Below w0.heap.size w0 u → id < n → n ≤ 6 → 0 ≤ p → p ≤ 1000 → Calls Tryd.prog 20 #[.int .i64 id, .int .i64 n, .int .i64 p] u fun o w' => ∃ b F, o = .returned (.tuple #[.pointer (some ⟨b, 0, none⟩), .nilIface]) ∧ R w' b F (Nd.made id n p) ∧ Below u.heap.size u w' ∧ ∀ k, F k → u.heap.size ≤ k
  bad : ∀ (id n p : Int) (u : World), Below w0.heap.size w0 u → In64 id → In64 n → In64 p → (n < 1 ∨ 6 < n ∨ id < 0 ∨ n ≤ id ∨ p < 0 ∨ 1000 < p) → Calls Tryd.prog 20 #[.int .i64 id, .int .i64 n, .int .i64 p] u fun o w' => ∃ v, o = .returned (.tuple #[v, errc 1]) ∧ Below u.heap.size u w'
  hear : ∀ (b : Nat) (F : Nat → Prop) (c c' : Nd) (l : Lt) (t e : Int) (B : Bool) (u : World), R u b F c → c.I → l.In6 → In64 t → HearR c l t c' B e → Calls Tryd.prog 22 #[.pointer (some ⟨b, 0, none⟩), ltv l, .int .i64 t] u fun o w' => ∃ F', o = .returned (.tuple #[.bool B, errc e]) ∧ R w' b F' c' ∧ Keeps F u w' ∧ ∀ k, F' k → F k ∨ u.heap.size ≤ k
  spans : ∀ (b : Nat) (F : Nat → Prop) (c : Nd) (t e : Int) (u : World), R u b F c → c.I → In64 t → SpR c t e → Calls Tryd.prog 21 #[.pointer (some ⟨b, 0, none⟩), .int .i64 t] u fun o w' => SpO F c t e o w' ∧ Below u.heap.size u w'
/-- .. and Edges. -/
structure NpE (w0 : World) extends Np w0 where
  edges : ∀ (b : Nat) (F : Nat → Prop) (c : Nd) (t e : Int) (u : World), R u b F c → c.I → In64 t → SpR c t e → Calls Tryd.prog 28 #[.pointer (some ⟨b, 0, none⟩), .int .i64 t] u fun o w' => EdO c t e o w' ∧ Below u.heap.size u w'
end Go.Proofs.YtnagdjipmpjaaahDoor
namespace Go.Proofs.YtnagdjipmpjaaahDoor
open Go.ChangeShapes Go.WideShapes Go.ChangeAt Go.RowKit Go.Maps
set_option linter.unusedVariables false
set_option linter.unusedSimpArgs false

theorem lawK : Keyed Tryd.prog 3 := int_keyed Tryd.underlying3
/-- How what is kept of one node reads. -/
def offD (a b t : Int) : DataW Unit := .agg [.lit (.int .i64 a), .lit (.int .i64 b), .lit (.int .i64 t)]
def offE (v : Value) : Option (DataW Unit × List MemPlace) :=
  match v with
  | .agg cs => match cs.toList with
    | [.int .i64 a, .int .i64 b, .int .i64 t] => some (offD a b t, [])
    | _ => none
  | _ => none
theorem offE_mk (a b t : Int) : offE (.agg #[.int .i64 a, .int .i64 b, .int .i64 t]) = some (offD a b t, []) := rfl
theorem offE_inv {v : Value} {z : DataW Unit × List MemPlace} (h : offE v = some z) : ∃ a b t, v = .agg #[.int .i64 a, .int .i64 b, .int .i64 t] ∧ z = (offD a b t, []) := by
  unfold offE at h
  split at h
  · rename_i cs
    split at h
    · rename_i a b t e
      obtain rfl := Option.some.inj h
      refine ⟨a, b, t, ?_, rfl⟩
      have : cs = #[.int .i64 a, .int .i64 b, .int .i64 t] := by rw [← Array.toArray_toList (xs := cs), e]
      rw [this]
    · cases h
  · cases h
theorem offD_inj {a b t a' b' t' : Int} (h : offD a b t = offD a' b' t') : a = a' ∧ b = b' ∧ t = t' := by
  unfold offD at h
  injection h with h
  injection h with h1 h
  injection h with h2 h
  injection h with h3 h
  injection h1 with h1
  injection h1 with _ h1
  injection h2 with h2
  injection h2 with _ h2
  injection h3 with h3
  injection h3 with _ h3
  exact ⟨h1, h2, h3⟩
/-- How many are known. -/
def cntH (f : Nat → Bool) : Nat → Nat
  | 0 => 0
  | k + 1 => cntH f k + (if f k = true then 1 else 0)
theorem cntH_le (f : Nat → Bool) : ∀ k, cntH f k ≤ k
  | 0 => Nat.le_refl _
  | k + 1 => by have := cntH_le f k; simp only [cntH]; split <;> omega
theorem cntH_far (f : Nat → Bool) (k : Nat) : ∀ m, m ≤ k → cntH (updN f k true) m = cntH f m
  | 0, _ => rfl
  | m + 1, h => by simp only [cntH]; rw [cntH_far f k m (by omega), updN_ne (by omega)]
theorem cntH_upd (f : Nat → Bool) (k : Nat) : ∀ m, k < m → cntH (updN f k true) m = if f k = true then cntH f m else cntH f m + 1
  | 0, h => by omega
  | m + 1, h => by
    simp only [cntH]
    by_cases e : k = m
    · subst e
      rw [cntH_far f k k (Nat.le_refl _), updN_at]
      cases f k <;> simp
    · rw [cntH_upd f k m (by omega), updN_ne (fun q => e q.symm)]
      split <;> omega
/-- What the map holds. -/
structure NkD (D : DataW Unit) (c : Nd) : Prop where
  m : IsMap D
  h : ∀ i : Nat, i < 6 → Maps.has D (.int .i64 (i : Int)) = c.has i
  a : ∀ i : Nat, i < 6 → c.has i = true → D.atKey (.int .i64 (i : Int)) (offD 0 0 0) = offD (c.lo i) (c.hi i) (c.at_ i)
  s : Maps.size D = cntH c.has 6
theorem NkD.made (id n : Nat) (p : Int) : NkD (.map []) (Nd.made id n p) := ⟨isMap_empty, fun i _ => rfl, fun i _ h => (by cases h), rfl⟩
/-- What it keeps of one, or nothing. -/
def vL (c : Nd) (i : Nat) : Int := if c.has i = true then c.lo i else 0
def vH (c : Nd) (i : Nat) : Int := if c.has i = true then c.hi i else 0
def vA (c : Nd) (i : Nat) : Int := if c.has i = true then c.at_ i else 0
theorem NkD.get {D : DataW Unit} {c : Nd} (d : NkD D c) {i : Nat} (hi : i < 6) : D.atKey (.int .i64 (i : Int)) (offD 0 0 0) = offD (vL c i) (vH c i) (vA c i) := by
  cases e : c.has i with
  | true => unfold vL vH vA; rw [if_pos e, if_pos e, if_pos e]; exact d.a i hi e
  | false =>
    have q : Maps.has D (.int .i64 (i : Int)) = false := by rw [d.h i hi]; exact e
    unfold vL vH vA
    rw [if_neg (by rw [e]; decide), if_neg (by rw [e]; decide), if_neg (by rw [e]; decide)]
    exact atKey_of_not_has q _
/-- One more is known. -/
def Nd.put (c : Nd) (k : Nat) (a b t : Int) : Nd := { c with has := updN c.has k true, lo := updN c.lo k a, hi := updN c.hi k b, at_ := updN c.at_ k t }
theorem NkD.put {D : DataW Unit} {c : Nd} (d : NkD D c) (ty : Tidy D) {k : Nat} (hk : k < 6) (a b t : Int) : NkD (D.put (.int .i64 (k : Int)) (offD a b t)) (c.put k a b t) := by
  refine ⟨d.m.put _ _, fun i hi => ?_, fun i hi q => ?_, ?_⟩
  · show _ = updN c.has k true i
    by_cases e : i = k
    · subst e
      rw [updN_at]
      exact has_put_same d.m (by simp [WideAt.IsKeyLit]) _
    · rw [updN_ne e, has_put_other (fun q => e (by injection q with _ q; omega))]
      exact d.h i hi
  · show _ = offD (updN c.lo k a i) (updN c.hi k b i) (updN c.at_ k t i)
    by_cases e : i = k
    · subst e
      rw [updN_at, updN_at, updN_at]
      exact atKey_put_same d.m (by simp [WideAt.IsKeyLit]) _ _
    · rw [updN_ne e, updN_ne e, updN_ne e, atKey_put_other (fun q => e (by injection q with _ q; omega))]
      refine d.a i hi ?_
      have : updN c.has k true i = true := q
      rwa [updN_ne e] at this
  · show _ = cntH (updN c.has k true) 6
    rw [size_put ty, cntH_upd _ _ _ hk, d.h k hk, d.s]
theorem own_bound {w : World} {b n m : Nat} {D : DataW Unit} (h : w.ownsMap Tryd.prog 3 offE b n D) (hm : Maps.size D ≤ m) : w.ownsMap Tryd.prog 3 offE b m D := by
  obtain ⟨es, clock, hb, F, hs, rfl⟩ := h
  exact ⟨es, clock, hb, F, by simpa [Maps.size, length_sorted] using hm, rfl⟩
/-- What it showed last; 0 where it has shown nothing yet. -/
def hm (c : Nd) : Int := if c.h < 0 then 0 else c.h
theorem hm_bk {c : Nd} {t : Int} (g : c.I) : c.bk t ↔ (t < hm c ∨ 1000000000000 < t) := by
  have := g.h0
  unfold Nd.bk hm
  split <;> constructor <;> intro h <;> omega
def nkL (c : Nd) (M : Nat) : List Value := [.int .i64 c.id, .int .i64 c.n, .int .i64 c.p, .int .i64 (hm c), .map (some M)]
structure PN (u : World) (b M : Nat) (c : Nd) : Prop where
  r : Row u b (nkL c M)
  nm : M ≠ b
  d : ∃ D, u.ownsMap Tryd.prog 3 offE M 6 D ∧ NkD D c
section
variable {u u' W : World} {b M : Nat} {c : Nd}
theorem PN.lt (h : PN u b M c) : b < u.heap.size := h.r.lt
theorem PN.ltM (h : PN u b M c) : M < u.heap.size := by obtain ⟨D, hD, _⟩ := h.d; exact hD.lt
theorem PN.keep (hz : u.heap.size ≤ u'.heap.size) (hF : ∀ k, (k = b ∨ k = M) → u'.heap[k]? = u.heap[k]?) (h : PN u b M c) : PN u' b M c := by
  have e := hF b (Or.inl rfl)
  refine ⟨⟨fun i v hv => (World.cell?_of_block (w := u) (a := ⟨b, i, none⟩) e).trans (h.r.c i v hv), fun i v hv => (World.frozen?_of_block (w := u) (a := ⟨b, i, none⟩) e).trans (h.r.f i v hv)⟩, h.nm, ?_⟩
  obtain ⟨D, ⟨es, clock, hb', F, hs, hD⟩, q⟩ := h.d
  exact ⟨D, ⟨es, clock, (hF M (Or.inr rfl)).trans hb', F, hs, hD⟩, q⟩
theorem PN.on (hb : Below u.heap.size u u') (h : PN u b M c) : PN u' b M c := h.keep hb.size (fun k hk => hb.block k (hk.elim (fun e => e ▸ h.lt) (fun e => e ▸ h.ltM)))
theorem zeroO (w : World) : (zeroValue 111).run Tryd.prog w = .ok (.agg #[.int .i64 0, .int .i64 0, .int .i64 0]) w := by kernel_rfl
/-- 'o, ok := n.kept[i]'. -/
theorem PN.look (h : PN u b M c) {i : Nat} (hi : i < 6) : (Instr.lookup 107 (.map (some M)) (.int .i64 (i : Int)) true).run Tryd.prog u = .ok (.tuple #[.agg #[.int .i64 (vL c i), .int .i64 (vH c i), .int .i64 (vA c i)], .bool (c.has i)]) u := by
  obtain ⟨D, hD, q⟩ := h.d
  obtain ⟨v, ps, hrun, hR⟩ := hD.look_ok lawK Tryd.underlying107 (zeroO u) (offE_mk 0 0 0) (keyOf_int_mk Tryd.underlying3 (WalkArith.wf_i64 (by omega)) : keyOf Tryd.prog 3 (.int .i64 (i : Int)) = some (.int .i64 (i : Int)))
  obtain ⟨a, x, t, rfl, ez⟩ := offE_inv hR
  have ez := (Prod.mk.inj ez).1
  rw [q.get hi] at ez
  obtain ⟨e1, e2, e3⟩ := offD_inj ez
  rw [← e1, ← e2, ← e3] at hrun
  rw [hrun, q.h i hi]
/-- 'n.kept[k] = offset{..}'. -/
theorem PN.store (h : PN u b M c) {k : Nat} (hk : k < 6) (a x t : Int) : ∃ w', (Instr.mapUpdate 107 (.map (some M)) (.int .i64 (k : Int)) (.agg #[.int .i64 a, .int .i64 x, .int .i64 t])).run Tryd.prog u = .ok () w' ∧ PN w' b M (c.put k a x t) ∧ Keeps (fun j => j = M) u w' := by
  obtain ⟨D, hD, q⟩ := h.d
  obtain ⟨w', hrun, ho, hg⟩ := hD.update lawK Tryd.underlying107 (by unfold maxLen; omega) (keyOf_int_mk Tryd.underlying3 (WalkArith.wf_i64 (by omega)) : keyOf Tryd.prog 3 (.int .i64 (k : Int)) = some (.int .i64 (k : Int))) (offE_mk a x t)
  have q' := q.put (hD.tidy lawK) hk a x t
  have kp : Keeps (fun j => j = M) u w' := ⟨hg.os, hg.tape, hg.output, hg.size, fun i hi hn => hg.block i hi (fun e => hn (Option.some.inj e))⟩
  refine ⟨w', hrun, ⟨kp.row (fun e => h.nm e.symm) h.r, h.nm, _, own_bound ho ?_, q'⟩, kp⟩
  rw [q'.s]
  exact cntH_le _ _
/-- What it showed last is another time. -/
theorem PN.late (h : PN u b M c) {t : Int} (ht : 0 ≤ t) : PN (u.setCell ⟨b, 3, none⟩ (.int .i64 t)) b M { c with h := t } ∧ Keeps (fun j => j = b) u (u.setCell ⟨b, 3, none⟩ (.int .i64 t)) := by
  refine ⟨⟨?_, h.nm, ?_⟩, Keeps.put (S := fun j => j = b) rfl (Keeps.refl _ _)⟩
  · have := Row.put 3 h.r (x := .int .i64 t)
    have e : hm { c with h := t } = t := by unfold hm; exact if_neg (by show ¬ t < 0; omega)
    show Row _ _ [.int .i64 c.id, .int .i64 c.n, .int .i64 c.p, .int .i64 (hm { c with h := t }), .map (some M)]
    rw [e]
    exact this
  · obtain ⟨D, hD, q⟩ := h.d
    exact ⟨D, hD.setCell (a := ⟨b, 3, none⟩) h.nm _, ⟨q.m, q.h, q.a, q.s⟩⟩
end
/-- The blocks it lies in. -/
def Fn (b M k : Nat) : Prop := k = b ∨ k = M
/-- Package node in memory, as the laws have it. -/
def Nkp (u : World) (b : Nat) (F : Nat → Prop) (c : Nd) : Prop := ∃ M, PN u b M c ∧ F = Fn b M
theorem Nkp.on {u v : World} {b : Nat} {F : Nat → Prop} {c : Nd} (h : Nkp u b F c) (hz : u.heap.size ≤ v.heap.size) (hF : ∀ k, F k → v.heap[k]? = u.heap[k]?) : Nkp v b F c := by
  obtain ⟨M, hP, rfl⟩ := h
  exact ⟨M, hP.keep hz hF, rfl⟩
theorem Nkp.lt {u : World} {b : Nat} {F : Nat → Prop} {c : Nd} (h : Nkp u b F c) (k : Nat) (hk : F k) : k < u.heap.size := by
  obtain ⟨M, hP, rfl⟩ := h
  exact hk.elim (fun e => e ▸ hP.lt) (fun e => e ▸ hP.ltM)
end Go.Proofs.YtnagdjipmpjaaahDoor
