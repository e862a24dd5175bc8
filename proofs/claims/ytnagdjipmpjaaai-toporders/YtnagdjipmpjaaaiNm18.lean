/- Sums over the first numbers: plain mathematics. Events, and in how many orders they could be: plain mathematics. What arguments of types []api.Act and api.Letter are. -/
import Derived.Test.YtnagdjipmpjaaaiNm01
import Derived.Test.YtnagdjipmpjaaaiNm03
import Derived.Test.YtnagdjipmpjaaaiNm02
import Derived.Test.YtnagdjipmpjaaaiNm04
import Derived.Deep.Slices
import Derived.Deep.Strs
import Derived.ChangeSlices
import Derived.Lib.SmallJoins
import Derived.OpenShut
namespace Go.Proofs.Ytnagdjipmpjaaai
set_option linter.unusedVariables false

/-- The sum of the first n. -/
def sumN : Nat → (Nat → Nat) → Nat
  | 0, _ => 0
  | n + 1, g => sumN n g + g n
theorem sumN_congr : ∀ {n : Nat} {g h : Nat → Nat}, (∀ i, i < n → g i = h i) → sumN n g = sumN n h
  | 0, _, _, _ => rfl
  | n + 1, g, h, e => by simp only [sumN]; rw [sumN_congr (fun i hi => e i (by omega)), e n (by omega)]
theorem sumN_zero : ∀ {n : Nat} {g : Nat → Nat}, (∀ i, i < n → g i = 0) → sumN n g = 0
  | 0, _, _ => rfl
  | n + 1, g, e => by simp only [sumN]; rw [sumN_zero (fun i hi => e i (by omega)), e n (by omega)]
theorem sumN_le : ∀ {n : Nat} {g h : Nat → Nat}, (∀ i, i < n → g i ≤ h i) → sumN n g ≤ sumN n h
  | 0, _, _, _ => Nat.le_refl _
  | n + 1, g, h, e => by
    simp only [sumN]
    have := sumN_le (n := n) (g := g) (h := h) (fun i hi => e i (by omega))
    have := e n (by omega)
    omega
theorem sumN_add : ∀ (n : Nat) (g h : Nat → Nat), sumN n (fun i => g i + h i) = sumN n g + sumN n h
  | 0, _, _ => rfl
  | n + 1, g, h => by simp only [sumN]; rw [sumN_add n g h]; omega
theorem sumN_swap : ∀ (n m : Nat) (g : Nat → Nat → Nat), sumN n (fun i => sumN m (fun j => g i j)) = sumN m (fun j => sumN n (fun i => g i j))
  | 0, m, g => by
    show 0 = sumN m (fun j => 0)
    rw [sumN_zero (fun _ _ => rfl)]
  | n + 1, m, g => by
    show sumN n (fun i => sumN m (fun j => g i j)) + sumN m (fun j => g n j) = sumN m (fun j => sumN n (fun i => g i j) + g n j)
    rw [sumN_swap n m g, sumN_add]
theorem sumN_if {n : Nat} {c : Prop} [Decidable c] {g : Nat → Nat} : sumN n (fun i => if c then g i else 0) = if c then sumN n g else 0 := by
  by_cases h : c
  · rw [if_pos h]; exact sumN_congr (fun i _ => if_pos h)
  · rw [if_neg h]; exact sumN_zero (fun i _ => if_neg h)
theorem sumN_mul (c : Nat) : ∀ (n : Nat) (g : Nat → Nat), sumN n (fun i => g i * c) = sumN n g * c
  | 0, _ => by simp [sumN]
  | n + 1, g => by simp only [sumN]; rw [sumN_mul c n g, Nat.add_mul]
/-- One alone counts. -/
theorem sumN_one : ∀ {n i : Nat} {g : Nat → Nat}, i < n → (∀ j, j < n → j ≠ i → g j = 0) → sumN n g = g i
  | 0, i, g, h, _ => by omega
  | n + 1, i, g, h, e => by
    simp only [sumN]
    by_cases q : i = n
    · subst q
      rw [sumN_zero (fun j hj => e j (by omega) (by omega))]
      omega
    · rw [sumN_one (show i < n by omega) (fun j hj => e j (by omega)), e n (by omega) (by omega)]
      omega
/-- One turned: by how much it is more. -/
theorem sumN_more : ∀ {n i : Nat} {g h : Nat → Nat} {c : Nat}, i < n → (∀ j, j < n → j ≠ i → h j = g j) → h i = g i + c → sumN n h = sumN n g + c
  | 0, i, g, h, c, hi, _, _ => by omega
  | n + 1, i, g, h, c, hi, e, q => by
    simp only [sumN]
    by_cases k : i = n
    · subst k
      rw [sumN_congr (g := h) (h := g) (fun j hj => e j (by omega) (by omega)), q]
      omega
    · rw [sumN_more (show i < n by omega) (fun j hj => e j (by omega)) q, e n (by omega) (by omega)]
      omega
/-- How many of the first n there are. -/
def cntN (n : Nat) (p : Nat → Bool) : Nat := sumN n (fun i => if p i = true then 1 else 0)
theorem cntN_lt {n i : Nat} {p q : Nat → Bool} (hi : i < n) (h : ∀ j, j < n → p j = true → q j = true) (hq : q i = true) (hp : p i = false) : cntN n p < cntN n q := by
  have h1 : cntN n (fun j => p j || decide (j = i)) ≤ cntN n q := sumN_le (fun j hj => by
    by_cases a : p j = true
    · simp [a, h j hj a]
    · by_cases b : j = i
      · subst b; simp [hq]
      · simp [a, b])
  have h2 : cntN n (fun j => p j || decide (j = i)) = cntN n p + 1 := sumN_more hi (fun j hj ne => by simp [ne]) (by simp [hp])
  omega
theorem cntN_le (n : Nat) (p : Nat → Bool) : cntN n p ≤ n := by
  have h : ∀ n : Nat, sumN n (fun _ => 1) = n := by
    intro n
    induction n with
    | zero => rfl
    | succ n ih => simp only [sumN]; rw [ih]
  have := sumN_le (n := n) (g := fun i => if p i = true then 1 else 0) (h := fun _ => 1) (fun i _ => by split <;> omega)
  rw [h] at this
  exact this
theorem cntN_one {n : Nat} {p : Nat → Bool} (h : cntN n p = 1) : ∃ i, i < n ∧ p i = true ∧ ∀ j, j < n → p j = true → j = i := by
  have ex : ∃ i, i < n ∧ p i = true := by
    apply Classical.byContradiction
    intro no
    have : cntN n p = 0 := sumN_zero (fun i hi => if_neg (fun e => no ⟨i, hi, e⟩))
    omega
  obtain ⟨i, hi, pi⟩ := ex
  refine ⟨i, hi, pi, fun j hj pj => Classical.byContradiction fun ne => ?_⟩
  have h1 : cntN n (fun k => decide (k = i)) < cntN n p := cntN_lt hj (fun k hk e => by rw [of_decide_eq_true e]; exact pi) pj (by simp [ne])
  have h2 : cntN n (fun k => decide (k = i)) = 1 := (sumN_one hi (fun k hk ne => by simp [ne])).trans (by simp)
  omega
theorem cntN_zero {n : Nat} {p : Nat → Bool} (h : cntN n p = 0) : ∀ i, i < n → p i = false := fun i hi => by
  cases e : p i with
  | false => rfl
  | true =>
    have : cntN n (fun _ => false) < cntN n p := cntN_lt hi (fun j hj e => by cases e) e rfl
    omega
/-- A set without one. -/
def ers (S : Nat → Bool) (i : Nat) (j : Nat) : Bool := S j && !decide (j = i)
theorem ers_self (S : Nat → Bool) (i : Nat) : ers S i i = false := by simp [ers]
theorem ers_ne {S : Nat → Bool} {i j : Nat} (h : j ≠ i) : ers S i j = S j := by simp [ers, h]
theorem ers_ers (S : Nat → Bool) (i j : Nat) : ers (ers S i) j = ers (ers S j) i := by
  funext k
  unfold ers
  cases S k <;> simp [Bool.and_comm]
theorem cntN_ers {n i : Nat} {S : Nat → Bool} (hi : i < n) (h : S i = true) : cntN n S = cntN n (ers S i) + 1 := by
  refine sumN_more hi (fun j hj ne => ?_) ?_
  · rw [ers_ne ne]
  · rw [ers_self, h]; rfl
end Go.Proofs.Ytnagdjipmpjaaai
namespace Go.Proofs.Ytnagdjipmpjaaai
set_option linter.unusedVariables false

/-- An event: its number, and from when to when it may have been. -/
structure Ev where
  id : Int
  lo : Int
  hi : Int
/-- Is one surely ahead of another one? -/
def sur (f : Nat → Ev) (i k : Nat) : Bool := decide ((f i).hi < (f k).lo)
section
variable {f : Nat → Ev} {n : Nat} {S : Nat → Bool}
/-- In a set nobody is surely ahead of it; it is surely ahead of nobody. -/
def minB (f : Nat → Ev) (n : Nat) (S : Nat → Bool) (i : Nat) : Bool := S i && decide (∀ k, k < n → S k = true → sur f k i = false)
def maxB (f : Nat → Ev) (n : Nat) (S : Nat → Bool) (i : Nat) : Bool := S i && decide (∀ k, k < n → S k = true → sur f i k = false)
theorem minB_t {i : Nat} : minB f n S i = true ↔ S i = true ∧ ∀ k, k < n → S k = true → sur f k i = false := by simp [minB]
theorem maxB_t {i : Nat} : maxB f n S i = true ↔ S i = true ∧ ∀ k, k < n → S k = true → sur f i k = false := by simp [maxB]
/-- In how many orders a set of m can be, by who is first; by who is last. -/
def waysF (f : Nat → Ev) (n : Nat) : Nat → (Nat → Bool) → Nat
  | 0, _ => 1
  | m + 1, S => sumN n (fun i => if minB f n S i = true then waysF f n m (ers S i) else 0)
def waysL (f : Nat → Ev) (n : Nat) : Nat → (Nat → Bool) → Nat
  | 0, _ => 1
  | m + 1, S => sumN n (fun i => if maxB f n S i = true then waysL f n m (ers S i) else 0)
/-- Nobody is surely ahead of himself, where spans are right. -/
def Irr (f : Nat → Ev) (n : Nat) : Prop := ∀ i, i < n → sur f i i = false
theorem pair_same (hI : Irr f n) {i j : Nat} (hi : i < n) (hj : j < n) : (minB f n S i = true ∧ maxB f n (ers S i) j = true) ↔ (maxB f n S j = true ∧ minB f n (ers S j) i = true) := by
  rw [minB_t, maxB_t, minB_t, maxB_t]
  constructor
  · rintro ⟨⟨a1, a2⟩, b1, b2⟩
    have ne : j ≠ i := fun e => by rw [e, ers_self] at b1; cases b1
    rw [ers_ne ne] at b1
    refine ⟨⟨b1, fun k hk sk => ?_⟩, by rw [ers_ne (Ne.symm ne)]; exact a1, fun k hk sk => ?_⟩
    · by_cases e : k = i
      · subst e
        exact a2 j hj b1
      · exact b2 k hk (by rw [ers_ne e]; exact sk)
    · by_cases e : k = j
      · subst e
        rw [ers_self] at sk
        cases sk
      · rw [ers_ne e] at sk
        exact a2 k hk sk
  · rintro ⟨⟨a1, a2⟩, b1, b2⟩
    have ne : i ≠ j := fun e => by rw [e, ers_self] at b1; cases b1
    rw [ers_ne ne] at b1
    refine ⟨⟨b1, fun k hk sk => ?_⟩, by rw [ers_ne (Ne.symm ne)]; exact a1, fun k hk sk => ?_⟩
    · by_cases e : k = j
      · subst e
        exact a2 i hi b1
      · exact b2 k hk (by rw [ers_ne e]; exact sk)
    · by_cases e : k = i
      · subst e
        rw [ers_self] at sk
        cases sk
      · rw [ers_ne e] at sk
        exact a2 k hk sk
/-- By who is first as by who is last. -/
theorem ways_same (hI : Irr f n) : ∀ (m : Nat) (S : Nat → Bool), cntN n S = m → waysF f n m S = waysL f n m S
  | 0, _, _ => rfl
  | 1, S, h => by
    obtain ⟨i, hi, si, only⟩ := cntN_one h
    have a : minB f n S i = true := minB_t.2 ⟨si, fun k hk sk => by rw [only k hk sk]; exact hI i hi⟩
    have b : maxB f n S i = true := maxB_t.2 ⟨si, fun k hk sk => by rw [only k hk sk]; exact hI i hi⟩
    show sumN n (fun i => if minB f n S i = true then 1 else 0) = sumN n (fun i => if maxB f n S i = true then 1 else 0)
    rw [sumN_one hi (fun j hj ne => if_neg (fun e => ne (only j hj (minB_t.1 e).1))), sumN_one hi (fun j hj ne => if_neg (fun e => ne (only j hj (maxB_t.1 e).1))), if_pos a, if_pos b]
  | m + 2, S, h => by
    have e1 : waysF f n (m + 2) S = sumN n (fun i => sumN n (fun j => if minB f n S i = true ∧ maxB f n (ers S i) j = true then waysL f n m (ers (ers S i) j) else 0)) := by
      refine sumN_congr (fun i hi => ?_)
      by_cases a : minB f n S i = true
      · rw [if_pos a, ways_same hI (m + 1) (ers S i) (by have := cntN_ers hi (minB_t.1 a).1; omega)]
        exact sumN_congr (fun j hj => by simp [a])
      · rw [if_neg a, sumN_zero (fun j hj => if_neg (fun e => a e.1))]
    have e2 : waysL f n (m + 2) S = sumN n (fun j => sumN n (fun i => if maxB f n S j = true ∧ minB f n (ers S j) i = true then waysF f n m (ers (ers S j) i) else 0)) := by
      refine sumN_congr (fun j hj => ?_)
      by_cases a : maxB f n S j = true
      · rw [if_pos a, ← ways_same hI (m + 1) (ers S j) (by have := cntN_ers hj (maxB_t.1 a).1; omega)]
        exact sumN_congr (fun i hi => by simp [a])
      · rw [if_neg a, sumN_zero (fun i hi => if_neg (fun e => a e.1))]
    rw [e1, e2, sumN_swap]
    refine sumN_congr (fun j hj => sumN_congr (fun i hi => ?_))
    have p := pair_same (S := S) hI hi hj
    by_cases c : minB f n S i = true ∧ maxB f n (ers S i) j = true
    · rw [if_pos c, if_pos (p.1 c), ers_ers, ways_same hI m _ ?_]
      have c1 := cntN_ers hj (maxB_t.1 (p.1 c).1).1
      have c2 := cntN_ers hi (minB_t.1 (p.1 c).2).1
      omega
    · rw [if_neg c, if_neg (fun q => c (p.2 q))]
/-- 1 times 2, and so on. -/
def fac : Nat → Nat
  | 0 => 1
  | m + 1 => (m + 1) * fac m
theorem waysL_le : ∀ (m : Nat) (S : Nat → Bool), cntN n S = m → waysL f n m S ≤ fac m
  | 0, _, _ => Nat.le_refl _
  | m + 1, S, h => by
    have : waysL f n (m + 1) S ≤ sumN n (fun i => (if S i = true then 1 else 0) * fac m) := sumN_le (fun i hi => by
      by_cases a : maxB f n S i = true
      · have s := (maxB_t.1 a).1
        rw [if_pos a, if_pos s, Nat.one_mul]
        exact waysL_le m (ers S i) (by have := cntN_ers hi s; omega)
      · rw [if_neg a]
        exact Nat.zero_le _)
    rw [sumN_mul] at this
    have e : sumN n (fun i => if S i = true then 1 else 0) = m + 1 := h
    rw [e] at this
    exact this
theorem waysL_congr : ∀ (m : Nat) {S S' : Nat → Bool}, (∀ i, i < n → S i = S' i) → waysL f n m S = waysL f n m S'
  | 0, _, _, _ => rfl
  | m + 1, S, S', h => by
    refine sumN_congr (fun i hi => ?_)
    have e : maxB f n S i = maxB f n S' i := by
      have q : (∀ k, k < n → S k = true → sur f i k = false) ↔ (∀ k, k < n → S' k = true → sur f i k = false) := ⟨fun g k hk s => g k hk (by rw [h k hk]; exact s), fun g k hk s => g k hk (by rw [← h k hk]; exact s)⟩
      unfold maxB
      rw [h i hi, decide_eq_decide.2 q]
    rw [e]
    split
    · exact waysL_congr m (fun k hk => by unfold ers; rw [h k hk])
    · rfl
/-- In how many orders all can be. -/
def mny (f : Nat → Ev) (n : Nat) : Nat := waysL f n n (fun _ => true)
theorem cntN_all : ∀ n : Nat, cntN n (fun _ => true) = n
  | 0 => rfl
  | n + 1 => by
    have := cntN_all n
    unfold cntN at this ⊢
    simp only [sumN, if_true] at this ⊢
    omega
/-- .. where none is surely ahead of another one, and where each is of the next. -/
theorem waysL_free (h : ∀ i k, i < n → k < n → sur f i k = false) : ∀ (m : Nat) (S : Nat → Bool), cntN n S = m → waysL f n m S = fac m
  | 0, _, _ => rfl
  | m + 1, S, c => by
    have : waysL f n (m + 1) S = sumN n (fun i => (if S i = true then 1 else 0) * fac m) := sumN_congr (fun i hi => by
      by_cases s : S i = true
      · rw [if_pos (maxB_t.2 ⟨s, fun k hk _ => h i k hi hk⟩), if_pos s, Nat.one_mul]
        exact waysL_free h m (ers S i) (by have := cntN_ers hi s; omega)
      · rw [if_neg (fun e => s (maxB_t.1 e).1), if_neg s, Nat.zero_mul])
    rw [this, sumN_mul]
    have e : sumN n (fun i => if S i = true then 1 else 0) = m + 1 := c
    rw [e]
    rfl
theorem waysL_apart (h : ∀ i k, i < n → k < n → (sur f i k = true ↔ i < k)) : ∀ (m : Nat), m ≤ n → waysL f n m (fun i => decide (i < m)) = 1
  | 0, _ => rfl
  | m + 1, hm => by
    show sumN n (fun i => if maxB f n (fun i => decide (i < m + 1)) i = true then waysL f n m (ers (fun i => decide (i < m + 1)) i) else 0) = 1
    rw [sumN_one (i := m) (by omega) (fun j hj ne => if_neg (fun e => ?_))]
    · rw [if_pos (maxB_t.2 ⟨by simp, fun k hk s => ?_⟩)]
      · rw [waysL_congr m (S' := fun i => decide (i < m)) (fun i hi => ?_)]
        · exact waysL_apart h m (by omega)
        · unfold ers
          by_cases c : i < m
          · have : i ≠ m := by omega
            simp [c, this, show i < m + 1 by omega]
          · by_cases d : i = m
            · simp [d]
            · simp [c, d]; omega
      · have s' : k < m + 1 := of_decide_eq_true s
        cases e : sur f m k with
        | false => rfl
        | true => have := (h m k (by omega) hk).1 e; omega
    · obtain ⟨a, b⟩ := maxB_t.1 e
      have a' : j < m + 1 := of_decide_eq_true a
      have := b m (by omega) (by simp)
      rw [(h j m hj (by omega)).2 (by omega)] at this
      cases this
end
end Go.Proofs.Ytnagdjipmpjaaai
namespace Go.Proofs.Ytnagdjipmpjaaai
open Go.ChangeShapes Go.WideShapes Go.ChangeAt Go.RowKit Go.Joins Go.Deep
set_option linter.unusedVariables false

/-- An act. -/
structure Ac where
  wh : Int
  a : Int
  b : Int
structure Ac.In (q : Ac) : Prop where
  wh : In64 q.wh
  a : In64 q.a
  b : In64 q.b
/-- Acts lie in a row behind an address. -/
def Acs (w : World) (b off n : Nat) (q : Nat → Ac) : Prop := ∀ i, i < n → w.cell? ⟨b, off + i * 3, none⟩ = some (.int .i64 (q i).wh) ∧ w.cell? ⟨b, off + i * 3 + 1, none⟩ = some (.int .i64 (q i).a) ∧ w.cell? ⟨b, off + i * 3 + 2, none⟩ = some (.int .i64 (q i).b) ∧ (q i).In
def AHanded (w : World) (a : Option Addr) (n : Nat) (q : Nat → Ac) : Prop := n ≤ 9223372036854775807 ∧ (n = 0 ∨ ∃ b off : Nat, a = some ⟨b, off, none⟩ ∧ Acs w b off n q)
theorem cellsAct : Try.prog.cellsOf 30 = 3 := by kernel_rfl
theorem cells3a {α : Type} {cs : List α} (h : cs.length = 3) : ∃ a b c, cs = [a, b, c] := by
  match cs, h with
  | [a, b, c], _ => exact ⟨a, b, c, rfl⟩
section
variable {H : Type} {enc : TypeId × Value → H} {w : World} {base : Nat} {spare : Nat → Bool} {held : Bool}
set_option maxRecDepth 100000 in
theorem open_act_cells {fuel : Nat} {cs : List Value} {x : DataW H × List MemPlace} (hl : cs.length = 3) (h : DataW.trod enc Try.prog w base spare held fuel 30 cs = some x) :
    ∃ q : Ac, cs = [.int .i64 q.wh, .int .i64 q.a, .int .i64 q.b] ∧ q.In := by
  obtain ⟨v0, v1, v2, rfl⟩ := cells3a hl
  obtain ⟨y0, y1, y2, n, hx, _, h0, h1, h2⟩ := trod_struct3 Try.underlying30 h
  have k : Try.prog.cellsOf 3 = 1 := by kernel_rfl
  have g0 : DataW.trod enc Try.prog w base spare held n 3 [v0] = some y0 := by simpa [k] using h0
  have g1 : DataW.trod enc Try.prog w base spare held n 3 [v1] = some y1 := by simpa [k] using h1
  have g2 : DataW.trod enc Try.prog w base spare held n 3 [v2] = some y2 := by simpa [k] using h2
  obtain ⟨n0, e0, i0, f0⟩ := DataW.trod_int Try.underlying3 g0
  obtain ⟨n1, e1, i1, f1⟩ := DataW.trod_int Try.underlying3 g1
  obtain ⟨n2, e2, i2, f2⟩ := DataW.trod_int Try.underlying3 g2
  simp at e0 e1 e2
  exact ⟨⟨n0, n1, n2⟩, by rw [e0, e1, e2], f0, f1, f2⟩
set_option maxRecDepth 100000 in
theorem open_acts {r : Reach} {b0 : Nat} {v : Value} {d : DataW H} {p : List MemPlace} (hv : Value.okWide Try.prog w r b0 38 v) (h : DataW.Trod enc Try.prog w base spare held 38 v d p) :
    ∃ (a : Option Addr) (n cap : Nat) (q : Nat → Ac), v = .slice a n cap ∧ AHanded w a n q := by
  obtain ⟨a, n, cap, rfl⟩ := okWide_slice Try.underlying38 hv
  obtain ⟨fuel, hf⟩ := h
  have hf' : DataW.trod enc Try.prog w base spare held fuel 38 [.slice a n cap] = some (d, p) := by simpa [Value.cells] using hf
  rcases open_slice Try.underlying38 hf' with ⟨hcs, hx⟩ | ⟨a', len', cap', m, nf, D, Pl, hcs, hb, hl, hm, hmm, hx, hx2⟩
  · simp at hcs
    exact ⟨a, n, cap, fun _ => ⟨0, 0, 0⟩, rfl, by omega, Or.inl hcs.2.1⟩
  · simp at hcs
    obtain ⟨rfl, rfl, rfl⟩ := hcs
    unfold maxLen at hm
    by_cases h0 : n = 0
    · exact ⟨_, n, cap, fun _ => ⟨0, 0, 0⟩, rfl, by omega, Or.inl h0⟩
    have hnm : n ≤ m := by rw [hmm]; split <;> omega
    have each : ∀ i, i < n → ∃ q : Ac, w.cell? (a'.add (i * 3)) = some (.int .i64 q.wh) ∧ w.cell? (a'.add (i * 3 + 1)) = some (.int .i64 q.a) ∧ w.cell? (a'.add (i * 3 + 2)) = some (.int .i64 q.b) ∧ q.In := by
      intro i hi
      obtain ⟨cs', h1, h2⟩ := hx2 i (by omega)
      rw [cellsAct] at h1
      obtain ⟨_, hlen, hcell⟩ := World.cells?_some h1
      obtain ⟨q, rfl, hq⟩ := open_act_cells hlen h2
      refine ⟨q, ?_, ?_, ?_, hq⟩
      · have := hcell 0 (by omega); rw [add_add] at this; simpa using this
      · have := hcell 1 (by omega); rw [add_add] at this; simpa using this
      · have := hcell 2 (by omega); rw [add_add] at this; simpa using this
    haveI : Inhabited Ac := ⟨⟨0, 0, 0⟩⟩
    obtain ⟨q, hq⟩ := choose_lt each
    obtain ⟨b, off, spot⟩ := a'
    have hspot : spot = none := by simpa [Addr.add] using World.cell?_spot (hq 0 (by omega)).1
    subst hspot
    refine ⟨_, n, cap, q, rfl, by omega, Or.inr ⟨b, off, rfl, fun i hi => ?_⟩⟩
    obtain ⟨g0, g1, g2, g3⟩ := hq i hi
    rw [add_plain] at g0 g1 g2
    exact ⟨g0, g1, g2, g3⟩
theorem trod_struct6 {P : Program} {t : TypeId} {f0 f1 f2 f3 f4 f5 : Field} {fuel : Nat} {cs : List Value} {x : DataW H × List MemPlace} (ht : P.underlying t = some (.struct #[f0, f1, f2, f3, f4, f5])) (h : DataW.trod enc P w base spare held fuel t cs = some x) :
    ∃ y0 y1 y2 y3 y4 y5 n, DataW.trod enc P w base spare held n f0.type ((cs.drop f0.offset).take (P.cellsOf f0.type)) = some y0 ∧
      DataW.trod enc P w base spare held n f1.type ((cs.drop f1.offset).take (P.cellsOf f1.type)) = some y1 ∧ DataW.trod enc P w base spare held n f2.type ((cs.drop f2.offset).take (P.cellsOf f2.type)) = some y2 ∧
      DataW.trod enc P w base spare held n f3.type ((cs.drop f3.offset).take (P.cellsOf f3.type)) = some y3 ∧ DataW.trod enc P w base spare held n f4.type ((cs.drop f4.offset).take (P.cellsOf f4.type)) = some y4 ∧
      DataW.trod enc P w base spare held n f5.type ((cs.drop f5.offset).take (P.cellsOf f5.type)) = some y5 := by
  obtain ⟨xs, n, _, rfl, hl, hlen, hf⟩ := DataW.trod_struct ht h
  match xs, hlen with
  | [y0, y1, y2, y3, y4, y5], _ => exact ⟨y0, y1, y2, y3, y4, y5, n, by simpa using hf 0 f0 rfl, by simpa using hf 1 f1 rfl, by simpa using hf 2 f2 rfl, by simpa using hf 3 f3 rfl, by simpa using hf 4 f4 rfl, by simpa using hf 5 f5 rfl⟩
theorem cellsLetter : Try.prog.cellsOf 64 = 6 := by kernel_rfl
theorem array6 {α : Type} {cs : Array α} (h : cs.size = 6) : ∃ c0 c1 c2 c3 c4 c5, cs = #[c0, c1, c2, c3, c4, c5] := by
  obtain ⟨l⟩ := cs
  match l, h with
  | [c0, c1, c2, c3, c4, c5], _ => exact ⟨c0, c1, c2, c3, c4, c5, rfl⟩
/-- A letter's clocks are numbers that an int can be. -/
def Lt.In (l : Lt) : Prop := In64 l.frm ∧ In64 l.to
set_option maxRecDepth 100000 in
theorem open_letter {r : Reach} {b0 : Nat} {v : Value} {d : DataW H} {p : List MemPlace} (hv : Value.okWide Try.prog w r b0 64 v) (h : DataW.Trod enc Try.prog w base spare held 64 v d p) :
    ∃ l : Lt, v = ltv l ∧ l.In := by
  obtain ⟨cs, rfl, hsz⟩ := okWide_struct Try.underlying64 hv
  rw [cellsLetter] at hsz
  obtain ⟨v0, v1, v2, v3, v4, v5, rfl⟩ := array6 hsz
  obtain ⟨fuel, hf⟩ := h
  have hf' : DataW.trod enc Try.prog w base spare held fuel 64 [v0, v1, v2, v3, v4, v5] = some (d, p) := by simpa [Value.cells] using hf
  obtain ⟨y0, y1, y2, y3, y4, y5, n, h0, h1, h2, h3, h4, h5⟩ := trod_struct6 Try.underlying64 hf'
  have k : Try.prog.cellsOf 3 = 1 := by kernel_rfl
  have kb : Try.prog.cellsOf 4 = 1 := by kernel_rfl
  have g0 : DataW.trod enc Try.prog w base spare held n 3 [v0] = some y0 := by simpa [k, kb] using h0
  have g1 : DataW.trod enc Try.prog w base spare held n 3 [v1] = some y1 := by simpa [k, kb] using h1
  have g2 : DataW.trod enc Try.prog w base spare held n 4 [v2] = some y2 := by simpa [k, kb] using h2
  have g3 : DataW.trod enc Try.prog w base spare held n 3 [v3] = some y3 := by simpa [k, kb] using h3
  have g4 : DataW.trod enc Try.prog w base spare held n 3 [v4] = some y4 := by simpa [k, kb] using h4
  have g5 : DataW.trod enc Try.prog w base spare held n 3 [v5] = some y5 := by simpa [k, kb] using h5
  obtain ⟨n0, e0, _, f0⟩ := DataW.trod_int Try.underlying3 g0
  obtain ⟨n1, e1, _, f1⟩ := DataW.trod_int Try.underlying3 g1
  obtain ⟨n2, e2, _⟩ := DataW.trod_bool Try.underlying4 g2
  obtain ⟨n3, e3, _, f3⟩ := DataW.trod_int Try.underlying3 g3
  obtain ⟨n4, e4, _, f4⟩ := DataW.trod_int Try.underlying3 g4
  obtain ⟨n5, e5, _, f5⟩ := DataW.trod_int Try.underlying3 g5
  simp at e0 e1 e2 e3 e4 e5
  exact ⟨⟨n0, n1, n2, n3, n4, n5⟩, by rw [e0, e1, e2, e3, e4, e5]; rfl, f0, f1⟩
end
end Go.Proofs.Ytnagdjipmpjaaai
