/- How wide all are together, row by row: plain mathematics. How wide all are together, column by column: plain mathematics. What package net must answer: Wide. A net, act by act: asked, answered: plain mathematics. -/
import Derived.Test.YtnagdjipmpjaaaiNm11
namespace Go.Proofs.Ytnagdjipmpjaaai
set_option linter.unusedVariables false

def wt (T : Tb) (a b : Nat) : Int := if a < b ∧ (T a b).isSome = true then spHi T a b - spLo T a b else 0
def wrow (T : Tb) (a m : Nat) : Int := ((List.range m).map (wt T a)).sum
def wsum (T : Tb) (n k : Nat) : Int := ((List.range k).map (fun a => wrow T a n)).sum
theorem wid_is (n : Nat) (T : Tb) : wid n T = wsum T n n := rfl
theorem wrow_succ (T : Tb) (a m : Nat) : wrow T a (m + 1) = wrow T a m + wt T a m := by
  unfold wrow
  rw [List.range_succ, List.map_append, List.sum_append]
  simp
theorem wsum_succ (T : Tb) (n k : Nat) : wsum T n (k + 1) = wsum T n k + wrow T k n := by
  unfold wsum
  rw [List.range_succ, List.map_append, List.sum_append]
  simp
theorem wrow_low (T : Tb) (a : Nat) : ∀ m, m ≤ a + 1 → wrow T a m = 0
  | 0, _ => rfl
  | m + 1, h => by
    rw [wrow_succ, wrow_low T a m (by omega)]
    unfold wt
    rw [if_neg (by omega)]
    rfl
/-- What is told of two, and how wide it is. -/
theorem wt_b {q : Nat → Eg} {m n : Nat} {T : Tb} (hA : AllA q m n 0 T) {a b : Nat} (ha : a < n) (hb : b < n) : 0 ≤ wt T a b ∧ wt T a b ≤ 2000000000000 ∧ ((T a b).isSome = true → -1000000000000 ≤ spLo T a b ∧ spLo T a b ≤ spHi T a b ∧ spHi T a b ≤ 1000000000000) := by
  rcases hA with ⟨_, c⟩ | ⟨nn, hT, ⟨_, c⟩ | ⟨nf, _⟩⟩
  · cases c
  · cases c
  have key : (T a b).isSome = true → -1000000000000 ≤ spLo T a b ∧ spLo T a b ≤ spHi T a b ∧ spHi T a b ≤ 1000000000000 := by
    intro hs
    cases s : T a b with
    | none => rw [s] at hs; cases hs
    | some x =>
      obtain ⟨y, s'⟩ := hT.back ha hb s
      obtain ⟨⟨r1, w1⟩, _⟩ := (hT a b ha).1 x s
      obtain ⟨⟨r2, w2⟩, _⟩ := (hT b a hb).1 y s'
      have f1 := not_far nf ha hb s
      have f2 := not_far nf hb ha s'
      have p := not_neg nn _ _ _ ha (w1.app w2)
      have eh : spHi T a b = x := by unfold spHi; rw [s]; rfl
      have el : spLo T a b = -y := by unfold spLo; rw [s, s']; rfl
      rw [eh, el]
      omega
  refine ⟨?_, ?_, key⟩
  · unfold wt
    split
    · rename_i q; have := key q.2; omega
    · omega
  · unfold wt
    split
    · rename_i q; have := key q.2; omega
    · omega
theorem wrow_b {q : Nat → Eg} {m n : Nat} {T : Tb} (hA : AllA q m n 0 T) {a : Nat} (ha : a < n) : ∀ k, k ≤ n → 0 ≤ wrow T a k ∧ wrow T a k ≤ (k : Int) * 2000000000000
  | 0, _ => ⟨by rw [show wrow T a 0 = 0 from rfl]; decide, by rw [show wrow T a 0 = 0 from rfl]; simp⟩
  | k + 1, h => by
    have i := wrow_b hA ha k (by omega)
    have t := wt_b hA ha (show k < n by omega)
    rw [wrow_succ]
    omega
theorem wsum_b {q : Nat → Eg} {m n : Nat} {T : Tb} (hA : AllA q m n 0 T) (h6 : n ≤ 6) : ∀ k, k ≤ n → 0 ≤ wsum T n k ∧ wsum T n k ≤ (k : Int) * 12000000000000
  | 0, _ => ⟨by rw [show wsum T n 0 = 0 from rfl]; decide, by rw [show wsum T n 0 = 0 from rfl]; simp⟩
  | k + 1, h => by
    have i := wsum_b hA h6 k (by omega)
    have t := wrow_b hA (show k < n by omega) n (Nat.le_refl _)
    rw [wsum_succ]
    omega
end Go.Proofs.Ytnagdjipmpjaaai
namespace Go.Proofs.Ytnagdjipmpjaaai
set_option linter.unusedVariables false

def wcol (T : Tb) (b m : Nat) : Int := ((List.range m).map (fun a => wt T a b)).sum
def csum (T : Tb) (k : Nat) : Int := ((List.range k).map (fun b => wcol T b b)).sum
theorem wcol_succ (T : Tb) (b m : Nat) : wcol T b (m + 1) = wcol T b m + wt T m b := by
  unfold wcol
  rw [List.range_succ, List.map_append, List.sum_append]
  simp
theorem csum_succ (T : Tb) (k : Nat) : csum T (k + 1) = csum T k + wcol T k k := by
  unfold csum
  rw [List.range_succ, List.map_append, List.sum_append]
  simp
theorem wsum_col (T : Tb) (n : Nat) : ∀ k, wsum T (n + 1) k = wsum T n k + wcol T n k
  | 0 => rfl
  | k + 1 => by
    rw [wsum_succ, wsum_succ, wcol_succ, wsum_col T n k, wrow_succ]
    omega
/-- Row by row and column by column it is the same. -/
theorem csum_is (T : Tb) : ∀ n, csum T n = wsum T n n
  | 0 => rfl
  | n + 1 => by
    rw [csum_succ, wsum_succ, wsum_col, csum_is T n, wrow_low T n (n + 1) (Nat.le_refl _)]
    omega
theorem wcol_b {q : Nat → Eg} {m n : Nat} {T : Tb} (hA : AllA q m n 0 T) {b : Nat} (hb : b < n) : ∀ k, k ≤ n → 0 ≤ wcol T b k ∧ wcol T b k ≤ (k : Int) * 2000000000000
  | 0, _ => ⟨by rw [show wcol T b 0 = 0 from rfl]; decide, by rw [show wcol T b 0 = 0 from rfl]; simp⟩
  | k + 1, h => by
    have i := wcol_b hA hb k (by omega)
    have t := wt_b hA (show k < n by omega) hb
    rw [wcol_succ]
    omega
theorem csum_b {q : Nat → Eg} {m n : Nat} {T : Tb} (hA : AllA q m n 0 T) (h6 : n ≤ 6) : ∀ k, k ≤ n → 0 ≤ csum T k ∧ csum T k ≤ (k : Int) * 12000000000000
  | 0, _ => ⟨by rw [show csum T 0 = 0 from rfl]; decide, by rw [show csum T 0 = 0 from rfl]; simp⟩
  | k + 1, h => by
    have i := csum_b hA h6 k (by omega)
    have t := wcol_b hA (show k < n by omega) k (by omega)
    rw [csum_succ]
    omega
end Go.Proofs.Ytnagdjipmpjaaai
namespace Go.Proofs.Ytnagdjipmpjaaai
open Go.ChangeShapes Go.WideShapes Go.ChangeAt Go.RowKit
set_option linter.unusedVariables false

/-- .. and Wide. -/
structure NtW (w0 : World) extends NtO w0 where
  wide : ∀ (b : Nat) (F : Nat → Prop) (N : Nn) (T : Tb) (u : World), R u b F N → N.T → AllA (egf (eoN N)) (eoN N).length N.W.n 0 T → Calls Try.prog 8 #[.pointer (some ⟨b, 0, none⟩)] u fun o w' => o = .returned (.tuple #[.int .i64 (wid N.W.n T), .nilIface]) ∧ Below u.heap.size u w'
end Go.Proofs.Ytnagdjipmpjaaai
namespace Go.Proofs.Ytnagdjipmpjaaai
set_option linter.unusedVariables false

section
variable {N : Nn}
/-- One node asks another one. -/
theorem ask_ok (g : N.T) {a b : Nat} (ha : a < N.W.n) (hb : b < N.W.n) (ne : a ≠ b) (hu : N.W.under = []) :
    NDoR N 2 a b ⟨{ N.W with under := [⟨a, b, false, 0, 0, N.W.rd a⟩] }, N.p, N.nd⟩ 0 := by
  refine ⟨_, none, 0, Or.inr (Or.inr (Or.inr (Or.inr (Or.inr (Or.inl ⟨rfl, ⟨⟨by omega, by omega⟩, by omega, by omega⟩, by omega, by rw [hu]; decide, rfl, rfl, rfl⟩))))), Or.inl ⟨rfl, ?_, rfl⟩⟩
  rw [hu, Int.toNat_natCast]
  rfl
/-- Time goes on. -/
theorem go_ok (g : N.T) {t y : Int} (t0 : 0 ≤ t) (t1 : t ≤ 1000000) (t2 : N.W.time + t ≤ 1000000000) : NDoR N 1 t y ⟨{ N.W with time := N.W.time + t }, N.p, N.nd⟩ 0 :=
  ⟨_, none, 0, Or.inr (Or.inl ⟨rfl, ⟨t0, t1, t2⟩, rfl, rfl, rfl⟩), Or.inl ⟨rfl, rfl, rfl⟩⟩
/-- The question comes, and is answered. -/
theorem come_ask (g : N.T) {a b : Nat} {t y : Int} (hu : N.W.under = [⟨a, b, false, 0, 0, t⟩]) :
    NDoR N 3 0 y ⟨{ N.W with under := [⟨b, a, true, t, N.W.rd b, N.W.rd b⟩] }, N.p, updN N.nd b { N.nd b with h := N.W.rd b }⟩ 0 := by
  have hl := g.lk _ (by rw [hu]; exact List.mem_singleton.2 rfl)
  obtain ⟨a', b', h1, h2, h3, h4, h5, q⟩ := hl
  have ea : a' = a := by have : (a : Int) = a' := h1; omega
  have eb : b' = b := by have : (b : Int) = b' := h2; omega
  subst ea
  subst eb
  have kn := g.kn _ h4
  have e0 : ({ N.W with under := N.W.under.eraseIdx (0 : Int).toNat } : Ws) = { N.W with under := [] } := by rw [hu]; rfl
  refine ⟨{ N.W with under := [] }, some ⟨a', b', false, 0, 0, t⟩, 0, Or.inr (Or.inr (Or.inr (Or.inr (Or.inr (Or.inr (Or.inr (Or.inl ⟨rfl, ⟨by omega, by rw [hu]; show (0 : Int) < ((1 : Nat) : Int); decide⟩, e0.symm, by rw [hu]; rfl, rfl⟩))))))), Or.inr ⟨_, { N.nd b' with h := N.W.rd b' }, rfl, rfl, ⟨a', b', h1, h2, h3, h4, h5, q⟩, ?_, Or.inr ⟨rfl, _, Or.inr (Or.inr (Or.inr ⟨rfl, ⟨⟨by show (0 : Int) ≤ a'; omega, by show (a' : Int) < N.W.n; omega⟩, by show (0 : Int) ≤ b'; omega, by show (b' : Int) < N.W.n; omega⟩, by show 0 < 40; omega, rfl, rfl⟩)), ?_⟩⟩⟩
  · rw [Int.toNat_natCast]
    refine Or.inr (Or.inr (Or.inl ⟨kn.nbk g.g h4, ?_, rfl, rfl, rfl, rfl⟩))
    show ¬ ((b' : Int) ≠ (N.nd b').id ∨ (a' : Int) = (N.nd b').id ∨ (a' : Int) < 0 ∨ ((N.nd b').n : Int) ≤ a')
    rw [kn.id, kn.n]
    omega
  · simp only [Int.toNat_natCast]
    rfl
/-- The answer comes, and is kept. -/
theorem come_ans (g : N.T) {a b : Nat} {t1 t2 t y : Int} (hu : N.W.under = [⟨b, a, true, t1, t2, t⟩]) :
    NDoR N 3 0 y ⟨{ N.W with under := [] }, N.p, updN N.nd a ((N.nd a).kept b (N.W.rd a) ((N.nd a).bLo b (N.W.rd a) (t - N.W.rd a)) ((N.nd a).bHi b (N.W.rd a) (oH t1 t2 (N.W.rd a) (N.nd a).p)))⟩ 0 := by
  have hl := g.lk _ (by rw [hu]; exact List.mem_singleton.2 rfl)
  obtain ⟨c', hh, kc⟩ := hear_true g.g hl (g.kn _ (by
    obtain ⟨a', b', h1, h2, h3, h4, h5, q⟩ := hl
    have h2' : (a : Int) = b' := h2
    show ((a : Int)).toNat < N.W.n
    omega))
  have e0 : ({ N.W with under := N.W.under.eraseIdx (0 : Int).toNat } : Ws) = { N.W with under := [] } := by rw [hu]; rfl
  have ec : c' = (N.nd a).kept b (N.W.rd a) ((N.nd a).bLo b (N.W.rd a) (t - N.W.rd a)) ((N.nd a).bHi b (N.W.rd a) (oH t1 t2 (N.W.rd a) (N.nd a).p)) := by
    rcases hh with ⟨_, _, z, _⟩ | ⟨_, _, _, z, _⟩ | ⟨_, _, _, _, z, _⟩ | ⟨_, _, _, _, _, z, _⟩ | ⟨_, _, _, _, _, _, z, _⟩ | ⟨_, _, _, _, _, rfl, _⟩
    · cases z
    · cases z
    · cases z
    · cases z
    · cases z
    · simp only [Int.toNat_natCast]
      rfl
  refine ⟨{ N.W with under := [] }, some ⟨b, a, true, t1, t2, t⟩, 0, Or.inr (Or.inr (Or.inr (Or.inr (Or.inr (Or.inr (Or.inr (Or.inl ⟨rfl, ⟨by omega, by rw [hu]; show (0 : Int) < ((1 : Nat) : Int); decide⟩, e0.symm, by rw [hu]; rfl, rfl⟩))))))), Or.inr ⟨_, c', rfl, rfl, hl, hh, Or.inl ⟨rfl, ?_, rfl⟩⟩⟩
  rw [ec]
  simp only [Int.toNat_natCast]
end
end Go.Proofs.Ytnagdjipmpjaaai
