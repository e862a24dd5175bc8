/- Letters' cells, one behind the other. Numbers in a row, as they are handed over; errors by their numbers. A world of package world in memory: its clocks, how late it is, its letters in a row of its own. -/
import Derived.Test.YtfmaoblhoafnhajNm02
import Derived.OneCell
import Derived.Lib.SmallJoins
import Derived.OwnWalk
import Derived.Test.YtfmaoblhoafnhajNm01
import Derived.WalkArith
import Derived.Test.YtfmaoblhoafnhajNm03
namespace Go.Proofs.Ytfmaoblhoafnhaj
open Go.ChangeShapes Go.WideShapes Go.ChangeAt Go.RowKit Go.Joins
set_option linter.unusedVariables false
set_option linter.unusedSimpArgs false

theorem infoLetter : (Try.prog.info? 23).map (fun i => (i.zero, i.size, i.bytes)) = some (some (.agg #[.int .i64 0, .int .i64 0, .bool false, .int .i64 0, .int .i64 0, .int .i64 0]), 6, 48) := by kernel_rfl
/-- Letters' cells, one behind the other. -/
def lcs : List Lt → List Value
  | [] => []
  | l :: r => ltc l ++ lcs r
theorem lcs_app (a b : List Lt) : lcs (a ++ b) = lcs a ++ lcs b := by
  induction a with
  | nil => rfl
  | cons l r ih => show ltc l ++ lcs (r ++ b) = ltc l ++ lcs r ++ lcs b; rw [ih, List.append_assoc]
theorem lcs_len (a : List Lt) : (lcs a).length = a.length * 6 := by
  induction a with
  | nil => rfl
  | cons l r ih => show (ltc l ++ lcs r).length = (r.length + 1) * 6; rw [List.length_append, ih]; show 6 + _ = _; omega
theorem ltc_one (l : Lt) : ∀ u ∈ ltc l, u.oneCell' = true := by
  intro u hu
  simp [ltc] at hu
  rcases hu with rfl | rfl | rfl | rfl | rfl | rfl <;> rfl
theorem lcs_one (a : List Lt) : ∀ u ∈ lcs a, u.oneCell' = true := by
  induction a with
  | nil => intro u hu; cases hu
  | cons l r ih =>
    intro u hu
    rcases List.mem_append.1 hu with h | h
    · exact ltc_one l u h
    · exact ih u h
theorem lcs_at {a : List Lt} {i : Nat} {q : Lt} (h : a[i]? = some q) {j : Nat} {v : Value} (hv : (ltc q)[j]? = some v) : (lcs a)[i * 6 + j]? = some v := by
  induction a generalizing i with
  | nil => cases h
  | cons l r ih =>
    show (ltc l ++ lcs r)[i * 6 + j]? = some v
    cases i with
    | zero =>
      obtain rfl := Option.some.inj h
      have lt : j < (ltc l).length := by
        rcases Nat.lt_or_ge j (ltc l).length with h | h
        · exact h
        · rw [List.getElem?_eq_none h] at hv; cases hv
      rw [Nat.zero_mul, Nat.zero_add, List.getElem?_append_left lt]
      exact hv
    | succ i =>
      have l6 : (ltc l).length = 6 := rfl
      rw [List.getElem?_append_right (by rw [l6]; omega), l6, show (i + 1) * 6 + j - 6 = i * 6 + j by omega]
      exact ih h
end Go.Proofs.Ytfmaoblhoafnhaj
namespace Go.Proofs.Ytfmaoblhoafnhaj
open Go.ChangeShapes Go.WideShapes Go.ChangeAt Go.RowKit
set_option linter.unusedVariables false

/-- n numbers lie in a row behind an address. -/
def Nrd (w : World) (b off n : Nat) (z : Nat → Int) : Prop := ∀ i, i < n → w.cell? ⟨b, off + i, none⟩ = some (.int .i64 (z i))
theorem Nrd.on {W u : World} {b off n : Nat} {z : Nat → Int} (hb : Below W.heap.size W u) (h : Nrd W b off n z) : Nrd u b off n z := fun i hi => by
  rw [hb.cell (World.block_lt_of_cell? _ _ (h i hi))]; exact h i hi
def NHanded (w : World) (a : Option Addr) (n : Nat) (z : Nat → Int) : Prop := n ≤ 9223372036854775807 ∧ (n = 0 ∨ ∃ b off : Nat, a = some ⟨b, off, none⟩ ∧ Nrd w b off n z)
theorem NHanded.on {W u : World} {a : Option Addr} {n : Nat} {z : Nat → Int} (hb : Below W.heap.size W u) (h : NHanded W a n z) : NHanded u a n z :=
  ⟨h.1, h.2.imp id (fun ⟨b, off, e, s⟩ => ⟨b, off, e, s.on hb⟩)⟩
end Go.Proofs.Ytfmaoblhoafnhaj
namespace Go.Proofs.Ytfmaoblhoafnhaj
open Go.ChangeShapes Go.WideShapes Go.ChangeAt Go.RowKit Go.Joins
set_option linter.unusedVariables false
set_option linter.unusedSimpArgs false

/-- Clocks in a row: where each began, and its rate. -/
def Cls (w : World) (b n : Nat) (z r : Nat → Int) : Prop := ∀ i, i < n → w.cell? ⟨b, i * 2, none⟩ = some (.int .i64 (z i)) ∧ w.cell? ⟨b, i * 2 + 1, none⟩ = some (.int .i64 (r i))
/-- A world of package world in memory. -/
structure PW (u : World) (mb cb cc : Nat) (S : Ws) (v : Value) : Prop where
  r : Row u mb [.slice (some ⟨cb, 0, none⟩) S.n cc, .int .i64 S.time, v]
  k : Cls u cb S.n S.starts S.rates
  kl : cb < u.heap.size
  o : u.ownsRow 0 23 6 v S.under.length (lcs S.under)
  nm : cb ≠ mb
  ne : v.ownBlock ≠ some mb
  nc : v.ownBlock ≠ some cb
/-- The blocks it lies in. -/
def Fp (mb cb : Nat) (v : Value) (k : Nat) : Prop := k = mb ∨ k = cb ∨ v.ownBlock = some k
/-- What a call of it keeps, and where its letters lie then. -/
def KpW (u u' : World) (mb cb : Nat) (v v' : Value) : Prop := Keeps (fun k => k = mb ∨ v.ownBlock = some k) u u' ∧ ∀ g, v'.ownBlock = some g → v.ownBlock = some g ∨ u.heap.size ≤ g
section
variable {u u' : World} {mb cb cc : Nat} {S : Ws} {v : Value}
/-- What it keeps is as it was. -/
theorem PW.keep (hz : u.heap.size ≤ u'.heap.size) (hF : ∀ k, Fp mb cb v k → u'.heap[k]? = u.heap[k]?) (h : PW u mb cb cc S v) : PW u' mb cb cc S v := by
  have hc : u'.heap[cb]? = u.heap[cb]? := hF cb (Or.inr (Or.inl rfl))
  refine ⟨row_block (hF mb (Or.inl rfl)) h.r, fun i hi => ?_, Nat.lt_of_lt_of_le h.kl hz, ⟨h.o.1, ?_⟩, h.nm, h.ne, h.nc⟩
  · obtain ⟨a, b⟩ := h.k i hi
    exact ⟨(World.cell?_of_block (w := u) (a := ⟨cb, i * 2, none⟩) hc).trans a, (World.cell?_of_block (w := u) (a := ⟨cb, i * 2 + 1, none⟩) hc).trans b⟩
  · rcases h.o.2 with q | ⟨g, cap, cur, e, hb, hg, q⟩
    · exact Or.inl q
    · exact Or.inr ⟨g, cap, cur, e, hb, (hF g (Or.inr (Or.inr (by rw [e]; rfl)))).trans hg, q⟩
theorem PW.lt (h : PW u mb cb cc S v) {k : Nat} (hk : Fp mb cb v k) : k < u.heap.size := by
  rcases hk with e | e | e
  · rw [e]; exact h.r.lt
  · rw [e]; exact h.kl
  · exact (h.o.lt k e).2
theorem PW.on (hb : Below u.heap.size u u') (h : PW u mb cb cc S v) : PW u' mb cb cc S v := h.keep hb.size (fun k hk => hb.block k (h.lt hk))
theorem KpW.same (hb : Below u.heap.size u u') : KpW u u' mb cb v v := ⟨.of hb, fun _ h => Or.inl h⟩
theorem PW.form (h : PW u mb cb cc S v) : (v = .slice none 0 0 ∧ S.under = []) ∨ ∃ g cap, v = .slice (some ⟨g, 0, none⟩) S.under.length cap ∧ S.under.length ≤ cap ∧ cap ≤ maxLen ∧ g < u.heap.size ∧ g ≠ mb ∧ g ≠ cb ∧ Lts u g 0 S.under := by
  rcases h.o.2 with ⟨e, l⟩ | ⟨g, cap, cur, e, hb, hg, hc, hm, hcs, htk⟩
  · exact Or.inl ⟨e, List.eq_nil_of_length_eq_zero l⟩
  · have glt : g < u.heap.size := by
      rcases Nat.lt_or_ge g u.heap.size with hlt | hge
      · exact hlt
      · rw [Array.getElem?_eq_none hge] at hg; cases hg
    refine Or.inr ⟨g, cap, e, hc, hm, glt, fun q => h.ne (by rw [e]; show some g = some mb; rw [q]), fun q => h.nc (by rw [e]; show some g = some cb; rw [q]), fun i q hq j x hx => ?_⟩
    have := h.o.cells (g := g) (by rw [e]; rfl) (i * 6 + j) x (lcs_at hq hx)
    rw [Addr.add_lit] at this
    rw [show 0 + i * 6 + j = 0 + (i * 6 + j) by omega]
    exact this
theorem PW.len (h : PW u mb cb cc S v) : ∃ a cap, v = .slice a S.under.length cap ∧ (a = none ∧ S.under = [] ∧ cap = 0 ∨ ∃ g, a = some ⟨g, 0, none⟩ ∧ S.under.length ≤ cap ∧ cap ≤ maxLen ∧ g < u.heap.size ∧ g ≠ mb ∧ g ≠ cb ∧ Lts u g 0 S.under) := by
  rcases h.form with ⟨e, l⟩ | ⟨g, cap, e, q⟩
  · exact ⟨none, 0, by rw [e, l]; rfl, Or.inl ⟨rfl, l, rfl⟩⟩
  · exact ⟨_, cap, e, Or.inr ⟨g, rfl, q⟩⟩
theorem PW.hand (h : PW u mb cb cc S v) (hI : S.I) : ∃ a cap, v = .slice a S.under.length cap ∧ WHanded u a S.under ∧ (a = none → S.under = []) := by
  have := hI.un
  obtain ⟨a, cap, e, q⟩ := h.len
  refine ⟨a, cap, e, ⟨by omega, ?_⟩, ?_⟩
  · rcases q with ⟨_, l, _⟩ | ⟨g, e, _, _, _, _, _, hL⟩
    · exact Or.inl l
    · exact Or.inr ⟨g, 0, e, hL⟩
  · intro e
    rcases q with ⟨_, l, _⟩ | ⟨g, e', _⟩
    · exact l
    · rw [e] at e'; cases e'
/-- Later. -/
theorem PW.late {W : World} {t : Int} (h : PW u mb cb cc S v) (hW : Below u.heap.size u W) : PW (W.setCell ⟨mb, 1, none⟩ (.int .i64 t)) mb cb cc { S with time := t } v ∧ KpW u (W.setCell ⟨mb, 1, none⟩ (.int .i64 t)) mb cb v v := by
  have k0 : Keeps (fun k => k = mb ∨ v.ownBlock = some k) u (W.setCell ⟨mb, 1, none⟩ (.int .i64 t)) := Keeps.put (Or.inl rfl) (Keeps.of hW)
  have h0 := PW.on hW h
  refine ⟨⟨Row.put 1 h0.r, fun i hi => ?_, by rw [show (W.setCell ⟨mb, 1, none⟩ (.int .i64 t)).heap.size = W.heap.size by simp [World.setCell]]; exact h0.kl, ownsRow_setCell_other h0.o (a := ⟨mb, 1, none⟩) h0.ne _, h.nm, h.ne, h.nc⟩, k0, fun _ h => Or.inl h⟩
  obtain ⟨a, b⟩ := h0.k i hi
  rw [World.cell?_setCell_far _ _ _ _ (fun e => h.nm e.symm), World.cell?_setCell_far _ _ _ _ (fun e => h.nm e.symm)]
  exact ⟨a, b⟩
/-- Letters in the same row, or in a new one. -/
theorem PW.turn {X : World} {v' : Value} {l : List Lt} {m : Nat} (h : PW u mb cb cc S v) (hX : Keeps (fun k => v.ownBlock = some k) u X) (ho : X.ownsRow 0 23 6 v' m (lcs l)) (hm : m = l.length) (hb : ∀ g, v'.ownBlock = some g → v.ownBlock = some g ∨ u.heap.size ≤ g) :
    PW (X.setCell ⟨mb, 2, none⟩ v') mb cb cc { S with under := l } v' ∧ KpW u (X.setCell ⟨mb, 2, none⟩ v') mb cb v v' := by
  subst hm
  have lt : mb < u.heap.size := h.r.lt
  have ltc : cb < u.heap.size := h.kl
  have ne' : v'.ownBlock ≠ some mb := fun e => (hb mb e).elim h.ne (fun q => by omega)
  have nc' : v'.ownBlock ≠ some cb := fun e => (hb cb e).elim h.nc (fun q => by omega)
  have hX2 : Keeps (fun k => k = mb ∨ v.ownBlock = some k) u X := ⟨hX.os, hX.tape, hX.output, hX.size, fun k hk hn => hX.block k hk (fun e => hn (Or.inr e))⟩
  have K : Keeps (fun k => k = mb ∨ v.ownBlock = some k) u (X.setCell ⟨mb, 2, none⟩ v') := Keeps.put (Or.inl rfl) hX2
  refine ⟨⟨Row.put 2 (hX.row h.ne h.r), fun i hi => ?_, Nat.lt_of_lt_of_le h.kl K.size, ownsRow_setCell_other ho (a := ⟨mb, 2, none⟩) ne' v', h.nm, ne', nc'⟩, K, hb⟩
  obtain ⟨a, b⟩ := h.k i hi
  rw [World.cell?_setCell_far _ _ _ _ (fun e => h.nm e.symm), World.cell?_setCell_far _ _ _ _ (fun e => h.nm e.symm)]
  exact ⟨hX.cell h.nc a, hX.cell h.nc b⟩
end
/-- Package world in memory, as the laws have it. -/
def Wkp (u : World) (b : Nat) (F : Nat → Prop) (S : Ws) : Prop := ∃ cb cc v, PW u b cb cc S v ∧ F = Fp b cb v
theorem Wkp.on {u v : World} {b : Nat} {F : Nat → Prop} {S : Ws} (h : Wkp u b F S) (hz : u.heap.size ≤ v.heap.size) (hF : ∀ k, F k → v.heap[k]? = u.heap[k]?) : Wkp v b F S := by
  obtain ⟨cb, cc, x, hP, rfl⟩ := h
  exact ⟨cb, cc, x, hP.keep hz hF, rfl⟩
theorem Wkp.lt {u : World} {b : Nat} {F : Nat → Prop} {S : Ws} (h : Wkp u b F S) (k : Nat) (hk : F k) : k < u.heap.size := by
  obtain ⟨cb, cc, x, hP, rfl⟩ := h
  exact hP.lt hk
theorem Wkp.of {u u' : World} {b cb cc cc' : Nat} {S S' : Ws} {v v' : Value} (h : PW u' b cb cc' S' v') (hk : KpW u u' b cb v v') : ∃ F', Wkp u' b F' S' ∧ F' = Fp b cb v' ∧ Keeps (Fp b cb v) u u' ∧ ∀ k, F' k → Fp b cb v k ∨ u.heap.size ≤ k := by
  refine ⟨_, ⟨cb, cc', v', h, rfl⟩, rfl, ⟨hk.1.os, hk.1.tape, hk.1.output, hk.1.size, fun k hl hn => hk.1.block k hl (fun e => hn (e.elim Or.inl (fun q => Or.inr (Or.inr q))))⟩, fun k hF => ?_⟩
  rcases hF with e | e | e
  · exact Or.inl (Or.inl e)
  · exact Or.inl (Or.inr (Or.inl e))
  · exact (hk.2 k e).imp (fun q => Or.inr (Or.inr q)) id
end Go.Proofs.Ytfmaoblhoafnhaj
