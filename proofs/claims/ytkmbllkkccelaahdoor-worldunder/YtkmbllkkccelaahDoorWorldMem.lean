/- A world of package world in memory: its clocks, how late it is, its letters in a row of its own. -/
import Derived.Test.YtkmbllkkccelaahDoorWorldLcs
import Derived.Test.YtkmbllkkccelaahDoorWorldDef
import Derived.Test.YtkmbllkkccelaahDoorAppStep
namespace Go.Proofs.YtkmbllkkccelaahDoor
open Go.ChangeShapes Go.WideShapes Go.ChangeAt Go.RowKit Go.Joins
set_option linter.unusedVariables false
set_option linter.unusedSimpArgs false

/-- Clocks in a row: where each began, and its rate. -/
def Cls (w : World) (b n : Nat) (z r : Nat → Int) : Prop := ∀ i, i < n → w.cell? ⟨b, i * 2, none⟩ = some (.int .i64 (z i)) ∧ w.cell? ⟨b, i * 2 + 1, none⟩ = some (.int .i64 (r i))
/-- A world of package world in memory. -/
structure PW (u : World) (mb cb cc : Nat) (S : Ws) (v : Value) : Prop where
  r : Row u mb [.slice (some ⟨cb, 0, none⟩) S.n cc, .int .i64 S.time, v]
  k : Cls u cb S.n S.starts S.rates
  kl : cb < u.heap.size
  o : u.ownsRow 0 37 6 v S.under.length (lcs S.under)
  nm : cb ≠ mb
  ne : v.ownBlock ≠ some mb
  nc : v.ownBlock ≠ some cb
/-- The blocks it lies in. -/
def Fp (mb cb : Nat) (v : Value) (k : Nat) : Prop := k = mb ∨ k = cb ∨ v.ownBlock = some k
/-- What a call of it keeps, and where its letters lie then. -/
def KpW (u u' : World) (mb cb : Nat) (v v' : Value) : Prop := Keeps (fun k => k = mb ∨ v.ownBlock = some k) u u' ∧ ∀ g, v'.ownBlock = some g → v.ownBlock = some g ∨ u.heap.size ≤ g
section
variable {u u' : World} {mb cb cc : Nat} {S : Ws} {v : Value}
/-- What it keeps is as it was. -/
theorem PW.keep (hz : u.heap.size ≤ u'.heap.size) (hF : ∀ k, Fp mb cb v k → u'.heap[k]? = u.heap[k]?) (h : PW u mb cb cc S v) : PW u' mb cb cc S v := by
  have hc : u'.heap[cb]? = u.heap[cb]? := hF cb (Or.inr (Or.inl rfl))
  refine ⟨row_block (hF mb (Or.inl rfl)) h.r, fun i hi => ?_, Nat.lt_of_lt_of_le h.kl hz, ⟨h.o.1, ?_⟩, h.nm, h.ne, h.nc⟩
  · obtain ⟨a, b⟩ := h.k i hi
    exact ⟨(World.cell?_of_block (w := u) (a := ⟨cb, i * 2, none⟩) hc).trans a, (World.cell?_of_block (w := u) (a := ⟨cb, i * 2 + 1, none⟩) hc).trans b⟩
  · rcases h.o.2 with q | ⟨g, cap, cur, e, hb, hg, q⟩
    · exact Or.inl q
    · exact Or.inr ⟨g, cap, cur, e, hb, (hF g (Or.inr (Or.inr (by rw [e]; rfl)))).trans hg, q⟩
theorem PW.lt (h : PW u mb cb cc S v) {k : Nat} (hk : Fp mb cb v k) : k < u.heap.size := by
  rcases hk with e | e | e
  · rw [e]; exact h.r.lt
  · rw [e]; exact h.kl
  · exact (h.o.lt k e).2
theorem PW.on (hb : Below u.heap.size u u') (h : PW u mb cb cc S v) : PW u' mb cb cc S v := h.keep hb.size (fun k hk => hb.block k (h.lt hk))
theorem KpW.same (hb : Below u.heap.size u u') : KpW u u' mb cb v v := ⟨.of hb, fun _ h => Or.inl h⟩
theorem PW.form (h : PW u mb cb cc S v) : (v = .slice none 0 0 ∧ S.under = []) ∨ ∃ g cap, v = .slice (some ⟨g, 0, none⟩) S.under.length cap ∧ S.under.length ≤ cap ∧ cap ≤ maxLen ∧ g < u.heap.size ∧ g ≠ mb ∧ g ≠ cb ∧ Lts u g 0 S.under := by
  rcases h.o.2 with ⟨e, l⟩ | ⟨g, cap, cur, e, hb, hg, hc, hm, hcs, htk⟩
  · exact Or.inl ⟨e, List.eq_nil_of_length_eq_zero l⟩
  · have glt : g < u.heap.size := by
      rcases Nat.lt_or_ge g u.heap.size with hlt | hge
      · exact hlt
      · rw [Array.getElem?_eq_none hge] at hg; cases hg
    refine Or.inr ⟨g, cap, e, hc, hm, glt, fun q => h.ne (by rw [e]; show some g = some mb; rw [q]), fun q => h.nc (by rw [e]; show some g = some cb; rw [q]), fun i q hq j x hx => ?_⟩
    have := h.o.cells (g := g) (by rw [e]; rfl) (i * 6 + j) x (lcs_at hq hx)
    rw [Addr.add_lit] at this
    rw [show 0 + i * 6 + j = 0 + (i * 6 + j) by omega]
    exact this
theorem PW.len (h : PW u mb cb cc S v) : ∃ a cap, v = .slice a S.under.length cap ∧ (a = none ∧ S.under = [] ∧ cap = 0 ∨ ∃ g, a = some ⟨g, 0, none⟩ ∧ S.under.length ≤ cap ∧ cap ≤ maxLen ∧ g < u.heap.size ∧ g ≠ mb ∧ g ≠ cb ∧ Lts u g 0 S.under) := by
  rcases h.form with ⟨e, l⟩ | ⟨g, cap, e, q⟩
  · exact ⟨none, 0, by rw [e, l]; rfl, Or.inl ⟨rfl, l, rfl⟩⟩
  · exact ⟨_, cap, e, Or.inr ⟨g, rfl, q⟩⟩
theorem PW.hand (h : PW u mb cb cc S v) (hI : S.I) : ∃ a cap, v = .slice a S.under.length cap ∧ WHanded u a S.under ∧ (a = none → S.under = []) := by
  have := hI.un
  obtain ⟨a, cap, e, q⟩ := h.len
  refine ⟨a, cap, e, ⟨by omega, ?_⟩, ?_⟩
  · rcases q with ⟨_, l, _⟩ | ⟨g, e, _, _, _, _, _, hL⟩
    · exact Or.inl l
    · exact Or.inr ⟨g, 0, e, hL⟩
  · intro e
    rcases q with ⟨_, l, _⟩ | ⟨g, e', _⟩
    · exact l
    · rw [e] at e'; cases e'
/-- Later. -/
theorem PW.late {W : World} {t : Int} (h : PW u mb cb cc S v) (hW : Below u.heap.size u W) : PW (W.setCell ⟨mb, 1, none⟩ (.int .i64 t)) mb cb cc { S with time := t } v ∧ KpW u (W.setCell ⟨mb, 1, none⟩ (.int .i64 t)) mb cb v v := by
  have k0 : Keeps (fun k => k = mb ∨ v.ownBlock = some k) u (W.setCell ⟨mb, 1, none⟩ (.int .i64 t)) := Keeps.put (Or.inl rfl) (Keeps.of hW)
  have h0 := PW.on hW h
  refine ⟨⟨Row.put 1 h0.r, fun i hi => ?_, by rw [show (W.setCell ⟨mb, 1, none⟩ (.int .i64 t)).heap.size = W.heap.size by simp [World.setCell]]; exact h0.kl, ownsRow_setCell_other h0.o (a := ⟨mb, 1, none⟩) h0.ne _, h.nm, h.ne, h.nc⟩, k0, fun _ h => Or.inl h⟩
  obtain ⟨a, b⟩ := h0.k i hi
  rw [World.cell?_setCell_far _ _ _ _ (fun e => h.nm e.symm), World.cell?_setCell_far _ _ _ _ (fun e => h.nm e.symm)]
  exact ⟨a, b⟩
/-- Letters in the same row, or in a new one. -/
theorem PW.turn {X : World} {v' : Value} {l : List Lt} {m : Nat} (h : PW u mb cb cc S v) (hX : Keeps (fun k => v.ownBlock = some k) u X) (ho : X.ownsRow 0 37 6 v' m (lcs l)) (hm : m = l.length) (hb : ∀ g, v'.ownBlock = some g → v.ownBlock = some g ∨ u.heap.size ≤ g) :
    PW (X.setCell ⟨mb, 2, none⟩ v') mb cb cc { S with under := l } v' ∧ KpW u (X.setCell ⟨mb, 2, none⟩ v') mb cb v v' := by
  subst hm
  have lt : mb < u.heap.size := h.r.lt
  have ltc : cb < u.heap.size := h.kl
  have ne' : v'.ownBlock ≠ some mb := fun e => (hb mb e).elim h.ne (fun q => by omega)
  have nc' : v'.ownBlock ≠ some cb := fun e => (hb cb e).elim h.nc (fun q => by omega)
  have hX2 : Keeps (fun k => k = mb ∨ v.ownBlock = some k) u X := ⟨hX.os, hX.tape, hX.output, hX.size, fun k hk hn => hX.block k hk (fun e => hn (Or.inr e))⟩
  have K : Keeps (fun k => k = mb ∨ v.ownBlock = some k) u (X.setCell ⟨mb, 2, none⟩ v') := Keeps.put (Or.inl rfl) hX2
  refine ⟨⟨Row.put 2 (hX.row h.ne h.r), fun i hi => ?_, Nat.lt_of_lt_of_le h.kl K.size, ownsRow_setCell_other ho (a := ⟨mb, 2, none⟩) ne' v', h.nm, ne', nc'⟩, K, hb⟩
  obtain ⟨a, b⟩ := h.k i hi
  rw [World.cell?_setCell_far _ _ _ _ (fun e => h.nm e.symm), World.cell?_setCell_far _ _ _ _ (fun e => h.nm e.symm)]
  exact ⟨hX.cell h.nc a, hX.cell h.nc b⟩
end
/-- Package world in memory, as the laws have it. -/
def Wkp (u : World) (b : Nat) (F : Nat → Prop) (S : Ws) : Prop := ∃ cb cc v, PW u b cb cc S v ∧ F = Fp b cb v
theorem Wkp.on {u v : World} {b : Nat} {F : Nat → Prop} {S : Ws} (h : Wkp u b F S) (hz : u.heap.size ≤ v.heap.size) (hF : ∀ k, F k → v.heap[k]? = u.heap[k]?) : Wkp v b F S := by
  obtain ⟨cb, cc, x, hP, rfl⟩ := h
  exact ⟨cb, cc, x, hP.keep hz hF, rfl⟩
theorem Wkp.lt {u : World} {b : Nat} {F : Nat → Prop} {S : Ws} (h : Wkp u b F S) (k : Nat) (hk : F k) : k < u.heap.size := by
  obtain ⟨cb, cc, x, hP, rfl⟩ := h
  exact hP.lt hk
theorem Wkp.of {u u' : World} {b cb cc cc' : Nat} {S S' : Ws} {v v' : Value} (h : PW u' b cb cc' S' v') (hk : KpW u u' b cb v v') : ∃ F', Wkp u' b F' S' ∧ F' = Fp b cb v' ∧ Keeps (Fp b cb v) u u' ∧ ∀ k, F' k → Fp b cb v k ∨ u.heap.size ≤ k := by
  refine ⟨_, ⟨cb, cc', v', h, rfl⟩, rfl, ⟨hk.1.os, hk.1.tape, hk.1.output, hk.1.size, fun k hl hn => hk.1.block k hl (fun e => hn (e.elim Or.inl (fun q => Or.inr (Or.inr q))))⟩, fun k hF => ?_⟩
  rcases hF with e | e | e
  · exact Or.inl (Or.inl e)
  · exact Or.inl (Or.inr (Or.inl e))
  · exact (hk.2 k e).imp (fun q => Or.inr (Or.inr q)) id
end Go.Proofs.YtkmbllkkccelaahDoor
