/- An append to a row of the call's own, in a region that draws its order; rows of other blocks behind it. A world of package world in memory: its clocks, how late it is, its letters in a row of its own. Letters as they are handed over, edges by their places. What package node must answer. A node of package node in memory: its five cells, and a map of what it keeps of others. A net in memory: its world of clocks, a row of nodes, each in blocks of its own. What arguments of types []api.Act and api.Letter are. What arguments of types []int are. -/
import Derived.Test.YthejaecljkjliaiGreatDoorNm01
import Derived.Lib.SmallJoins
import Derived.OwnWalk
import Derived.Maps.AppendAt
import Derived.Deep.RegionLaw
import Derived.Laws.AppendOwnNone
import Derived.OneCell
import Derived.Test.YthejaecljkjliaiGreatDoorNm02
import Derived.Maps.OwnOps
import Derived.Maps.OwnSet
import Derived.Maps.Views
import Derived.IntWalk
import Derived.Deep.Slices
import Derived.Deep.Strs
import Derived.ChangeSlices
import Derived.OpenShut
namespace Go.Proofs.YthejaecljkjliaiGreatDoor
open Go.ChangeShapes Go.WideShapes Go.ChangeAt Go.RowKit Go.Joins
set_option linter.unusedVariables false
set_option linter.unusedSimpArgs false

/-- An append to a row of the call's own, as one step of a region that draws its order; and where it lies. -/
theorem step_append_at {P : Program} {ops : Array Oper} {o : Oper} {a : Act} {w : World} {K : Act → World → Prop} {Q : Exit → Act → World → Prop} {E : Prop}
    (hg : o.guard = none) (s x : Operand) (t : TypeId) (hop : o.op = Op.call { callee := Callee.builtin Builtin.append, args := #[s, x], argTypes := #[t, t] })
    (base : Nat) (e : TypeId) (i : TypeInfo) (z : Value) (size bytes : Nat) (h1 : P.underlying t = some (.slice e)) (h2 : P.info? e = some i) (h3 : i.zero = some z) (h4 : i.size = size) (h5 : i.bytes = bytes) (h6 : z.cells.size = size) (h7 : 0 < size)
    (v : Value) (n : Nat) (xs : List Value) (hs : a.eval s = v) (hown : w.ownsRow base e size v n xs)
    (ad : Addr) (m c : Nat) (news : List Value) (hx : a.eval x = .slice (some ad) m c) (hn : news.length = m * size) (hc : ∀ j u, news[j]? = some u → w.cell? (ad.add j) = some u) (h1c : ∀ u ∈ news, u.oneCell' = true)
    (b1 : n + m ≤ maxLen) (b2 : (n + m) * bytes ≤ 140737488355328) (hbase : base ≤ w.heap.size)
    (hK : ∀ v' w', w'.ownsRow base e size v' (n + m) (xs ++ news) → w.grownBy w' v.ownBlock → (v'.ownBlock = v.ownBlock ∨ v'.ownBlock = some w.heap.size) → K (a.put o.dst v') w') :
    if Region.wanted o (yielded ops a.tmps) = true then Oper.wp P o a w K Q else E := by
  have hw : Region.wanted o (yielded ops a.tmps) = true := by simp [Region.wanted, hg]
  rw [if_pos hw]
  obtain ⟨v', w', hr, g1, g2, _, g4⟩ := run_append_own_at (P := P) w base t o.type e i z size bytes h1 h2 h3 h4 h5 h6 h7 v n xs hown ad m c news hn hc h1c b1 b2 hbase
  unfold Oper.wp execOp
  simp only [hop, resolve, invoke, builtin, Sem.run_bind, Sem.run_pure, Result.andThen_ok, List.map_toArray, List.map_cons, List.map_nil, hs, hx, hr]
  exact hK v' w' g1 g2 g4
theorem row_block {u u' : World} {b : Nat} {vs : List Value} (he : u'.heap[b]? = u.heap[b]?) (h : Row u b vs) : Row u' b vs :=
  ⟨fun i x hx => (World.cell?_of_block (w := u) (a := ⟨b, i, none⟩) he).trans (h.c i x hx), fun i x hx => (World.frozen?_of_block (w := u) (a := ⟨b, i, none⟩) he).trans (h.f i x hx)⟩
theorem row_grown {W w1 : World} {ob : Option Nat} {b : Nat} {vs : List Value} (hg : W.grownBy w1 ob) (hlt : b < W.heap.size) (hne : ob ≠ some b) (h : Row W b vs) : Row w1 b vs :=
  row_block (hg.block b hlt (fun e => hne e.symm)) h
theorem own_slice {w : World} {base size n : Nat} {e : TypeId} {v : Value} {xs : List Value} (h : w.ownsRow base e size v n xs) : ∃ a cap, v = .slice a n cap := by
  rcases h.2 with ⟨rfl, rfl⟩ | ⟨g, cap, cur, rfl, _⟩
  · exact ⟨none, 0, rfl⟩
  · exact ⟨_, cap, rfl⟩
end Go.Proofs.YthejaecljkjliaiGreatDoor
namespace Go.Proofs.YthejaecljkjliaiGreatDoor
open Go.ChangeShapes Go.WideShapes Go.ChangeAt Go.RowKit Go.Joins
set_option linter.unusedVariables false
set_option linter.unusedSimpArgs false

/-- Clocks in a row: where each began, and its rate. -/
def Cls (w : World) (b n : Nat) (z r : Nat → Int) : Prop := ∀ i, i < n → w.cell? ⟨b, i * 2, none⟩ = some (.int .i64 (z i)) ∧ w.cell? ⟨b, i * 2 + 1, none⟩ = some (.int .i64 (r i))
/-- A world of package world in memory. -/
structure PW (u : World) (mb cb cc : Nat) (S : Ws) (v : Value) : Prop where
  r : Row u mb [.slice (some ⟨cb, 0, none⟩) S.n cc, .int .i64 S.time, v]
  k : Cls u cb S.n S.starts S.rates
  kl : cb < u.heap.size
  o : u.ownsRow 0 98 6 v S.under.length (lcs S.under)
  nm : cb ≠ mb
  ne : v.ownBlock ≠ some mb
  nc : v.ownBlock ≠ some cb
/-- The blocks it lies in. -/
def Fp (mb cb : Nat) (v : Value) (k : Nat) : Prop := k = mb ∨ k = cb ∨ v.ownBlock = some k
/-- What a call of it keeps, and where its letters lie then. -/
def KpW (u u' : World) (mb cb : Nat) (v v' : Value) : Prop := Keeps (fun k => k = mb ∨ v.ownBlock = some k) u u' ∧ ∀ g, v'.ownBlock = some g → v.ownBlock = some g ∨ u.heap.size ≤ g
section
variable {u u' : World} {mb cb cc : Nat} {S : Ws} {v : Value}
/-- What it keeps is as it was. -/
theorem PW.keep (hz : u.heap.size ≤ u'.heap.size) (hF : ∀ k, Fp mb cb v k → u'.heap[k]? = u.heap[k]?) (h : PW u mb cb cc S v) : PW u' mb cb cc S v := by
  have hc : u'.heap[cb]? = u.heap[cb]? := hF cb (Or.inr (Or.inl rfl))
  refine ⟨row_block (hF mb (Or.inl rfl)) h.r, fun i hi => ?_, Nat.lt_of_lt_of_le h.kl hz, ⟨h.o.1, ?_⟩, h.nm, h.ne, h.nc⟩
  · obtain ⟨a, b⟩ := h.k i hi
    exact ⟨(World.cell?_of_block (w := u) (a := ⟨cb, i * 2, none⟩) hc).trans a, (World.cell?_of_block (w := u) (a := ⟨cb, i * 2 + 1, none⟩) hc).trans b⟩
  · rcases h.o.2 with q | ⟨g, cap, cur, e, hb, hg, q⟩
    · exact Or.inl q
    · exact Or.inr ⟨g, cap, cur, e, hb, (hF g (Or.inr (Or.inr (by rw [e]; rfl)))).trans hg, q⟩
theorem PW.lt (h : PW u mb cb cc S v) {k : Nat} (hk : Fp mb cb v k) : k < u.heap.size := by
  rcases hk with e | e | e
  · rw [e]; exact h.r.lt
  · rw [e]; exact h.kl
  · exact (h.o.lt k e).2
theorem PW.on (hb : Below u.heap.size u u') (h : PW u mb cb cc S v) : PW u' mb cb cc S v := h.keep hb.size (fun k hk => hb.block k (h.lt hk))
theorem KpW.same (hb : Below u.heap.size u u') : KpW u u' mb cb v v := ⟨.of hb, fun _ h => Or.inl h⟩
theorem PW.form (h : PW u mb cb cc S v) : (v = .slice none 0 0 ∧ S.under = []) ∨ ∃ g cap, v = .slice (some ⟨g, 0, none⟩) S.under.length cap ∧ S.under.length ≤ cap ∧ cap ≤ maxLen ∧ g < u.heap.size ∧ g ≠ mb ∧ g ≠ cb ∧ Lts u g 0 S.under := by
  rcases h.o.2 with ⟨e, l⟩ | ⟨g, cap, cur, e, hb, hg, hc, hm, hcs, htk⟩
  · exact Or.inl ⟨e, List.eq_nil_of_length_eq_zero l⟩
  · have glt : g < u.heap.size := by
      rcases Nat.lt_or_ge g u.heap.size with hlt | hge
      · exact hlt
      · rw [Array.getElem?_eq_none hge] at hg; cases hg
    refine Or.inr ⟨g, cap, e, hc, hm, glt, fun q => h.ne (by rw [e]; show some g = some mb; rw [q]), fun q => h.nc (by rw [e]; show some g = some cb; rw [q]), fun i q hq j x hx => ?_⟩
    have := h.o.cells (g := g) (by rw [e]; rfl) (i * 6 + j) x (lcs_at hq hx)
    rw [Addr.add_lit] at this
    rw [show 0 + i * 6 + j = 0 + (i * 6 + j) by omega]
    exact this
theorem PW.len (h : PW u mb cb cc S v) : ∃ a cap, v = .slice a S.under.length cap ∧ (a = none ∧ S.under = [] ∧ cap = 0 ∨ ∃ g, a = some ⟨g, 0, none⟩ ∧ S.under.length ≤ cap ∧ cap ≤ maxLen ∧ g < u.heap.size ∧ g ≠ mb ∧ g ≠ cb ∧ Lts u g 0 S.under) := by
  rcases h.form with ⟨e, l⟩ | ⟨g, cap, e, q⟩
  · exact ⟨none, 0, by rw [e, l]; rfl, Or.inl ⟨rfl, l, rfl⟩⟩
  · exact ⟨_, cap, e, Or.inr ⟨g, rfl, q⟩⟩
theorem PW.hand (h : PW u mb cb cc S v) (hI : S.I) : ∃ a cap, v = .slice a S.under.length cap ∧ WHanded u a S.under ∧ (a = none → S.under = []) := by
  have := hI.un
  obtain ⟨a, cap, e, q⟩ := h.len
  refine ⟨a, cap, e, ⟨by omega, ?_⟩, ?_⟩
  · rcases q with ⟨_, l, _⟩ | ⟨g, e, _, _, _, _, _, hL⟩
    · exact Or.inl l
    · exact Or.inr ⟨g, 0, e, hL⟩
  · intro e
    rcases q with ⟨_, l, _⟩ | ⟨g, e', _⟩
    · exact l
    · rw [e] at e'; cases e'
/-- Later. -/
theorem PW.late {W : World} {t : Int} (h : PW u mb cb cc S v) (hW : Below u.heap.size u W) : PW (W.setCell ⟨mb, 1, none⟩ (.int .i64 t)) mb cb cc { S with time := t } v ∧ KpW u (W.setCell ⟨mb, 1, none⟩ (.int .i64 t)) mb cb v v := by
  have k0 : Keeps (fun k => k = mb ∨ v.ownBlock = some k) u (W.setCell ⟨mb, 1, none⟩ (.int .i64 t)) := Keeps.put (Or.inl rfl) (Keeps.of hW)
  have h0 := PW.on hW h
  refine ⟨⟨Row.put 1 h0.r, fun i hi => ?_, by rw [show (W.setCell ⟨mb, 1, none⟩ (.int .i64 t)).heap.size = W.heap.size by simp [World.setCell]]; exact h0.kl, ownsRow_setCell_other h0.o (a := ⟨mb, 1, none⟩) h0.ne _, h.nm, h.ne, h.nc⟩, k0, fun _ h => Or.inl h⟩
  obtain ⟨a, b⟩ := h0.k i hi
  rw [World.cell?_setCell_far _ _ _ _ (fun e => h.nm e.symm), World.cell?_setCell_far _ _ _ _ (fun e => h.nm e.symm)]
  exact ⟨a, b⟩
/-- Letters in the same row, or in a new one. -/
theorem PW.turn {X : World} {v' : Value} {l : List Lt} {m : Nat} (h : PW u mb cb cc S v) (hX : Keeps (fun k => v.ownBlock = some k) u X) (ho : X.ownsRow 0 98 6 v' m (lcs l)) (hm : m = l.length) (hb : ∀ g, v'.ownBlock = some g → v.ownBlock = some g ∨ u.heap.size ≤ g) :
    PW (X.setCell ⟨mb, 2, none⟩ v') mb cb cc { S with under := l } v' ∧ KpW u (X.setCell ⟨mb, 2, none⟩ v') mb cb v v' := by
  subst hm
  have lt : mb < u.heap.size := h.r.lt
  have ltc : cb < u.heap.size := h.kl
  have ne' : v'.ownBlock ≠ some mb := fun e => (hb mb e).elim h.ne (fun q => by omega)
  have nc' : v'.ownBlock ≠ some cb := fun e => (hb cb e).elim h.nc (fun q => by omega)
  have hX2 : Keeps (fun k => k = mb ∨ v.ownBlock = some k) u X := ⟨hX.os, hX.tape, hX.output, hX.size, fun k hk hn => hX.block k hk (fun e => hn (Or.inr e))⟩
  have K : Keeps (fun k => k = mb ∨ v.ownBlock = some k) u (X.setCell ⟨mb, 2, none⟩ v') := Keeps.put (Or.inl rfl) hX2
  refine ⟨⟨Row.put 2 (hX.row h.ne h.r), fun i hi => ?_, Nat.lt_of_lt_of_le h.kl K.size, ownsRow_setCell_other ho (a := ⟨mb, 2, none⟩) ne' v', h.nm, ne', nc'⟩, K, hb⟩
  obtain ⟨a, b⟩ := h.k i hi
  rw [World.cell?_setCell_far _ _ _ _ (fun e => h.nm e.symm), World.cell?_setCell_far _ _ _ _ (fun e => h.nm e.symm)]
  exact ⟨hX.cell h.nc a, hX.cell h.nc b⟩
end
/-- Package world in memory, as the laws have it. -/
def Wkp (u : World) (b : Nat) (F : Nat → Prop) (S : Ws) : Prop := ∃ cb cc v, PW u b cb cc S v ∧ F = Fp b cb v
theorem Wkp.on {u v : World} {b : Nat} {F : Nat → Prop} {S : Ws} (h : Wkp u b F S) (hz : u.heap.size ≤ v.heap.size) (hF : ∀ k, F k → v.heap[k]? = u.heap[k]?) : Wkp v b F S := by
  obtain ⟨cb, cc, x, hP, rfl⟩ := h
  exact ⟨cb, cc, x, hP.keep hz hF, rfl⟩
theorem Wkp.lt {u : World} {b : Nat} {F : Nat → Prop} {S : Ws} (h : Wkp u b F S) (k : Nat) (hk : F k) : k < u.heap.size := by
  obtain ⟨cb, cc, x, hP, rfl⟩ := h
  exact hP.lt hk
theorem Wkp.of {u u' : World} {b cb cc cc' : Nat} {S S' : Ws} {v v' : Value} (h : PW u' b cb cc' S' v') (hk : KpW u u' b cb v v') : ∃ F', Wkp u' b F' S' ∧ F' = Fp b cb v' ∧ Keeps (Fp b cb v) u u' ∧ ∀ k, F' k → Fp b cb v k ∨ u.heap.size ≤ k := by
  refine ⟨_, ⟨cb, cc', v', h, rfl⟩, rfl, ⟨hk.1.os, hk.1.tape, hk.1.output, hk.1.size, fun k hl hn => hk.1.block k hl (fun e => hn (e.elim Or.inl (fun q => Or.inr (Or.inr q))))⟩, fun k hF => ?_⟩
  rcases hF with e | e | e
  · exact Or.inl (Or.inl e)
  · exact Or.inl (Or.inr (Or.inl e))
  · exact (hk.2 k e).imp (fun q => Or.inr (Or.inr q)) id
end Go.Proofs.YthejaecljkjliaiGreatDoor
namespace Go.Proofs.YthejaecljkjliaiGreatDoor
open Go.ChangeShapes Go.WideShapes Go.ChangeAt Go.RowKit
set_option linter.unusedVariables false

/-- A letter's numbers are such that an int can be. -/
structure Lt.In6 (l : Lt) : Prop where
  a : In64 l.frm
  b : In64 l.to
  c : In64 l.t1
  d : In64 l.t2
  e : In64 l.t
/-- How many there are behind a fault: none. -/
def nOf (e : Int) (n : Nat) : Nat := if e = 0 then n else 0
/-- Edges by their places. -/
def egf (l : List Eg) (i : Nat) : Eg := l.getD i ⟨0, 0, 0, 0⟩
/-- A row lies in none of these blocks. -/
def Apt (F : Nat → Prop) (a : Option Addr) : Prop := ∀ (b off : Nat), a = some ⟨b, off, none⟩ → ¬ F b
end Go.Proofs.YthejaecljkjliaiGreatDoor
namespace Go.Proofs.YthejaecljkjliaiGreatDoor
open Go.ChangeShapes Go.WideShapes Go.ChangeAt Go.RowKit
set_option linter.unusedVariables false

/-- What Spans answers. -/
def SpO (F : Nat → Prop) (c : Nd) (t e : Int) (o : Ending) (w' : World) : Prop := ∃ (sa : Option Addr) (sc : Nat) (ha : Option Addr) (hc : Nat), o = .returned (.tuple #[.slice sa (nOf e c.n) sc, .slice ha (nOf e c.n) hc, errc e]) ∧ SHanded w' sa (nOf e c.n) (c.so t) ∧ BHanded w' ha (nOf e c.n) c.ho ∧ Apt F sa ∧ Apt F ha
/-- What Edges answers. -/
def EdO (c : Nd) (t e : Int) (o : Ending) (w' : World) : Prop := ∃ (ea : Option Addr) (ec : Nat), o = .returned (.tuple #[.slice ea (nOf e (c.eo t).length) ec, errc e]) ∧ EHanded w' ea (nOf e (c.eo t).length) (egf (c.eo t))
/-- Package node, behind a world w0: R: what a node keeps, at block b, in blocks F. -/
structure Np (w0 : World) where
  R : World → Nat → (Nat → Prop) → Nd → Prop
  on : ∀ {u v : World} {b : Nat} {F : Nat → Prop} {c : Nd}, R u b F c → u.heap.size ≤ v.heap.size → (∀ k, F k → v.heap[k]? = u.heap[k]?) → R v b F c
  lt : ∀ {u : World} {b : Nat} {F : Nat → Prop} {c : Nd}, R u b F c → ∀ k, F k → k < u.heap.size
  new : ∀ (id n : Nat) (p : Int) (u : World), Below w0.heap.size w0 u → id < n → n ≤ 6 → 0 ≤ p → p ≤ 1000 → Calls Tryz.prog 27 #[.int .i64 id, .int .i64 n, .int .i64 p] u fun o w' => ∃ b F, o = .returned (.tuple #[.pointer (some ⟨b, 0, none⟩), .nilIface]) ∧ R w' b F (Nd.made id n p) ∧ Below u.heap.size u w' ∧ ∀ k, F k → u.heap.size ≤ k
  bad : ∀ (id n p : Int) (u : World), Below w0.heap.size w0 u → In64 id → In64 n → In64 p → (n < 1 ∨ 6 < n ∨ id < 0 ∨ n ≤ id ∨ p < 0 ∨ 1000 < p) → Calls Tryz.prog 27 #[.int .i64 id, .int .i64 n, .int .i64 p] u fun o w' => ∃ v, o = .returned (.tuple #[v, errc 1]) ∧ Below u.heap.size u w'
  hear : ∀ (b : Nat) (F : Nat → Prop) (c c' : Nd) (l : Lt) (t e : Int) (B : Bool) (u : World), R u b F c → c.I → l.In6 → In64 t → HearR c l t c' B e → Calls Tryz.prog 53 #[.pointer (some ⟨b, 0, none⟩), ltv l, .int .i64 t] u fun o w' => ∃ F', o = .returned (.tuple #[.bool B, errc e]) ∧ R w' b F' c' ∧ Keeps F u w' ∧ ∀ k, F' k → F k ∨ u.heap.size ≤ k
  spans : ∀ (b : Nat) (F : Nat → Prop) (c : Nd) (t e : Int) (u : World), R u b F c → c.I → In64 t → SpR c t e → Calls Tryz.prog 70 #[.pointer (some ⟨b, 0, none⟩), .int .i64 t] u fun o w' => SpO F c t e o w' ∧ Below u.heap.size u w'
/-- .. and Edges. -/
structure NpE (w0 : World) extends Np w0 where
  edges : ∀ (b : Nat) (F : Nat → Prop) (c : Nd) (t e : Int) (u : World), R u b F c → c.I → In64 t → SpR c t e → Calls Tryz.prog 40 #[.pointer (some ⟨b, 0, none⟩), .int .i64 t] u fun o w' => EdO c t e o w' ∧ Below u.heap.size u w'
end Go.Proofs.YthejaecljkjliaiGreatDoor
namespace Go.Proofs.YthejaecljkjliaiGreatDoor
open Go.ChangeShapes Go.WideShapes Go.ChangeAt Go.RowKit Go.Maps
set_option linter.unusedVariables false
set_option linter.unusedSimpArgs false

theorem lawK : Keyed Tryz.prog 3 := int_keyed Tryz.underlying3
/-- How what is kept of one node reads. -/
def offD (a b t : Int) : DataW Unit := .agg [.lit (.int .i64 a), .lit (.int .i64 b), .lit (.int .i64 t)]
def offE (v : Value) : Option (DataW Unit × List MemPlace) :=
  match v with
  | .agg cs => match cs.toList with
    | [.int .i64 a, .int .i64 b, .int .i64 t] => some (offD a b t, [])
    | _ => none
  | _ => none
theorem offE_mk (a b t : Int) : offE (.agg #[.int .i64 a, .int .i64 b, .int .i64 t]) = some (offD a b t, []) := rfl
theorem offE_inv {v : Value} {z : DataW Unit × List MemPlace} (h : offE v = some z) : ∃ a b t, v = .agg #[.int .i64 a, .int .i64 b, .int .i64 t] ∧ z = (offD a b t, []) := by
  unfold offE at h
  split at h
  · rename_i cs
    split at h
    · rename_i a b t e
      obtain rfl := Option.some.inj h
      refine ⟨a, b, t, ?_, rfl⟩
      have : cs = #[.int .i64 a, .int .i64 b, .int .i64 t] := by rw [← Array.toArray_toList (xs := cs), e]
      rw [this]
    · cases h
  · cases h
theorem offD_inj {a b t a' b' t' : Int} (h : offD a b t = offD a' b' t') : a = a' ∧ b = b' ∧ t = t' := by
  unfold offD at h
  injection h with h
  injection h with h1 h
  injection h with h2 h
  injection h with h3 h
  injection h1 with h1
  injection h1 with _ h1
  injection h2 with h2
  injection h2 with _ h2
  injection h3 with h3
  injection h3 with _ h3
  exact ⟨h1, h2, h3⟩
/-- How many are known. -/
def cntH (f : Nat → Bool) : Nat → Nat
  | 0 => 0
  | k + 1 => cntH f k + (if f k = true then 1 else 0)
theorem cntH_le (f : Nat → Bool) : ∀ k, cntH f k ≤ k
  | 0 => Nat.le_refl _
  | k + 1 => by have := cntH_le f k; simp only [cntH]; split <;> omega
theorem cntH_far (f : Nat → Bool) (k : Nat) : ∀ m, m ≤ k → cntH (updN f k true) m = cntH f m
  | 0, _ => rfl
  | m + 1, h => by simp only [cntH]; rw [cntH_far f k m (by omega), updN_ne (by omega)]
theorem cntH_upd (f : Nat → Bool) (k : Nat) : ∀ m, k < m → cntH (updN f k true) m = if f k = true then cntH f m else cntH f m + 1
  | 0, h => by omega
  | m + 1, h => by
    simp only [cntH]
    by_cases e : k = m
    · subst e
      rw [cntH_far f k k (Nat.le_refl _), updN_at]
      cases f k <;> simp
    · rw [cntH_upd f k m (by omega), updN_ne (fun q => e q.symm)]
      split <;> omega
/-- What the map holds. -/
structure NkD (D : DataW Unit) (c : Nd) : Prop where
  m : IsMap D
  h : ∀ i : Nat, i < 6 → Maps.has D (.int .i64 (i : Int)) = c.has i
  a : ∀ i : Nat, i < 6 → c.has i = true → D.atKey (.int .i64 (i : Int)) (offD 0 0 0) = offD (c.lo i) (c.hi i) (c.at_ i)
  s : Maps.size D = cntH c.has 6
theorem NkD.made (id n : Nat) (p : Int) : NkD (.map []) (Nd.made id n p) := ⟨isMap_empty, fun i _ => rfl, fun i _ h => (by cases h), rfl⟩
/-- What it keeps of one, or nothing. -/
def vL (c : Nd) (i : Nat) : Int := if c.has i = true then c.lo i else 0
def vH (c : Nd) (i : Nat) : Int := if c.has i = true then c.hi i else 0
def vA (c : Nd) (i : Nat) : Int := if c.has i = true then c.at_ i else 0
theorem NkD.get {D : DataW Unit} {c : Nd} (d : NkD D c) {i : Nat} (hi : i < 6) : D.atKey (.int .i64 (i : Int)) (offD 0 0 0) = offD (vL c i) (vH c i) (vA c i) := by
  cases e : c.has i with
  | true => unfold vL vH vA; rw [if_pos e, if_pos e, if_pos e]; exact d.a i hi e
  | false =>
    have q : Maps.has D (.int .i64 (i : Int)) = false := by rw [d.h i hi]; exact e
    unfold vL vH vA
    rw [if_neg (by rw [e]; decide), if_neg (by rw [e]; decide), if_neg (by rw [e]; decide)]
    exact atKey_of_not_has q _
/-- One more is known. -/
def Nd.put (c : Nd) (k : Nat) (a b t : Int) : Nd := { c with has := updN c.has k true, lo := updN c.lo k a, hi := updN c.hi k b, at_ := updN c.at_ k t }
theorem NkD.put {D : DataW Unit} {c : Nd} (d : NkD D c) (ty : Tidy D) {k : Nat} (hk : k < 6) (a b t : Int) : NkD (D.put (.int .i64 (k : Int)) (offD a b t)) (c.put k a b t) := by
  refine ⟨d.m.put _ _, fun i hi => ?_, fun i hi q => ?_, ?_⟩
  · show _ = updN c.has k true i
    by_cases e : i = k
    · subst e
      rw [updN_at]
      exact has_put_same d.m (by simp [WideAt.IsKeyLit]) _
    · rw [updN_ne e, has_put_other (fun q => e (by injection q with _ q; omega))]
      exact d.h i hi
  · show _ = offD (updN c.lo k a i) (updN c.hi k b i) (updN c.at_ k t i)
    by_cases e : i = k
    · subst e
      rw [updN_at, updN_at, updN_at]
      exact atKey_put_same d.m (by simp [WideAt.IsKeyLit]) _ _
    · rw [updN_ne e, updN_ne e, updN_ne e, atKey_put_other (fun q => e (by injection q with _ q; omega))]
      refine d.a i hi ?_
      have : updN c.has k true i = true := q
      rwa [updN_ne e] at this
  · show _ = cntH (updN c.has k true) 6
    rw [size_put ty, cntH_upd _ _ _ hk, d.h k hk, d.s]
theorem own_bound {w : World} {b n m : Nat} {D : DataW Unit} (h : w.ownsMap Tryz.prog 3 offE b n D) (hm : Maps.size D ≤ m) : w.ownsMap Tryz.prog 3 offE b m D := by
  obtain ⟨es, clock, hb, F, hs, rfl⟩ := h
  exact ⟨es, clock, hb, F, by simpa [Maps.size, length_sorted] using hm, rfl⟩
/-- What it showed last; 0 where it has shown nothing yet. -/
def hm (c : Nd) : Int := if c.h < 0 then 0 else c.h
theorem hm_bk {c : Nd} {t : Int} (g : c.I) : c.bk t ↔ (t < hm c ∨ 1000000000000 < t) := by
  have := g.h0
  unfold Nd.bk hm
  split <;> constructor <;> intro h <;> omega
def nkL (c : Nd) (M : Nat) : List Value := [.int .i64 c.id, .int .i64 c.n, .int .i64 c.p, .int .i64 (hm c), .map (some M)]
structure PN (u : World) (b M : Nat) (c : Nd) : Prop where
  r : Row u b (nkL c M)
  nm : M ≠ b
  d : ∃ D, u.ownsMap Tryz.prog 3 offE M 6 D ∧ NkD D c
section
variable {u u' W : World} {b M : Nat} {c : Nd}
theorem PN.lt (h : PN u b M c) : b < u.heap.size := h.r.lt
theorem PN.ltM (h : PN u b M c) : M < u.heap.size := by obtain ⟨D, hD, _⟩ := h.d; exact hD.lt
theorem PN.keep (hz : u.heap.size ≤ u'.heap.size) (hF : ∀ k, (k = b ∨ k = M) → u'.heap[k]? = u.heap[k]?) (h : PN u b M c) : PN u' b M c := by
  have e := hF b (Or.inl rfl)
  refine ⟨⟨fun i v hv => (World.cell?_of_block (w := u) (a := ⟨b, i, none⟩) e).trans (h.r.c i v hv), fun i v hv => (World.frozen?_of_block (w := u) (a := ⟨b, i, none⟩) e).trans (h.r.f i v hv)⟩, h.nm, ?_⟩
  obtain ⟨D, ⟨es, clock, hb', F, hs, hD⟩, q⟩ := h.d
  exact ⟨D, ⟨es, clock, (hF M (Or.inr rfl)).trans hb', F, hs, hD⟩, q⟩
theorem PN.on (hb : Below u.heap.size u u') (h : PN u b M c) : PN u' b M c := h.keep hb.size (fun k hk => hb.block k (hk.elim (fun e => e ▸ h.lt) (fun e => e ▸ h.ltM)))
theorem zeroO (w : World) : (zeroValue 192).run Tryz.prog w = .ok (.agg #[.int .i64 0, .int .i64 0, .int .i64 0]) w := by kernel_rfl
/-- 'o, ok := n.kept[i]'. -/
theorem PN.look (h : PN u b M c) {i : Nat} (hi : i < 6) : (Instr.lookup 132 (.map (some M)) (.int .i64 (i : Int)) true).run Tryz.prog u = .ok (.tuple #[.agg #[.int .i64 (vL c i), .int .i64 (vH c i), .int .i64 (vA c i)], .bool (c.has i)]) u := by
  obtain ⟨D, hD, q⟩ := h.d
  obtain ⟨v, ps, hrun, hR⟩ := hD.look_ok lawK Tryz.underlying132 (zeroO u) (offE_mk 0 0 0) (keyOf_int_mk Tryz.underlying3 (WalkArith.wf_i64 (by omega)) : keyOf Tryz.prog 3 (.int .i64 (i : Int)) = some (.int .i64 (i : Int)))
  obtain ⟨a, x, t, rfl, ez⟩ := offE_inv hR
  have ez := (Prod.mk.inj ez).1
  rw [q.get hi] at ez
  obtain ⟨e1, e2, e3⟩ := offD_inj ez
  rw [← e1, ← e2, ← e3] at hrun
  rw [hrun, q.h i hi]
/-- 'n.kept[k] = offset{..}'. -/
theorem PN.store (h : PN u b M c) {k : Nat} (hk : k < 6) (a x t : Int) : ∃ w', (Instr.mapUpdate 132 (.map (some M)) (.int .i64 (k : Int)) (.agg #[.int .i64 a, .int .i64 x, .int .i64 t])).run Tryz.prog u = .ok () w' ∧ PN w' b M (c.put k a x t) ∧ Keeps (fun j => j = M) u w' := by
  obtain ⟨D, hD, q⟩ := h.d
  obtain ⟨w', hrun, ho, hg⟩ := hD.update lawK Tryz.underlying132 (by unfold maxLen; omega) (keyOf_int_mk Tryz.underlying3 (WalkArith.wf_i64 (by omega)) : keyOf Tryz.prog 3 (.int .i64 (k : Int)) = some (.int .i64 (k : Int))) (offE_mk a x t)
  have q' := q.put (hD.tidy lawK) hk a x t
  have kp : Keeps (fun j => j = M) u w' := ⟨hg.os, hg.tape, hg.output, hg.size, fun i hi hn => hg.block i hi (fun e => hn (Option.some.inj e))⟩
  refine ⟨w', hrun, ⟨kp.row (fun e => h.nm e.symm) h.r, h.nm, _, own_bound ho ?_, q'⟩, kp⟩
  rw [q'.s]
  exact cntH_le _ _
/-- What it showed last is another time. -/
theorem PN.late (h : PN u b M c) {t : Int} (ht : 0 ≤ t) : PN (u.setCell ⟨b, 3, none⟩ (.int .i64 t)) b M { c with h := t } ∧ Keeps (fun j => j = b) u (u.setCell ⟨b, 3, none⟩ (.int .i64 t)) := by
  refine ⟨⟨?_, h.nm, ?_⟩, Keeps.put (S := fun j => j = b) rfl (Keeps.refl _ _)⟩
  · have := Row.put 3 h.r (x := .int .i64 t)
    have e : hm { c with h := t } = t := by unfold hm; exact if_neg (by show ¬ t < 0; omega)
    show Row _ _ [.int .i64 c.id, .int .i64 c.n, .int .i64 c.p, .int .i64 (hm { c with h := t }), .map (some M)]
    rw [e]
    exact this
  · obtain ⟨D, hD, q⟩ := h.d
    exact ⟨D, hD.setCell (a := ⟨b, 3, none⟩) h.nm _, ⟨q.m, q.h, q.a, q.s⟩⟩
end
/-- The blocks it lies in. -/
def Fn (b M k : Nat) : Prop := k = b ∨ k = M
/-- Package node in memory, as the laws have it. -/
def Nkp (u : World) (b : Nat) (F : Nat → Prop) (c : Nd) : Prop := ∃ M, PN u b M c ∧ F = Fn b M
theorem Nkp.on {u v : World} {b : Nat} {F : Nat → Prop} {c : Nd} (h : Nkp u b F c) (hz : u.heap.size ≤ v.heap.size) (hF : ∀ k, F k → v.heap[k]? = u.heap[k]?) : Nkp v b F c := by
  obtain ⟨M, hP, rfl⟩ := h
  exact ⟨M, hP.keep hz hF, rfl⟩
theorem Nkp.lt {u : World} {b : Nat} {F : Nat → Prop} {c : Nd} (h : Nkp u b F c) (k : Nat) (hk : F k) : k < u.heap.size := by
  obtain ⟨M, hP, rfl⟩ := h
  exact hk.elim (fun e => e ▸ hP.lt) (fun e => e ▸ hP.ltM)
end Go.Proofs.YthejaecljkjliaiGreatDoor
namespace Go.Proofs.YthejaecljkjliaiGreatDoor
open Go.ChangeShapes Go.WideShapes Go.ChangeAt Go.RowKit Go.Joins
set_option linter.unusedVariables false
set_option linter.unusedSimpArgs false

/-- Where a net's parts lie: the world's blocks, the row of nodes, the nodes' blocks; whose each block is. -/
structure Nly where
  wb : Nat
  cb : Nat
  cc : Nat
  v : Value
  nb : Nat
  nc : Nat
  b : Nat → Nat
  m : Nat → Nat
  tg : Nat → Nat
/-- The blocks it lies in. -/
def Nly.F (L : Nly) (mb n k : Nat) : Prop := k = mb ∨ k = L.nb ∨ Fp L.wb L.cb L.v k ∨ ∃ i, i < n ∧ Fn (L.b i) (L.m i) k
structure NN (u : World) (mb : Nat) (L : Nly) (N : Nn) : Prop where
  r : Row u mb [.pointer (some ⟨L.wb, 0, none⟩), .slice (some ⟨L.nb, 0, none⟩) N.W.n L.nc]
  w : PW u L.wb L.cb L.cc N.W L.v
  c : N.W.n ≤ L.nc
  nl : L.nb < u.heap.size
  p : ∀ i, i < N.W.n → u.cell? ⟨L.nb, i, none⟩ = some (.pointer (some ⟨L.b i, 0, none⟩))
  d : ∀ i, i < N.W.n → PN u (L.b i) (L.m i) (N.nd i)
  tb : L.tg mb = 0
  tn : L.tg L.nb = 1
  tw : ∀ k, Fp L.wb L.cb L.v k → L.tg k = 2
  td : ∀ i, i < N.W.n → L.tg (L.b i) = 3 + i ∧ L.tg (L.m i) = 3 + i
section
variable {u u' : World} {mb : Nat} {L : Nly} {N : Nn}
theorem NN.keep (hz : u.heap.size ≤ u'.heap.size) (hF : ∀ k, L.F mb N.W.n k → u'.heap[k]? = u.heap[k]?) (h : NN u mb L N) : NN u' mb L N := by
  have eb := hF mb (Or.inl rfl)
  have en := hF L.nb (Or.inr (Or.inl rfl))
  exact ⟨row_block eb h.r, h.w.keep hz (fun k hk => hF k (Or.inr (Or.inr (Or.inl hk)))), h.c, Nat.lt_of_lt_of_le h.nl hz, fun i hi => (World.cell?_of_block (w := u) (a := ⟨L.nb, i, none⟩) en).trans (h.p i hi),
    fun i hi => (h.d i hi).keep hz (fun k hk => hF k (Or.inr (Or.inr (Or.inr ⟨i, hi, hk⟩)))), h.tb, h.tn, h.tw, h.td⟩
theorem NN.lt (h : NN u mb L N) {k : Nat} (hk : L.F mb N.W.n k) : k < u.heap.size := by
  rcases hk with e | e | e | ⟨i, hi, e | e⟩
  · rw [e]; exact h.r.lt
  · rw [e]; exact h.nl
  · exact h.w.lt e
  · rw [e]; exact (h.d i hi).lt
  · rw [e]; exact (h.d i hi).ltM
theorem NN.on (hb : Below u.heap.size u u') (h : NN u mb L N) : NN u' mb L N := h.keep hb.size (fun k hk => hb.block k (h.lt hk))
/-- One node is another one. -/
theorem NN.node {i : Nat} {c' : Nd} (h : NN u mb L N) (hi : i < N.W.n) (hk : Keeps (Fn (L.b i) (L.m i)) u u') (hp : PN u' (L.b i) (L.m i) c') : NN u' mb L { N with nd := updN N.nd i c' } := by
  have ti := h.td i hi
  have no : ∀ k, L.tg k ≠ 3 + i → ¬ Fn (L.b i) (L.m i) k := fun k hk q => q.elim (fun e => hk (by rw [e]; exact ti.1)) (fun e => hk (by rw [e]; exact ti.2))
  have same : ∀ k, k < u.heap.size → L.tg k ≠ 3 + i → u'.heap[k]? = u.heap[k]? := fun k hl hk' => hk.block k hl (no k hk')
  have eb := same mb h.r.lt (by have := h.tb; omega)
  have en := same L.nb h.nl (by have := h.tn; omega)
  refine ⟨row_block eb h.r, h.w.keep hk.size (fun k q => same k (h.w.lt q) (by have := h.tw k q; omega)), h.c, Nat.lt_of_lt_of_le h.nl hk.size, fun j hj => (World.cell?_of_block (w := u) (a := ⟨L.nb, j, none⟩) en).trans (h.p j hj), fun j hj => ?_, h.tb, h.tn, h.tw, h.td⟩
  show PN u' (L.b j) (L.m j) (updN N.nd i c' j)
  by_cases e : j = i
  · subst e; rw [updN_at]; exact hp
  · rw [updN_ne e]
    have tj := h.td j hj
    have dj := h.d j hj
    refine dj.keep hk.size (fun k q => ?_)
    rcases q with q | q
    · rw [q]; exact same _ dj.lt (by rw [tj.1]; omega)
    · rw [q]; exact same _ dj.ltM (by rw [tj.2]; omega)
/-- Its world is another one. -/
theorem NN.world {S' : Ws} {v' : Value} (h : NN u mb L N) (hn : S'.n = N.W.n) (hp : PW u' L.wb L.cb L.cc S' v') (hk : KpW u u' L.wb L.cb L.v v') : NN u' mb { L with v := v', tg := fun k => if k < u.heap.size then L.tg k else 2 } { N with W := S' } := by
  have no : ∀ k, L.tg k ≠ 2 → ¬ (k = L.wb ∨ L.v.ownBlock = some k) := fun k hk' q => hk' (h.tw k (q.elim Or.inl (fun e => Or.inr (Or.inr e))))
  have same : ∀ k, k < u.heap.size → L.tg k ≠ 2 → u'.heap[k]? = u.heap[k]? := fun k hl hk' => hk.1.block k hl (no k hk')
  have eb := same mb h.r.lt (by have := h.tb; omega)
  have en := same L.nb h.nl (by have := h.tn; omega)
  have hz := hk.1.size
  refine ⟨?_, hp, ?_, Nat.lt_of_lt_of_le h.nl hz, fun j hj => ?_, fun j hj => ?_, ?_, ?_, fun k q => ?_, fun j hj => ?_⟩
  · show Row u' mb [.pointer (some ⟨L.wb, 0, none⟩), .slice (some ⟨L.nb, 0, none⟩) S'.n L.nc]
    rw [hn]; exact row_block eb h.r
  · show S'.n ≤ L.nc
    rw [hn]; exact h.c
  · exact (World.cell?_of_block (w := u) (a := ⟨L.nb, j, none⟩) en).trans (h.p j (by rw [← hn]; exact hj))
  · have hj' : j < N.W.n := by rw [← hn]; exact hj
    have tj := h.td j hj'
    have dj := h.d j hj'
    refine dj.keep hz (fun k q => ?_)
    rcases q with q | q
    · rw [q]; exact same _ dj.lt (by rw [tj.1]; omega)
    · rw [q]; exact same _ dj.ltM (by rw [tj.2]; omega)
  · show (if mb < u.heap.size then L.tg mb else 2) = 0
    rw [if_pos h.r.lt]; exact h.tb
  · show (if L.nb < u.heap.size then L.tg L.nb else 2) = 1
    rw [if_pos h.nl]; exact h.tn
  · show (if k < u.heap.size then L.tg k else 2) = 2
    by_cases q' : k < u.heap.size
    · rw [if_pos q']
      rcases q with e | e | e
      · exact h.tw k (Or.inl e)
      · exact h.tw k (Or.inr (Or.inl e))
      · rcases hk.2 k e with e' | e'
        · exact h.tw k (Or.inr (Or.inr e'))
        · omega
    · rw [if_neg q']
  · have hj' : j < N.W.n := by rw [← hn]; exact hj
    have dj := h.d j hj'
    show (if L.b j < u.heap.size then L.tg (L.b j) else 2) = _ ∧ (if L.m j < u.heap.size then L.tg (L.m j) else 2) = _
    rw [if_pos dj.lt, if_pos dj.ltM]
    exact h.td j hj'
/-- What a call on its world, or on a node, keeps. -/
theorem NN.kw {v' : Value} (h : NN u mb L N) (hk : KpW u u' L.wb L.cb L.v v') : Keeps (L.F mb N.W.n) u u' := ⟨hk.1.os, hk.1.tape, hk.1.output, hk.1.size, fun k hl hn => hk.1.block k hl (fun e => hn (Or.inr (Or.inr (Or.inl (e.elim Or.inl (fun q => Or.inr (Or.inr q)))))))⟩
theorem NN.kn {i : Nat} (hi : i < N.W.n) (hk : Keeps (Fn (L.b i) (L.m i)) u u') : Keeps (L.F mb N.W.n) u u' := ⟨hk.os, hk.tape, hk.output, hk.size, fun k hl hn => hk.block k hl (fun e => hn (Or.inr (Or.inr (Or.inr ⟨i, hi, e⟩))))⟩
/-- What a call of it keeps, and where it lies then. -/
def Kpn (u u' : World) (mb n : Nat) (L L' : Nly) : Prop := Keeps (L.F mb n) u u' ∧ ∀ j, L'.F mb n j → L.F mb n j ∨ u.heap.size ≤ j
theorem Kpn.same {n : Nat} (hb : Below u.heap.size u u') : Kpn u u' mb n L L := ⟨.of hb, fun _ h => Or.inl h⟩
theorem Kpn.trans {u'' : World} {n : Nat} {L' L'' : Nly} (h : Kpn u u' mb n L L') (g : Kpn u' u'' mb n L' L'') : Kpn u u'' mb n L L'' := by
  have hz := h.1.size
  refine ⟨⟨g.1.os.trans h.1.os, g.1.tape.trans h.1.tape, g.1.output.trans h.1.output, Nat.le_trans hz g.1.size, fun k hk hn => ?_⟩, fun j hj => ?_⟩
  · exact (g.1.block k (Nat.lt_of_lt_of_le hk hz) (fun q => (h.2 k q).elim hn (fun q => by omega))).trans (h.1.block k hk hn)
  · rcases g.2 j hj with q | q
    · exact h.2 j q
    · exact Or.inr (by omega)
theorem NN.kpw {n : Nat} {v' : Value} {tg' : Nat → Nat} (h : NN u mb L N) (hn : n = N.W.n) (hk : KpW u u' L.wb L.cb L.v v') : Kpn u u' mb n L { L with v := v', tg := tg' } := by
  subst hn
  refine ⟨NN.kw h hk, fun j hj => ?_⟩
  rcases hj with q | q | q | ⟨i, hi, q⟩
  · exact Or.inl (Or.inl q)
  · exact Or.inl (Or.inr (Or.inl q))
  · rcases q with q | q | q
    · exact Or.inl (Or.inr (Or.inr (Or.inl (Or.inl q))))
    · exact Or.inl (Or.inr (Or.inr (Or.inl (Or.inr (Or.inl q)))))
    · exact (hk.2 j q).imp (fun q => Or.inr (Or.inr (Or.inl (Or.inr (Or.inr q))))) id
  · exact Or.inl (Or.inr (Or.inr (Or.inr ⟨i, hi, q⟩)))
theorem NN.kpn {n i : Nat} (hn : n = N.W.n) (hi : i < N.W.n) (hk : Keeps (Fn (L.b i) (L.m i)) u u') : Kpn u u' mb n L L := by
  subst hn
  exact ⟨NN.kn hi hk, fun _ h => Or.inl h⟩
end
/-- Package net in memory, as the laws have it. -/
def Nkn (u : World) (b : Nat) (F : Nat → Prop) (N : Nn) : Prop := ∃ L, NN u b L N ∧ F = L.F b N.W.n
theorem Nkn.on {u v : World} {b : Nat} {F : Nat → Prop} {N : Nn} (h : Nkn u b F N) (hz : u.heap.size ≤ v.heap.size) (hF : ∀ k, F k → v.heap[k]? = u.heap[k]?) : Nkn v b F N := by
  obtain ⟨L, hP, rfl⟩ := h
  exact ⟨L, hP.keep hz hF, rfl⟩
theorem Nkn.lt {u : World} {b : Nat} {F : Nat → Prop} {N : Nn} (h : Nkn u b F N) (k : Nat) (hk : F k) : k < u.heap.size := by
  obtain ⟨L, hP, rfl⟩ := h
  exact hP.lt hk
end Go.Proofs.YthejaecljkjliaiGreatDoor
namespace Go.Proofs.YthejaecljkjliaiGreatDoor
open Go.ChangeShapes Go.WideShapes Go.ChangeAt Go.RowKit Go.Joins Go.Deep
set_option linter.unusedVariables false

/-- An act. -/
structure Ac where
  wh : Int
  a : Int
  b : Int
structure Ac.In (q : Ac) : Prop where
  wh : In64 q.wh
  a : In64 q.a
  b : In64 q.b
/-- Acts lie in a row behind an address. -/
def Acs (w : World) (b off n : Nat) (q : Nat → Ac) : Prop := ∀ i, i < n → w.cell? ⟨b, off + i * 3, none⟩ = some (.int .i64 (q i).wh) ∧ w.cell? ⟨b, off + i * 3 + 1, none⟩ = some (.int .i64 (q i).a) ∧ w.cell? ⟨b, off + i * 3 + 2, none⟩ = some (.int .i64 (q i).b) ∧ (q i).In
def AHanded (w : World) (a : Option Addr) (n : Nat) (q : Nat → Ac) : Prop := n ≤ 9223372036854775807 ∧ (n = 0 ∨ ∃ b off : Nat, a = some ⟨b, off, none⟩ ∧ Acs w b off n q)
theorem cellsAct : Tryz.prog.cellsOf 35 = 3 := by kernel_rfl
theorem cells3a {α : Type} {cs : List α} (h : cs.length = 3) : ∃ a b c, cs = [a, b, c] := by
  match cs, h with
  | [a, b, c], _ => exact ⟨a, b, c, rfl⟩
section
variable {H : Type} {enc : TypeId × Value → H} {w : World} {base : Nat} {spare : Nat → Bool} {held : Bool}
set_option maxRecDepth 100000 in
theorem open_act_cells {fuel : Nat} {cs : List Value} {x : DataW H × List MemPlace} (hl : cs.length = 3) (h : DataW.trod enc Tryz.prog w base spare held fuel 35 cs = some x) :
    ∃ q : Ac, cs = [.int .i64 q.wh, .int .i64 q.a, .int .i64 q.b] ∧ q.In := by
  obtain ⟨v0, v1, v2, rfl⟩ := cells3a hl
  obtain ⟨y0, y1, y2, n, hx, _, h0, h1, h2⟩ := trod_struct3 Tryz.underlying35 h
  have k : Tryz.prog.cellsOf 3 = 1 := by kernel_rfl
  have g0 : DataW.trod enc Tryz.prog w base spare held n 3 [v0] = some y0 := by simpa [k] using h0
  have g1 : DataW.trod enc Tryz.prog w base spare held n 3 [v1] = some y1 := by simpa [k] using h1
  have g2 : DataW.trod enc Tryz.prog w base spare held n 3 [v2] = some y2 := by simpa [k] using h2
  obtain ⟨n0, e0, i0, f0⟩ := DataW.trod_int Tryz.underlying3 g0
  obtain ⟨n1, e1, i1, f1⟩ := DataW.trod_int Tryz.underlying3 g1
  obtain ⟨n2, e2, i2, f2⟩ := DataW.trod_int Tryz.underlying3 g2
  simp at e0 e1 e2
  exact ⟨⟨n0, n1, n2⟩, by rw [e0, e1, e2], f0, f1, f2⟩
set_option maxRecDepth 100000 in
theorem open_acts {r : Reach} {b0 : Nat} {v : Value} {d : DataW H} {p : List MemPlace} (hv : Value.okWide Tryz.prog w r b0 23 v) (h : DataW.Trod enc Tryz.prog w base spare held 23 v d p) :
    ∃ (a : Option Addr) (n cap : Nat) (q : Nat → Ac), v = .slice a n cap ∧ AHanded w a n q := by
  obtain ⟨a, n, cap, rfl⟩ := okWide_slice Tryz.underlying23 hv
  obtain ⟨fuel, hf⟩ := h
  have hf' : DataW.trod enc Tryz.prog w base spare held fuel 23 [.slice a n cap] = some (d, p) := by simpa [Value.cells] using hf
  rcases open_slice Tryz.underlying23 hf' with ⟨hcs, hx⟩ | ⟨a', len', cap', m, nf, D, Pl, hcs, hb, hl, hm, hmm, hx, hx2⟩
  · simp at hcs
    exact ⟨a, n, cap, fun _ => ⟨0, 0, 0⟩, rfl, by omega, Or.inl hcs.2.1⟩
  · simp at hcs
    obtain ⟨rfl, rfl, rfl⟩ := hcs
    unfold maxLen at hm
    by_cases h0 : n = 0
    · exact ⟨_, n, cap, fun _ => ⟨0, 0, 0⟩, rfl, by omega, Or.inl h0⟩
    have hnm : n ≤ m := by rw [hmm]; split <;> omega
    have each : ∀ i, i < n → ∃ q : Ac, w.cell? (a'.add (i * 3)) = some (.int .i64 q.wh) ∧ w.cell? (a'.add (i * 3 + 1)) = some (.int .i64 q.a) ∧ w.cell? (a'.add (i * 3 + 2)) = some (.int .i64 q.b) ∧ q.In := by
      intro i hi
      obtain ⟨cs', h1, h2⟩ := hx2 i (by omega)
      rw [cellsAct] at h1
      obtain ⟨_, hlen, hcell⟩ := World.cells?_some h1
      obtain ⟨q, rfl, hq⟩ := open_act_cells hlen h2
      refine ⟨q, ?_, ?_, ?_, hq⟩
      · have := hcell 0 (by omega); rw [add_add] at this; simpa using this
      · have := hcell 1 (by omega); rw [add_add] at this; simpa using this
      · have := hcell 2 (by omega); rw [add_add] at this; simpa using this
    haveI : Inhabited Ac := ⟨⟨0, 0, 0⟩⟩
    obtain ⟨q, hq⟩ := choose_lt each
    obtain ⟨b, off, spot⟩ := a'
    have hspot : spot = none := by simpa [Addr.add] using World.cell?_spot (hq 0 (by omega)).1
    subst hspot
    refine ⟨_, n, cap, q, rfl, by omega, Or.inr ⟨b, off, rfl, fun i hi => ?_⟩⟩
    obtain ⟨g0, g1, g2, g3⟩ := hq i hi
    rw [add_plain] at g0 g1 g2
    exact ⟨g0, g1, g2, g3⟩
theorem trod_struct6 {P : Program} {t : TypeId} {f0 f1 f2 f3 f4 f5 : Field} {fuel : Nat} {cs : List Value} {x : DataW H × List MemPlace} (ht : P.underlying t = some (.struct #[f0, f1, f2, f3, f4, f5])) (h : DataW.trod enc P w base spare held fuel t cs = some x) :
    ∃ y0 y1 y2 y3 y4 y5 n, DataW.trod enc P w base spare held n f0.type ((cs.drop f0.offset).take (P.cellsOf f0.type)) = some y0 ∧
      DataW.trod enc P w base spare held n f1.type ((cs.drop f1.offset).take (P.cellsOf f1.type)) = some y1 ∧ DataW.trod enc P w base spare held n f2.type ((cs.drop f2.offset).take (P.cellsOf f2.type)) = some y2 ∧
      DataW.trod enc P w base spare held n f3.type ((cs.drop f3.offset).take (P.cellsOf f3.type)) = some y3 ∧ DataW.trod enc P w base spare held n f4.type ((cs.drop f4.offset).take (P.cellsOf f4.type)) = some y4 ∧
      DataW.trod enc P w base spare held n f5.type ((cs.drop f5.offset).take (P.cellsOf f5.type)) = some y5 := by
  obtain ⟨xs, n, _, rfl, hl, hlen, hf⟩ := DataW.trod_struct ht h
  match xs, hlen with
  | [y0, y1, y2, y3, y4, y5], _ => exact ⟨y0, y1, y2, y3, y4, y5, n, by simpa using hf 0 f0 rfl, by simpa using hf 1 f1 rfl, by simpa using hf 2 f2 rfl, by simpa using hf 3 f3 rfl, by simpa using hf 4 f4 rfl, by simpa using hf 5 f5 rfl⟩
theorem cellsLetter : Tryz.prog.cellsOf 98 = 6 := by kernel_rfl
theorem array6 {α : Type} {cs : Array α} (h : cs.size = 6) : ∃ c0 c1 c2 c3 c4 c5, cs = #[c0, c1, c2, c3, c4, c5] := by
  obtain ⟨l⟩ := cs
  match l, h with
  | [c0, c1, c2, c3, c4, c5], _ => exact ⟨c0, c1, c2, c3, c4, c5, rfl⟩
/-- A letter's clocks are numbers that an int can be. -/
def Lt.In (l : Lt) : Prop := In64 l.frm ∧ In64 l.to
set_option maxRecDepth 100000 in
theorem open_letter {r : Reach} {b0 : Nat} {v : Value} {d : DataW H} {p : List MemPlace} (hv : Value.okWide Tryz.prog w r b0 98 v) (h : DataW.Trod enc Tryz.prog w base spare held 98 v d p) :
    ∃ l : Lt, v = ltv l ∧ l.In := by
  obtain ⟨cs, rfl, hsz⟩ := okWide_struct Tryz.underlying98 hv
  rw [cellsLetter] at hsz
  obtain ⟨v0, v1, v2, v3, v4, v5, rfl⟩ := array6 hsz
  obtain ⟨fuel, hf⟩ := h
  have hf' : DataW.trod enc Tryz.prog w base spare held fuel 98 [v0, v1, v2, v3, v4, v5] = some (d, p) := by simpa [Value.cells] using hf
  obtain ⟨y0, y1, y2, y3, y4, y5, n, h0, h1, h2, h3, h4, h5⟩ := trod_struct6 Tryz.underlying98 hf'
  have k : Tryz.prog.cellsOf 3 = 1 := by kernel_rfl
  have kb : Tryz.prog.cellsOf 4 = 1 := by kernel_rfl
  have g0 : DataW.trod enc Tryz.prog w base spare held n 3 [v0] = some y0 := by simpa [k, kb] using h0
  have g1 : DataW.trod enc Tryz.prog w base spare held n 3 [v1] = some y1 := by simpa [k, kb] using h1
  have g2 : DataW.trod enc Tryz.prog w base spare held n 4 [v2] = some y2 := by simpa [k, kb] using h2
  have g3 : DataW.trod enc Tryz.prog w base spare held n 3 [v3] = some y3 := by simpa [k, kb] using h3
  have g4 : DataW.trod enc Tryz.prog w base spare held n 3 [v4] = some y4 := by simpa [k, kb] using h4
  have g5 : DataW.trod enc Tryz.prog w base spare held n 3 [v5] = some y5 := by simpa [k, kb] using h5
  obtain ⟨n0, e0, _, f0⟩ := DataW.trod_int Tryz.underlying3 g0
  obtain ⟨n1, e1, _, f1⟩ := DataW.trod_int Tryz.underlying3 g1
  obtain ⟨n2, e2, _⟩ := DataW.trod_bool Tryz.underlying4 g2
  obtain ⟨n3, e3, _, f3⟩ := DataW.trod_int Tryz.underlying3 g3
  obtain ⟨n4, e4, _, f4⟩ := DataW.trod_int Tryz.underlying3 g4
  obtain ⟨n5, e5, _, f5⟩ := DataW.trod_int Tryz.underlying3 g5
  simp at e0 e1 e2 e3 e4 e5
  exact ⟨⟨n0, n1, n2, n3, n4, n5⟩, by rw [e0, e1, e2, e3, e4, e5]; rfl, f0, f1⟩
end
end Go.Proofs.YthejaecljkjliaiGreatDoor
namespace Go.Proofs.YthejaecljkjliaiGreatDoor
open Go.ChangeShapes Go.WideShapes Go.ChangeAt Go.RowKit Go.Joins Go.Deep
set_option linter.unusedVariables false

section
variable {H : Type} {enc : TypeId × Value → H} {w : World} {base : Nat} {spare : Nat → Bool} {held : Bool}
set_option maxRecDepth 100000 in
theorem open_nums {fuel : Nat} {cs : List Value} {x : DataW H × List MemPlace} (h : DataW.trod enc Tryz.prog w base spare held fuel 22 cs = some x) :
    ∃ (a : Option Addr) (n cap : Nat) (z : Nat → Int), cs = [.slice a n cap] ∧ NHanded w a n z ∧ ∀ j, j < n → In64 (z j) := by
  have k : Tryz.prog.cellsOf 3 = 1 := by kernel_rfl
  rcases Go.ChangeShapes.open_ints Tryz.underlying22 Tryz.underlying3 k h with ⟨hcs, hx⟩ | ⟨a', len', cap', zs, hcs, hb, hl, hm, hlen, hx, hcell, hwf⟩
  · exact ⟨none, 0, 0, fun _ => 0, hcs, ⟨by omega, Or.inl rfl⟩, fun j hj => by omega⟩
  · unfold maxLen at hm
    have hnz : len' ≤ zs.length := by rw [hlen]; split <;> omega
    by_cases h0 : len' = 0
    · exact ⟨_, len', cap', fun _ => 0, hcs, ⟨by omega, Or.inl h0⟩, fun j hj => by omega⟩
    obtain ⟨b, off, spot⟩ := a'
    have hspot : spot = none := by simpa [Addr.add] using World.cell?_spot (hcell 0 (by omega))
    subst hspot
    refine ⟨_, len', cap', fun i => zs.getD i 0, hcs, ⟨by omega, Or.inr ⟨b, off, rfl, fun i hi => ?_⟩⟩, fun j hj => ?_⟩
    · have g := hcell i (by omega)
      rwa [add_plain] at g
    · have jl : j < zs.length := by omega
      show In64 (zs.getD j 0)
      rw [List.getD_eq_getElem?_getD, List.getElem?_eq_getElem jl]
      exact hwf _ (List.getElem_mem jl)
set_option maxRecDepth 100000 in
theorem open_ns {r : Reach} {b0 : Nat} {v : Value} {d : DataW H} {p : List MemPlace} (hv : Value.okWide Tryz.prog w r b0 22 v) (h : DataW.Trod enc Tryz.prog w base spare held 22 v d p) :
    ∃ (a : Option Addr) (n cap : Nat) (z : Nat → Int), v = .slice a n cap ∧ NHanded w a n z ∧ ∀ j, j < n → In64 (z j) := by
  obtain ⟨a, n, cap, rfl⟩ := okWide_slice Tryz.underlying22 hv
  obtain ⟨fuel, hf⟩ := h
  have hf' : DataW.trod enc Tryz.prog w base spare held fuel 22 [.slice a n cap] = some (d, p) := by simpa [Value.cells] using hf
  obtain ⟨a2, n2, c2, z, e, h1⟩ := open_nums hf'
  simp at e
  obtain ⟨rfl, rfl, rfl⟩ := e
  exact ⟨a, n, cap, z, rfl, h1⟩
end
end Go.Proofs.YthejaecljkjliaiGreatDoor
