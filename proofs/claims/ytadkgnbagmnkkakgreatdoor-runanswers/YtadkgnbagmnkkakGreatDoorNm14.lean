/- An append to a row of the call's own, in a region that draws its order; rows of other blocks behind it. A world of package world in memory: its clocks, how late it is, its letters in a row of its own. A net in memory: its world of clocks, a row of nodes, each in blocks of its own. Edges' cells in a row of a call's own; the edges of the first few nodes. -/
import Derived.Test.YtadkgnbagmnkkakGreatDoorNm03
import Derived.Lib.SmallJoins
import Derived.OwnWalk
import Derived.Maps.AppendAt
import Derived.Deep.RegionLaw
import Derived.Laws.AppendOwnNone
import Derived.OneCell
import Derived.Test.YtadkgnbagmnkkakGreatDoorNm12
import Derived.Test.YtadkgnbagmnkkakGreatDoorNm05
import Derived.Test.YtadkgnbagmnkkakGreatDoorNm04
import Derived.Test.YtadkgnbagmnkkakGreatDoorNodeMem
namespace Go.Proofs.YtadkgnbagmnkkakGreatDoor
open Go.ChangeShapes Go.WideShapes Go.ChangeAt Go.RowKit Go.Joins
set_option linter.unusedVariables false
set_option linter.unusedSimpArgs false

theorem step_append_at {P : Program} {ops : Array Oper} {o : Oper} {a : Act} {w : World} {K : Act → World → Prop} {Q : Exit → Act → World → Prop} {E : Prop}
  (hg : o.guard = none) (s x : Operand) (t : TypeId) (hop : o.op = Op.call { callee := Callee.builtin Builtin.append, args := #[s, x], argTypes := #[t, t] })
  (base : Nat) (e : TypeId) (i : TypeInfo) (z : Value) (size bytes : Nat) (h1 : P.underlying t = some (.slice e)) (h2 : P.info? e = some i) (h3 : i.zero = some z) (h4 : i.size = size) (h5 : i.bytes = bytes) (h6 : z.cells.size = size) (h7 : 0 < size)
  (v : Value) (n : Nat) (xs : List Value) (hs : a.eval s = v) (hown : w.ownsRow base e size v n xs)
  (ad : Addr) (m c : Nat) (news : List Value) (hx : a.eval x = .slice (some ad) m c) (hn : news.length = m * size) (hc : ∀ j u, news[j]? = some u → w.cell? (ad.add j) = some u) (h1c : ∀ u ∈ news, u.oneCell' = true)
  (b1 : n + m ≤ maxLen) (b2 : (n + m) * bytes ≤ 140737488355328) (hbase : base ≤ w.heap.size)
  (hK : ∀ v' w', w'.ownsRow base e size v' (n + m) (xs ++ news) → w.grownBy w' v.ownBlock → (v'.ownBlock = v.ownBlock ∨ v'.ownBlock = some w.heap.size) → K (a.put o.dst v') w') :
  if Region.wanted o (yielded ops a.tmps) = true then Oper.wp P o a w K Q else E := by
 have hw : Region.wanted o (yielded ops a.tmps) = true := by simp [Region.wanted, hg]
 rw [if_pos hw]
 obtain ⟨v', w', hr, g1, g2, _, g4⟩ := run_append_own_at (P := P) w base t o.type e i z size bytes h1 h2 h3 h4 h5 h6 h7 v n xs hown ad m c news hn hc h1c b1 b2 hbase
 unfold Oper.wp execOp
 simp only [hop, resolve, invoke, builtin, Sem.run_bind, Sem.run_pure, Result.andThen_ok, List.map_toArray, List.map_cons, List.map_nil, hs, hx, hr]
 exact hK v' w' g1 g2 g4
theorem row_block {u u' : World} {b : Nat} {vs : List Value} (he : u'.heap[b]? = u.heap[b]?) (h : Row u b vs) : Row u' b vs :=
 ⟨fun i x hx => (World.cell?_of_block (w := u) (a := ⟨b, i, none⟩) he).trans (h.c i x hx), fun i x hx => (World.frozen?_of_block (w := u) (a := ⟨b, i, none⟩) he).trans (h.f i x hx)⟩
theorem row_grown {W w1 : World} {ob : Option Nat} {b : Nat} {vs : List Value} (hg : W.grownBy w1 ob) (hlt : b < W.heap.size) (hne : ob ≠ some b) (h : Row W b vs) : Row w1 b vs :=
 row_block (hg.block b hlt (fun e => hne e.symm)) h
theorem own_slice {w : World} {base size n : Nat} {e : TypeId} {v : Value} {xs : List Value} (h : w.ownsRow base e size v n xs) : ∃ a cap, v = .slice a n cap := by
 rcases h.2 with ⟨rfl, rfl⟩ | ⟨g, cap, cur, rfl, _⟩
 ·exact ⟨none, 0, rfl⟩
 ·exact ⟨_, cap, rfl⟩
def Cls (w : World) (b n : Nat) (z r : Nat → Int) : Prop := ∀ i, i < n → w.cell? ⟨b, i * 2, none⟩ = some (.int .i64 (z i)) ∧ w.cell? ⟨b, i * 2 + 1, none⟩ = some (.int .i64 (r i))
structure PW (u : World) (mb cb cc : Nat) (S : Ws) (v : Value) : Prop where
 r : Row u mb [.slice (some ⟨cb, 0, none⟩) S.n cc, .int .i64 S.time, v]
 k : Cls u cb S.n S.starts S.rates
 kl : cb < u.heap.size
 o : u.ownsRow 0 113 6 v S.under.length (lcs S.under)
 nm : cb ≠ mb
 ne : v.ownBlock ≠ some mb
 nc : v.ownBlock ≠ some cb
def Fp (mb cb : Nat) (v : Value) (k : Nat) : Prop := k = mb ∨ k = cb ∨ v.ownBlock = some k
def KpW (u u' : World) (mb cb : Nat) (v v' : Value) : Prop := Keeps (fun k => k = mb ∨ v.ownBlock = some k) u u' ∧ ∀ g, v'.ownBlock = some g → v.ownBlock = some g ∨ u.heap.size ≤ g
section
variable {u u' : World} {mb cb cc : Nat} {S : Ws} {v : Value}
theorem PW.keep (hz : u.heap.size ≤ u'.heap.size) (hF : ∀ k, Fp mb cb v k → u'.heap[k]? = u.heap[k]?) (h : PW u mb cb cc S v) : PW u' mb cb cc S v := by
 have hc : u'.heap[cb]? = u.heap[cb]? := hF cb (Or.inr (Or.inl rfl))
 refine ⟨row_block (hF mb (Or.inl rfl)) h.r, fun i hi => ?_, Nat.lt_of_lt_of_le h.kl hz, ⟨h.o.1, ?_⟩, h.nm, h.ne, h.nc⟩
 ·obtain ⟨a, b⟩ := h.k i hi
  exact ⟨(World.cell?_of_block (w := u) (a := ⟨cb, i * 2, none⟩) hc).trans a, (World.cell?_of_block (w := u) (a := ⟨cb, i * 2 + 1, none⟩) hc).trans b⟩
 ·rcases h.o.2 with q | ⟨g, cap, cur, e, hb, hg, q⟩
  ·exact Or.inl q
  ·exact Or.inr ⟨g, cap, cur, e, hb, (hF g (Or.inr (Or.inr (by rw [e]; rfl)))).trans hg, q⟩
theorem PW.lt (h : PW u mb cb cc S v) {k : Nat} (hk : Fp mb cb v k) : k < u.heap.size := by
 rcases hk with e | e | e
 ·rw [e]; exact h.r.lt
 ·rw [e]; exact h.kl
 ·exact (h.o.lt k e).2
theorem PW.on (hb : Below u.heap.size u u') (h : PW u mb cb cc S v) : PW u' mb cb cc S v := h.keep hb.size (fun k hk => hb.block k (h.lt hk))
theorem KpW.same (hb : Below u.heap.size u u') : KpW u u' mb cb v v := ⟨.of hb, fun _ h => Or.inl h⟩
theorem PW.form (h : PW u mb cb cc S v) : (v = .slice none 0 0 ∧ S.under = []) ∨ ∃ g cap, v = .slice (some ⟨g, 0, none⟩) S.under.length cap ∧ S.under.length ≤ cap ∧ cap ≤ maxLen ∧ g < u.heap.size ∧ g ≠ mb ∧ g ≠ cb ∧ Lts u g 0 S.under := by
 rcases h.o.2 with ⟨e, l⟩ | ⟨g, cap, cur, e, hb, hg, hc, hm, hcs, htk⟩
 ·exact Or.inl ⟨e, List.eq_nil_of_length_eq_zero l⟩
 ·have glt : g < u.heap.size := by
   rcases Nat.lt_or_ge g u.heap.size with hlt | hge
   ·exact hlt
   ·rw [Array.getElem?_eq_none hge] at hg; cases hg
  refine Or.inr ⟨g, cap, e, hc, hm, glt, fun q => h.ne (by rw [e]; show some g = some mb; rw [q]), fun q => h.nc (by rw [e]; show some g = some cb; rw [q]), fun i q hq j x hx => ?_⟩
  have := h.o.cells (g := g) (by rw [e]; rfl) (i * 6 + j) x (lcs_at hq hx)
  rw [Addr.add_lit] at this
  rw [show 0 + i * 6 + j = 0 + (i * 6 + j) by omega]
  exact this
theorem PW.len (h : PW u mb cb cc S v) : ∃ a cap, v = .slice a S.under.length cap ∧ (a = none ∧ S.under = [] ∧ cap = 0 ∨ ∃ g, a = some ⟨g, 0, none⟩ ∧ S.under.length ≤ cap ∧ cap ≤ maxLen ∧ g < u.heap.size ∧ g ≠ mb ∧ g ≠ cb ∧ Lts u g 0 S.under) := by
 rcases h.form with ⟨e, l⟩ | ⟨g, cap, e, q⟩
 ·exact ⟨none, 0, by rw [e, l]; rfl, Or.inl ⟨rfl, l, rfl⟩⟩
 ·exact ⟨_, cap, e, Or.inr ⟨g, rfl, q⟩⟩
theorem PW.late {W : World} {t : Int} (h : PW u mb cb cc S v) (hW : Below u.heap.size u W) : PW (W.setCell ⟨mb, 1, none⟩ (.int .i64 t)) mb cb cc { S with time := t } v ∧ KpW u (W.setCell ⟨mb, 1, none⟩ (.int .i64 t)) mb cb v v := by
 have k0 : Keeps (fun k => k = mb ∨ v.ownBlock = some k) u (W.setCell ⟨mb, 1, none⟩ (.int .i64 t)) := Keeps.put (Or.inl rfl) (Keeps.of hW)
 have h0 := PW.on hW h
 refine ⟨⟨Row.put 1 h0.r, fun i hi => ?_, by rw [show (W.setCell ⟨mb, 1, none⟩ (.int .i64 t)).heap.size = W.heap.size by simp [World.setCell]]; exact h0.kl, ownsRow_setCell_other h0.o (a := ⟨mb, 1, none⟩) h0.ne _, h.nm, h.ne, h.nc⟩, k0, fun _ h => Or.inl h⟩
 obtain ⟨a, b⟩ := h0.k i hi
 rw [World.cell?_setCell_far _ _ _ _ (fun e => h.nm e.symm), World.cell?_setCell_far _ _ _ _ (fun e => h.nm e.symm)]
 exact ⟨a, b⟩
theorem PW.turn {X : World} {v' : Value} {l : List Lt} {m : Nat} (h : PW u mb cb cc S v) (hX : Keeps (fun k => v.ownBlock = some k) u X) (ho : X.ownsRow 0 113 6 v' m (lcs l)) (hm : m = l.length) (hb : ∀ g, v'.ownBlock = some g → v.ownBlock = some g ∨ u.heap.size ≤ g) :
  PW (X.setCell ⟨mb, 2, none⟩ v') mb cb cc { S with under := l } v' ∧ KpW u (X.setCell ⟨mb, 2, none⟩ v') mb cb v v' := by
 subst hm
 have lt : mb < u.heap.size := h.r.lt
 have ltc : cb < u.heap.size := h.kl
 have ne' : v'.ownBlock ≠ some mb := fun e => (hb mb e).elim h.ne (fun q => by omega)
 have nc' : v'.ownBlock ≠ some cb := fun e => (hb cb e).elim h.nc (fun q => by omega)
 have hX2 : Keeps (fun k => k = mb ∨ v.ownBlock = some k) u X := ⟨hX.os, hX.tape, hX.output, hX.size, fun k hk hn => hX.block k hk (fun e => hn (Or.inr e))⟩
 have K : Keeps (fun k => k = mb ∨ v.ownBlock = some k) u (X.setCell ⟨mb, 2, none⟩ v') := Keeps.put (Or.inl rfl) hX2
 refine ⟨⟨Row.put 2 (hX.row h.ne h.r), fun i hi => ?_, Nat.lt_of_lt_of_le h.kl K.size, ownsRow_setCell_other ho (a := ⟨mb, 2, none⟩) ne' v', h.nm, ne', nc'⟩, K, hb⟩
 obtain ⟨a, b⟩ := h.k i hi
 rw [World.cell?_setCell_far _ _ _ _ (fun e => h.nm e.symm), World.cell?_setCell_far _ _ _ _ (fun e => h.nm e.symm)]
 exact ⟨hX.cell h.nc a, hX.cell h.nc b⟩
end
def Wkp (u : World) (b : Nat) (F : Nat → Prop) (S : Ws) : Prop := ∃ cb cc v, PW u b cb cc S v ∧ F = Fp b cb v
theorem Wkp.on {u v : World} {b : Nat} {F : Nat → Prop} {S : Ws} (h : Wkp u b F S) (hz : u.heap.size ≤ v.heap.size) (hF : ∀ k, F k → v.heap[k]? = u.heap[k]?) : Wkp v b F S := by
 obtain ⟨cb, cc, x, hP, rfl⟩ := h
 exact ⟨cb, cc, x, hP.keep hz hF, rfl⟩
theorem Wkp.lt {u : World} {b : Nat} {F : Nat → Prop} {S : Ws} (h : Wkp u b F S) (k : Nat) (hk : F k) : k < u.heap.size := by
 obtain ⟨cb, cc, x, hP, rfl⟩ := h
 exact hP.lt hk
theorem Wkp.of {u u' : World} {b cb cc cc' : Nat} {S S' : Ws} {v v' : Value} (h : PW u' b cb cc' S' v') (hk : KpW u u' b cb v v') : ∃ F', Wkp u' b F' S' ∧ F' = Fp b cb v' ∧ Keeps (Fp b cb v) u u' ∧ ∀ k, F' k → Fp b cb v k ∨ u.heap.size ≤ k := by
 refine ⟨_, ⟨cb, cc', v', h, rfl⟩, rfl, ⟨hk.1.os, hk.1.tape, hk.1.output, hk.1.size, fun k hl hn => hk.1.block k hl (fun e => hn (e.elim Or.inl (fun q => Or.inr (Or.inr q))))⟩, fun k hF => ?_⟩
 rcases hF with e | e | e
 ·exact Or.inl (Or.inl e)
 ·exact Or.inl (Or.inr (Or.inl e))
 ·exact (hk.2 k e).imp (fun q => Or.inr (Or.inr q)) id
structure Nly where
 wb : Nat
 cb : Nat
 cc : Nat
 v : Value
 nb : Nat
 nc : Nat
 b : Nat → Nat
 m : Nat → Nat
 tg : Nat → Nat
def Nly.F (L : Nly) (mb n k : Nat) : Prop := k = mb ∨ k = L.nb ∨ Fp L.wb L.cb L.v k ∨ ∃ i, i < n ∧ Fn (L.b i) (L.m i) k
structure NN (u : World) (mb : Nat) (L : Nly) (N : Nn) : Prop where
 r : Row u mb [.pointer (some ⟨L.wb, 0, none⟩), .slice (some ⟨L.nb, 0, none⟩) N.W.n L.nc]
 w : PW u L.wb L.cb L.cc N.W L.v
 c : N.W.n ≤ L.nc
 nl : L.nb < u.heap.size
 p : ∀ i, i < N.W.n → u.cell? ⟨L.nb, i, none⟩ = some (.pointer (some ⟨L.b i, 0, none⟩))
 d : ∀ i, i < N.W.n → PN u (L.b i) (L.m i) (N.nd i)
 tb : L.tg mb = 0
 tn : L.tg L.nb = 1
 tw : ∀ k, Fp L.wb L.cb L.v k → L.tg k = 2
 td : ∀ i, i < N.W.n → L.tg (L.b i) = 3 + i ∧ L.tg (L.m i) = 3 + i
section
variable {u u' : World} {mb : Nat} {L : Nly} {N : Nn}
theorem NN.keep (hz : u.heap.size ≤ u'.heap.size) (hF : ∀ k, L.F mb N.W.n k → u'.heap[k]? = u.heap[k]?) (h : NN u mb L N) : NN u' mb L N := by
 have eb := hF mb (Or.inl rfl)
 have en := hF L.nb (Or.inr (Or.inl rfl))
 exact ⟨row_block eb h.r, h.w.keep hz (fun k hk => hF k (Or.inr (Or.inr (Or.inl hk)))), h.c, Nat.lt_of_lt_of_le h.nl hz, fun i hi => (World.cell?_of_block (w := u) (a := ⟨L.nb, i, none⟩) en).trans (h.p i hi),
  fun i hi => (h.d i hi).keep hz (fun k hk => hF k (Or.inr (Or.inr (Or.inr ⟨i, hi, hk⟩)))), h.tb, h.tn, h.tw, h.td⟩
theorem NN.lt (h : NN u mb L N) {k : Nat} (hk : L.F mb N.W.n k) : k < u.heap.size := by
 rcases hk with e | e | e | ⟨i, hi, e | e⟩
 ·rw [e]; exact h.r.lt
 ·rw [e]; exact h.nl
 ·exact h.w.lt e
 ·rw [e]; exact (h.d i hi).lt
 ·rw [e]; exact (h.d i hi).ltM
theorem NN.on (hb : Below u.heap.size u u') (h : NN u mb L N) : NN u' mb L N := h.keep hb.size (fun k hk => hb.block k (h.lt hk))
theorem NN.node {i : Nat} {c' : Nd} (h : NN u mb L N) (hi : i < N.W.n) (hk : Keeps (Fn (L.b i) (L.m i)) u u') (hp : PN u' (L.b i) (L.m i) c') : NN u' mb L { N with nd := updN N.nd i c' } := by
 have ti := h.td i hi
 have no : ∀ k, L.tg k ≠ 3 + i → ¬ Fn (L.b i) (L.m i) k := fun k hk q => q.elim (fun e => hk (by rw [e]; exact ti.1)) (fun e => hk (by rw [e]; exact ti.2))
 have same : ∀ k, k < u.heap.size → L.tg k ≠ 3 + i → u'.heap[k]? = u.heap[k]? := fun k hl hk' => hk.block k hl (no k hk')
 have eb := same mb h.r.lt (by have := h.tb; omega)
 have en := same L.nb h.nl (by have := h.tn; omega)
 refine ⟨row_block eb h.r, h.w.keep hk.size (fun k q => same k (h.w.lt q) (by have := h.tw k q; omega)), h.c, Nat.lt_of_lt_of_le h.nl hk.size, fun j hj => (World.cell?_of_block (w := u) (a := ⟨L.nb, j, none⟩) en).trans (h.p j hj), fun j hj => ?_, h.tb, h.tn, h.tw, h.td⟩
 show PN u' (L.b j) (L.m j) (updN N.nd i c' j)
 by_cases e : j = i
 ·subst e; rw [updN_at]; exact hp
 ·rw [updN_ne e]
  have tj := h.td j hj
  have dj := h.d j hj
  refine dj.keep hk.size (fun k q => ?_)
  rcases q with q | q
  ·rw [q]; exact same _ dj.lt (by rw [tj.1]; omega)
  ·rw [q]; exact same _ dj.ltM (by rw [tj.2]; omega)
theorem NN.world {S' : Ws} {v' : Value} (h : NN u mb L N) (hn : S'.n = N.W.n) (hp : PW u' L.wb L.cb L.cc S' v') (hk : KpW u u' L.wb L.cb L.v v') : NN u' mb { L with v := v', tg := fun k => if k < u.heap.size then L.tg k else 2 } { N with W := S' } := by
 have no : ∀ k, L.tg k ≠ 2 → ¬ (k = L.wb ∨ L.v.ownBlock = some k) := fun k hk' q => hk' (h.tw k (q.elim Or.inl (fun e => Or.inr (Or.inr e))))
 have same : ∀ k, k < u.heap.size → L.tg k ≠ 2 → u'.heap[k]? = u.heap[k]? := fun k hl hk' => hk.1.block k hl (no k hk')
 have eb := same mb h.r.lt (by have := h.tb; omega)
 have en := same L.nb h.nl (by have := h.tn; omega)
 have hz := hk.1.size
 refine ⟨?_, hp, ?_, Nat.lt_of_lt_of_le h.nl hz, fun j hj => ?_, fun j hj => ?_, ?_, ?_, fun k q => ?_, fun j hj => ?_⟩
 ·show Row u' mb [.pointer (some ⟨L.wb, 0, none⟩), .slice (some ⟨L.nb, 0, none⟩) S'.n L.nc]
  rw [hn]; exact row_block eb h.r
 ·show S'.n ≤ L.nc
  rw [hn]; exact h.c
 ·exact (World.cell?_of_block (w := u) (a := ⟨L.nb, j, none⟩) en).trans (h.p j (by rw [← hn]; exact hj))
 ·have hj' : j < N.W.n := by rw [← hn]; exact hj
  have tj := h.td j hj'
  have dj := h.d j hj'
  refine dj.keep hz (fun k q => ?_)
  rcases q with q | q
  ·rw [q]; exact same _ dj.lt (by rw [tj.1]; omega)
  ·rw [q]; exact same _ dj.ltM (by rw [tj.2]; omega)
 ·show (if mb < u.heap.size then L.tg mb else 2) = 0
  rw [if_pos h.r.lt]; exact h.tb
 ·show (if L.nb < u.heap.size then L.tg L.nb else 2) = 1
  rw [if_pos h.nl]; exact h.tn
 ·show (if k < u.heap.size then L.tg k else 2) = 2
  by_cases q' : k < u.heap.size
  ·rw [if_pos q']
   rcases q with e | e | e
   ·exact h.tw k (Or.inl e)
   ·exact h.tw k (Or.inr (Or.inl e))
   ·rcases hk.2 k e with e' | e'
    ·exact h.tw k (Or.inr (Or.inr e'))
    ·omega
  ·rw [if_neg q']
 ·have hj' : j < N.W.n := by rw [← hn]; exact hj
  have dj := h.d j hj'
  show (if L.b j < u.heap.size then L.tg (L.b j) else 2) = _ ∧ (if L.m j < u.heap.size then L.tg (L.m j) else 2) = _
  rw [if_pos dj.lt, if_pos dj.ltM]
  exact h.td j hj'
theorem NN.kw {v' : Value} (h : NN u mb L N) (hk : KpW u u' L.wb L.cb L.v v') : Keeps (L.F mb N.W.n) u u' := ⟨hk.1.os, hk.1.tape, hk.1.output, hk.1.size, fun k hl hn => hk.1.block k hl (fun e => hn (Or.inr (Or.inr (Or.inl (e.elim Or.inl (fun q => Or.inr (Or.inr q)))))))⟩
theorem NN.kn {i : Nat} (hi : i < N.W.n) (hk : Keeps (Fn (L.b i) (L.m i)) u u') : Keeps (L.F mb N.W.n) u u' := ⟨hk.os, hk.tape, hk.output, hk.size, fun k hl hn => hk.block k hl (fun e => hn (Or.inr (Or.inr (Or.inr ⟨i, hi, e⟩))))⟩
def Kpn (u u' : World) (mb n : Nat) (L L' : Nly) : Prop := Keeps (L.F mb n) u u' ∧ ∀ j, L'.F mb n j → L.F mb n j ∨ u.heap.size ≤ j
theorem Kpn.same {n : Nat} (hb : Below u.heap.size u u') : Kpn u u' mb n L L := ⟨.of hb, fun _ h => Or.inl h⟩
theorem Kpn.trans {u'' : World} {n : Nat} {L' L'' : Nly} (h : Kpn u u' mb n L L') (g : Kpn u' u'' mb n L' L'') : Kpn u u'' mb n L L'' := by
 have hz := h.1.size
 refine ⟨⟨g.1.os.trans h.1.os, g.1.tape.trans h.1.tape, g.1.output.trans h.1.output, Nat.le_trans hz g.1.size, fun k hk hn => ?_⟩, fun j hj => ?_⟩
 ·exact (g.1.block k (Nat.lt_of_lt_of_le hk hz) (fun q => (h.2 k q).elim hn (fun q => by omega))).trans (h.1.block k hk hn)
 ·rcases g.2 j hj with q | q
  ·exact h.2 j q
  ·exact Or.inr (by omega)
theorem NN.kpw {n : Nat} {v' : Value} {tg' : Nat → Nat} (h : NN u mb L N) (hn : n = N.W.n) (hk : KpW u u' L.wb L.cb L.v v') : Kpn u u' mb n L { L with v := v', tg := tg' } := by
 subst hn
 refine ⟨NN.kw h hk, fun j hj => ?_⟩
 rcases hj with q | q | q | ⟨i, hi, q⟩
 ·exact Or.inl (Or.inl q)
 ·exact Or.inl (Or.inr (Or.inl q))
 ·rcases q with q | q | q
  ·exact Or.inl (Or.inr (Or.inr (Or.inl (Or.inl q))))
  ·exact Or.inl (Or.inr (Or.inr (Or.inl (Or.inr (Or.inl q)))))
  ·exact (hk.2 j q).imp (fun q => Or.inr (Or.inr (Or.inl (Or.inr (Or.inr q))))) id
 ·exact Or.inl (Or.inr (Or.inr (Or.inr ⟨i, hi, q⟩)))
theorem NN.kpn {n i : Nat} (hn : n = N.W.n) (hi : i < N.W.n) (hk : Keeps (Fn (L.b i) (L.m i)) u u') : Kpn u u' mb n L L := by
 subst hn
 exact ⟨NN.kn hi hk, fun _ h => Or.inl h⟩
end
def Nkn (u : World) (b : Nat) (F : Nat → Prop) (N : Nn) : Prop := ∃ L, NN u b L N ∧ F = L.F b N.W.n
theorem Nkn.on {u v : World} {b : Nat} {F : Nat → Prop} {N : Nn} (h : Nkn u b F N) (hz : u.heap.size ≤ v.heap.size) (hF : ∀ k, F k → v.heap[k]? = u.heap[k]?) : Nkn v b F N := by
 obtain ⟨L, hP, rfl⟩ := h
 exact ⟨L, hP.keep hz hF, rfl⟩
theorem Nkn.lt {u : World} {b : Nat} {F : Nat → Prop} {N : Nn} (h : Nkn u b F N) (k : Nat) (hk : F k) : k < u.heap.size := by
 obtain ⟨L, hP, rfl⟩ := h
 exact hP.lt hk
theorem infoEdgeN : (Tryz.prog.info? 212).map (fun i => (i.zero, i.size, i.bytes)) = some (some (.agg #[.int .i64 0, .int .i64 0, .int .i64 0, .int .i64 0]), 4, 32) := by kernel_rfl
theorem own_empty_e (w : World) (e : TypeId) (size base : Nat) (h : base ≤ w.heap.size) : (w.alloc (.cells #[] e)).ownsRow base e size (.slice (some ⟨w.heap.size, 0, none⟩) 0 0) 0 [] := by
 refine ⟨by simp, Or.inr ⟨w.heap.size, 0, #[], rfl, h, ?_, Nat.le_refl _, Nat.zero_le _, by simp, by simp⟩⟩
 show (w.heap.push _)[w.heap.size]? = _
 simp
def ecl : List Eg → List Value
 | [] => []
 | q :: r => [.int .i64 q.a, .int .i64 q.b, .int .i64 q.lo, .int .i64 q.hi] ++ ecl r
theorem ecl_app (a b : List Eg) : ecl (a ++ b) = ecl a ++ ecl b := by
 induction a with
 | nil => rfl
 | cons l r ih => show _ ++ ecl (r ++ b) = _ ++ ecl r ++ ecl b; rw [ih, List.append_assoc]
theorem ecl_at {a : List Eg} {i : Nat} {q : Eg} (h : a[i]? = some q) {j : Nat} {v : Value} (hv : [Value.int .i64 q.a, .int .i64 q.b, .int .i64 q.lo, .int .i64 q.hi][j]? = some v) : (ecl a)[i * 4 + j]? = some v := by
 induction a generalizing i with
 | nil => cases h
 | cons l r ih =>
  show ([Value.int .i64 l.a, .int .i64 l.b, .int .i64 l.lo, .int .i64 l.hi] ++ ecl r)[i * 4 + j]? = some v
  cases i with
  | zero =>
   obtain rfl := Option.some.inj h
   have lt : j < 4 := by
    rcases Nat.lt_or_ge j 4 with h | h
    ·exact h
    ·rw [List.getElem?_eq_none h] at hv; cases hv
   rw [Nat.zero_mul, Nat.zero_add, List.getElem?_append_left lt]
   exact hv
  | succ i =>
   rw [List.getElem?_append_right (by show 4 ≤ _; omega), show (i + 1) * 4 + j - [Value.int .i64 l.a, .int .i64 l.b, .int .i64 l.lo, .int .i64 l.hi].length = i * 4 + j by show (i + 1) * 4 + j - 4 = _; omega]
   exact ih h
def Nd.eu (c : Nd) (t : Int) (i : Nat) : List Eg := ((List.range i).filter (fun j => c.has j)).map (fun (j : Nat) => (⟨(c.id : Int), (j : Int), c.alo j t, c.ahi j t⟩ : Eg))
theorem eu_yes {c : Nd} {t : Int} {i : Nat} (h : c.has i = true) : c.eu t (i + 1) = c.eu t i ++ [⟨(c.id : Int), (i : Int), c.alo i t, c.ahi i t⟩] := by
 unfold Nd.eu
 rw [List.range_succ, List.filter_append, List.map_append]
 simp [h]
theorem eu_no {c : Nd} {t : Int} {i : Nat} (h : c.has i = false) : c.eu t (i + 1) = c.eu t i := by
 unfold Nd.eu
 rw [List.range_succ, List.filter_append, List.map_append]
 simp [h]
theorem eu_len (c : Nd) (t : Int) (i : Nat) : (c.eu t i).length ≤ i := by
 unfold Nd.eu
 rw [List.length_map]
 exact Nat.le_trans (List.length_filter_le _ _) (by simp)
theorem own_eh {w : World} {base k : Nat} {v : Value} {l : List Eg} (h : w.ownsRow base 212 4 v k (ecl l)) (hl : l.length = k) (hk : k ≤ 9223372036854775807) : ∃ a cap, v = .slice a k cap ∧ EHanded w a k (egf l) ∧ (a = none → cap = 0) := by
 rcases h.2 with ⟨rfl, rfl⟩ | ⟨g, cap, cur, rfl, hb, hg, hc, _, hcs, htk⟩
 ·exact ⟨none, 0, rfl, ⟨hk, Or.inl rfl⟩, fun _ => rfl⟩
 ·refine ⟨_, cap, rfl, ⟨hk, Or.inr ⟨g, 0, rfl, fun i hi => ?_⟩⟩, fun e => by cases e⟩
  have hq : l[i]? = some (egf l i) := by unfold egf; rw [List.getD_eq_getElem?_getD, List.getElem?_eq_getElem (by omega)]; rfl
  have c := h.cells (g := g) rfl
  have f : ∀ j x, [Value.int .i64 (egf l i).a, .int .i64 (egf l i).b, .int .i64 (egf l i).lo, .int .i64 (egf l i).hi][j]? = some x → w.cell? ⟨g, 0 + (i * 4 + j), none⟩ = some x := fun j x hx => by
   have := c (i * 4 + j) x (ecl_at hq hx)
   rw [Addr.add_lit] at this
   exact this
  refine ⟨?_, ?_, ?_, ?_⟩
  ·have := f 0 _ rfl; simpa using this
  ·have := f 1 _ rfl; simpa using this
  ·have := f 2 _ rfl; simpa using this
  ·have := f 3 _ rfl; simpa using this
theorem ecl_len (l : List Eg) : (ecl l).length = l.length * 4 := by
 induction l with
 | nil => rfl
 | cons q r ih => show ([Value.int .i64 q.a, .int .i64 q.b, .int .i64 q.lo, .int .i64 q.hi] ++ ecl r).length = (r.length + 1) * 4; rw [List.length_append, ih]; show 4 + _ = _; omega
theorem ecl_one (l : List Eg) : ∀ u ∈ ecl l, u.oneCell' = true := by
 induction l with
 | nil => intro u hu; cases hu
 | cons q r ih =>
  intro u hu
  rcases List.mem_append.1 hu with h | h
  ·simp at h
   rcases h with rfl | rfl | rfl | rfl <;> rfl
  ·exact ih u h
theorem esp_cells {w : World} {b off : Nat} {l : List Eg} (h : Esp w b off l.length (egf l)) : ∀ j x, (ecl l)[j]? = some x → w.cell? (Addr.add ⟨b, off, none⟩ j) = some x := by
 intro j x hx
 have hj : j < l.length * 4 := by
  rcases Nat.lt_or_ge j (l.length * 4) with q | q
  ·exact q
  ·rw [List.getElem?_eq_none (by rw [ecl_len]; exact q)] at hx; cases hx
 have hi : j / 4 < l.length := by omega
 have hq : l[j / 4]? = some (egf l (j / 4)) := by unfold egf; rw [List.getD_eq_getElem?_getD, List.getElem?_eq_getElem hi]; rfl
 obtain ⟨c0, c1, c2, c3⟩ := h (j / 4) hi
 have hm : j % 4 = 0 ∨ j % 4 = 1 ∨ j % 4 = 2 ∨ j % 4 = 3 := by omega
 rw [Addr.add_lit]
 rcases hm with m | m | m | m
 ·have e := ecl_at hq (j := 0) (v := .int .i64 (egf l (j / 4)).a) rfl
  have ej : j / 4 * 4 + 0 = j := by omega
  rw [ej, hx] at e
  rw [Option.some.inj e, show off + j = off + j / 4 * 4 by omega]
  exact c0
 ·have e := ecl_at hq (j := 1) (v := .int .i64 (egf l (j / 4)).b) rfl
  have ej : j / 4 * 4 + 1 = j := by omega
  rw [ej, hx] at e
  rw [Option.some.inj e, show off + j = off + j / 4 * 4 + 1 by omega]
  exact c1
 ·have e := ecl_at hq (j := 2) (v := .int .i64 (egf l (j / 4)).lo) rfl
  have ej : j / 4 * 4 + 2 = j := by omega
  rw [ej, hx] at e
  rw [Option.some.inj e, show off + j = off + j / 4 * 4 + 2 by omega]
  exact c2
 ·have e := ecl_at hq (j := 3) (v := .int .i64 (egf l (j / 4)).hi) rfl
  have ej : j / 4 * 4 + 3 = j := by omega
  rw [ej, hx] at e
  rw [Option.some.inj e, show off + j = off + j / 4 * 4 + 3 by omega]
  exact c3
theorem own_cap {w : World} {base k size : Nat} {e : TypeId} {v : Value} {a : Option Addr} {cap : Nat} {xs : List Value} (h : w.ownsRow base e size v k xs) (hv : v = .slice a k cap) : k ≤ cap ∧ cap ≤ maxLen := by
 rcases h.2 with ⟨e1, e2⟩ | ⟨g, cp, cur, e1, hb, hg, hc, hm, hcs, htk⟩
 ·rw [e1] at hv
  injection hv with _ _ q
  subst q
  exact ⟨by omega, Nat.zero_le _⟩
 ·rw [e1] at hv
  injection hv with _ _ q
  subst q
  exact ⟨hc, hm⟩
end Go.Proofs.YtadkgnbagmnkkakGreatDoor
