/- A net in memory: its world of clocks, a row of nodes, each in blocks of its own. -/
import Derived.Test.YtadkgnbagmnkkakGreatDoorNm03
import Derived.Test.YtadkgnbagmnkkakGreatDoorNm12
import Derived.Test.YtadkgnbagmnkkakGreatDoorNodeMem
namespace Go.Proofs.YtadkgnbagmnkkakGreatDoor
open Go.ChangeShapes Go.WideShapes Go.ChangeAt Go.RowKit Go.Joins
set_option linter.unusedVariables false
set_option linter.unusedSimpArgs false

structure Nly where
 wb : Nat
 cb : Nat
 cc : Nat
 v : Value
 nb : Nat
 nc : Nat
 b : Nat → Nat
 m : Nat → Nat
 tg : Nat → Nat
def Nly.F (L : Nly) (mb n k : Nat) : Prop := k = mb ∨ k = L.nb ∨ Fp L.wb L.cb L.v k ∨ ∃ i, i < n ∧ Fn (L.b i) (L.m i) k
structure NN (u : World) (mb : Nat) (L : Nly) (N : Nn) : Prop where
 r : Row u mb [.pointer (some ⟨L.wb, 0, none⟩), .slice (some ⟨L.nb, 0, none⟩) N.W.n L.nc]
 w : PW u L.wb L.cb L.cc N.W L.v
 c : N.W.n ≤ L.nc
 nl : L.nb < u.heap.size
 p : ∀ i, i < N.W.n → u.cell? ⟨L.nb, i, none⟩ = some (.pointer (some ⟨L.b i, 0, none⟩))
 d : ∀ i, i < N.W.n → PN u (L.b i) (L.m i) (N.nd i)
 tb : L.tg mb = 0
 tn : L.tg L.nb = 1
 tw : ∀ k, Fp L.wb L.cb L.v k → L.tg k = 2
 td : ∀ i, i < N.W.n → L.tg (L.b i) = 3 + i ∧ L.tg (L.m i) = 3 + i
section
variable {u u' : World} {mb : Nat} {L : Nly} {N : Nn}
theorem NN.keep (hz : u.heap.size ≤ u'.heap.size) (hF : ∀ k, L.F mb N.W.n k → u'.heap[k]? = u.heap[k]?) (h : NN u mb L N) : NN u' mb L N := by
 have eb := hF mb (Or.inl rfl)
 have en := hF L.nb (Or.inr (Or.inl rfl))
 exact ⟨row_block eb h.r, h.w.keep hz (fun k hk => hF k (Or.inr (Or.inr (Or.inl hk)))), h.c, Nat.lt_of_lt_of_le h.nl hz, fun i hi => (World.cell?_of_block (w := u) (a := ⟨L.nb, i, none⟩) en).trans (h.p i hi),
  fun i hi => (h.d i hi).keep hz (fun k hk => hF k (Or.inr (Or.inr (Or.inr ⟨i, hi, hk⟩)))), h.tb, h.tn, h.tw, h.td⟩
theorem NN.lt (h : NN u mb L N) {k : Nat} (hk : L.F mb N.W.n k) : k < u.heap.size := by
 rcases hk with e | e | e | ⟨i, hi, e | e⟩
 ·rw [e]; exact h.r.lt
 ·rw [e]; exact h.nl
 ·exact h.w.lt e
 ·rw [e]; exact (h.d i hi).lt
 ·rw [e]; exact (h.d i hi).ltM
theorem NN.on (hb : Below u.heap.size u u') (h : NN u mb L N) : NN u' mb L N := h.keep hb.size (fun k hk => hb.block k (h.lt hk))
theorem NN.node {i : Nat} {c' : Nd} (h : NN u mb L N) (hi : i < N.W.n) (hk : Keeps (Fn (L.b i) (L.m i)) u u') (hp : PN u' (L.b i) (L.m i) c') : NN u' mb L { N with nd := updN N.nd i c' } := by
 have ti := h.td i hi
 have no : ∀ k, L.tg k ≠ 3 + i → ¬ Fn (L.b i) (L.m i) k := fun k hk q => q.elim (fun e => hk (by rw [e]; exact ti.1)) (fun e => hk (by rw [e]; exact ti.2))
 have same : ∀ k, k < u.heap.size → L.tg k ≠ 3 + i → u'.heap[k]? = u.heap[k]? := fun k hl hk' => hk.block k hl (no k hk')
 have eb := same mb h.r.lt (by have := h.tb; omega)
 have en := same L.nb h.nl (by have := h.tn; omega)
 refine ⟨row_block eb h.r, h.w.keep hk.size (fun k q => same k (h.w.lt q) (by have := h.tw k q; omega)), h.c, Nat.lt_of_lt_of_le h.nl hk.size, fun j hj => (World.cell?_of_block (w := u) (a := ⟨L.nb, j, none⟩) en).trans (h.p j hj), fun j hj => ?_, h.tb, h.tn, h.tw, h.td⟩
 show PN u' (L.b j) (L.m j) (updN N.nd i c' j)
 by_cases e : j = i
 ·subst e; rw [updN_at]; exact hp
 ·rw [updN_ne e]
  have tj := h.td j hj
  have dj := h.d j hj
  refine dj.keep hk.size (fun k q => ?_)
  rcases q with q | q
  ·rw [q]; exact same _ dj.lt (by rw [tj.1]; omega)
  ·rw [q]; exact same _ dj.ltM (by rw [tj.2]; omega)
theorem NN.world {S' : Ws} {v' : Value} (h : NN u mb L N) (hn : S'.n = N.W.n) (hp : PW u' L.wb L.cb L.cc S' v') (hk : KpW u u' L.wb L.cb L.v v') : NN u' mb { L with v := v', tg := fun k => if k < u.heap.size then L.tg k else 2 } { N with W := S' } := by
 have no : ∀ k, L.tg k ≠ 2 → ¬ (k = L.wb ∨ L.v.ownBlock = some k) := fun k hk' q => hk' (h.tw k (q.elim Or.inl (fun e => Or.inr (Or.inr e))))
 have same : ∀ k, k < u.heap.size → L.tg k ≠ 2 → u'.heap[k]? = u.heap[k]? := fun k hl hk' => hk.1.block k hl (no k hk')
 have eb := same mb h.r.lt (by have := h.tb; omega)
 have en := same L.nb h.nl (by have := h.tn; omega)
 have hz := hk.1.size
 refine ⟨?_, hp, ?_, Nat.lt_of_lt_of_le h.nl hz, fun j hj => ?_, fun j hj => ?_, ?_, ?_, fun k q => ?_, fun j hj => ?_⟩
 ·show Row u' mb [.pointer (some ⟨L.wb, 0, none⟩), .slice (some ⟨L.nb, 0, none⟩) S'.n L.nc]
  rw [hn]; exact row_block eb h.r
 ·show S'.n ≤ L.nc
  rw [hn]; exact h.c
 ·exact (World.cell?_of_block (w := u) (a := ⟨L.nb, j, none⟩) en).trans (h.p j (by rw [← hn]; exact hj))
 ·have hj' : j < N.W.n := by rw [← hn]; exact hj
  have tj := h.td j hj'
  have dj := h.d j hj'
  refine dj.keep hz (fun k q => ?_)
  rcases q with q | q
  ·rw [q]; exact same _ dj.lt (by rw [tj.1]; omega)
  ·rw [q]; exact same _ dj.ltM (by rw [tj.2]; omega)
 ·show (if mb < u.heap.size then L.tg mb else 2) = 0
  rw [if_pos h.r.lt]; exact h.tb
 ·show (if L.nb < u.heap.size then L.tg L.nb else 2) = 1
  rw [if_pos h.nl]; exact h.tn
 ·show (if k < u.heap.size then L.tg k else 2) = 2
  by_cases q' : k < u.heap.size
  ·rw [if_pos q']
   rcases q with e | e | e
   ·exact h.tw k (Or.inl e)
   ·exact h.tw k (Or.inr (Or.inl e))
   ·rcases hk.2 k e with e' | e'
    ·exact h.tw k (Or.inr (Or.inr e'))
    ·omega
  ·rw [if_neg q']
 ·have hj' : j < N.W.n := by rw [← hn]; exact hj
  have dj := h.d j hj'
  show (if L.b j < u.heap.size then L.tg (L.b j) else 2) = _ ∧ (if L.m j < u.heap.size then L.tg (L.m j) else 2) = _
  rw [if_pos dj.lt, if_pos dj.ltM]
  exact h.td j hj'
theorem NN.kw {v' : Value} (h : NN u mb L N) (hk : KpW u u' L.wb L.cb L.v v') : Keeps (L.F mb N.W.n) u u' := ⟨hk.1.os, hk.1.tape, hk.1.output, hk.1.size, fun k hl hn => hk.1.block k hl (fun e => hn (Or.inr (Or.inr (Or.inl (e.elim Or.inl (fun q => Or.inr (Or.inr q)))))))⟩
theorem NN.kn {i : Nat} (hi : i < N.W.n) (hk : Keeps (Fn (L.b i) (L.m i)) u u') : Keeps (L.F mb N.W.n) u u' := ⟨hk.os, hk.tape, hk.output, hk.size, fun k hl hn => hk.block k hl (fun e => hn (Or.inr (Or.inr (Or.inr ⟨i, hi, e⟩))))⟩
def Kpn (u u' : World) (mb n : Nat) (L L' : Nly) : Prop := Keeps (L.F mb n) u u' ∧ ∀ j, L'.F mb n j → L.F mb n j ∨ u.heap.size ≤ j
theorem Kpn.same {n : Nat} (hb : Below u.heap.size u u') : Kpn u u' mb n L L := ⟨.of hb, fun _ h => Or.inl h⟩
theorem Kpn.trans {u'' : World} {n : Nat} {L' L'' : Nly} (h : Kpn u u' mb n L L') (g : Kpn u' u'' mb n L' L'') : Kpn u u'' mb n L L'' := by
 have hz := h.1.size
 refine ⟨⟨g.1.os.trans h.1.os, g.1.tape.trans h.1.tape, g.1.output.trans h.1.output, Nat.le_trans hz g.1.size, fun k hk hn => ?_⟩, fun j hj => ?_⟩
 ·exact (g.1.block k (Nat.lt_of_lt_of_le hk hz) (fun q => (h.2 k q).elim hn (fun q => by omega))).trans (h.1.block k hk hn)
 ·rcases g.2 j hj with q | q
  ·exact h.2 j q
  ·exact Or.inr (by omega)
theorem NN.kpw {n : Nat} {v' : Value} {tg' : Nat → Nat} (h : NN u mb L N) (hn : n = N.W.n) (hk : KpW u u' L.wb L.cb L.v v') : Kpn u u' mb n L { L with v := v', tg := tg' } := by
 subst hn
 refine ⟨NN.kw h hk, fun j hj => ?_⟩
 rcases hj with q | q | q | ⟨i, hi, q⟩
 ·exact Or.inl (Or.inl q)
 ·exact Or.inl (Or.inr (Or.inl q))
 ·rcases q with q | q | q
  ·exact Or.inl (Or.inr (Or.inr (Or.inl (Or.inl q))))
  ·exact Or.inl (Or.inr (Or.inr (Or.inl (Or.inr (Or.inl q)))))
  ·exact (hk.2 j q).imp (fun q => Or.inr (Or.inr (Or.inl (Or.inr (Or.inr q))))) id
 ·exact Or.inl (Or.inr (Or.inr (Or.inr ⟨i, hi, q⟩)))
theorem NN.kpn {n i : Nat} (hn : n = N.W.n) (hi : i < N.W.n) (hk : Keeps (Fn (L.b i) (L.m i)) u u') : Kpn u u' mb n L L := by
 subst hn
 exact ⟨NN.kn hi hk, fun _ h => Or.inl h⟩
end
def Nkn (u : World) (b : Nat) (F : Nat → Prop) (N : Nn) : Prop := ∃ L, NN u b L N ∧ F = L.F b N.W.n
theorem Nkn.on {u v : World} {b : Nat} {F : Nat → Prop} {N : Nn} (h : Nkn u b F N) (hz : u.heap.size ≤ v.heap.size) (hF : ∀ k, F k → v.heap[k]? = u.heap[k]?) : Nkn v b F N := by
 obtain ⟨L, hP, rfl⟩ := h
 exact ⟨L, hP.keep hz hF, rfl⟩
theorem Nkn.lt {u : World} {b : Nat} {F : Nat → Prop} {N : Nn} (h : Nkn u b F N) (k : Nat) (hk : F k) : k < u.heap.size := by
 obtain ⟨L, hP, rfl⟩ := h
 exact hP.lt hk
end Go.Proofs.YtadkgnbagmnkkakGreatDoor
