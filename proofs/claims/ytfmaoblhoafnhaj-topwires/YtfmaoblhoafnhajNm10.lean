/- A node of package node in memory: its five cells, and a map of what it keeps of others. A net in memory: its world of clocks, a row of nodes, each in blocks of its own. Package net: isNode. -/
import Derived.Test.YtfmaoblhoafnhajNm09
import Derived.Test.YtfmaoblhoafnhajNm03
import Derived.Maps.OwnOps
import Derived.Maps.OwnSet
import Derived.Maps.Views
import Derived.IntWalk
import Derived.Test.YtfmaoblhoafnhajNetMath
import Derived.Test.YtfmaoblhoafnhajNm08
import Derived.Test.YtfmaoblhoafnhajWorldPkgA
import Derived.Lib.SmallJoins
import Derived.Deep.QuietTactic
import Derived.BigQuiet
import Derived.BigRegion
namespace Go.Proofs.Ytfmaoblhoafnhaj
open Go.ChangeShapes Go.WideShapes Go.ChangeAt Go.RowKit Go.Maps
set_option linter.unusedVariables false
set_option linter.unusedSimpArgs false

theorem lawK : Keyed Try.prog 3 := int_keyed Try.underlying3
/-- How what is kept of one node reads. -/
def offD (a b t : Int) : DataW Unit := .agg [.lit (.int .i64 a), .lit (.int .i64 b), .lit (.int .i64 t)]
def offE (v : Value) : Option (DataW Unit × List MemPlace) :=
  match v with
  | .agg cs => match cs.toList with
    | [.int .i64 a, .int .i64 b, .int .i64 t] => some (offD a b t, [])
    | _ => none
  | _ => none
theorem offE_mk (a b t : Int) : offE (.agg #[.int .i64 a, .int .i64 b, .int .i64 t]) = some (offD a b t, []) := rfl
theorem offE_inv {v : Value} {z : DataW Unit × List MemPlace} (h : offE v = some z) : ∃ a b t, v = .agg #[.int .i64 a, .int .i64 b, .int .i64 t] ∧ z = (offD a b t, []) := by
  unfold offE at h
  split at h
  · rename_i cs
    split at h
    · rename_i a b t e
      obtain rfl := Option.some.inj h
      refine ⟨a, b, t, ?_, rfl⟩
      have : cs = #[.int .i64 a, .int .i64 b, .int .i64 t] := by rw [← Array.toArray_toList (xs := cs), e]
      rw [this]
    · cases h
  · cases h
theorem offD_inj {a b t a' b' t' : Int} (h : offD a b t = offD a' b' t') : a = a' ∧ b = b' ∧ t = t' := by
  unfold offD at h
  injection h with h
  injection h with h1 h
  injection h with h2 h
  injection h with h3 h
  injection h1 with h1
  injection h1 with _ h1
  injection h2 with h2
  injection h2 with _ h2
  injection h3 with h3
  injection h3 with _ h3
  exact ⟨h1, h2, h3⟩
/-- How many are known. -/
def cntH (f : Nat → Bool) : Nat → Nat
  | 0 => 0
  | k + 1 => cntH f k + (if f k = true then 1 else 0)
theorem cntH_le (f : Nat → Bool) : ∀ k, cntH f k ≤ k
  | 0 => Nat.le_refl _
  | k + 1 => by have := cntH_le f k; simp only [cntH]; split <;> omega
theorem cntH_far (f : Nat → Bool) (k : Nat) : ∀ m, m ≤ k → cntH (updN f k true) m = cntH f m
  | 0, _ => rfl
  | m + 1, h => by simp only [cntH]; rw [cntH_far f k m (by omega), updN_ne (by omega)]
theorem cntH_upd (f : Nat → Bool) (k : Nat) : ∀ m, k < m → cntH (updN f k true) m = if f k = true then cntH f m else cntH f m + 1
  | 0, h => by omega
  | m + 1, h => by
    simp only [cntH]
    by_cases e : k = m
    · subst e
      rw [cntH_far f k k (Nat.le_refl _), updN_at]
      cases f k <;> simp
    · rw [cntH_upd f k m (by omega), updN_ne (fun q => e q.symm)]
      split <;> omega
/-- What the map holds. -/
structure NkD (D : DataW Unit) (c : Nd) : Prop where
  m : IsMap D
  h : ∀ i : Nat, i < 6 → Maps.has D (.int .i64 (i : Int)) = c.has i
  a : ∀ i : Nat, i < 6 → c.has i = true → D.atKey (.int .i64 (i : Int)) (offD 0 0 0) = offD (c.lo i) (c.hi i) (c.at_ i)
  s : Maps.size D = cntH c.has 6
theorem NkD.made (id n : Nat) (p : Int) : NkD (.map []) (Nd.made id n p) := ⟨isMap_empty, fun i _ => rfl, fun i _ h => (by cases h), rfl⟩
/-- What it keeps of one, or nothing. -/
def vL (c : Nd) (i : Nat) : Int := if c.has i = true then c.lo i else 0
def vH (c : Nd) (i : Nat) : Int := if c.has i = true then c.hi i else 0
def vA (c : Nd) (i : Nat) : Int := if c.has i = true then c.at_ i else 0
theorem NkD.get {D : DataW Unit} {c : Nd} (d : NkD D c) {i : Nat} (hi : i < 6) : D.atKey (.int .i64 (i : Int)) (offD 0 0 0) = offD (vL c i) (vH c i) (vA c i) := by
  cases e : c.has i with
  | true => unfold vL vH vA; rw [if_pos e, if_pos e, if_pos e]; exact d.a i hi e
  | false =>
    have q : Maps.has D (.int .i64 (i : Int)) = false := by rw [d.h i hi]; exact e
    unfold vL vH vA
    rw [if_neg (by rw [e]; decide), if_neg (by rw [e]; decide), if_neg (by rw [e]; decide)]
    exact atKey_of_not_has q _
/-- One more is known. -/
def Nd.put (c : Nd) (k : Nat) (a b t : Int) : Nd := { c with has := updN c.has k true, lo := updN c.lo k a, hi := updN c.hi k b, at_ := updN c.at_ k t }
theorem NkD.put {D : DataW Unit} {c : Nd} (d : NkD D c) (ty : Tidy D) {k : Nat} (hk : k < 6) (a b t : Int) : NkD (D.put (.int .i64 (k : Int)) (offD a b t)) (c.put k a b t) := by
  refine ⟨d.m.put _ _, fun i hi => ?_, fun i hi q => ?_, ?_⟩
  · show _ = updN c.has k true i
    by_cases e : i = k
    · subst e
      rw [updN_at]
      exact has_put_same d.m (by simp [WideAt.IsKeyLit]) _
    · rw [updN_ne e, has_put_other (fun q => e (by injection q with _ q; omega))]
      exact d.h i hi
  · show _ = offD (updN c.lo k a i) (updN c.hi k b i) (updN c.at_ k t i)
    by_cases e : i = k
    · subst e
      rw [updN_at, updN_at, updN_at]
      exact atKey_put_same d.m (by simp [WideAt.IsKeyLit]) _ _
    · rw [updN_ne e, updN_ne e, updN_ne e, atKey_put_other (fun q => e (by injection q with _ q; omega))]
      refine d.a i hi ?_
      have : updN c.has k true i = true := q
      rwa [updN_ne e] at this
  · show _ = cntH (updN c.has k true) 6
    rw [size_put ty, cntH_upd _ _ _ hk, d.h k hk, d.s]
theorem own_bound {w : World} {b n m : Nat} {D : DataW Unit} (h : w.ownsMap Try.prog 3 offE b n D) (hm : Maps.size D ≤ m) : w.ownsMap Try.prog 3 offE b m D := by
  obtain ⟨es, clock, hb, F, hs, rfl⟩ := h
  exact ⟨es, clock, hb, F, by simpa [Maps.size, length_sorted] using hm, rfl⟩
/-- What it showed last; 0 where it has shown nothing yet. -/
def hm (c : Nd) : Int := if c.h < 0 then 0 else c.h
theorem hm_bk {c : Nd} {t : Int} (g : c.I) : c.bk t ↔ (t < hm c ∨ 1000000000000 < t) := by
  have := g.h0
  unfold Nd.bk hm
  split <;> constructor <;> intro h <;> omega
def nkL (c : Nd) (M : Nat) : List Value := [.int .i64 c.id, .int .i64 c.n, .int .i64 c.p, .int .i64 (hm c), .map (some M)]
structure PN (u : World) (b M : Nat) (c : Nd) : Prop where
  r : Row u b (nkL c M)
  nm : M ≠ b
  d : ∃ D, u.ownsMap Try.prog 3 offE M 6 D ∧ NkD D c
section
variable {u u' W : World} {b M : Nat} {c : Nd}
theorem PN.lt (h : PN u b M c) : b < u.heap.size := h.r.lt
theorem PN.ltM (h : PN u b M c) : M < u.heap.size := by obtain ⟨D, hD, _⟩ := h.d; exact hD.lt
theorem PN.keep (hz : u.heap.size ≤ u'.heap.size) (hF : ∀ k, (k = b ∨ k = M) → u'.heap[k]? = u.heap[k]?) (h : PN u b M c) : PN u' b M c := by
  have e := hF b (Or.inl rfl)
  refine ⟨⟨fun i v hv => (World.cell?_of_block (w := u) (a := ⟨b, i, none⟩) e).trans (h.r.c i v hv), fun i v hv => (World.frozen?_of_block (w := u) (a := ⟨b, i, none⟩) e).trans (h.r.f i v hv)⟩, h.nm, ?_⟩
  obtain ⟨D, ⟨es, clock, hb', F, hs, hD⟩, q⟩ := h.d
  exact ⟨D, ⟨es, clock, (hF M (Or.inr rfl)).trans hb', F, hs, hD⟩, q⟩
theorem PN.on (hb : Below u.heap.size u u') (h : PN u b M c) : PN u' b M c := h.keep hb.size (fun k hk => hb.block k (hk.elim (fun e => e ▸ h.lt) (fun e => e ▸ h.ltM)))
theorem zeroO (w : World) : (zeroValue 116).run Try.prog w = .ok (.agg #[.int .i64 0, .int .i64 0, .int .i64 0]) w := by kernel_rfl
/-- 'o, ok := n.kept[i]'. -/
theorem PN.look (h : PN u b M c) {i : Nat} (hi : i < 6) : (Instr.lookup 89 (.map (some M)) (.int .i64 (i : Int)) true).run Try.prog u = .ok (.tuple #[.agg #[.int .i64 (vL c i), .int .i64 (vH c i), .int .i64 (vA c i)], .bool (c.has i)]) u := by
  obtain ⟨D, hD, q⟩ := h.d
  obtain ⟨v, ps, hrun, hR⟩ := hD.look_ok lawK Try.underlying89 (zeroO u) (offE_mk 0 0 0) (keyOf_int_mk Try.underlying3 (WalkArith.wf_i64 (by omega)) : keyOf Try.prog 3 (.int .i64 (i : Int)) = some (.int .i64 (i : Int)))
  obtain ⟨a, x, t, rfl, ez⟩ := offE_inv hR
  have ez := (Prod.mk.inj ez).1
  rw [q.get hi] at ez
  obtain ⟨e1, e2, e3⟩ := offD_inj ez
  rw [← e1, ← e2, ← e3] at hrun
  rw [hrun, q.h i hi]
/-- 'n.kept[k] = offset{..}'. -/
theorem PN.store (h : PN u b M c) {k : Nat} (hk : k < 6) (a x t : Int) : ∃ w', (Instr.mapUpdate 89 (.map (some M)) (.int .i64 (k : Int)) (.agg #[.int .i64 a, .int .i64 x, .int .i64 t])).run Try.prog u = .ok () w' ∧ PN w' b M (c.put k a x t) ∧ Keeps (fun j => j = M) u w' := by
  obtain ⟨D, hD, q⟩ := h.d
  obtain ⟨w', hrun, ho, hg⟩ := hD.update lawK Try.underlying89 (by unfold maxLen; omega) (keyOf_int_mk Try.underlying3 (WalkArith.wf_i64 (by omega)) : keyOf Try.prog 3 (.int .i64 (k : Int)) = some (.int .i64 (k : Int))) (offE_mk a x t)
  have q' := q.put (hD.tidy lawK) hk a x t
  have kp : Keeps (fun j => j = M) u w' := ⟨hg.os, hg.tape, hg.output, hg.size, fun i hi hn => hg.block i hi (fun e => hn (Option.some.inj e))⟩
  refine ⟨w', hrun, ⟨kp.row (fun e => h.nm e.symm) h.r, h.nm, _, own_bound ho ?_, q'⟩, kp⟩
  rw [q'.s]
  exact cntH_le _ _
/-- What it showed last is another time. -/
theorem PN.late (h : PN u b M c) {t : Int} (ht : 0 ≤ t) : PN (u.setCell ⟨b, 3, none⟩ (.int .i64 t)) b M { c with h := t } ∧ Keeps (fun j => j = b) u (u.setCell ⟨b, 3, none⟩ (.int .i64 t)) := by
  refine ⟨⟨?_, h.nm, ?_⟩, Keeps.put (S := fun j => j = b) rfl (Keeps.refl _ _)⟩
  · have := Row.put 3 h.r (x := .int .i64 t)
    have e : hm { c with h := t } = t := by unfold hm; exact if_neg (by show ¬ t < 0; omega)
    show Row _ _ [.int .i64 c.id, .int .i64 c.n, .int .i64 c.p, .int .i64 (hm { c with h := t }), .map (some M)]
    rw [e]
    exact this
  · obtain ⟨D, hD, q⟩ := h.d
    exact ⟨D, hD.setCell (a := ⟨b, 3, none⟩) h.nm _, ⟨q.m, q.h, q.a, q.s⟩⟩
end
/-- The blocks it lies in. -/
def Fn (b M k : Nat) : Prop := k = b ∨ k = M
/-- Package node in memory, as the laws have it. -/
def Nkp (u : World) (b : Nat) (F : Nat → Prop) (c : Nd) : Prop := ∃ M, PN u b M c ∧ F = Fn b M
theorem Nkp.on {u v : World} {b : Nat} {F : Nat → Prop} {c : Nd} (h : Nkp u b F c) (hz : u.heap.size ≤ v.heap.size) (hF : ∀ k, F k → v.heap[k]? = u.heap[k]?) : Nkp v b F c := by
  obtain ⟨M, hP, rfl⟩ := h
  exact ⟨M, hP.keep hz hF, rfl⟩
theorem Nkp.lt {u : World} {b : Nat} {F : Nat → Prop} {c : Nd} (h : Nkp u b F c) (k : Nat) (hk : F k) : k < u.heap.size := by
  obtain ⟨M, hP, rfl⟩ := h
  exact hk.elim (fun e => e ▸ hP.lt) (fun e => e ▸ hP.ltM)
end Go.Proofs.Ytfmaoblhoafnhaj
namespace Go.Proofs.Ytfmaoblhoafnhaj
open Go.ChangeShapes Go.WideShapes Go.ChangeAt Go.RowKit Go.Joins
set_option linter.unusedVariables false
set_option linter.unusedSimpArgs false

/-- Where a net's parts lie: the world's blocks, the row of nodes, the nodes' blocks; whose each block is. -/
structure Nly where
  wb : Nat
  cb : Nat
  cc : Nat
  v : Value
  nb : Nat
  nc : Nat
  b : Nat → Nat
  m : Nat → Nat
  tg : Nat → Nat
/-- The blocks it lies in. -/
def Nly.F (L : Nly) (mb n k : Nat) : Prop := k = mb ∨ k = L.nb ∨ Fp L.wb L.cb L.v k ∨ ∃ i, i < n ∧ Fn (L.b i) (L.m i) k
structure NN (u : World) (mb : Nat) (L : Nly) (N : Nn) : Prop where
  r : Row u mb [.pointer (some ⟨L.wb, 0, none⟩), .slice (some ⟨L.nb, 0, none⟩) N.W.n L.nc]
  w : PW u L.wb L.cb L.cc N.W L.v
  c : N.W.n ≤ L.nc
  nl : L.nb < u.heap.size
  p : ∀ i, i < N.W.n → u.cell? ⟨L.nb, i, none⟩ = some (.pointer (some ⟨L.b i, 0, none⟩))
  d : ∀ i, i < N.W.n → PN u (L.b i) (L.m i) (N.nd i)
  tb : L.tg mb = 0
  tn : L.tg L.nb = 1
  tw : ∀ k, Fp L.wb L.cb L.v k → L.tg k = 2
  td : ∀ i, i < N.W.n → L.tg (L.b i) = 3 + i ∧ L.tg (L.m i) = 3 + i
section
variable {u u' : World} {mb : Nat} {L : Nly} {N : Nn}
theorem NN.keep (hz : u.heap.size ≤ u'.heap.size) (hF : ∀ k, L.F mb N.W.n k → u'.heap[k]? = u.heap[k]?) (h : NN u mb L N) : NN u' mb L N := by
  have eb := hF mb (Or.inl rfl)
  have en := hF L.nb (Or.inr (Or.inl rfl))
  exact ⟨row_block eb h.r, h.w.keep hz (fun k hk => hF k (Or.inr (Or.inr (Or.inl hk)))), h.c, Nat.lt_of_lt_of_le h.nl hz, fun i hi => (World.cell?_of_block (w := u) (a := ⟨L.nb, i, none⟩) en).trans (h.p i hi),
    fun i hi => (h.d i hi).keep hz (fun k hk => hF k (Or.inr (Or.inr (Or.inr ⟨i, hi, hk⟩)))), h.tb, h.tn, h.tw, h.td⟩
theorem NN.lt (h : NN u mb L N) {k : Nat} (hk : L.F mb N.W.n k) : k < u.heap.size := by
  rcases hk with e | e | e | ⟨i, hi, e | e⟩
  · rw [e]; exact h.r.lt
  · rw [e]; exact h.nl
  · exact h.w.lt e
  · rw [e]; exact (h.d i hi).lt
  · rw [e]; exact (h.d i hi).ltM
theorem NN.on (hb : Below u.heap.size u u') (h : NN u mb L N) : NN u' mb L N := h.keep hb.size (fun k hk => hb.block k (h.lt hk))
/-- One node is another one. -/
theorem NN.node {i : Nat} {c' : Nd} (h : NN u mb L N) (hi : i < N.W.n) (hk : Keeps (Fn (L.b i) (L.m i)) u u') (hp : PN u' (L.b i) (L.m i) c') : NN u' mb L { N with nd := updN N.nd i c' } := by
  have ti := h.td i hi
  have no : ∀ k, L.tg k ≠ 3 + i → ¬ Fn (L.b i) (L.m i) k := fun k hk q => q.elim (fun e => hk (by rw [e]; exact ti.1)) (fun e => hk (by rw [e]; exact ti.2))
  have same : ∀ k, k < u.heap.size → L.tg k ≠ 3 + i → u'.heap[k]? = u.heap[k]? := fun k hl hk' => hk.block k hl (no k hk')
  have eb := same mb h.r.lt (by have := h.tb; omega)
  have en := same L.nb h.nl (by have := h.tn; omega)
  refine ⟨row_block eb h.r, h.w.keep hk.size (fun k q => same k (h.w.lt q) (by have := h.tw k q; omega)), h.c, Nat.lt_of_lt_of_le h.nl hk.size, fun j hj => (World.cell?_of_block (w := u) (a := ⟨L.nb, j, none⟩) en).trans (h.p j hj), fun j hj => ?_, h.tb, h.tn, h.tw, h.td⟩
  show PN u' (L.b j) (L.m j) (updN N.nd i c' j)
  by_cases e : j = i
  · subst e; rw [updN_at]; exact hp
  · rw [updN_ne e]
    have tj := h.td j hj
    have dj := h.d j hj
    refine dj.keep hk.size (fun k q => ?_)
    rcases q with q | q
    · rw [q]; exact same _ dj.lt (by rw [tj.1]; omega)
    · rw [q]; exact same _ dj.ltM (by rw [tj.2]; omega)
/-- Its world is another one. -/
theorem NN.world {S' : Ws} {v' : Value} (h : NN u mb L N) (hn : S'.n = N.W.n) (hp : PW u' L.wb L.cb L.cc S' v') (hk : KpW u u' L.wb L.cb L.v v') : NN u' mb { L with v := v', tg := fun k => if k < u.heap.size then L.tg k else 2 } { N with W := S' } := by
  have no : ∀ k, L.tg k ≠ 2 → ¬ (k = L.wb ∨ L.v.ownBlock = some k) := fun k hk' q => hk' (h.tw k (q.elim Or.inl (fun e => Or.inr (Or.inr e))))
  have same : ∀ k, k < u.heap.size → L.tg k ≠ 2 → u'.heap[k]? = u.heap[k]? := fun k hl hk' => hk.1.block k hl (no k hk')
  have eb := same mb h.r.lt (by have := h.tb; omega)
  have en := same L.nb h.nl (by have := h.tn; omega)
  have hz := hk.1.size
  refine ⟨?_, hp, ?_, Nat.lt_of_lt_of_le h.nl hz, fun j hj => ?_, fun j hj => ?_, ?_, ?_, fun k q => ?_, fun j hj => ?_⟩
  · show Row u' mb [.pointer (some ⟨L.wb, 0, none⟩), .slice (some ⟨L.nb, 0, none⟩) S'.n L.nc]
    rw [hn]; exact row_block eb h.r
  · show S'.n ≤ L.nc
    rw [hn]; exact h.c
  · exact (World.cell?_of_block (w := u) (a := ⟨L.nb, j, none⟩) en).trans (h.p j (by rw [← hn]; exact hj))
  · have hj' : j < N.W.n := by rw [← hn]; exact hj
    have tj := h.td j hj'
    have dj := h.d j hj'
    refine dj.keep hz (fun k q => ?_)
    rcases q with q | q
    · rw [q]; exact same _ dj.lt (by rw [tj.1]; omega)
    · rw [q]; exact same _ dj.ltM (by rw [tj.2]; omega)
  · show (if mb < u.heap.size then L.tg mb else 2) = 0
    rw [if_pos h.r.lt]; exact h.tb
  · show (if L.nb < u.heap.size then L.tg L.nb else 2) = 1
    rw [if_pos h.nl]; exact h.tn
  · show (if k < u.heap.size then L.tg k else 2) = 2
    by_cases q' : k < u.heap.size
    · rw [if_pos q']
      rcases q with e | e | e
      · exact h.tw k (Or.inl e)
      · exact h.tw k (Or.inr (Or.inl e))
      · rcases hk.2 k e with e' | e'
        · exact h.tw k (Or.inr (Or.inr e'))
        · omega
    · rw [if_neg q']
  · have hj' : j < N.W.n := by rw [← hn]; exact hj
    have dj := h.d j hj'
    show (if L.b j < u.heap.size then L.tg (L.b j) else 2) = _ ∧ (if L.m j < u.heap.size then L.tg (L.m j) else 2) = _
    rw [if_pos dj.lt, if_pos dj.ltM]
    exact h.td j hj'
/-- What a call on its world, or on a node, keeps. -/
theorem NN.kw {v' : Value} (h : NN u mb L N) (hk : KpW u u' L.wb L.cb L.v v') : Keeps (L.F mb N.W.n) u u' := ⟨hk.1.os, hk.1.tape, hk.1.output, hk.1.size, fun k hl hn => hk.1.block k hl (fun e => hn (Or.inr (Or.inr (Or.inl (e.elim Or.inl (fun q => Or.inr (Or.inr q)))))))⟩
theorem NN.kn {i : Nat} (hi : i < N.W.n) (hk : Keeps (Fn (L.b i) (L.m i)) u u') : Keeps (L.F mb N.W.n) u u' := ⟨hk.os, hk.tape, hk.output, hk.size, fun k hl hn => hk.block k hl (fun e => hn (Or.inr (Or.inr (Or.inr ⟨i, hi, e⟩))))⟩
/-- What a call of it keeps, and where it lies then. -/
def Kpn (u u' : World) (mb n : Nat) (L L' : Nly) : Prop := Keeps (L.F mb n) u u' ∧ ∀ j, L'.F mb n j → L.F mb n j ∨ u.heap.size ≤ j
theorem Kpn.same {n : Nat} (hb : Below u.heap.size u u') : Kpn u u' mb n L L := ⟨.of hb, fun _ h => Or.inl h⟩
theorem Kpn.trans {u'' : World} {n : Nat} {L' L'' : Nly} (h : Kpn u u' mb n L L') (g : Kpn u' u'' mb n L' L'') : Kpn u u'' mb n L L'' := by
  have hz := h.1.size
  refine ⟨⟨g.1.os.trans h.1.os, g.1.tape.trans h.1.tape, g.1.output.trans h.1.output, Nat.le_trans hz g.1.size, fun k hk hn => ?_⟩, fun j hj => ?_⟩
  · exact (g.1.block k (Nat.lt_of_lt_of_le hk hz) (fun q => (h.2 k q).elim hn (fun q => by omega))).trans (h.1.block k hk hn)
  · rcases g.2 j hj with q | q
    · exact h.2 j q
    · exact Or.inr (by omega)
theorem NN.kpw {n : Nat} {v' : Value} {tg' : Nat → Nat} (h : NN u mb L N) (hn : n = N.W.n) (hk : KpW u u' L.wb L.cb L.v v') : Kpn u u' mb n L { L with v := v', tg := tg' } := by
  subst hn
  refine ⟨NN.kw h hk, fun j hj => ?_⟩
  rcases hj with q | q | q | ⟨i, hi, q⟩
  · exact Or.inl (Or.inl q)
  · exact Or.inl (Or.inr (Or.inl q))
  · rcases q with q | q | q
    · exact Or.inl (Or.inr (Or.inr (Or.inl (Or.inl q))))
    · exact Or.inl (Or.inr (Or.inr (Or.inl (Or.inr (Or.inl q)))))
    · exact (hk.2 j q).imp (fun q => Or.inr (Or.inr (Or.inl (Or.inr (Or.inr q))))) id
  · exact Or.inl (Or.inr (Or.inr (Or.inr ⟨i, hi, q⟩)))
theorem NN.kpn {n i : Nat} (hn : n = N.W.n) (hi : i < N.W.n) (hk : Keeps (Fn (L.b i) (L.m i)) u u') : Kpn u u' mb n L L := by
  subst hn
  exact ⟨NN.kn hi hk, fun _ h => Or.inl h⟩
end
/-- Package net in memory, as the laws have it. -/
def Nkn (u : World) (b : Nat) (F : Nat → Prop) (N : Nn) : Prop := ∃ L, NN u b L N ∧ F = L.F b N.W.n
theorem Nkn.on {u v : World} {b : Nat} {F : Nat → Prop} {N : Nn} (h : Nkn u b F N) (hz : u.heap.size ≤ v.heap.size) (hF : ∀ k, F k → v.heap[k]? = u.heap[k]?) : Nkn v b F N := by
  obtain ⟨L, hP, rfl⟩ := h
  exact ⟨L, hP.keep hz hF, rfl⟩
theorem Nkn.lt {u : World} {b : Nat} {F : Nat → Prop} {N : Nn} (h : Nkn u b F N) (k : Nat) (hk : F k) : k < u.heap.size := by
  obtain ⟨L, hP, rfl⟩ := h
  exact hP.lt hk
end Go.Proofs.Ytfmaoblhoafnhaj
namespace Go.Proofs.Ytfmaoblhoafnhaj
open Go.ChangeShapes Go.WideShapes Go.ChangeAt Go.RowKit Go.Joins
set_option linter.unusedVariables false
set_option linter.unusedSimpArgs false

section
variable {u : World} {mb : Nat} {L : Nly} {N : Nn}
set_option maxRecDepth 100000 in
set_option maxHeartbeats 4000000 in
theorem nisn (h : NN u mb L N) (g : N.W.I) (i : Int) (b : Bool) (hb : b = decide (0 ≤ i ∧ i < (N.W.n : Int))) :
    Calls Try.prog 23 #[.pointer (some ⟨mb, 0, none⟩), .int .i64 i] u fun o w' => o = .returned (.bool b) ∧ w' = u := by
  have c1 := h.r.c 1 _ rfl
  have l0 := h.r.lt
  have n6 := g.n6
  clear h g
  subst hb
  generalize N.W.n = n at *
  by_cases h : 0 ≤ i
  · by_cases h2 : i < n
    · rw [show decide (0 ≤ i ∧ i < (n : Int)) = true from decide_eq_true ⟨h, h2⟩]
      have d1 : decide (i < (n : Int)) = true := decide_eq_true h2
      go_enter Try.func23, Try.ntmps23
      go_wp2
      go_ret
      exact ⟨rfl, rfl⟩
    · rw [show decide (0 ≤ i ∧ i < (n : Int)) = false from decide_eq_false (fun q => h2 q.2)]
      have d1 : decide (i < (n : Int)) = false := decide_eq_false h2
      go_enter Try.func23, Try.ntmps23
      go_wp2
      go_ret
      exact ⟨rfl, rfl⟩
  · rw [show decide (0 ≤ i ∧ i < (n : Int)) = false from decide_eq_false (fun q => h q.1)]
    have d1 : decide (0 ≤ i) = false := decide_eq_false h
    go_enter Try.func23, Try.ntmps23
    go_wp2
    go_ret
    exact ⟨rfl, rfl⟩
/-- What Read answers where there is such a clock, and where there is none. -/
theorem read_yes {cb cc : Nat} {S : Ws} {v : Value} {wb : Nat} (h : PW u wb cb cc S v) (g : S.I) {i : Int} (hs : S.hs i) : Calls Try.prog 27 #[.pointer (some ⟨wb, 0, none⟩), .int .i64 i] u fun o w' => o = .returned (.tuple #[.int .i64 (S.rd i.toNat), errc 0]) ∧ Below u.heap.size u w' :=
  (wread_any h g i).mono fun _ _ ⟨q, hw⟩ => q.elim (fun q => ⟨q.2, hw⟩) (fun q => absurd hs q.1)
theorem read_no {cb cc : Nat} {S : Ws} {v : Value} {wb : Nat} (h : PW u wb cb cc S v) (g : S.I) {i : Int} (hs : ¬ S.hs i) : Calls Try.prog 27 #[.pointer (some ⟨wb, 0, none⟩), .int .i64 i] u fun o w' => o = .returned (.tuple #[.int .i64 0, errc 1]) ∧ Below u.heap.size u w' :=
  (wread_any h g i).mono fun _ _ ⟨q, hw⟩ => q.elim (fun q => absurd q.1 hs) (fun q => ⟨q.2, hw⟩)
end
end Go.Proofs.Ytfmaoblhoafnhaj
