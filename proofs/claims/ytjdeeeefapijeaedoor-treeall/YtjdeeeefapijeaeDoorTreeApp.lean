/- An append to a row of the call's own, and where the row lies behind it; a tree in package tree's memory. -/
import Derived.Test.YtjdeeeefapijeaeDoorTreeIdx
import Derived.Test.YtjdeeeefapijeaeDoorTreeRep
import Derived.Deep.RegionLaw
namespace Go.Proofs.YtjdeeeefapijeaeDoor
open Go.ChangeShapes Go.WideShapes Go.ChangeAt Go.RowKit Go.Joins
set_option linter.unusedVariables false
set_option linter.unusedSimpArgs false

/-- Where a row lies behind an append: where it was, or in a block that was not there. -/
def Nxt (w : World) (v v' : Value) : Prop := v'.ownBlock = v.ownBlock ∨ ∃ g, v'.ownBlock = some g ∧ w.heap.size ≤ g
theorem run_append_at {P : Program} (w : World) (base : Nat) (t ty e : TypeId) (i : TypeInfo) (z : Value) (size bytes : Nat) (ht : P.underlying t = some (.slice e)) (hi : P.info? e = some i) (hz : i.zero = some z)
    (hsize : i.size = size) (hby : i.bytes = bytes) (hzs : z.cells.size = size) (hsz : 0 < size)
    (v : Value) (n : Nat) (xs : List Value) (hown : w.ownsRow base e size v n xs) (hn0 : 0 < n)
    (a : Addr) (m c : Nat) (news : List Value) (hl : news.length = m * size) (hnews : ∀ j u, news[j]? = some u → w.cell? (a.add j) = some u) (h1 : ∀ u ∈ news, u.oneCell' = true)
    (h63 : n + m ≤ maxLen) (hbytes : (n + m) * bytes ≤ 140737488355328) (hbase : base ≤ w.heap.size) :
    ∃ v' w', (Builtin.append_ #[t, t] ty #[v, .slice (some a) m c]).run P w = .ok v' w' ∧ w'.ownsRow base e size v' (n + m) (xs ++ news) ∧ w.grownBy w' v.ownBlock ∧ Nxt w v v' := by
  obtain ⟨v', w', hr, h2, h3, h4⟩ := run_append_own (P := P) w base t ty e i z size bytes ht hi hz hsize hby hzs hsz v n xs hown a m c news hl hnews h1 h63 hbytes hbase
  refine ⟨v', w', hr, h2, h3, ?_⟩
  rcases hown.2 with ⟨_, h0⟩ | ⟨g, cap, cur, rfl, hb, hg, hnc, hcm, hcs, htk⟩
  · omega
  · have cl : ∀ j u, xs[j]? = some u → w.cell? ((⟨g, 0, none⟩ : Addr).add j) = some u := fun j u hj => by
      rw [Addr.add_lit, Nat.zero_add]
      rw [← htk, List.getElem?_take] at hj
      split at hj
      case isFalse => cases hj
      unfold World.cell?
      rw [show w.heap[(⟨g, j, none⟩ : Addr).block]? = _ from hg]
      simpa using hj
    by_cases room : n + m ≤ cap
    · have nm : (n + m) * size ≤ cap * size := Nat.mul_le_mul_right _ room
      rw [Nat.add_mul] at nm
      subst hsize
      have r := run_append_room_cells (P := P) w t ty e i ht hi g 0 n cap a m c news hl hnews h1 room (fun j hj => by
          unfold World.cell?
          rw [show w.heap[(⟨g, 0 + n * i.size + j, none⟩ : Addr).block]? = _ from hg]
          have : 0 + n * i.size + j < cur.size := by omega
          simpa using this) (fun j hj => by
          unfold World.frozen?
          rw [show w.heap[(⟨g, 0 + n * i.size + j, none⟩ : Addr).block]? = _ from hg]
          simp)
      rw [hr] at r
      injection r with r1 r2
      exact Or.inl (by rw [r1]; rfl)
    · obtain ⟨v2, w2, r, o, _⟩ := run_append_arg_grows (P := P) w t ty e i z size bytes ht hi hz hsize hby hzs hsz ⟨g, 0, none⟩ n cap xs hown.1 cl a m c news hl hnews (by omega) h63 hbytes
      rw [hr] at r
      injection r with r1 r2
      rw [← r1] at o
      rcases o.2 with ⟨_, h0⟩ | ⟨g2, cap2, cur2, e2, hb2, _⟩
      · omega
      · exact Or.inr ⟨g2, by rw [e2]; rfl, hb2⟩
/-- .. as one step of a region that draws its order. -/
theorem step_append_at {P : Program} {ops : Array Oper} {o : Oper} {a : Act} {w : World} {K : Act → World → Prop} {Q : Exit → Act → World → Prop} {E : Prop}
    (hg : o.guard = none) (s x : Operand) (t : TypeId) (hop : o.op = Op.call { callee := Callee.builtin Builtin.append, args := #[s, x], argTypes := #[t, t] })
    (base : Nat) (e : TypeId) (i : TypeInfo) (z : Value) (size bytes : Nat) (h1 : P.underlying t = some (.slice e)) (h2 : P.info? e = some i) (h3 : i.zero = some z) (h4 : i.size = size) (h5 : i.bytes = bytes) (h6 : z.cells.size = size) (h7 : 0 < size)
    (v : Value) (n : Nat) (xs : List Value) (hs : a.eval s = v) (hown : w.ownsRow base e size v n xs) (hn0 : 0 < n)
    (ad : Addr) (m c : Nat) (news : List Value) (hx : a.eval x = .slice (some ad) m c) (hn : news.length = m * size) (hc : ∀ j u, news[j]? = some u → w.cell? (ad.add j) = some u) (h1c : ∀ u ∈ news, u.oneCell' = true)
    (b1 : n + m ≤ maxLen) (b2 : (n + m) * bytes ≤ 140737488355328) (hbase : base ≤ w.heap.size)
    (hK : ∀ v' w', w'.ownsRow base e size v' (n + m) (xs ++ news) → w.grownBy w' v.ownBlock → Nxt w v v' → K (a.put o.dst v') w') :
    if Region.wanted o (yielded ops a.tmps) = true then Oper.wp P o a w K Q else E := by
  have hw : Region.wanted o (yielded ops a.tmps) = true := by simp [Region.wanted, hg]
  rw [if_pos hw]
  obtain ⟨v', w', hr, r1, r2, r3⟩ := run_append_at (P := P) w base t o.type e i z size bytes h1 h2 h3 h4 h5 h6 h7 v n xs hown hn0 ad m c news hn hc h1c b1 b2 hbase
  unfold Oper.wp execOp
  simp only [hop, resolve, invoke, builtin, Sem.run_bind, Sem.run_pure, Result.andThen_ok, List.map_toArray, List.map_cons, List.map_nil, hs, hx, hr]
  exact hK v' w' r1 r2 r3
/-- A tree while it grows, in package tree's memory. -/
structure Gro (u : World) (s p gb n : Nat) (t : Tr) (v : Value) : Prop where
  st : Blk u 85 p [v, .slice (some ⟨gb, 0, none⟩) n n]
  byB : Blk u 3 gb (byR n t)
  row : u.ownsRow s 3 1 v t.row.length (roR t)
  ne : v.ownBlock ≠ some gb
  sp : s ≤ p
  sg : s ≤ gb
theorem Gro.pg {u : World} {s p gb n : Nat} {t : Tr} {v : Value} (h : Gro u s p gb n t v) : p ≠ gb := h.st.ne h.byB (by decide)
theorem Gro.pv {u : World} {s p gb n : Nat} {t : Tr} {v : Value} (h : Gro u s p gb n t v) : some p ≠ v.ownBlock := by
  rcases h.row.2 with ⟨rfl, _⟩ | ⟨g, cap, cur, rfl, _, hg, _⟩
  · intro e; cases e
  · intro e
    have e' : p = g := Option.some.inj e
    have := h.st
    unfold Blk at this
    rw [e', hg] at this
    simp at this
theorem own_onG {W u : World} {base n size : Nat} {e : TypeId} {v : Value} {xs : List Value} (hb : Below W.heap.size W u) (h : W.ownsRow base e size v n xs) : u.ownsRow base e size v n xs := by
  refine ⟨h.1, ?_⟩
  rcases h.2 with h' | ⟨g, cap, cur, h1, h2, h3, h4⟩
  · exact Or.inl h'
  · refine Or.inr ⟨g, cap, cur, h1, h2, (hb.block g ?_).trans h3, h4⟩
    rcases Nat.lt_or_ge g W.heap.size with hlt | hge
    · exact hlt
    · rw [Array.getElem?_eq_none hge] at h3; cases h3
theorem Gro.on {W u : World} {s p gb n : Nat} {t : Tr} {v : Value} (hb : Below W.heap.size W u) (h : Gro W s p gb n t v) : Gro u s p gb n t v := ⟨h.st.on hb, h.byB.on hb, own_onG hb h.row, h.ne, h.sp, h.sg⟩
theorem own_put {u : World} {base n b i size : Nat} {e : TypeId} {v x : Value} {xs : List Value} (h : u.ownsRow base e size v n xs) (hb : some b ≠ v.ownBlock) : (u.setCell ⟨b, i, none⟩ x).ownsRow base e size v n xs := by
  refine ⟨h.1, ?_⟩
  rcases h.2 with h' | ⟨g, cap, cur, h1, h2, h3, h4⟩
  · exact Or.inl h'
  · refine Or.inr ⟨g, cap, cur, h1, h2, (Deep.blk_setCell_other u ⟨b, i, none⟩ x g ?_).trans h3, h4⟩
    show g ≠ b
    intro e'
    exact hb (by rw [h1, ← e']; rfl)
/-- One node more: appended, and by which edge it came. -/
theorem Gro.add {W u : World} {s p gb n k y : Nat} {t : Tr} {v v' : Value} (h : Gro W s p gb n t v) (hy : y < n) (ho : u.ownsRow s 3 1 v' (t.row.length + 1) (roR t ++ [.int .i64 (y : Nat)])) (hg : W.grownBy u v.ownBlock) (hx : Nxt W v v') :
    Gro ((u.setCell ⟨p, 0, none⟩ v').setCell ⟨gb, y, none⟩ (.int .i64 (k : Nat))) s p gb n (addT t k y) v' := by
  have pg := h.pg
  have lg := h.byB.lt
  have lp := h.st.lt
  have s1 : Blk u 85 p [v, .slice (some ⟨gb, 0, none⟩) n n] := h.st.grown hg h.pv
  have b1 : Blk u 3 gb (byR n t) := h.byB.grown hg (fun e => h.ne e.symm)
  have nb : v'.ownBlock ≠ some gb := by
    rcases hx with e | ⟨g, e, hl⟩
    · rw [e]; exact h.ne
    · rw [e]; intro e'; have := Option.some.inj e'; omega
  have np : some p ≠ v'.ownBlock := by
    rcases hx with e | ⟨g, e, hl⟩
    · rw [e]; exact h.pv
    · rw [e]; intro e'; have := Option.some.inj e'; omega
  refine ⟨(s1.put 0).far pg, ?_, ?_, nb, h.sp, h.sg⟩
  · rw [← byR_add n t k y hy]
    exact (b1.far pg.symm).put y
  · have e1 : (addT t k y).row.length = t.row.length + 1 := by simp [addT]
    have e2 : roR (addT t k y) = roR t ++ [.int .i64 (y : Nat)] := by simp [addT, roR]
    rw [e1, e2]
    exact own_put (own_put ho np) (fun e => nb e.symm)
end Go.Proofs.YtjdeeeefapijeaeDoor
