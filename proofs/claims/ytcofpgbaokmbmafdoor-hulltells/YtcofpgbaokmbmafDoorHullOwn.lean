/- Points in a row of the call's own. -/
import Derived.Test.YtcofpgbaokmbmafDoorHullIns
import Derived.Lib.SmallJoins
import Derived.OwnWalk
import Derived.Deep.RegionLaw
import Derived.Laws.AppendOwnNone
namespace Go.Proofs.YtcofpgbaokmbmafDoor
open Go.ChangeShapes Go.WideShapes Go.ChangeAt Go.RowKit Go.Joins
set_option linter.unusedVariables false
set_option linter.unusedSimpArgs false

theorem infoPoint : (Tryd.prog.info? 33).map (fun i => (i.zero, i.size, i.bytes)) = some (some (.agg #[.int .i64 0, .int .i64 0]), 2, 16) := by kernel_rfl
/-- An append to a row of the call's own, as one step of a region that draws its order. -/
theorem step_append_own {P : Program} {ops : Array Oper} {o : Oper} {a : Act} {w : World} {K : Act → World → Prop} {Q : Exit → Act → World → Prop} {E : Prop}
    (hg : o.guard = none) (s x : Operand) (t : TypeId) (hop : o.op = Op.call { callee := Callee.builtin Builtin.append, args := #[s, x], argTypes := #[t, t] })
    (base : Nat) (e : TypeId) (i : TypeInfo) (z : Value) (size bytes : Nat) (h1 : P.underlying t = some (.slice e)) (h2 : P.info? e = some i) (h3 : i.zero = some z) (h4 : i.size = size) (h5 : i.bytes = bytes) (h6 : z.cells.size = size) (h7 : 0 < size)
    (v : Value) (n : Nat) (xs : List Value) (hs : a.eval s = v) (hown : w.ownsRow base e size v n xs)
    (ad : Addr) (m c : Nat) (news : List Value) (hx : a.eval x = .slice (some ad) m c) (hn : news.length = m * size) (hc : ∀ j u, news[j]? = some u → w.cell? (ad.add j) = some u) (h1c : ∀ u ∈ news, u.oneCell' = true)
    (b1 : n + m ≤ maxLen) (b2 : (n + m) * bytes ≤ 140737488355328) (hbase : base ≤ w.heap.size)
    (hK : ∀ v' w', w'.ownsRow base e size v' (n + m) (xs ++ news) → w.grownBy w' v.ownBlock → K (a.put o.dst v') w') :
    if Region.wanted o (yielded ops a.tmps) = true then Oper.wp P o a w K Q else E := by
  have hw : Region.wanted o (yielded ops a.tmps) = true := by simp [Region.wanted, hg]
  rw [if_pos hw]
  exact wp_append_own w s x t hop base e i z size bytes h1 h2 h3 h4 h5 h6 h7 v n xs hs hown ad m c news hx hn hc h1c b1 b2 hbase (fun v' w' a b _ => hK v' w' a b)
/-- A row of points of the call's own, as it is handed over. -/
theorem own_points {w : World} {base k : Nat} {v : Value} {l : List (Int × Int)} (h : w.ownsRow base 33 2 v k (pcs l)) (hl : l.length = k) (hk : k ≤ 9223372036854775807) : ∃ a cap, v = .slice a k cap ∧ PHanded w a k (rowL l) ∧ (k = 0 ∨ ∃ g, a = some ⟨g, 0, none⟩ ∧ base ≤ g ∧ g < w.heap.size ∧ k ≤ cap) := by
  rcases h.2 with ⟨rfl, e⟩ | ⟨g, cap, cur, rfl, hb, hg, hc, _, hcs, htk⟩
  · subst e
    exact ⟨none, 0, rfl, ⟨hk, Or.inl rfl⟩, Or.inl rfl⟩
  · have glt : g < w.heap.size := by
      rcases Nat.lt_or_ge g w.heap.size with hlt | hge
      · exact hlt
      · rw [Array.getElem?_eq_none hge] at hg; cases hg
    refine ⟨_, cap, rfl, ⟨hk, Or.inr ⟨g, 0, rfl, fun i hi => ?_⟩⟩, Or.inr ⟨g, rfl, hb, glt, hc⟩⟩
    have cl : ∀ j v, (pcs l)[j]? = some v → w.cell? ⟨g, j, none⟩ = some v := fun j v hv => by
      rw [← htk, List.getElem?_take] at hv
      split at hv
      case isFalse => cases hv
      unfold World.cell?
      rw [show w.heap[(⟨g, j, none⟩ : Addr).block]? = _ from hg]
      simpa using hv
    have hp : l[i]? = some (rowL l i) := by unfold rowL; rw [List.getElem?_eq_getElem (by omega)]; rfl
    obtain ⟨x0, x1⟩ := pcs_at hp
    rw [Nat.zero_add]
    exact ⟨cl _ _ x0, cl _ _ x1⟩
theorem lst_snoc (f : Nat → Int × Int) (k : Nat) : lst f (k + 1) = lst f k ++ [f k] := by
  unfold lst
  rw [List.range_succ, List.map_append]
  rfl
theorem rowL_lst (f : Nat → Int × Int) (n i : Nat) (h : i < n) : rowL (lst f n) i = f i := rowL_at (lst_at f n i h)
end Go.Proofs.YtcofpgbaokmbmafDoor
