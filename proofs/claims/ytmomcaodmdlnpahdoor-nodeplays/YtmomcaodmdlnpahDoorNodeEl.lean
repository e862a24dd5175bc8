/- Edges' cells in a row of a call's own; the edges of the first few nodes. -/
import Derived.Test.YtmomcaodmdlnpahDoorNodeMath
import Derived.Test.YtmomcaodmdlnpahDoorNodeOut
import Derived.Test.YtmomcaodmdlnpahDoorBoundsSpn
import Derived.Test.YtmomcaodmdlnpahDoorAppStep
namespace Go.Proofs.YtmomcaodmdlnpahDoor
open Go.ChangeShapes Go.WideShapes Go.ChangeAt Go.RowKit Go.Joins
set_option linter.unusedVariables false
set_option linter.unusedSimpArgs false

theorem infoEdgeN : (Tryd.prog.info? 116).map (fun i => (i.zero, i.size, i.bytes)) = some (some (.agg #[.int .i64 0, .int .i64 0, .int .i64 0, .int .i64 0]), 4, 32) := by kernel_rfl
theorem own_empty_e (w : World) (e : TypeId) (size base : Nat) (h : base ≤ w.heap.size) : (w.alloc (.cells #[] e)).ownsRow base e size (.slice (some ⟨w.heap.size, 0, none⟩) 0 0) 0 [] := by
  refine ⟨by simp, Or.inr ⟨w.heap.size, 0, #[], rfl, h, ?_, Nat.le_refl _, Nat.zero_le _, by simp, by simp⟩⟩
  show (w.heap.push _)[w.heap.size]? = _
  simp
/-- Edges' cells, one behind the other. -/
def ecl : List Eg → List Value
  | [] => []
  | q :: r => [.int .i64 q.a, .int .i64 q.b, .int .i64 q.lo, .int .i64 q.hi] ++ ecl r
theorem ecl_app (a b : List Eg) : ecl (a ++ b) = ecl a ++ ecl b := by
  induction a with
  | nil => rfl
  | cons l r ih => show _ ++ ecl (r ++ b) = _ ++ ecl r ++ ecl b; rw [ih, List.append_assoc]
theorem ecl_at {a : List Eg} {i : Nat} {q : Eg} (h : a[i]? = some q) {j : Nat} {v : Value} (hv : [Value.int .i64 q.a, .int .i64 q.b, .int .i64 q.lo, .int .i64 q.hi][j]? = some v) : (ecl a)[i * 4 + j]? = some v := by
  induction a generalizing i with
  | nil => cases h
  | cons l r ih =>
    show ([Value.int .i64 l.a, .int .i64 l.b, .int .i64 l.lo, .int .i64 l.hi] ++ ecl r)[i * 4 + j]? = some v
    cases i with
    | zero =>
      obtain rfl := Option.some.inj h
      have lt : j < 4 := by
        rcases Nat.lt_or_ge j 4 with h | h
        · exact h
        · rw [List.getElem?_eq_none h] at hv; cases hv
      rw [Nat.zero_mul, Nat.zero_add, List.getElem?_append_left lt]
      exact hv
    | succ i =>
      rw [List.getElem?_append_right (by show 4 ≤ _; omega), show (i + 1) * 4 + j - [Value.int .i64 l.a, .int .i64 l.b, .int .i64 l.lo, .int .i64 l.hi].length = i * 4 + j by show (i + 1) * 4 + j - 4 = _; omega]
      exact ih h
/-- Edges of the first few. -/
def Nd.eu (c : Nd) (t : Int) (i : Nat) : List Eg := ((List.range i).filter (fun j => c.has j)).map (fun (j : Nat) => (⟨(c.id : Int), (j : Int), c.alo j t, c.ahi j t⟩ : Eg))
theorem eu_all (c : Nd) (t : Int) : c.eu t c.n = c.eo t := rfl
theorem eu_yes {c : Nd} {t : Int} {i : Nat} (h : c.has i = true) : c.eu t (i + 1) = c.eu t i ++ [⟨(c.id : Int), (i : Int), c.alo i t, c.ahi i t⟩] := by
  unfold Nd.eu
  rw [List.range_succ, List.filter_append, List.map_append]
  simp [h]
theorem eu_no {c : Nd} {t : Int} {i : Nat} (h : c.has i = false) : c.eu t (i + 1) = c.eu t i := by
  unfold Nd.eu
  rw [List.range_succ, List.filter_append, List.map_append]
  simp [h]
theorem eu_len (c : Nd) (t : Int) (i : Nat) : (c.eu t i).length ≤ i := by
  unfold Nd.eu
  rw [List.length_map]
  exact Nat.le_trans (List.length_filter_le _ _) (by simp)
/-- A row of edges of the call's own, as it is handed over. -/
theorem own_eh {w : World} {base k : Nat} {v : Value} {l : List Eg} (h : w.ownsRow base 116 4 v k (ecl l)) (hl : l.length = k) (hk : k ≤ 9223372036854775807) : ∃ a cap, v = .slice a k cap ∧ EHanded w a k (egf l) ∧ (a = none → cap = 0) := by
  rcases h.2 with ⟨rfl, rfl⟩ | ⟨g, cap, cur, rfl, hb, hg, hc, _, hcs, htk⟩
  · exact ⟨none, 0, rfl, ⟨hk, Or.inl rfl⟩, fun _ => rfl⟩
  · refine ⟨_, cap, rfl, ⟨hk, Or.inr ⟨g, 0, rfl, fun i hi => ?_⟩⟩, fun e => by cases e⟩
    have hq : l[i]? = some (egf l i) := by unfold egf; rw [List.getD_eq_getElem?_getD, List.getElem?_eq_getElem (by omega)]; rfl
    have c := h.cells (g := g) rfl
    have f : ∀ j x, [Value.int .i64 (egf l i).a, .int .i64 (egf l i).b, .int .i64 (egf l i).lo, .int .i64 (egf l i).hi][j]? = some x → w.cell? ⟨g, 0 + (i * 4 + j), none⟩ = some x := fun j x hx => by
      have := c (i * 4 + j) x (ecl_at hq hx)
      rw [Addr.add_lit] at this
      exact this
    refine ⟨?_, ?_, ?_, ?_⟩
    · have := f 0 _ rfl; simpa using this
    · have := f 1 _ rfl; simpa using this
    · have := f 2 _ rfl; simpa using this
    · have := f 3 _ rfl; simpa using this
theorem own_cap {w : World} {base k size : Nat} {e : TypeId} {v : Value} {a : Option Addr} {cap : Nat} {xs : List Value} (h : w.ownsRow base e size v k xs) (hv : v = .slice a k cap) : k ≤ cap ∧ cap ≤ maxLen := by
  rcases h.2 with ⟨e1, e2⟩ | ⟨g, cp, cur, e1, hb, hg, hc, hm, hcs, htk⟩
  · rw [e1] at hv
    injection hv with _ _ q
    subst q
    exact ⟨by omega, Nat.zero_le _⟩
  · rw [e1] at hv
    injection hv with _ _ q
    subst q
    exact ⟨hc, hm⟩
end Go.Proofs.YtmomcaodmdlnpahDoor
