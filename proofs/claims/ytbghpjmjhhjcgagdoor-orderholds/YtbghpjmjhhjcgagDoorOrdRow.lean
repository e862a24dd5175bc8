/- Events in a row of the call's own. -/
import Derived.Test.YtbghpjmjhhjcgagDoorOrdDef
import Derived.Lib.SmallJoins
import Derived.OwnWalk
import Derived.Laws.AppendOwnNone
namespace Go.Proofs.YtbghpjmjhhjcgagDoor
open Go.ChangeShapes Go.WideShapes Go.ChangeAt Go.RowKit Go.Joins
set_option linter.unusedVariables false
set_option linter.unusedSimpArgs false

/-- The cells of events. -/
def vcs (f : Nat → Ev) : Nat → List Value
  | 0 => []
  | i + 1 => vcs f i ++ [.int .i64 (f i).id, .int .i64 (f i).lo, .int .i64 (f i).hi]
theorem vcs_len (f : Nat → Ev) : ∀ i, (vcs f i).length = i * 3
  | 0 => rfl
  | i + 1 => by simp only [vcs, List.length_append, vcs_len f i, List.length_cons, List.length_nil]; omega
theorem vcs_at (f : Nat → Ev) : ∀ {i j : Nat}, j < i → (vcs f i)[j * 3]? = some (.int .i64 (f j).id) ∧ (vcs f i)[j * 3 + 1]? = some (.int .i64 (f j).lo) ∧ (vcs f i)[j * 3 + 1 + 1]? = some (.int .i64 (f j).hi)
  | 0, j, h => by omega
  | i + 1, j, h => by
    have l := vcs_len f i
    simp only [vcs]
    by_cases c : j = i
    · subst c
      rw [List.getElem?_append_right (by omega), List.getElem?_append_right (by omega), List.getElem?_append_right (by omega), l, show j * 3 - j * 3 = 0 by omega, show j * 3 + 1 - j * 3 = 1 by omega, show j * 3 + 1 + 1 - j * 3 = 2 by omega]
      exact ⟨rfl, rfl, rfl⟩
    · rw [List.getElem?_append_left (by omega), List.getElem?_append_left (by omega), List.getElem?_append_left (by omega)]
      exact vcs_at f (by omega)
theorem infoEvent : (Tryd.prog.info? 46).map (fun i => (i.zero, i.size, i.bytes)) = some (some (.agg #[.int .i64 0, .int .i64 0, .int .i64 0]), 3, 24) := by kernel_rfl
theorem own_events {w : World} {base k : Nat} {v : Value} {f : Nat → Ev} (h : w.ownsRow base 46 3 v k (vcs f k)) (hk : k ≤ 9223372036854775807) : ∃ a cap, v = .slice a k cap ∧ VHanded w a k f ∧ k ≤ cap := by
  rcases h.2 with ⟨rfl, e⟩ | ⟨g, cap, cur, rfl, hb, hg, hc, _, hcs, htk⟩
  · subst e
    exact ⟨none, 0, rfl, ⟨hk, Or.inl rfl⟩, Nat.le_refl _⟩
  · refine ⟨_, cap, rfl, ⟨hk, Or.inr ⟨g, 0, rfl, fun i hi => ?_⟩⟩, hc⟩
    obtain ⟨a, b, c⟩ := vcs_at f hi
    rw [Nat.zero_add, h.cellAt _ (by omega), h.cellAt _ (by omega), h.cellAt _ (by omega)]
    exact ⟨a, b, c⟩
theorem vcs_one (f : Nat → Ev) : ∀ n, ∀ u ∈ vcs f n, u.oneCell' = true
  | 0, u, h => by cases h
  | n + 1, u, h => by
    simp only [vcs, List.mem_append, List.mem_cons, List.not_mem_nil, or_false] at h
    rcases h with h | rfl | rfl | rfl
    · exact vcs_one f n u h
    · rfl
    · rfl
    · rfl
end Go.Proofs.YtbghpjmjhhjcgagDoor
