/- Numbers in a row of a law's own. -/
import Derived.Test.YthejaecljkjliakDoorInts
import Derived.Test.YthejaecljkjliakDoorKeeps
import Derived.OwnWalk
import Derived.Laws.AppendOwnNone
namespace Go.Proofs.YthejaecljkjliakDoor
open Go.ChangeShapes Go.WideShapes Go.ChangeAt Go.RowKit
set_option linter.unusedVariables false

/-- Numbers as cells. -/
def icn (t : Nat → Int) : Nat → List Value
  | 0 => []
  | m + 1 => icn t m ++ [.int .i64 (t m)]
theorem icn_len (t : Nat → Int) : ∀ m, (icn t m).length = m
  | 0 => rfl
  | m + 1 => by simp [icn, icn_len t m]
theorem icn_at (t : Nat → Int) : ∀ {m i : Nat}, i < m → (icn t m)[i]? = some (.int .i64 (t i))
  | 0, i, h => by omega
  | m + 1, i, h => by
    simp only [icn]
    by_cases c : i = m
    · subst c
      rw [List.getElem?_append_right (by rw [icn_len]; omega), icn_len]
      simp
    · rw [List.getElem?_append_left (by rw [icn_len]; omega)]
      exact icn_at t (by omega)
theorem infoIntN : (Tryd.prog.info? 3).map (fun i => (i.zero, i.size, i.bytes)) = some (some (.int .i64 0), 1, 8) := by kernel_rfl
theorem own_onN {W u : World} {base n size : Nat} {e : TypeId} {v : Value} {xs : List Value} (hb : Below W.heap.size W u) (h : W.ownsRow base e size v n xs) : u.ownsRow base e size v n xs := by
  refine ⟨h.1, ?_⟩
  rcases h.2 with h' | ⟨g, cap, cur, h1, h2, h3, h4⟩
  · exact Or.inl h'
  · refine Or.inr ⟨g, cap, cur, h1, h2, (hb.block g ?_).trans h3, h4⟩
    rcases Nat.lt_or_ge g W.heap.size with hlt | hge
    · exact hlt
    · rw [Array.getElem?_eq_none hge] at h3; cases h3
/-- .. and where some blocks turn that it does not lie in. -/
theorem own_keepN {W u : World} {base n size : Nat} {e : TypeId} {v : Value} {xs : List Value} {F : Nat → Prop} (k : Keeps F W u) (hn : ∀ g, v.ownBlock = some g → ¬ F g) (h : W.ownsRow base e size v n xs) : u.ownsRow base e size v n xs := by
  refine ⟨h.1, ?_⟩
  rcases h.2 with h' | ⟨g, cap, cur, h1, h2, h3, h4⟩
  · exact Or.inl h'
  · refine Or.inr ⟨g, cap, cur, h1, h2, (k.block g ?_ (hn g (by rw [h1]; rfl))).trans h3, h4⟩
    rcases Nat.lt_or_ge g W.heap.size with hlt | hge
    · exact hlt
    · rw [Array.getElem?_eq_none hge] at h3; cases h3
/-- .. and where another row grows. -/
theorem own_grownN {W u : World} {base n size : Nat} {e : TypeId} {v : Value} {xs : List Value} {row : Option Nat} (hg : W.grownBy u row) (hn : ∀ g, v.ownBlock = some g → some g ≠ row) (h : W.ownsRow base e size v n xs) : u.ownsRow base e size v n xs := by
  refine ⟨h.1, ?_⟩
  rcases h.2 with h' | ⟨g, cap, cur, h1, h2, h3, h4⟩
  · exact Or.inl h'
  · refine Or.inr ⟨g, cap, cur, h1, h2, (hg.block g ?_ (hn g (by rw [h1]; rfl))).trans h3, h4⟩
    rcases Nat.lt_or_ge g W.heap.size with hlt | hge
    · exact hlt
    · rw [Array.getElem?_eq_none hge] at h3; cases h3
theorem own_intsN {w : World} {base k : Nat} {v : Value} {t : Nat → Int} (h : w.ownsRow base 3 1 v k (icn t k)) (hk : k ≤ 9223372036854775807) : ∃ a cap, v = .slice a k cap ∧ NHanded w a k t ∧ (k = 0 ∨ ∃ g, a = some ⟨g, 0, none⟩ ∧ v.ownBlock = some g) := by
  rcases h.2 with ⟨rfl, e⟩ | ⟨g, cap, cur, rfl, hb, hg, hc, _, hcs, htk⟩
  · subst e
    exact ⟨none, 0, rfl, ⟨hk, Or.inl rfl⟩, Or.inl rfl⟩
  · refine ⟨_, cap, rfl, ⟨hk, Or.inr ⟨g, 0, rfl, fun i hi => ?_⟩⟩, Or.inr ⟨g, rfl, rfl⟩⟩
    rw [Nat.zero_add, h.cellAt i (by omega)]
    exact icn_at t hi
theorem own_capN {w : World} {base k : Nat} {v : Value} {t : Nat → Int} (h : w.ownsRow base 3 1 v k (icn t k)) (hk : k ≤ 9223372036854775807) : ∃ a cap, v = .slice a k cap ∧ NHanded w a k t ∧ k ≤ cap := by
  rcases h.2 with ⟨rfl, e⟩ | ⟨g, cap, cur, rfl, hb, hg, hc, _, hcs, htk⟩
  · subst e
    exact ⟨none, 0, rfl, ⟨hk, Or.inl rfl⟩, Nat.le_refl _⟩
  · refine ⟨_, cap, rfl, ⟨hk, Or.inr ⟨g, 0, rfl, fun i hi => ?_⟩⟩, hc⟩
    rw [Nat.zero_add, h.cellAt i (by omega)]
    exact icn_at t hi
theorem row2N {W : World} {B : Nat} {z : Nat → Int} (r : Row W B [.int .i64 (z 0), .int .i64 (z 1)]) : NHanded W (some ⟨B, 0, none⟩) 2 z := ⟨by omega, Or.inr ⟨B, 0, rfl, fun i hi => by
  have : i = 0 ∨ i = 1 := by omega
  rcases this with rfl | rfl
  · exact r.c 0 _ rfl
  · exact r.c 1 _ rfl⟩⟩
theorem in64N {n : Int} (h : -9223372036854775808 ≤ n ∧ n ≤ 9223372036854775807) : (Lit.int .i64 n).wf = true := by
  simp [Lit.wf, IntKind.min, IntKind.max, IntKind.signed, IntKind.bits]
  omega
end Go.Proofs.YthejaecljkjliakDoor
