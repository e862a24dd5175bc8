/- slices.Index and slices.Contains of a row of nodes; what package tree's otherEnd answers. -/
import Derived.Test.YtjdeeeefapijeaeDoorTreeRef
namespace Go.Proofs.YtjdeeeefapijeaeDoor
open Go.ChangeShapes Go.WideShapes Go.ChangeAt Go.RowKit Go.Joins
set_option linter.unusedVariables false
set_option linter.unusedSimpArgs false

/-- Nodes lie from the start of a block on. -/
def Nod (u : World) (g : Nat) (l : List Nat) : Prop := ∀ j c, l[j]? = some c → u.cell? ⟨g, j, none⟩ = some (.int .i64 (c : Nat))
set_option maxRecDepth 100000 in
set_option maxHeartbeats 4000000 in
theorem index_any (g k cap : Nat) (l : List Nat) (x : Nat) (w : World) (hk : l.length = k) (h6 : k ≤ 6) (hN : Nod w g l) :
    Calls Tryd.prog 83 #[.slice (some ⟨g, 0, none⟩) k cap, .int .i64 x] w fun e w' => ∃ r : Int, e = .returned (.int .i64 r) ∧ ((0 ≤ r ∧ x ∈ l) ∨ (r = -1 ∧ ¬ x ∈ l)) ∧ w' = w := by
  have HN : Hid (Nod w g l) := hN
  have HL : Hid (l.length = k) := hk
  clear hN hk
  go_enter Tryd.func83, Tryd.ntmps83
  go_wp2
  go_loopw [8] (fun i wr => ∃ j : Nat, j ≤ k ∧ i = .int .i64 j ∧ wr = w ∧ ∀ i, i < j → l[i]? ≠ some x) (fun i _ => k - (intOf i).toNat)
  case atStart => exact ⟨0, Nat.zero_le _, rfl, rfl, fun j hj => by omega⟩
  case round =>
    obtain ⟨j, hj, rfl, hwr, hg⟩ := hrel
    rw [hwr]
    clear hwr
    have HG : Hid (∀ i, i < j → l[i]? ≠ some x) := hg
    clear hg
    by_cases hlt : j < k
    · have hl3 : (j : Int) < k := by omega
      obtain ⟨y, hy⟩ : ∃ y, l[j]? = some y := ⟨_, List.getElem?_eq_getElem (by have := HL.out; omega)⟩
      have c0 := HN.out j y hy
      by_cases e : x = y
      · have d1 : ((x : Int) == (y : Int)) = true := beq_iff_eq.2 (by omega)
        have HY : Hid (x ∈ l) := by show x ∈ l; rw [e]; exact List.mem_of_getElem? hy
        clear HG HN e hy
        as_aux_lemma =>
          go_wp2
          go_ret
          exact ⟨_, rfl, Or.inl ⟨by omega, HY.out⟩, rfl⟩
      · have d1 : ((x : Int) == (y : Int)) = false := by simp; omega
        have HY : Hid (∀ i, i < j + 1 → l[i]? ≠ some x) := fun i hi => by
          by_cases q : i = j
          · rw [q, hy]; intro h; exact e (Option.some.inj h).symm
          · exact HG.out i (by omega)
        clear HG HN e hy
        as_aux_lemma =>
          go_wp2
          go_roundw
          case rel => exact ⟨j + 1, by omega, by go_num, by first | rfl | trivial, HY.out⟩
          case measure => simp [intOf]; omega
    · have hl3 : ¬ ((j : Int) < k) := by omega
      have HY : Hid (¬ x ∈ l) := fun h => by
        obtain ⟨i, hi, e⟩ := List.getElem_of_mem h
        have := HL.out
        exact HG.out i (by omega) (by rw [List.getElem?_eq_getElem hi, e])
      clear HG HN
      go_wp2
      go_ret
      exact ⟨_, rfl, Or.inr ⟨rfl, HY.out⟩, rfl⟩
set_option maxRecDepth 100000 in
set_option maxHeartbeats 4000000 in
theorem contains_any (g k cap : Nat) (l : List Nat) (x : Nat) (w : World) (hk : l.length = k) (h6 : k ≤ 6) (hN : Nod w g l) :
    Calls Tryd.prog 75 #[.slice (some ⟨g, 0, none⟩) k cap, .int .i64 x] w fun e w' => e = .returned (.bool (decide (x ∈ l))) ∧ w' = w := by
  have cI := index_any g k cap l x w hk h6 hN
  clear hN hk h6
  by_cases h : x ∈ l
  · rw [decide_eq_true h]
    have HX : Hid (x ∈ l) := h
    clear h
    go_enter Tryd.func75, Tryd.ntmps75
    go_wp2_with (go_at_call 83; go_loud (refine cI.mono ?_; rintro e u0 ⟨r, rfl, hr, hu⟩; rw [hu]; clear hu; have hr1 : 0 ≤ r := hr.elim (fun h => h.1) (fun h => absurd HX.out h.2); clear hr))
    go_ret
    exact ⟨rfl, rfl⟩
  · rw [decide_eq_false h]
    have HX : Hid (¬ x ∈ l) := h
    clear h
    go_enter Tryd.func75, Tryd.ntmps75
    go_wp2_with (go_at_call 83; go_loud (refine cI.mono ?_; rintro e u0 ⟨r, rfl, hr, hu⟩; rw [hu]; clear hu; have hr1 : r = -1 := hr.elim (fun h => absurd h.2 HX.out) (fun h => h.1); clear hr; subst hr1))
    go_ret
    exact ⟨rfl, rfl⟩
set_option maxRecDepth 100000 in
set_option maxHeartbeats 4000000 in
theorem otherEnd_any (A B : Nat) (lo hi : Int) (x : Nat) (w : World) :
    Calls Tryd.prog 74 #[.agg #[.int .i64 A, .int .i64 B, .int .i64 lo, .int .i64 hi], .int .i64 x] w fun e w' => e = .returned (.int .i64 (if x = A then (B : Int) else A)) ∧ Below w.heap.size w w' := by
  by_cases h : x = A
  · rw [if_pos h]
    have d1 : ((x : Int) == (A : Int)) = true := beq_iff_eq.2 (by omega)
    clear h
    go_enter Tryd.func74, Tryd.ntmps74
    go_wp2
    go_ret
    exact ⟨rfl, rbel_al (Below.refl _ _)⟩
  · rw [if_neg h]
    have d1 : ((x : Int) == (A : Int)) = false := by simp; omega
    clear h
    go_enter Tryd.func74, Tryd.ntmps74
    go_wp2
    go_ret
    exact ⟨rfl, rbel_al (Below.refl _ _)⟩
end Go.Proofs.YtjdeeeefapijeaeDoor
