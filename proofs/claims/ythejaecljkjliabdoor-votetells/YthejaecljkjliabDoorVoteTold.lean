/- What the closure of vote.Most makes of a span of numbers that are in as many. -/
import Derived.Test.YthejaecljkjliabDoorVoteToldS
namespace Go.Proofs.YthejaecljkjliabDoor
open Go.ChangeShapes Go.WideShapes Go.ChangeAt Go.RowKit
set_option linter.unusedVariables false
set_option linter.unusedSimpArgs false

/-- What lies in the variables of vote.Most. -/
structure MostIn (Bb Bm : Nat) (a : Int × Int × Int) (u : World) : Prop where
  best : Row u Bb [.int .i64 a.1, .int .i64 a.2.1]
  most : Row u Bm [.int .i64 a.2.2]
  ge : -1000000000000 ≤ a.2.1
  le : a.2.1 ≤ 1000000000000
theorem MostIn.on {Bb Bm : Nat} {a : Int × Int × Int} {u u' : World} (h : MostIn Bb Bm a u) (hb : Below u.heap.size u u') : MostIn Bb Bm a u' := ⟨Row.on hb h.best, Row.on hb h.most, h.ge, h.le⟩

set_option maxHeartbeats 1000000 in
theorem most1 (Bb Bm : Nat) (ne : Bb ≠ Bm) (a : Int × Int × Int) (lo hi k : Int) (w : World) (h : MostIn Bb Bm a w) (h1 : -1000000000000 ≤ hi) (h2 : hi ≤ 1000000000000) :
    Calls Tryd.prog 40 #[.agg #[.int .i64 lo, .int .i64 hi], .int .i64 k, .pointer (some ⟨Bm, 0, none⟩), .pointer (some ⟨Bb, 0, none⟩)] w fun e w' =>
      e = .returned (.tuple #[]) ∧ MostIn Bb Bm (mostT a lo hi k) w' ∧ Keeps (fun b => b = Bb ∨ b = Bm) w w' := by
  obtain ⟨x, y, m⟩ := a
  obtain ⟨PB, PM, b1, b2⟩ := h
  simp only at PB PM b1 b2
  have zB := PB.lt
  have zM := PM.lt
  have cB0 := PB.c 0 _ rfl
  have cB1 := PB.c 1 _ rfl
  have fB0 := PB.f 0 _ rfl
  have fB1 := PB.f 1 _ rfl
  have cM0 := PM.c 0 _ rfl
  have fM0 := PM.f 0 _ rfl
  have n1 : ¬ (Bb = w.heap.size) := by omega
  have n2 : ¬ (Bm = w.heap.size) := by omega
  have n3 : ¬ (w.heap.size = Bb) := by omega
  have n4 : ¬ (w.heap.size = Bm) := by omega
  have ne2 : ¬ (Bb = Bm) := ne
  have ne3 : ¬ (Bm = Bb) := fun e => ne e.symm
  by_cases c1 : m < k
  · have T : Hid (mostT (x, y, m) lo hi k = (lo, hi, k)) := if_pos c1
    go_enter Tryd.func40, Tryd.ntmps40
    go_wp2
    (try simp only [Exit.inBlock, Exit.then]); refine bodyPost_ret (results_none rfl _ _ _) rfl ?_
    rw [T.out]
    exact ⟨rfl, ⟨Row.al (Row.far ne3 (Row.put 1 (Row.put 0 PB))), Row.al (Row.put 0 (Row.far ne2 (Row.far ne2 PM))), h1, h2⟩, .al (.put (Or.inr rfl) (.put (Or.inl rfl) (.put (Or.inl rfl) (.refl _ _))))⟩
  · by_cases c2 : k = m
    · by_cases c3 : lo = y + 1
      · have T : Hid (mostT (x, y, m) lo hi k = (x, hi, m)) := (if_neg c1).trans (if_pos ⟨c2, c3⟩)
        subst c2 c3
        go_enter Tryd.func40, Tryd.ntmps40
        go_wp2
        go_end0
        rw [T.out]
        exact ⟨rfl, ⟨Row.al (Row.put 1 PB), Row.al (Row.far ne2 PM), h1, h2⟩, .al (.put (Or.inl rfl) (.refl _ _))⟩
      · have T : Hid (mostT (x, y, m) lo hi k = (x, y, m)) := (if_neg c1).trans (if_neg (fun e => c3 e.2))
        subst c2
        have c4 : (lo == y + 1) = false := by simpa using c3
        go_enter Tryd.func40, Tryd.ntmps40
        go_wp2
        go_end0
        rw [T.out]
        exact ⟨rfl, ⟨Row.al PB, Row.al PM, b1, b2⟩, .al (.refl _ _)⟩
    · have T : Hid (mostT (x, y, m) lo hi k = (x, y, m)) := (if_neg c1).trans (if_neg (fun e => c2 e.1))
      have c4 : (k == m) = false := by simpa using c2
      go_enter Tryd.func40, Tryd.ntmps40
      go_wp2
      go_end0
      rw [T.out]
      exact ⟨rfl, ⟨Row.al PB, Row.al PM, b1, b2⟩, .al (.refl _ _)⟩
end Go.Proofs.YthejaecljkjliabDoor
