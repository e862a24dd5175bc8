/- Package span's calls with one word for the error (errv: nil of 0), so that a law may take them without parting: what comes and which error, by relations on plain numbers. -/
import Derived.Test.YtonlhhkepclnpaaDoorSpanMore
import Derived.Test.YtonlhhkepclnpaaDoorSpanText
import Derived.Test.YtonlhhkepclnpaaDoorReadSpan
import Derived.Test.YtonlhhkepclnpaaDoorRef1Meet
import Derived.Test.YtonlhhkepclnpaaDoorTold
namespace Go.Proofs.YtonlhhkepclnpaaDoor
open Go.ChangeShapes Go.WideShapes Go.ChangeAt Go.RowKit Go.Joins Go.Proofs.YtonlhhkepclnpaaDoor.told
set_option linter.unusedVariables false

theorem two0 {u : World} {b : Nat} {v0 v1 o0 o1 : Value} (h0 : u.cell? ⟨b, 0, none⟩ = some o0) (h1 : u.cell? ⟨b, 1, none⟩ = some o1) : ((u.setCell ⟨b, 0, none⟩ v0).setCell ⟨b, 1, none⟩ v1).cell? ⟨b, 0, none⟩ = some v0 := by
  rw [World.cell?_setCell_other _ _ _ _ (by simp), World.cell?_setCell_same _ _ _ h0]
theorem two1 {u : World} {b : Nat} {v0 v1 o0 o1 : Value} (h0 : u.cell? ⟨b, 0, none⟩ = some o0) (h1 : u.cell? ⟨b, 1, none⟩ = some o1) : ((u.setCell ⟨b, 0, none⟩ v0).setCell ⟨b, 1, none⟩ v1).cell? ⟨b, 1, none⟩ = some v1 := by
  have h2 : (u.setCell ⟨b, 0, none⟩ v0).cell? ⟨b, 1, none⟩ = some o1 := by rw [World.cell?_setCell_other _ _ _ _ (by simp)]; exact h1
  rw [World.cell?_setCell_same _ _ _ h2]

theorem errv0 : errv 0 = .nilIface := by unfold errv; rw [if_pos rfl]
theorem errvk (k : Int) (h : k ≠ 0) : errv k = .iface 54 (.int .i64 k) := by unfold errv; rw [if_neg h]

/-- What Widen answers: the span, and the error's number. -/
def WidenR (a b n x y f : Int) : Prop := (okB a b = true ∧ 0 ≤ n ∧ n ≤ 1000000000000 ∧ okB (a - n) (b + n) = true ∧ x = a - n ∧ y = b + n ∧ f = 0) ∨ ((okB a b = false ∨ n < 0 ∨ 1000000000000 < n ∨ okB (a - n) (b + n) = false) ∧ x = 0 ∧ y = 0 ∧ f = 1)

theorem widen_any (a b n x y f : Int) (w : World) (h : Hid (WidenR a b n x y f)) :
    Calls Tryd.prog 13 #[.agg #[.int .i64 a, .int .i64 b], .int .i64 n] w fun e w' => e = .returned (.tuple #[.agg #[.int .i64 x, .int .i64 y], errv f]) ∧ Below w.heap.size w w' := by
  rcases h.out with ⟨k, h1, h2, h3, rfl, rfl, rfl⟩ | ⟨hh, rfl, rfl, rfl⟩
  · rw [errv0]; exact widen_ok a b n w k h1 h2 h3
  · rw [errvk 1 (by decide)]
    cases k : okB a b with
    | false => exact widen_no a b n w k
    | true =>
      by_cases h1 : n < 0
      · exact widen_low a b n w k h1
      · by_cases h2 : 1000000000000 < n
        · exact widen_high a b n w k h2
        · refine widen_out a b n w k (by omega) (by omega) ?_
          rcases hh with g | g | g | g
          · rw [k] at g; cases g
          · exact absurd g h1
          · exact absurd g h2
          · exact g

/-- What Meet answers. -/
def MeetR (a b c d x y f : Int) : Prop := (∃ u v : Int, ((c < a ∧ u = a) ∨ (a ≤ c ∧ u = c)) ∧ ((b < d ∧ v = b) ∨ (d ≤ b ∧ v = d)) ∧ ((u ≤ v ∧ x = u ∧ y = v ∧ f = 0) ∨ (v < u ∧ x = 0 ∧ y = 0 ∧ f = 5)))

theorem meet_sym (a b c d x y f : Int) (w : World) (h1 : okB a b = true) (h2 : okB c d = true) (h : Hid (MeetR a b c d x y f)) :
    Calls Tryd.prog 19 #[.agg #[.int .i64 a, .int .i64 b], .agg #[.int .i64 c, .int .i64 d]] w fun e w' => e = .returned (.tuple #[.agg #[.int .i64 x, .int .i64 y], errv f]) ∧ Below w.heap.size w w' := by
  obtain ⟨u, v, hu, hv, h⟩ := h.out
  rcases h with ⟨h3, rfl, rfl, rfl⟩ | ⟨h3, rfl, rfl, rfl⟩
  · rw [errv0]; exact meet_ok a b c d w h1 h2 x y (by omega) (by omega) h3
  · rw [errvk 5 (by decide)]; exact meet_none a b c d w h1 h2 u v (by omega) (by omega) h3

/-- What Add answers. -/
def AddR (a b c d x y f : Int) : Prop := (okB (a + c) (b + d) = true ∧ x = a + c ∧ y = b + d ∧ f = 0) ∨ (okB (a + c) (b + d) = false ∧ x = 0 ∧ y = 0 ∧ f = 1)

theorem add_sym (a b c d x y f : Int) (w : World) (h1 : okB a b = true) (h2 : okB c d = true) (h : Hid (AddR a b c d x y f)) :
    Calls Tryd.prog 20 #[.agg #[.int .i64 a, .int .i64 b], .agg #[.int .i64 c, .int .i64 d]] w fun e w' => e = .returned (.tuple #[.agg #[.int .i64 x, .int .i64 y], errv f]) ∧ Below w.heap.size w w' := by
  rcases h.out with ⟨h3, rfl, rfl, rfl⟩ | ⟨h3, rfl, rfl, rfl⟩
  · rw [errv0]; exact add_ok a b c d w h1 h2 h3
  · rw [errvk 1 (by decide)]; exact add_out a b c d w h1 h2 h3

/-- What Parse and the document's own reading answer of a text. -/
def ParseR (l : List UInt8) (x y f : Int) : Prop := (parseL l = some (x, y) ∧ okB x y = true ∧ f = 0) ∨ (∃ u v, parseL l = some (u, v) ∧ okB u v = false ∧ x = 0 ∧ y = 0 ∧ f = 1) ∨ (parseL l = none ∧ x = 0 ∧ y = 0 ∧ f = 2)

theorem parseR_ex (l : List UInt8) : ∃ x y f, ParseR l x y f := by
  cases h : parseL l with
  | none => exact ⟨0, 0, 2, Or.inr (Or.inr ⟨h, rfl, rfl, rfl⟩)⟩
  | some xy =>
    obtain ⟨u, v⟩ := xy
    cases k : okB u v with
    | true => exact ⟨u, v, 0, Or.inl ⟨h, k, rfl⟩⟩
    | false => exact ⟨0, 0, 1, Or.inr (Or.inl ⟨u, v, h, k, rfl, rfl, rfl⟩)⟩

theorem parse_any (s : ByteArray) (x y f : Int) (w : World) (hs : s.size < 4294967281) (he : Env w) (h : Hid (ParseR s.data.toList x y f)) :
    Calls Tryd.prog 22 #[.string s] w fun e w' => e = .returned (.tuple #[.agg #[.int .i64 x, .int .i64 y], errv f]) ∧ Below w.heap.size w w' := by
  rcases h.out with ⟨h1, h2, rfl⟩ | ⟨u, v, h1, h2, rfl, rfl, rfl⟩ | ⟨h1, rfl, rfl, rfl⟩
  · rw [errv0]; exact parse_ok s x y w hs he h1 h2
  · rw [errvk 1 (by decide)]; exact parse_range s u v w hs he h1 h2
  · rw [errvk 2 (by decide)]; exact parse_syntax s w hs he h1

theorem readSpan_any (s : ByteArray) (x y f : Int) (w : World) (hs : s.size < 4294967281) (h : Hid (ParseR s.data.toList x y f)) :
    Calls Tryd.prog 21 #[.string s] w fun e w' => e = .returned (.tuple #[.agg #[.int .i64 x, .int .i64 y], .int .i64 f]) ∧ Below w.heap.size w w' := by
  obtain ⟨a, ha⟩ := ba_of (Lib.cut s.data.toList [46, 46]).1
  obtain ⟨b, hb⟩ := ba_of (Lib.cut s.data.toList [46, 46]).2.1
  have hle := cut_le s.data.toList [46, 46]
  rw [← ha, ← hb, ← Lib.size_eq, ← Lib.size_eq, ← Lib.size_eq] at hle
  have la : a.size ≤ maxLen := by unfold maxLen; omega
  have lb : b.size ≤ maxLen := by unfold maxLen; omega
  have h := h.out
  unfold ParseR parseL at h
  rw [← ha, ← hb] at h
  cases hf : (Lib.cut s.data.toList [46, 46]).2.2 with
  | false =>
    rw [hf] at h
    simp at h
    obtain ⟨rfl, rfl, rfl⟩ := h
    exact readSpan_cut s a b w hs ha hb hf la lb
  | true =>
    rw [if_pos hf] at h
    cases h1 : readNum a.data.toList with
    | none =>
      rw [h1] at h
      simp at h
      obtain ⟨rfl, rfl, rfl⟩ := h
      cases h2 : readNum b.data.toList with
      | none => exact readSpan_nn s a b w hs ha hb hf la lb h1 h2
      | some q => exact readSpan_ns s a b q w hs ha hb hf la lb h1 h2
    | some p =>
      cases h2 : readNum b.data.toList with
      | none =>
        rw [h1, h2] at h
        simp at h
        obtain ⟨rfl, rfl, rfl⟩ := h
        exact readSpan_sn s a b p w hs ha hb hf la lb h1 h2
      | some q =>
        rw [h1, h2] at h
        rcases h with ⟨e, k, rfl⟩ | ⟨u, v, e, k, rfl, rfl, rfl⟩ | ⟨e, _⟩
        · simp only [Option.some.injEq, Prod.mk.injEq] at e
          obtain ⟨rfl, rfl⟩ := e
          exact readSpan_in s a b p q w hs ha hb hf la lb h1 h2 k
        · simp only [Option.some.injEq, Prod.mk.injEq] at e
          obtain ⟨rfl, rfl⟩ := e
          exact readSpan_out s a b p q w hs ha hb hf la lb h1 h2 k
        · cases e
end Go.Proofs.YtonlhhkepclnpaaDoor
