/- What package wire answers: ReadLetter: bytes of another length. What package span answers: Check. -/
import Derived.Test.YtfmaoblhoafnhajWirePkgL
import Derived.Deep.QuietTactic
import Derived.Deep.RegionHeld
import Derived.Test.YtfmaoblhoafnhajNm01
import Derived.Deep.Draws
namespace Go.Proofs.Ytfmaoblhoafnhaj
open Go.ChangeShapes Go.WideShapes Go.ChangeAt Go.RowKit Go.Joins
set_option linter.unusedVariables false
set_option linter.unusedSimpArgs false

theorem str_neW {q s : ByteArray} (h : ¬ q = s) : (q.toList == s.toList) = false := by
  rw [beq_eq_false_iff_ne, ByteArray.toList_eq, ByteArray.toList_eq]
  intro e
  exact h (ByteArray.ext (Array.toList_inj.1 e))
/-- What ReadLetter answers. -/
def RdP (e : Int) (q s : ByteArray) (lv : Value) (u : World) (o : Ending) (w' : World) : Prop := (((e ≠ 0 ∨ ¬ q = s) ∧ o = .returned (.tuple #[.agg #[.int .i64 0, .int .i64 0, .bool false, .int .i64 0, .int .i64 0, .int .i64 0], .iface 73 (.int .i64 2)])) ∨ (e = 0 ∧ q = s ∧ o = .returned (.tuple #[lv, .nilIface]))) ∧ Below u.heap.size u w'
theorem RdP.no {e : Int} {q s : ByteArray} {lv : Value} {u w' : World} (h : e ≠ 0 ∨ ¬ q = s) (hb : Below u.heap.size u w') : RdP e q s lv u (.returned (.tuple #[.agg #[.int .i64 0, .int .i64 0, .bool false, .int .i64 0, .int .i64 0, .int .i64 0], .iface 73 (.int .i64 2)])) w' := ⟨Or.inl ⟨h, rfl⟩, hb⟩
theorem RdP.yes {e : Int} {q s : ByteArray} {lv : Value} {u w' : World} (h : e = 0) (hq : q = s) (hb : Below u.heap.size u w') : RdP e q s lv u (.returned (.tuple #[lv, .nilIface])) w' := ⟨Or.inr ⟨h, hq, rfl⟩, hb⟩
set_option maxRecDepth 100000 in
set_option maxHeartbeats 8000000 in
theorem wread_len (s : ByteArray) (u : World) (h1 : ¬ s.size = 10) (h2 : ¬ s.size = 22) (hs : s.size ≤ 9223372036854775807) :
    Calls Try.prog 14 #[.string s] u fun o w' => o = .returned (.tuple #[.agg #[.int .i64 0, .int .i64 0, .bool false, .int .i64 0, .int .i64 0, .int .i64 0], .iface 73 (.int .i64 2)]) ∧ Below u.heap.size u w' := by
  have d1 : ((s.size : Int) != 10) = true := by simp; omega
  have d2 : ((s.size : Int) != 22) = true := by simp; omega
  go_enter Try.func14, Try.ntmps14
  go_wp2
  exact bodyPost_ret (v := .tuple #[.agg #[.int .i64 0, .int .i64 0, .bool false, .int .i64 0, .int .i64 0, .int .i64 0], .iface 73 (.int .i64 2)]) (by simp [results, Try.results14, go_sem, *]) rfl ⟨rfl, by first | exact rbel_al (Below.refl _ _) | exact rbel_put (Nat.le_refl _) (rbel_put (Nat.le_refl _) (rbel_put (Nat.le_refl _) (rbel_put (Nat.le_refl _) (rbel_put (Nat.le_refl _) (rbel_put (Nat.le_refl _) (rbel_al (Below.refl _ _)))))))⟩
end Go.Proofs.Ytfmaoblhoafnhaj
namespace Go.Proofs.Ytfmaoblhoafnhaj
open Go.ChangeShapes Go.WideShapes Go.ChangeAt Go.RowKit
set_option linter.unusedVariables false

theorem check_ok (lo hi : Int) (w : World) (h : okB lo hi = true) :
    Calls Try.prog 25 #[.agg #[.int .i64 lo, .int .i64 hi]] w fun e w' => e = .returned .nilIface ∧ Below w.heap.size w w' := by
  have h' := okB_t h
  obtain ⟨h1, h2, h3⟩ := h'
  clear h
  go_enter Try.func25, Try.ntmps25
  go_wp2
  go_ret
  exact ⟨rfl, (Below.refl _ _).alloc (Nat.le_refl _) _⟩

theorem check_no (lo hi : Int) (w : World) (h : okB lo hi = false) :
    Calls Try.prog 25 #[.agg #[.int .i64 lo, .int .i64 hi]] w fun e w' => e = .returned (.iface 73 (.int .i64 1)) ∧ Below w.heap.size w w' := by
  have h' := okB_f h
  clear h
  by_cases h1 : hi < lo
  · go_enter Try.func25, Try.ntmps25
    go_wp2
    go_ret
    exact ⟨rfl, (Below.refl _ _).alloc (Nat.le_refl _) _⟩
  · by_cases h2 : lo < -1000000000000
    · go_enter Try.func25, Try.ntmps25
      go_wp2
      go_ret
      exact ⟨rfl, (Below.refl _ _).alloc (Nat.le_refl _) _⟩
    · have h3 : 1000000000000 < hi := by omega
      clear h'
      go_enter Try.func25, Try.ntmps25
      go_wp2
      go_ret
      exact ⟨rfl, (Below.refl _ _).alloc (Nat.le_refl _) _⟩
end Go.Proofs.Ytfmaoblhoafnhaj
