/- Bytes in a row, and how the document's own reckoning tells them: plain mathematics. -/
import Derived.Test.YtfmaoblhoafnhaiWireDefR
import Derived.OneCell
import Derived.Lib.SmallJoins
import Derived.OwnWalk
namespace Go.Proofs.Ytfmaoblhoafnhai
open Go.ChangeShapes Go.WideShapes Go.ChangeAt Go.RowKit Go.Joins
set_option linter.unusedVariables false
set_option linter.unusedSimpArgs false

/-- Bytes as cells. -/
def bcs (l : List UInt8) : List Value := l.map fun b => .int .u8 (b.toNat : Int)
theorem bcs_app (a b : List UInt8) : bcs (a ++ b) = bcs a ++ bcs b := List.map_append
theorem bcs_len (a : List UInt8) : (bcs a).length = a.length := List.length_map _
theorem bcs_one (a : List UInt8) : ∀ u ∈ bcs a, u.oneCell' = true := by
  intro u hu
  obtain ⟨b, _, rfl⟩ := List.mem_map.1 hu
  rfl
theorem bcs_at {a : List UInt8} {i : Nat} (h : i < a.length) : (bcs a)[i]? = some (.int .u8 ((a[i]).toNat : Int)) := by
  unfold bcs
  rw [List.getElem?_map, List.getElem?_eq_getElem h]
  rfl
/-- By what a number is divided, byte by byte. -/
def kk (i : Nat) : Nat := 1099511627776 / 256 ^ i
theorem kk_pos {i : Nat} (h : i < 6) : 1 ≤ kk i ∧ kk i ≤ 1099511627776 ∧ kk i / 256 = kk (i + 1) := by
  have : i = 0 ∨ i = 1 ∨ i = 2 ∨ i = 3 ∨ i = 4 ∨ i = 5 := by omega
  rcases this with rfl | rfl | rfl | rfl | rfl | rfl <;> decide
theorem ofNat_mod (n : Nat) : UInt8.ofNat (n % 256) = UInt8.ofNat n := by
  apply UInt8.toNat_inj.1
  rw [ofNat_toNat, ofNat_toNat]
  omega
theorem six_take (n : Nat) {i : Nat} (h : i < 6) : (six n).take (i + 1) = (six n).take i ++ [UInt8.ofNat (n / kk i % 256)] := by
  rw [ofNat_mod]
  have : i = 0 ∨ i = 1 ∨ i = 2 ∨ i = 3 ∨ i = 4 ∨ i = 5 := by omega
  have e5 : n / kk 5 = n := by show n / (1099511627776 / 256 ^ 5) = n; simp
  rcases this with rfl | rfl | rfl | rfl | rfl | rfl
  · rfl
  · rfl
  · rfl
  · rfl
  · rfl
  · rw [e5]; rfl
theorem six_all (n : Nat) : (six n).take 6 = six n := rfl
theorem fold_take {f : Nat → UInt8 → Nat} {l : List UInt8} {i : Nat} (h : i < l.length) : (l.take (i + 1)).foldl f 0 = f ((l.take i).foldl f 0) l[i] := by
  rw [List.take_succ_eq_append_getElem h, List.foldl_append]
  rfl
theorem valB_lt (l : List UInt8) : valB l < 256 ^ l.length := by
  unfold valB
  have : ∀ (l : List UInt8) (v n : Nat), v < 256 ^ n → l.foldl (fun v b => v * 256 + b.toNat) v < 256 ^ (n + l.length) := by
    intro l
    induction l with
    | nil => intro v n h; exact h
    | cons b r ih =>
      intro v n h
      have hb := b.toNat_lt
      have := ih (v * 256 + b.toNat) (n + 1) (by rw [Nat.pow_succ]; omega)
      rw [show n + 1 + r.length = n + (b :: r).length by simp; omega] at this
      exact this
  have := this l 0 0 (by decide)
  rwa [Nat.zero_add] at this
theorem smB_le (l : List UInt8) : smB l ≤ l.length * 255 := by
  unfold smB
  have : ∀ (l : List UInt8) (v : Nat), l.foldl (fun v b => v + b.toNat) v ≤ v + l.length * 255 := by
    intro l
    induction l with
    | nil => intro v; simp
    | cons b r ih =>
      intro v
      have hb := b.toNat_lt
      have := ih (v + b.toNat)
      simp only [List.foldl_cons, List.length_cons]
      omega
  have := this l 0
  omega
end Go.Proofs.Ytfmaoblhoafnhai
