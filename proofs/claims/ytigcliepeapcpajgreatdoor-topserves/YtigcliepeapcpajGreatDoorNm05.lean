/- Letters' cells, one behind the other. What arguments of types []int are. -/
import Derived.Test.YtigcliepeapcpajGreatDoorNm03
import Derived.OneCell
import Derived.Lib.SmallJoins
import Derived.OwnWalk
import Derived.Test.YtigcliepeapcpajGreatDoorNm04
import Derived.Deep.Slices
import Derived.Deep.Strs
import Derived.ChangeSlices
import Derived.OpenShut
namespace Go.Proofs.YtigcliepeapcpajGreatDoor
open Go.ChangeShapes Go.WideShapes Go.ChangeAt Go.RowKit Go.Joins
set_option linter.unusedVariables false
set_option linter.unusedSimpArgs false

theorem infoLetter : (Tryz.prog.info? 81).map (fun i => (i.zero, i.size, i.bytes)) = some (some (.agg #[.int .i64 0, .int .i64 0, .bool false, .int .i64 0, .int .i64 0, .int .i64 0]), 6, 48) := by kernel_rfl
/-- Letters' cells, one behind the other. -/
def lcs : List Lt → List Value
  | [] => []
  | l :: r => ltc l ++ lcs r
theorem lcs_app (a b : List Lt) : lcs (a ++ b) = lcs a ++ lcs b := by
  induction a with
  | nil => rfl
  | cons l r ih => show ltc l ++ lcs (r ++ b) = ltc l ++ lcs r ++ lcs b; rw [ih, List.append_assoc]
theorem lcs_len (a : List Lt) : (lcs a).length = a.length * 6 := by
  induction a with
  | nil => rfl
  | cons l r ih => show (ltc l ++ lcs r).length = (r.length + 1) * 6; rw [List.length_append, ih]; show 6 + _ = _; omega
theorem ltc_one (l : Lt) : ∀ u ∈ ltc l, u.oneCell' = true := by
  intro u hu
  simp [ltc] at hu
  rcases hu with rfl | rfl | rfl | rfl | rfl | rfl <;> rfl
theorem lcs_one (a : List Lt) : ∀ u ∈ lcs a, u.oneCell' = true := by
  induction a with
  | nil => intro u hu; cases hu
  | cons l r ih =>
    intro u hu
    rcases List.mem_append.1 hu with h | h
    · exact ltc_one l u h
    · exact ih u h
theorem lcs_at {a : List Lt} {i : Nat} {q : Lt} (h : a[i]? = some q) {j : Nat} {v : Value} (hv : (ltc q)[j]? = some v) : (lcs a)[i * 6 + j]? = some v := by
  induction a generalizing i with
  | nil => cases h
  | cons l r ih =>
    show (ltc l ++ lcs r)[i * 6 + j]? = some v
    cases i with
    | zero =>
      obtain rfl := Option.some.inj h
      have lt : j < (ltc l).length := by
        rcases Nat.lt_or_ge j (ltc l).length with h | h
        · exact h
        · rw [List.getElem?_eq_none h] at hv; cases hv
      rw [Nat.zero_mul, Nat.zero_add, List.getElem?_append_left lt]
      exact hv
    | succ i =>
      have l6 : (ltc l).length = 6 := rfl
      rw [List.getElem?_append_right (by rw [l6]; omega), l6, show (i + 1) * 6 + j - 6 = i * 6 + j by omega]
      exact ih h
end Go.Proofs.YtigcliepeapcpajGreatDoor
namespace Go.Proofs.YtigcliepeapcpajGreatDoor
open Go.ChangeShapes Go.WideShapes Go.ChangeAt Go.RowKit Go.Joins Go.Deep
set_option linter.unusedVariables false

section
variable {H : Type} {enc : TypeId × Value → H} {w : World} {base : Nat} {spare : Nat → Bool} {held : Bool}
set_option maxRecDepth 100000 in
theorem open_nums {fuel : Nat} {cs : List Value} {x : DataW H × List MemPlace} (h : DataW.trod enc Tryz.prog w base spare held fuel 22 cs = some x) :
    ∃ (a : Option Addr) (n cap : Nat) (z : Nat → Int), cs = [.slice a n cap] ∧ NHanded w a n z ∧ ∀ j, j < n → In64 (z j) := by
  have k : Tryz.prog.cellsOf 3 = 1 := by kernel_rfl
  rcases Go.ChangeShapes.open_ints Tryz.underlying22 Tryz.underlying3 k h with ⟨hcs, hx⟩ | ⟨a', len', cap', zs, hcs, hb, hl, hm, hlen, hx, hcell, hwf⟩
  · exact ⟨none, 0, 0, fun _ => 0, hcs, ⟨by omega, Or.inl rfl⟩, fun j hj => by omega⟩
  · unfold maxLen at hm
    have hnz : len' ≤ zs.length := by rw [hlen]; split <;> omega
    by_cases h0 : len' = 0
    · exact ⟨_, len', cap', fun _ => 0, hcs, ⟨by omega, Or.inl h0⟩, fun j hj => by omega⟩
    obtain ⟨b, off, spot⟩ := a'
    have hspot : spot = none := by simpa [Addr.add] using World.cell?_spot (hcell 0 (by omega))
    subst hspot
    refine ⟨_, len', cap', fun i => zs.getD i 0, hcs, ⟨by omega, Or.inr ⟨b, off, rfl, fun i hi => ?_⟩⟩, fun j hj => ?_⟩
    · have g := hcell i (by omega)
      rwa [add_plain] at g
    · have jl : j < zs.length := by omega
      show In64 (zs.getD j 0)
      rw [List.getD_eq_getElem?_getD, List.getElem?_eq_getElem jl]
      exact hwf _ (List.getElem_mem jl)
set_option maxRecDepth 100000 in
theorem open_ns {r : Reach} {b0 : Nat} {v : Value} {d : DataW H} {p : List MemPlace} (hv : Value.okWide Tryz.prog w r b0 22 v) (h : DataW.Trod enc Tryz.prog w base spare held 22 v d p) :
    ∃ (a : Option Addr) (n cap : Nat) (z : Nat → Int), v = .slice a n cap ∧ NHanded w a n z ∧ ∀ j, j < n → In64 (z j) := by
  obtain ⟨a, n, cap, rfl⟩ := okWide_slice Tryz.underlying22 hv
  obtain ⟨fuel, hf⟩ := h
  have hf' : DataW.trod enc Tryz.prog w base spare held fuel 22 [.slice a n cap] = some (d, p) := by simpa [Value.cells] using hf
  obtain ⟨a2, n2, c2, z, e, h1⟩ := open_nums hf'
  simp at e
  obtain ⟨rfl, rfl, rfl⟩ := e
  exact ⟨a, n, cap, z, rfl, h1⟩
end
end Go.Proofs.YtigcliepeapcpajGreatDoor
