/- Clocks go within their bounds: plain mathematics. -/
import Derived.Test.YtkmbllkkccelaahWorldMath
namespace Go.Proofs.Ytkmbllkkccelaah
set_option linter.unusedVariables false

theorem goes_in {S : Ws} (h : S.I) {i : Nat} (hi : i < S.n) {g p : Int} (g0 : 0 ≤ g) (r1 : -p ≤ S.rates i) (r2 : S.rates i ≤ p) : S.rd i ≤ ({ S with time := S.time + g } : Ws).rd i ∧ g * (1000000 - p) / 1000000 - 1 ≤ ({ S with time := S.time + g } : Ws).rd i - S.rd i ∧ ({ S with time := S.time + g } : Ws).rd i - S.rd i ≤ (g * (1000000 + p) + 1000000 - 1) / 1000000 + 1 := by
  obtain ⟨a, b, c⟩ := Ws.rd_go h hi g0
  have x1 : 0 ≤ g * (S.rates i + p) := Int.mul_nonneg g0 (by omega)
  have x2 : 0 ≤ g * (p - S.rates i) := Int.mul_nonneg g0 (by omega)
  have e1 : g * (S.rates i + p) = g * S.rates i + g * p := by grind
  have e2 : g * (p - S.rates i) = g * p - g * S.rates i := by grind
  have e3 : g * (1000000 - p) = g * 1000000 - g * p := by grind
  have e4 : g * (1000000 + p) = g * 1000000 + g * p := by grind
  rw [e3, e4]
  refine ⟨a, ?_, ?_⟩
  · generalize g * S.rates i = q at *
    generalize g * p = t at *
    omega
  · generalize g * S.rates i = q at *
    generalize g * p = t at *
    omega
end Go.Proofs.Ytkmbllkkccelaah
