/- Two letters held against each other: they differ. -/
import Derived.Test.YtfmaoblhoafnhaiWireDef
import Derived.Laws.StructEq
import Derived.Laws.IdiomStrings
namespace Go.Proofs.Ytfmaoblhoafnhai
open Go.ChangeShapes Go.WideShapes Go.ChangeAt Go.RowKit
set_option linter.unusedVariables false
set_option linter.unusedSimpArgs false

set_option maxRecDepth 100000 in
theorem eq_lt {m l : Lt} (h : m ≠ l) (u : World) : (Op.equalIn 10000 51 (.agg #[.int .i64 m.frm, .int .i64 m.to, .bool m.ans, .int .i64 m.t1, .int .i64 m.t2, .int .i64 m.t]) (.agg #[.int .i64 l.frm, .int .i64 l.to, .bool l.ans, .int .i64 l.t1, .int .i64 l.t2, .int .i64 l.t])).run Try.prog u = .ok false u := by
  have hs : Try.prog.underlying 51 = some (.struct (Try.prog.fieldsOf 51)) := by kernel_rfl
  rw [run_equalIn_struct u 9999 _ _ _ hs (by kernel_rfl)]
  have e := TypeDesc.struct.inj (Option.some.inj (hs.symm.trans Try.underlying51))
  rw [e]
  have E : ∀ (x y : Int) (w : World), (Op.equalIn 9999 3 (.int .i64 x) (.int .i64 y)).run Try.prog w = .ok (x == y) w := fun x y w => run_equalIn_int w 9998 3 .i64 .i64 x y Try.underlying3
  have EB : ∀ (x y : Bool) (w : World), (Op.equalIn 9999 4 (.bool x) (.bool y)).run Try.prog w = .ok (x == y) w := fun x y w => run_equalIn_bool' w 9998 4 x y Try.underlying4
  obtain ⟨m1, m2, m6, m3, m4, m5⟩ := m
  obtain ⟨l1, l2, l6, l3, l4, l5⟩ := l
  have p : ∀ (i : Nat) (a b : Int) (c : Bool) (d e f : Int) (v : Value) (hv : (#[Value.int .i64 a, .int .i64 b, .bool c, .int .i64 d, .int .i64 e, .int .i64 f] : Array Value)[i]? = some v) (w : World), (part 3 #[.int .i64 a, .int .i64 b, .bool c, .int .i64 d, .int .i64 e, .int .i64 f] i).run Try.prog w = .ok v w := fun i a b c d e f v hv w => by simp [part, isAgg, run_underlying Try.underlying3, hv]
  have pb : ∀ (i : Nat) (a b : Int) (c : Bool) (d e f : Int) (v : Value) (hv : (#[Value.int .i64 a, .int .i64 b, .bool c, .int .i64 d, .int .i64 e, .int .i64 f] : Array Value)[i]? = some v) (w : World), (part 4 #[.int .i64 a, .int .i64 b, .bool c, .int .i64 d, .int .i64 e, .int .i64 f] i).run Try.prog w = .ok v w := fun i a b c d e f v hv w => by simp [part, isAgg, run_underlying Try.underlying4, hv]
  have q0 := fun a b c d e f w => p 0 a b c d e f _ rfl w
  have q1 := fun a b c d e f w => p 1 a b c d e f _ rfl w
  have q2 := fun a b c d e f w => pb 2 a b c d e f _ rfl w
  have q3 := fun a b c d e f w => p 3 a b c d e f _ rfl w
  have q4 := fun a b c d e f w => p 4 a b c d e f _ rfl w
  have q5 := fun a b c d e f w => p 5 a b c d e f _ rfl w
  have d : ¬ (m1 = l1 ∧ m2 = l2 ∧ m6 = l6 ∧ m3 = l3 ∧ m4 = l4 ∧ m5 = l5) := fun ⟨a, b, c, d, e, f⟩ => h (by subst a b c d e f; rfl)
  clear h e hs p pb
  by_cases d1 : m1 = l1
  · by_cases d2 : m2 = l2
    · by_cases d6 : m6 = l6
      · by_cases d3 : m3 = l3
        · by_cases d4 : m4 = l4
          · have d5 : ¬ m5 = l5 := fun x => d ⟨d1, d2, d6, d3, d4, x⟩
            simp [Op.eqFields, q0, q1, q2, q3, q4, q5, E, EB, d1, d2, d3, d4, d5, d6]
          · simp [Op.eqFields, q0, q1, q2, q3, q4, q5, E, EB, d1, d2, d3, d4, d6]
        · simp [Op.eqFields, q0, q1, q2, q3, q4, q5, E, EB, d1, d2, d3, d6]
      · simp [Op.eqFields, q0, q1, q2, q3, q4, q5, E, EB, d1, d2, d6]
    · simp [Op.eqFields, q0, q1, q2, q3, q4, q5, E, EB, d1, d2]
  · simp [Op.eqFields, q0, q1, q2, q3, q4, q5, E, EB, d1]
end Go.Proofs.Ytfmaoblhoafnhai
