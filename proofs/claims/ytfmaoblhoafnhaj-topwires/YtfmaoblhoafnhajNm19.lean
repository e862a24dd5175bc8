/- What packages net, wire and bounds must answer of a net's letters and edges. Packages net, wire, bounds and probe, as TopWires wants them. -/
import Derived.Test.YtfmaoblhoafnhajNm18
import Derived.Test.YtfmaoblhoafnhajNm03
import Derived.Lib.SmallJoins
import Derived.BigRegion
import Derived.Test.YtfmaoblhoafnhajNm14
import Derived.Test.YtfmaoblhoafnhajBoundsChk
import Derived.Test.YtfmaoblhoafnhajProbeOff
import Derived.Test.YtfmaoblhoafnhajNm05
namespace Go.Proofs.Ytfmaoblhoafnhaj
open Go.ChangeShapes Go.WideShapes Go.ChangeAt Go.RowKit Go.Joins
set_option linter.unusedVariables false
set_option linter.unusedSimpArgs false

/-- Package net: Offset and Edges. -/
structure NtX (w0 : World) extends NtO w0 where
  edges : ∀ (b : Nat) (F : Nat → Prop) (N : Nn) (u : World), R u b F N → N.T → Calls Try.prog 12 #[.pointer (some ⟨b, 0, none⟩)] u fun o w' => ∃ (ea : Option Addr) (ec : Nat), o = .returned (.tuple #[.slice ea (eoN N).length ec, .nilIface]) ∧ EHanded w' ea (eoN N).length (egf (eoN N)) ∧ Below u.heap.size u w'
/-- Packages bounds and probe, behind a world w0. -/
structure TpW (w0 : World) : Prop where
  check : ∀ (n : Nat) (a : Option Addr) (m cap : Nat) (q : Nat → Eg) (u : World), Below w0.heap.size w0 u → EHanded u a m q → eE n q m = 0 → Calls Try.prog 13 #[.int .i64 n, .slice a m cap] u fun o w' => o = .returned .nilIface ∧ Below u.heap.size u w'
  off : ∀ (u : World), Calls Try.prog 18 #[.agg #[.int .i64 0, .int .i64 100, .int .i64 100, .int .i64 10], .int .i64 0] u fun r w' => r = .returned (.tuple #[.agg #[.int .i64 90, .int .i64 102], .nilIface]) ∧ Below u.heap.size u w'
set_option maxRecDepth 100000 in
theorem one_wires {w0 : World} (O : TpW w0) (w : World) : Calls Try.prog 6 #[] w fun r w' => r = .returned (.bool true) ∧ Below w.heap.size w w' := by
  have cO := O.off
  clear O
  go_enter Try.func6, Try.ntmps6
  go_wp2_with (go_at_call 18; refine (cO _).mono ?_; rintro o u1 ⟨rfl, hb⟩; have B1 : Hid (Below w.heap.size w u1) := hb; clear hb)
  go_ret
  exact ⟨rfl, rbel_al B1.out⟩
/-- What is told of two nodes: an error, or a span that is right. -/
theorem off_some {N : Nn} (g : N.T) (a b : Int) : ∃ lo hi e, BetA N.W.n (egf (eoN N)) (eoN N).length a b lo hi e ∧ (e = 0 → okB lo hi = true) := by
  obtain ⟨T, hA⟩ := eoN_all g
  obtain ⟨lo, hi, e, h⟩ := betA_some (egs_e (eoN_egs g)) hA a b
  refine ⟨lo, hi, e, h, fun z => ?_⟩
  by_cases c : 0 ≤ a ∧ a < N.W.n ∧ 0 ≤ b ∧ b < N.W.n
  · rcases eoN_bet g c h with ⟨e5, _⟩ | ⟨_, l1, l2, l3, l4, _⟩
    · omega
    · exact okB_mk ⟨by omega, by omega, by omega⟩
  · rcases h with ⟨q, _, _, e1⟩ | ⟨_, _, _, _, e1⟩ | ⟨_, q, _⟩
    · exact absurd (e1.symm.trans z) q
    · omega
    · exact absurd q c
/-- An edge's letter is right. -/
theorem edge_lt {N : Nn} (g : N.T) {i : Nat} (hi : i < (eoN N).length) : ltE ⟨(egf (eoN N) i).a, (egf (eoN N) i).b, false, 0, 0, i⟩ = 0 ∧ (0 ≤ (egf (eoN N) i).a ∧ (egf (eoN N) i).a < 6) ∧ (0 ≤ (egf (eoN N) i).b ∧ (egf (eoN N) i).b < 6) := by
  obtain ⟨a', b', k1, k2, k3, k4, k5, k6, _, _, k7, k8, k9, k10⟩ := (eoN_mem g (egf_mem hi)).ex
  have l := eoN_len g
  have n6 := g.g.i.n6
  refine ⟨?_, by omega, by omega⟩
  unfold ltE
  simp only
  rw [if_neg (by omega), if_neg (by
    rintro (e | ⟨_, e⟩)
    · omega
    · omega)]
end Go.Proofs.Ytfmaoblhoafnhaj
namespace Go.Proofs.Ytfmaoblhoafnhaj
open Go.ChangeShapes Go.WideShapes Go.ChangeAt Go.RowKit Go.Joins
set_option linter.unusedVariables false
set_option linter.unusedSimpArgs false

def ntx (w : World) : NtX w := { nto w with
  edges := fun b F N u hR hT => by
    obtain ⟨L, hP, rfl⟩ := hR
    exact (nedges_net hP hT).mono fun _ _ ⟨ea, ec, h1, h2, h3, _⟩ => ⟨ea, ec, h1, h2, h3⟩
  }
theorem tpw {w : World} : TpW w where
  check := fun n a m cap q u _ hH h => by
    have := check_any n a m cap q u hH
    rw [h, errc_zero] at this
    exact this
  off := fun u => by
    have := off_ok 0 100 100 10 0 u (by decide)
    exact this
end Go.Proofs.Ytfmaoblhoafnhaj
