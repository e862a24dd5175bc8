/- A chain of edges that all say the same: its least ways: plain mathematics. -/
import Derived.Test.YtjdeeeefapijeaeDoorBoundsMore
namespace Go.Proofs.YtjdeeeefapijeaeDoor
open Go.ChangeShapes Go.WideShapes Go.ChangeAt Go.RowKit
set_option linter.unusedVariables false

/-- Edge i of the chain: from i to i + 1. -/
def chain (lo hi : Int) (i : Nat) : Eg := ⟨i, (i : Int) + 1, lo, hi⟩
section
variable {lo hi : Int} {m : Nat}
theorem chain_arc {u v : Nat} {c : Int} (g : Arc (chain lo hi) m u v c) : (v = u + 1 ∧ u < m ∧ c = hi) ∨ (u = v + 1 ∧ v < m ∧ c = -lo) := by
  obtain ⟨j, hj, ⟨h1, h2, h3⟩ | ⟨h1, h2, h3⟩⟩ := g
  · have h1' : (u : Int) = j := h1
    have h2' : (v : Int) = (j : Int) + 1 := h2
    exact Or.inl ⟨by omega, by omega, h3⟩
  · have h1' : (u : Int) = (j : Int) + 1 := h1
    have h2' : (v : Int) = j := h2
    exact Or.inr ⟨by omega, by omega, h3⟩
theorem chain_fwd {u : Nat} (h : u < m) : Arc (chain lo hi) m u (u + 1) hi := ⟨u, h, Or.inl ⟨rfl, by show ((u + 1 : Nat) : Int) = (u : Int) + 1; omega, rfl⟩⟩
theorem chain_bwd {u : Nat} (h : u < m) : Arc (chain lo hi) m (u + 1) u (-lo) := ⟨u, h, Or.inr ⟨by show ((u + 1 : Nat) : Int) = (u : Int) + 1; omega, rfl, rfl⟩⟩
/-- Along it. -/
theorem chain_way : ∀ k, k ≤ m → Wk (Arc (chain lo hi) m) k 0 k ((k : Int) * hi)
  | 0, _ => by
    have := Wk.nil (R := Arc (chain lo hi) m) 0
    simpa using this
  | k + 1, h => by
    have w := (chain_way k (by omega)).snoc (chain_fwd (lo := lo) (hi := hi) (show k < m by omega))
    rw [show (((k + 1 : Nat) : Int)) * hi = (k : Int) * hi + hi by rw [show (((k + 1 : Nat) : Int)) = (k : Int) + 1 by omega, Int.add_mul, Int.one_mul]]
    exact w
/-- .. and back. -/
theorem chain_back : ∀ k, k ≤ m → Wk (Arc (chain lo hi) m) k k 0 (-((k : Int) * lo))
  | 0, _ => by
    have := Wk.nil (R := Arc (chain lo hi) m) 0
    simpa using this
  | k + 1, h => by
    have w := ((Wk.nil (k + 1)).snoc (chain_bwd (lo := lo) (hi := hi) (show k < m by omega))).app (chain_back k (by omega))
    rw [show (-((((k + 1 : Nat) : Int)) * lo)) = (0 + -lo) + -((k : Int) * lo) by rw [show (((k + 1 : Nat) : Int)) = (k : Int) + 1 by omega, Int.add_mul, Int.one_mul]; omega]
    rw [show k + 1 = 0 + 1 + k by omega] at *
    exact w
/-- Clocks that go by s from node to node fit, if s is in the span. -/
theorem chain_fit {s : Int} (h1 : lo ≤ s) (h2 : s ≤ hi) : ∀ u v c, Arc (chain lo hi) m u v c → (fun i : Nat => (i : Int) * s) v - (fun i : Nat => (i : Int) * s) u ≤ c := fun u v c g => by
  simp only
  rcases chain_arc g with ⟨rfl, _, rfl⟩ | ⟨rfl, _, rfl⟩
  · rw [show (((u + 1 : Nat) : Int)) = (u : Int) + 1 by omega, Int.add_mul, Int.one_mul]; omega
  · rw [show (((v + 1 : Nat) : Int)) = (v : Int) + 1 by omega, Int.add_mul, Int.one_mul]; omega
theorem chain_not_neg (h : lo ≤ hi) (n : Nat) : ¬ Neg (Arc (chain lo hi) m) n := fun k => k.unfit (chain_fit h (Int.le_refl hi))
theorem chain_dst (h : lo ≤ hi) : Dst (Arc (chain lo hi) m) 0 m ((m : Int) * hi) := by
  refine ⟨⟨m, chain_way m (Nat.le_refl _)⟩, fun r c w => ?_⟩
  have := wk_fit (chain_fit h (Int.le_refl hi)) w
  have e : (m : Int) * hi - ((0 : Nat) : Int) * hi ≤ c := this
  have z : ((0 : Nat) : Int) * hi = 0 := by simp
  omega
theorem chain_dst_back (h : lo ≤ hi) : Dst (Arc (chain lo hi) m) m 0 (-((m : Int) * lo)) := by
  refine ⟨⟨m, chain_back m (Nat.le_refl _)⟩, fun r c w => ?_⟩
  have := wk_fit (chain_fit (Int.le_refl lo) h) w
  have e : ((0 : Nat) : Int) * lo - (m : Int) * lo ≤ c := this
  have z : ((0 : Nat) : Int) * lo = 0 := by simp
  omega
/-- A way of r arcs of at most 1000 each. -/
theorem wk_small {R : Nat → Nat → Int → Prop} (hR : ∀ u v c, R u v c → -1000 ≤ c ∧ c ≤ 1000) : ∀ {r i k : Nat} {c : Int}, Wk R r i k c → -((r : Int) * 1000) ≤ c ∧ c ≤ (r : Int) * 1000 := by
  intro r
  induction r with
  | zero =>
    intro i k c w
    obtain ⟨_, rfl⟩ := w.zero
    omega
  | succ r ih =>
    intro i k c w
    obtain ⟨j, a, b, w1, g, rfl⟩ := w.last
    have h1 := ih w1
    have h2 := hR _ _ _ g
    omega
end
theorem chain_egs {lo hi : Int} {n : Nat} (h2 : 2 ≤ n) (h6 : n ≤ 6) (l1 : -1000 ≤ lo) (l2 : lo ≤ hi) (l3 : hi ≤ 1000) : Egs n (chain lo hi) (n - 1) :=
  ⟨by omega, by omega, by omega, fun i hi' => ⟨⟨by show (0 : Int) ≤ i; omega, by show (i : Int) < n; omega, by show (0 : Int) ≤ (i : Int) + 1; omega, by show (i : Int) + 1 < n; omega⟩, by show (i : Int) ≠ (i : Int) + 1; omega, okB_mk ⟨l2, by show (-1000000000000 : Int) ≤ lo; omega, by show hi ≤ 1000000000000; omega⟩⟩⟩
theorem chain_near {lo hi : Int} {n : Nat} {T : Tb} (h2 : 2 ≤ n) (h6 : n ≤ 6) (l1 : -1000 ≤ lo) (l2 : lo ≤ hi) (l3 : hi ≤ 1000) (hT : IsT (chain lo hi) (n - 1) n T) : ¬ Far n T := by
  rintro ⟨i, k, x, hi', hk, e, g⟩
  have hE := chain_egs h2 h6 l1 l2 l3
  obtain ⟨⟨r, w⟩, mn⟩ := (hT i k hi').1 x e
  obtain ⟨r', c', a1, a2, w'⟩ := short hE.arc (not_neg (chain_not_neg l2 n)) r i k x hi' w
  have b1 := mn _ _ w'
  have b2 := wk_small (R := Arc (chain lo hi) (n - 1)) (fun u v c q => by rcases chain_arc q with ⟨_, _, rfl⟩ | ⟨_, _, rfl⟩ <;> omega) w'
  omega
end Go.Proofs.YtjdeeeefapijeaeDoor
