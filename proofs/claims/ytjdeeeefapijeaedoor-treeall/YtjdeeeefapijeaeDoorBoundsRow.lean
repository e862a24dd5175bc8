/- Edges that a law lays in a row of its own. -/
import Derived.Test.YtjdeeeefapijeaeDoorBoundsLine
import Derived.OwnWalk
namespace Go.Proofs.YtjdeeeefapijeaeDoor
open Go.ChangeShapes Go.WideShapes Go.ChangeAt Go.RowKit
set_option linter.unusedVariables false

theorem infoEdge : (Tryd.prog.info? 43).map (fun i => (i.zero, i.size, i.bytes)) = some (some (.agg #[.int .i64 0, .int .i64 0, .int .i64 0, .int .i64 0]), 4, 32) := by kernel_rfl
theorem in64_small {n : Int} (h1 : -4611686018427387904 ≤ n) (h2 : n ≤ 4611686018427387904) : In64 n := by
  show (Lit.int .i64 n).wf = true
  simp [Lit.wf, IntKind.min, IntKind.max, IntKind.signed, IntKind.bits]
  omega
/-- The cells of the first k edges. -/
def ecs (q : Nat → Eg) : Nat → List Value
  | 0 => []
  | k + 1 => ecs q k ++ [.int .i64 (q k).a, .int .i64 (q k).b, .int .i64 (q k).lo, .int .i64 (q k).hi]
theorem ecs_len (q : Nat → Eg) : ∀ k, (ecs q k).length = k * 4
  | 0 => rfl
  | k + 1 => by
    simp only [ecs, List.length_append, ecs_len q k, List.length_cons, List.length_nil]
    omega
theorem ecs_at (q : Nat → Eg) : ∀ k i, i < k → (ecs q k)[i * 4]? = some (.int .i64 (q i).a) ∧ (ecs q k)[i * 4 + 1]? = some (.int .i64 (q i).b) ∧ (ecs q k)[i * 4 + 2]? = some (.int .i64 (q i).lo) ∧ (ecs q k)[i * 4 + 3]? = some (.int .i64 (q i).hi)
  | 0, i, h => by omega
  | k + 1, i, h => by
    have len := ecs_len q k
    simp only [ecs]
    by_cases e : i = k
    · subst e
      rw [List.getElem?_append_right (by omega), List.getElem?_append_right (by omega), List.getElem?_append_right (by omega), List.getElem?_append_right (by omega), len]
      rw [show i * 4 - i * 4 = 0 by omega, show i * 4 + 1 - i * 4 = 1 by omega, show i * 4 + 2 - i * 4 = 2 by omega, show i * 4 + 3 - i * 4 = 3 by omega]
      exact ⟨rfl, rfl, rfl, rfl⟩
    · rw [List.getElem?_append_left (by omega), List.getElem?_append_left (by omega), List.getElem?_append_left (by omega), List.getElem?_append_left (by omega)]
      exact ecs_at q k i (by omega)
theorem own_edges {w : World} {base k : Nat} {v : Value} {q : Nat → Eg} (h : w.ownsRow base 43 4 v k (ecs q k)) (hk : k ≤ 9223372036854775807) : ∃ a cap, v = .slice a k cap ∧ EHanded w a k q := by
  rcases h.2 with ⟨rfl, e⟩ | ⟨g, cap, cur, rfl, _, hg, _, _, hcs, htk⟩
  · subst e
    exact ⟨none, 0, rfl, hk, Or.inl rfl⟩
  · refine ⟨_, cap, rfl, hk, Or.inr ⟨g, 0, rfl, fun i hi => ?_⟩⟩
    have cl : ∀ j v, (ecs q k)[j]? = some v → w.cell? ⟨g, j, none⟩ = some v := fun j v hv => by
      rw [← htk, List.getElem?_take] at hv
      split at hv
      case isFalse => cases hv
      unfold World.cell?
      rw [show w.heap[(⟨g, j, none⟩ : Addr).block]? = _ from hg]
      simpa using hv
    obtain ⟨x0, x1, x2, x3⟩ := ecs_at q k i hi
    rw [Nat.zero_add]
    exact ⟨cl _ _ x0, cl _ _ x1, cl _ _ x2, cl _ _ x3⟩
theorem ecs_congr {q q' : Nat → Eg} : ∀ k, (∀ i, i < k → q i = q' i) → ecs q k = ecs q' k
  | 0, _ => rfl
  | k + 1, h => by simp only [ecs]; rw [ecs_congr k (fun i hi => h i (by omega)), h k (by omega)]
/-- What a chain answers. -/
theorem chain_bet {lo hi : Int} {m : Nat} (h1 : 1 ≤ m) (h5 : m ≤ 5) (l1 : -1000 ≤ lo) (l2 : lo ≤ hi) (l3 : hi ≤ 1000) :
    BetA ((m + 1 : Nat) : Int) (chain lo hi) m 0 m ((m : Int) * lo) ((m : Int) * hi) 0 ∧ BetA ((m + 1 : Nat) : Int) (chain lo hi) m m 0 (-((m : Int) * hi)) (-((m : Int) * lo)) 0 := by
  have hE : Egs ((m + 1 : Nat) : Int) (chain lo hi) m := chain_egs (n := m + 1) (by omega) (by omega) l1 l2 l3
  have h0 : eE ((m + 1 : Nat) : Int) (chain lo hi) m = 0 := by
    unfold eE
    rw [if_neg (by omega), if_neg (by omega)]
    refine eFr_ok fun i hi' => ?_
    obtain ⟨⟨a1, a2, a3, a4⟩, ne, ok⟩ := hE.each i hi'
    unfold eEr
    rw [if_neg (by omega), if_neg ne, if_pos ok]
  have hN : ¬ Neg (Arc (chain lo hi) m) (m + 1) := chain_not_neg l2 _
  obtain ⟨T, hT⟩ := isT_some hE hN
  have hF : ¬ Far (m + 1) T := chain_near (n := m + 1) (by omega) (by omega) l1 l2 l3 hT
  have hA : AllA (chain lo hi) m (m + 1) 0 T := Or.inr ⟨hN, hT, Or.inr ⟨hF, rfl⟩⟩
  have d1 := chain_dst (m := m) l2
  have d2 := chain_dst_back (m := m) l2
  have t1 : T 0 m = some ((m : Int) * hi) := by
    cases e : T 0 m with
    | none => obtain ⟨⟨r, w⟩, _⟩ := d1; exact absurd w ((hT 0 m (by omega)).2 e r _)
    | some x => rw [((hT 0 m (by omega)).1 x e).one d1]
  have t2 : T m 0 = some (-((m : Int) * lo)) := by
    cases e : T m 0 with
    | none => obtain ⟨⟨r, w⟩, _⟩ := d2; exact absurd w ((hT m 0 (by omega)).2 e r _)
    | some x => rw [((hT m 0 (by omega)).1 x e).one d2]
  refine ⟨Or.inr (Or.inr ⟨h0, by omega, 0, T, by rw [Int.toNat_natCast]; exact hA, Or.inr (Or.inr ⟨rfl, ⟨_, t1⟩, ?_, ?_, rfl⟩)⟩), Or.inr (Or.inr ⟨h0, by omega, 0, T, by rw [Int.toNat_natCast]; exact hA, Or.inr (Or.inr ⟨rfl, ⟨_, t2⟩, ?_, ?_, rfl⟩)⟩)⟩
  · show (m : Int) * lo = spLo T 0 m
    unfold spLo
    rw [t1, t2]
    show (m : Int) * lo = - -((m : Int) * lo)
    omega
  · show (m : Int) * hi = spHi T 0 m
    unfold spHi
    rw [t1]; rfl
  · show -((m : Int) * hi) = spLo T m 0
    unfold spLo
    rw [t2, t1]; rfl
  · show -((m : Int) * lo) = spHi T m 0
    unfold spHi
    rw [t2]; rfl
theorem prod_small {m : Nat} {x : Int} (h5 : m ≤ 5) (l1 : -1000 ≤ x) (l2 : x ≤ 1000) : -5000 ≤ (m : Int) * x ∧ (m : Int) * x ≤ 5000 := by
  match m, h5 with
  | 0, _ => omega
  | 1, _ => omega
  | 2, _ => omega
  | 3, _ => omega
  | 4, _ => omega
  | 5, _ => omega
end Go.Proofs.YtjdeeeefapijeaeDoor
