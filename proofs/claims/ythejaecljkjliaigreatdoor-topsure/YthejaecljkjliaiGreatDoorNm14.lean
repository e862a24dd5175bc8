/- A chain of edges that all say the same: its least ways: plain mathematics. Edges that a law lays in a row of its own. What package loops says of steps: legOf, isStep, goesRound. -/
import Derived.Test.YthejaecljkjliaiGreatDoorNm07
import Derived.OwnWalk
import Derived.Test.YthejaecljkjliaiGreatDoorNm13
import Derived.Lib.SmallJoins
import Derived.Deep.CutRange
import Derived.BigRegion
import Derived.BigQuiet
import Derived.Deep.QuietTactic
import Derived.IntWalk
namespace Go.Proofs.YthejaecljkjliaiGreatDoor
open Go.ChangeShapes Go.WideShapes Go.ChangeAt Go.RowKit
set_option linter.unusedVariables false

/-- Edge i of the chain: from i to i + 1. -/
def chain (lo hi : Int) (i : Nat) : Eg := ⟨i, (i : Int) + 1, lo, hi⟩
section
variable {lo hi : Int} {m : Nat}
theorem chain_arc {u v : Nat} {c : Int} (g : Arc (chain lo hi) m u v c) : (v = u + 1 ∧ u < m ∧ c = hi) ∨ (u = v + 1 ∧ v < m ∧ c = -lo) := by
  obtain ⟨j, hj, ⟨h1, h2, h3⟩ | ⟨h1, h2, h3⟩⟩ := g
  · have h1' : (u : Int) = j := h1
    have h2' : (v : Int) = (j : Int) + 1 := h2
    exact Or.inl ⟨by omega, by omega, h3⟩
  · have h1' : (u : Int) = (j : Int) + 1 := h1
    have h2' : (v : Int) = j := h2
    exact Or.inr ⟨by omega, by omega, h3⟩
theorem chain_fwd {u : Nat} (h : u < m) : Arc (chain lo hi) m u (u + 1) hi := ⟨u, h, Or.inl ⟨rfl, by show ((u + 1 : Nat) : Int) = (u : Int) + 1; omega, rfl⟩⟩
theorem chain_bwd {u : Nat} (h : u < m) : Arc (chain lo hi) m (u + 1) u (-lo) := ⟨u, h, Or.inr ⟨by show ((u + 1 : Nat) : Int) = (u : Int) + 1; omega, rfl, rfl⟩⟩
/-- Along it. -/
theorem chain_way : ∀ k, k ≤ m → Wk (Arc (chain lo hi) m) k 0 k ((k : Int) * hi)
  | 0, _ => by
    have := Wk.nil (R := Arc (chain lo hi) m) 0
    simpa using this
  | k + 1, h => by
    have w := (chain_way k (by omega)).snoc (chain_fwd (lo := lo) (hi := hi) (show k < m by omega))
    rw [show (((k + 1 : Nat) : Int)) * hi = (k : Int) * hi + hi by rw [show (((k + 1 : Nat) : Int)) = (k : Int) + 1 by omega, Int.add_mul, Int.one_mul]]
    exact w
/-- .. and back. -/
theorem chain_back : ∀ k, k ≤ m → Wk (Arc (chain lo hi) m) k k 0 (-((k : Int) * lo))
  | 0, _ => by
    have := Wk.nil (R := Arc (chain lo hi) m) 0
    simpa using this
  | k + 1, h => by
    have w := ((Wk.nil (k + 1)).snoc (chain_bwd (lo := lo) (hi := hi) (show k < m by omega))).app (chain_back k (by omega))
    rw [show (-((((k + 1 : Nat) : Int)) * lo)) = (0 + -lo) + -((k : Int) * lo) by rw [show (((k + 1 : Nat) : Int)) = (k : Int) + 1 by omega, Int.add_mul, Int.one_mul]; omega]
    rw [show k + 1 = 0 + 1 + k by omega] at *
    exact w
/-- Clocks that go by s from node to node fit, if s is in the span. -/
theorem chain_fit {s : Int} (h1 : lo ≤ s) (h2 : s ≤ hi) : ∀ u v c, Arc (chain lo hi) m u v c → (fun i : Nat => (i : Int) * s) v - (fun i : Nat => (i : Int) * s) u ≤ c := fun u v c g => by
  simp only
  rcases chain_arc g with ⟨rfl, _, rfl⟩ | ⟨rfl, _, rfl⟩
  · rw [show (((u + 1 : Nat) : Int)) = (u : Int) + 1 by omega, Int.add_mul, Int.one_mul]; omega
  · rw [show (((v + 1 : Nat) : Int)) = (v : Int) + 1 by omega, Int.add_mul, Int.one_mul]; omega
theorem chain_not_neg (h : lo ≤ hi) (n : Nat) : ¬ Neg (Arc (chain lo hi) m) n := fun k => k.unfit (chain_fit h (Int.le_refl hi))
theorem chain_dst (h : lo ≤ hi) : Dst (Arc (chain lo hi) m) 0 m ((m : Int) * hi) := by
  refine ⟨⟨m, chain_way m (Nat.le_refl _)⟩, fun r c w => ?_⟩
  have := wk_fit (chain_fit h (Int.le_refl hi)) w
  have e : (m : Int) * hi - ((0 : Nat) : Int) * hi ≤ c := this
  have z : ((0 : Nat) : Int) * hi = 0 := by simp
  omega
theorem chain_dst_back (h : lo ≤ hi) : Dst (Arc (chain lo hi) m) m 0 (-((m : Int) * lo)) := by
  refine ⟨⟨m, chain_back m (Nat.le_refl _)⟩, fun r c w => ?_⟩
  have := wk_fit (chain_fit (Int.le_refl lo) h) w
  have e : ((0 : Nat) : Int) * lo - (m : Int) * lo ≤ c := this
  have z : ((0 : Nat) : Int) * lo = 0 := by simp
  omega
/-- A way of r arcs of at most 1000 each. -/
theorem wk_small {R : Nat → Nat → Int → Prop} (hR : ∀ u v c, R u v c → -1000 ≤ c ∧ c ≤ 1000) : ∀ {r i k : Nat} {c : Int}, Wk R r i k c → -((r : Int) * 1000) ≤ c ∧ c ≤ (r : Int) * 1000 := by
  intro r
  induction r with
  | zero =>
    intro i k c w
    obtain ⟨_, rfl⟩ := w.zero
    omega
  | succ r ih =>
    intro i k c w
    obtain ⟨j, a, b, w1, g, rfl⟩ := w.last
    have h1 := ih w1
    have h2 := hR _ _ _ g
    omega
end
theorem chain_egs {lo hi : Int} {n : Nat} (h2 : 2 ≤ n) (h6 : n ≤ 6) (l1 : -1000 ≤ lo) (l2 : lo ≤ hi) (l3 : hi ≤ 1000) : Egs n (chain lo hi) (n - 1) :=
  ⟨by omega, by omega, by omega, fun i hi' => ⟨⟨by show (0 : Int) ≤ i; omega, by show (i : Int) < n; omega, by show (0 : Int) ≤ (i : Int) + 1; omega, by show (i : Int) + 1 < n; omega⟩, by show (i : Int) ≠ (i : Int) + 1; omega, okB_mk ⟨l2, by show (-1000000000000 : Int) ≤ lo; omega, by show hi ≤ 1000000000000; omega⟩⟩⟩
theorem chain_near {lo hi : Int} {n : Nat} {T : Tb} (h2 : 2 ≤ n) (h6 : n ≤ 6) (l1 : -1000 ≤ lo) (l2 : lo ≤ hi) (l3 : hi ≤ 1000) (hT : IsT (chain lo hi) (n - 1) n T) : ¬ Far n T := by
  rintro ⟨i, k, x, hi', hk, e, g⟩
  have hE := chain_egs h2 h6 l1 l2 l3
  obtain ⟨⟨r, w⟩, mn⟩ := (hT i k hi').1 x e
  obtain ⟨r', c', a1, a2, w'⟩ := short hE.arc (not_neg (chain_not_neg l2 n)) r i k x hi' w
  have b1 := mn _ _ w'
  have b2 := wk_small (R := Arc (chain lo hi) (n - 1)) (fun u v c q => by rcases chain_arc q with ⟨_, _, rfl⟩ | ⟨_, _, rfl⟩ <;> omega) w'
  omega
end Go.Proofs.YthejaecljkjliaiGreatDoor
namespace Go.Proofs.YthejaecljkjliaiGreatDoor
open Go.ChangeShapes Go.WideShapes Go.ChangeAt Go.RowKit
set_option linter.unusedVariables false

theorem infoEdge : (Tryz.prog.info? 73).map (fun i => (i.zero, i.size, i.bytes)) = some (some (.agg #[.int .i64 0, .int .i64 0, .int .i64 0, .int .i64 0]), 4, 32) := by kernel_rfl
theorem in64_small {n : Int} (h1 : -4611686018427387904 ≤ n) (h2 : n ≤ 4611686018427387904) : In64 n := by
  show (Lit.int .i64 n).wf = true
  simp [Lit.wf, IntKind.min, IntKind.max, IntKind.signed, IntKind.bits]
  omega
/-- The cells of the first k edges. -/
def ecs (q : Nat → Eg) : Nat → List Value
  | 0 => []
  | k + 1 => ecs q k ++ [.int .i64 (q k).a, .int .i64 (q k).b, .int .i64 (q k).lo, .int .i64 (q k).hi]
theorem ecs_len (q : Nat → Eg) : ∀ k, (ecs q k).length = k * 4
  | 0 => rfl
  | k + 1 => by
    simp only [ecs, List.length_append, ecs_len q k, List.length_cons, List.length_nil]
    omega
theorem ecs_at (q : Nat → Eg) : ∀ k i, i < k → (ecs q k)[i * 4]? = some (.int .i64 (q i).a) ∧ (ecs q k)[i * 4 + 1]? = some (.int .i64 (q i).b) ∧ (ecs q k)[i * 4 + 2]? = some (.int .i64 (q i).lo) ∧ (ecs q k)[i * 4 + 3]? = some (.int .i64 (q i).hi)
  | 0, i, h => by omega
  | k + 1, i, h => by
    have len := ecs_len q k
    simp only [ecs]
    by_cases e : i = k
    · subst e
      rw [List.getElem?_append_right (by omega), List.getElem?_append_right (by omega), List.getElem?_append_right (by omega), List.getElem?_append_right (by omega), len]
      rw [show i * 4 - i * 4 = 0 by omega, show i * 4 + 1 - i * 4 = 1 by omega, show i * 4 + 2 - i * 4 = 2 by omega, show i * 4 + 3 - i * 4 = 3 by omega]
      exact ⟨rfl, rfl, rfl, rfl⟩
    · rw [List.getElem?_append_left (by omega), List.getElem?_append_left (by omega), List.getElem?_append_left (by omega), List.getElem?_append_left (by omega)]
      exact ecs_at q k i (by omega)
theorem own_edges {w : World} {base k : Nat} {v : Value} {q : Nat → Eg} (h : w.ownsRow base 73 4 v k (ecs q k)) (hk : k ≤ 9223372036854775807) : ∃ a cap, v = .slice a k cap ∧ EHanded w a k q := by
  rcases h.2 with ⟨rfl, e⟩ | ⟨g, cap, cur, rfl, _, hg, _, _, hcs, htk⟩
  · subst e
    exact ⟨none, 0, rfl, hk, Or.inl rfl⟩
  · refine ⟨_, cap, rfl, hk, Or.inr ⟨g, 0, rfl, fun i hi => ?_⟩⟩
    have cl : ∀ j v, (ecs q k)[j]? = some v → w.cell? ⟨g, j, none⟩ = some v := fun j v hv => by
      rw [← htk, List.getElem?_take] at hv
      split at hv
      case isFalse => cases hv
      unfold World.cell?
      rw [show w.heap[(⟨g, j, none⟩ : Addr).block]? = _ from hg]
      simpa using hv
    obtain ⟨x0, x1, x2, x3⟩ := ecs_at q k i hi
    rw [Nat.zero_add]
    exact ⟨cl _ _ x0, cl _ _ x1, cl _ _ x2, cl _ _ x3⟩
theorem ecs_congr {q q' : Nat → Eg} : ∀ k, (∀ i, i < k → q i = q' i) → ecs q k = ecs q' k
  | 0, _ => rfl
  | k + 1, h => by simp only [ecs]; rw [ecs_congr k (fun i hi => h i (by omega)), h k (by omega)]
/-- What a chain answers. -/
theorem chain_bet {lo hi : Int} {m : Nat} (h1 : 1 ≤ m) (h5 : m ≤ 5) (l1 : -1000 ≤ lo) (l2 : lo ≤ hi) (l3 : hi ≤ 1000) :
    BetA ((m + 1 : Nat) : Int) (chain lo hi) m 0 m ((m : Int) * lo) ((m : Int) * hi) 0 ∧ BetA ((m + 1 : Nat) : Int) (chain lo hi) m m 0 (-((m : Int) * hi)) (-((m : Int) * lo)) 0 := by
  have hE : Egs ((m + 1 : Nat) : Int) (chain lo hi) m := chain_egs (n := m + 1) (by omega) (by omega) l1 l2 l3
  have h0 : eE ((m + 1 : Nat) : Int) (chain lo hi) m = 0 := by
    unfold eE
    rw [if_neg (by omega), if_neg (by omega)]
    refine eFr_ok fun i hi' => ?_
    obtain ⟨⟨a1, a2, a3, a4⟩, ne, ok⟩ := hE.each i hi'
    unfold eEr
    rw [if_neg (by omega), if_neg ne, if_pos ok]
  have hN : ¬ Neg (Arc (chain lo hi) m) (m + 1) := chain_not_neg l2 _
  obtain ⟨T, hT⟩ := isT_some hE hN
  have hF : ¬ Far (m + 1) T := chain_near (n := m + 1) (by omega) (by omega) l1 l2 l3 hT
  have hA : AllA (chain lo hi) m (m + 1) 0 T := Or.inr ⟨hN, hT, Or.inr ⟨hF, rfl⟩⟩
  have d1 := chain_dst (m := m) l2
  have d2 := chain_dst_back (m := m) l2
  have t1 : T 0 m = some ((m : Int) * hi) := by
    cases e : T 0 m with
    | none => obtain ⟨⟨r, w⟩, _⟩ := d1; exact absurd w ((hT 0 m (by omega)).2 e r _)
    | some x => rw [((hT 0 m (by omega)).1 x e).one d1]
  have t2 : T m 0 = some (-((m : Int) * lo)) := by
    cases e : T m 0 with
    | none => obtain ⟨⟨r, w⟩, _⟩ := d2; exact absurd w ((hT m 0 (by omega)).2 e r _)
    | some x => rw [((hT m 0 (by omega)).1 x e).one d2]
  refine ⟨Or.inr (Or.inr ⟨h0, by omega, 0, T, by rw [Int.toNat_natCast]; exact hA, Or.inr (Or.inr ⟨rfl, ⟨_, t1⟩, ?_, ?_, rfl⟩)⟩), Or.inr (Or.inr ⟨h0, by omega, 0, T, by rw [Int.toNat_natCast]; exact hA, Or.inr (Or.inr ⟨rfl, ⟨_, t2⟩, ?_, ?_, rfl⟩)⟩)⟩
  · show (m : Int) * lo = spLo T 0 m
    unfold spLo
    rw [t1, t2]
    show (m : Int) * lo = - -((m : Int) * lo)
    omega
  · show (m : Int) * hi = spHi T 0 m
    unfold spHi
    rw [t1]; rfl
  · show -((m : Int) * hi) = spLo T m 0
    unfold spLo
    rw [t2, t1]; rfl
  · show -((m : Int) * lo) = spHi T m 0
    unfold spHi
    rw [t2]; rfl
theorem prod_small {m : Nat} {x : Int} (h5 : m ≤ 5) (l1 : -1000 ≤ x) (l2 : x ≤ 1000) : -5000 ≤ (m : Int) * x ∧ (m : Int) * x ≤ 5000 := by
  match m, h5 with
  | 0, _ => omega
  | 1, _ => omega
  | 2, _ => omega
  | 3, _ => omega
  | 4, _ => omega
  | 5, _ => omega
end Go.Proofs.YthejaecljkjliaiGreatDoor
namespace Go.Proofs.YthejaecljkjliaiGreatDoor
open Go.ChangeShapes Go.WideShapes Go.ChangeAt Go.RowKit Go.Joins
set_option linter.unusedVariables false
set_option linter.unusedSimpArgs false

abbrev lgv (a b c : Int) : Value := .agg #[.int .i64 a, .int .i64 b, .int .i64 c]
set_option maxRecDepth 100000 in
set_option maxHeartbeats 4000000 in
theorem legOf_along (b off m cap j : Nat) (qa qb ql qh : Int) (w : World) (hj : j < m) (h40 : m ≤ 40)
    (x0 : w.cell? ⟨b, off + j * 4, none⟩ = some (.int .i64 qa)) (x1 : w.cell? ⟨b, off + j * 4 + 1, none⟩ = some (.int .i64 qb)) (x2 : w.cell? ⟨b, off + j * 4 + 2, none⟩ = some (.int .i64 ql)) (x3 : w.cell? ⟨b, off + j * 4 + 3, none⟩ = some (.int .i64 qh)) :
    Calls Tryz.prog 107 #[.slice (some ⟨b, off, none⟩) m cap, .int .i64 ((j : Int) + 1)] w fun e w' => e = .returned (lgv qa qb qh) ∧ Below w.heap.size w w' := by
  have hbz : b < w.heap.size := World.block_lt_of_cell? _ _ x0
  have hl3 : (j : Int) < m := by omega
  have wj : IntKind.i64.wrap ((j : Int) + 1 - 1) = (j : Int) := by rw [show (j : Int) + 1 - 1 = j by omega]; exact IntWalk.i64_in _ (by omega)
  have hp : (0 : Int) < (j : Int) + 1 := by omega
  go_enter Tryz.func107, Tryz.ntmps107
  go_wp2
  exact bodyPost_ret (v := lgv qa qb qh) (by simp [results, Tryz.results107, go_sem, *]) rfl ⟨rfl, rbel_al (rbel_al (Below.refl _ _))⟩
set_option maxRecDepth 100000 in
set_option maxHeartbeats 4000000 in
theorem legOf_back (b off m cap j : Nat) (qa qb ql qh : Int) (w : World) (hj : j < m) (h40 : m ≤ 40) (hl : -1000000000000 ≤ ql) (hl' : ql ≤ 1000000000000)
    (x0 : w.cell? ⟨b, off + j * 4, none⟩ = some (.int .i64 qa)) (x1 : w.cell? ⟨b, off + j * 4 + 1, none⟩ = some (.int .i64 qb)) (x2 : w.cell? ⟨b, off + j * 4 + 2, none⟩ = some (.int .i64 ql)) (x3 : w.cell? ⟨b, off + j * 4 + 3, none⟩ = some (.int .i64 qh)) :
    Calls Tryz.prog 107 #[.slice (some ⟨b, off, none⟩) m cap, .int .i64 (-((j : Int) + 1))] w fun e w' => e = .returned (lgv qb qa (-ql)) ∧ Below w.heap.size w w' := by
  have hbz : b < w.heap.size := World.block_lt_of_cell? _ _ x0
  have hl3 : (j : Int) < m := by omega
  obtain ⟨x, hx⟩ : ∃ x : Int, x = -((j : Int) + 1) := ⟨_, rfl⟩
  rw [← hx]
  have wn : IntKind.i64.wrap (-x) = (j : Int) + 1 := by rw [show -x = (j : Int) + 1 by omega]; exact IntWalk.i64_in _ (by omega)
  have wj : IntKind.i64.wrap ((j : Int) + 1 - 1) = (j : Int) := by rw [show (j : Int) + 1 - 1 = j by omega]; exact IntWalk.i64_in _ (by omega)
  have wl : IntKind.i64.wrap (-ql) = -ql := IntWalk.i64_in _ (by omega)
  have hp : ¬ ((0 : Int) < x) := by omega
  clear hx
  go_enter Tryz.func107, Tryz.ntmps107
  go_wp2
  exact bodyPost_ret (v := lgv qb qa (-ql)) (by simp [results, Tryz.results107, go_sem, *]) rfl ⟨rfl, rbel_al (rbel_al (Below.refl _ _))⟩
theorem ok_two {m : Nat} {x : Int} (h : okS m x) : (∃ j : Nat, j < m ∧ x = (j : Int) + 1 ∧ ixS x = j) ∨ ∃ j : Nat, j < m ∧ x = -((j : Int) + 1) ∧ ixS x = j := by
  obtain ⟨h1, h2, h3⟩ := h
  by_cases c : 0 < x
  · exact Or.inl ⟨(x - 1).toNat, by omega, by omega, by unfold ixS; rw [if_pos c]⟩
  · exact Or.inr ⟨(-x - 1).toNat, by omega, by omega, by unfold ixS; rw [if_neg c]⟩
/-- A step's ends, and its room. -/
theorem legOf_any (n : Nat) (a : Option Addr) (m cap : Nat) (q : Nat → Eg) (x : Int) (w : World) (hE : Egs n q m) (hH : EHanded w a m q) (ok : okS m x) :
    Calls Tryz.prog 107 #[.slice a m cap, .int .i64 x] w fun e w' => e = .returned (.agg #[.int .i64 (frS q x), .int .i64 (toS q x), .int .i64 (coS q x)]) ∧ Below w.heap.size w w' := by
  have h40 := hE.m40
  have ix := ixS_lt ok
  obtain ⟨b, off, rfl, hP⟩ : ∃ b off : Nat, a = some ⟨b, off, none⟩ ∧ Esp w b off m q := by
    rcases hH.2 with e | h
    · omega
    · exact h
  unfold frS toS coS
  rcases ok_two ok with ⟨j, hj, rfl, e⟩ | ⟨j, hj, rfl, e⟩
  · obtain ⟨x0, x1, x2, x3⟩ := hP j hj
    rw [e, if_pos (by omega), if_pos (by omega), if_pos (by omega)]
    exact legOf_along b off m cap j _ _ _ _ w hj h40 x0 x1 x2 x3
  · obtain ⟨x0, x1, x2, x3⟩ := hP j hj
    obtain ⟨_, _, okk⟩ := hE.each j hj
    have o := okB_t okk
    rw [e, if_neg (by omega), if_neg (by omega), if_neg (by omega)]
    exact legOf_back b off m cap j _ _ _ _ w hj h40 (by omega) (by omega) x0 x1 x2 x3
/-- A field of what legOf answers. -/
theorem leg_f (x y z : Int) (w : World) : (Instr.field 197 (.agg #[.int .i64 x, .int .i64 y, .int .i64 z]) 0).run Tryz.prog w = .ok (.int .i64 x) w := by kernel_rfl
theorem leg_t (x y z : Int) (w : World) : (Instr.field 197 (.agg #[.int .i64 x, .int .i64 y, .int .i64 z]) 1).run Tryz.prog w = .ok (.int .i64 y) w := by kernel_rfl
theorem leg_r (x y z : Int) (w : World) : (Instr.field 197 (.agg #[.int .i64 x, .int .i64 y, .int .i64 z]) 2).run Tryz.prog w = .ok (.int .i64 z) w := by kernel_rfl
end Go.Proofs.YthejaecljkjliaiGreatDoor
