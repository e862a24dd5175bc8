/- What the ways through the law VoteTells lean on. -/
import Derived.Test.YthejaecljkjliabDoorVoteRefD
import Derived.Test.YthejaecljkjliabDoorVoteRefE
import Derived.Test.YthejaecljkjliabDoorVoteMore
import Derived.Test.YthejaecljkjliabDoorTold
import Derived.OneCell
import Derived.Lib.SmallJoins
import Derived.Deep.RegionWith
import Derived.Deep.RegionHeld
import Derived.WalkKit
import Derived.ProofKit
import Derived.OpenShut
import Derived.Outline
import Derived.ShutString
import Derived.ChangeOld
import Derived.Below
import Derived.IntWalk
import Derived.WalkLawsBesides
namespace Go.Proofs.YthejaecljkjliabDoor.voteTells
open Go.ChangeShapes Go.WideShapes Go.ChangeAt Go.RowKit Go.Joins Go.Proofs.YthejaecljkjliabDoor.told
set_option linter.unusedVariables false
set_option linter.unusedSimpArgs false

theorem row_grown {w w' : World} {row : Option Nat} {b : Nat} {vs : List Value} (hg : w.grownBy w' row) (hne : ∀ k, row = some k → k ≠ b) (r : Row w b vs) : Row w' b vs := by
  have hb : ∀ i v, vs[i]? = some v → w'.heap[b]? = w.heap[b]? := fun i v hv => hg.block b (World.block_lt_of_cell? _ _ (r.c i v hv)) (fun e => hne b e.symm rfl)
  exact ⟨fun i v hv => (World.cell?_of_block (w := w) (hb i v hv)).trans (r.c i v hv), fun i v hv => (World.frozen?_of_block (w := w) (hb i v hv)).trans (r.f i v hv)⟩
/-- noonsame.Ints of two rows that hold the same. -/
theorem ints_own {w : World} {b1 b2 k : Nat} {v1 v2 : Value} {L : List Int} (hk : k ≤ 40) (hL : L.length = k) (h1 : w.ownsRow b1 3 1 v1 k (L.map (Value.int .i64))) (h2 : w.ownsRow b2 3 1 v2 k (L.map (Value.int .i64))) :
    Calls Tryd.prog 21 #[v1, v2] w fun e w' => e = .returned (.bool true) ∧ Below w.heap.size w w' := by
  obtain ⟨a1, c1, rfl⟩ := own_slice h1
  obtain ⟨a2, c2, rfl⟩ := own_slice h2
  have key : ∀ (a : Option Addr) (c b : Nat), w.ownsRow b 3 1 (.slice a k c) k (L.map (Value.int .i64)) → ∀ i, i < k → ∃ g, a = some ⟨g, 0, none⟩ ∧ w.cell? ⟨g, i, none⟩ = some (.int .i64 (L.getD i 0)) := fun a c b h i hi => by
    rcases h.2 with ⟨e, e0⟩ | ⟨g, cap, cur, e, _⟩
    · omega
    · injection e with e1 e2 e3
      subst e1
      refine ⟨g, rfl, ?_⟩
      subst e3
      rw [h.cellAt i (by omega)]
      simp [List.getD, show i < L.length by omega]
  exact ints_same a1 a2 k c1 c2 (fun i => L.getD i 0) w hk (key a1 c1 b1 h1) (key a2 c2 b2 h2)
/-- What a span has in common with another one. -/
def mx (a c : Int) : Int := if a < c then c else a
def mn (b d : Int) : Int := if d < b then d else b
theorem rmeet_mx (a b c d : Int) (w : World) :
    Calls Tryd.prog 16 #[.agg #[.int .i64 a, .int .i64 b], .agg #[.int .i64 c, .int .i64 d]] w fun e w' => e = .returned (.tuple #[.agg #[.int .i64 (mx a c), .int .i64 (mn b d)], .bool (decide (mx a c ≤ mn b d))]) ∧ Below w.heap.size w w' := by
  refine rmeet_any a b c d _ _ w ?_ ?_
  · show (c < a ∧ mx a c = a) ∨ (a ≤ c ∧ mx a c = c)
    unfold mx; split <;> omega
  · show (b < d ∧ mn b d = b) ∨ (d ≤ b ∧ mn b d = d)
    unfold mn; split <;> omega
theorem mx_lies (lo hi : Int) (s : Int × Int) (h1 : lo ≤ hi) (h2 : s.1 ≤ s.2) : decide (mx lo s.1 ≤ mn hi s.2) = !lies lo hi s := by
  unfold mx mn lies
  rw [Bool.eq_iff_iff]
  simp only [decide_eq_true_eq, Bool.not_eq_true', decide_eq_false_iff_not]
  split <;> split <;> omega
theorem ml_succ (q : Nat → Int × Int) (k : Nat) : ml q (k + 1) = (mx (ml q k).1 (q (k + 1)).1, mn (ml q k).2 (q (k + 1)).2) := rfl
end Go.Proofs.YthejaecljkjliabDoor.voteTells
