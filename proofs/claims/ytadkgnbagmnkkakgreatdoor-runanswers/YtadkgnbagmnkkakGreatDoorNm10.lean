/- A map that a literal makes, of texts: what it has, and what of each: plain mathematics. What each word wants, in memory: a map of words, its values structs with functions in them. -/
import Derived.Test.YtadkgnbagmnkkakGreatDoorNm07
import Derived.Maps.OwnOps
import Derived.Maps.OwnSet
import Derived.Maps.Views
import Derived.Test.YtadkgnbagmnkkakGreatDoorNm05
import Derived.Test.YtadkgnbagmnkkakGreatDoorNm03
import Derived.IntWalk
namespace Go.Proofs.YtadkgnbagmnkkakGreatDoor.rn
open Go.Maps Go.ChangeMaps
set_option linter.unusedVariables false

def litM (L : List (List UInt8 × DataW Unit)) (D : DataW Unit) : DataW Unit := L.foldl (fun D p => D.put (.string p.1) p.2) D
def getL (l : List UInt8) : List (List UInt8 × DataW Unit) → Option (DataW Unit)
 | [] => none
 | p :: L => (getL l L).or (if p.1 = l then some p.2 else none)
theorem getL_cons (l : List UInt8) (p : List UInt8 × DataW Unit) (L : List (List UInt8 × DataW Unit)) : getL l (p :: L) = (getL l L).or (if p.1 = l then some p.2 else none) := rfl
theorem key_ne {a b : List UInt8} (q : ¬ a = b) : (Lit.string b) ≠ (Lit.string a) := fun z => q (by injection z with z; exact z.symm)
theorem litM_has (l : List UInt8) : ∀ (L : List (List UInt8 × DataW Unit)) {D : DataW Unit}, IsMap D → Maps.has (litM L D) (.string l) = ((getL l L).isSome || Maps.has D (.string l))
 | [], D, h => rfl
 | p :: L, D, h => by
  show Maps.has (litM L (D.put (.string p.1) p.2)) (.string l) = _
  rw [litM_has l L (h.put _ _), getL_cons]
  cases e : getL l L with
  | some d => rfl
  | none =>
   by_cases q : p.1 = l
   ·rw [if_pos q, ← q, has_put_same h (by simp [WideAt.IsKeyLit])]
    rfl
   ·rw [if_neg q, has_put_other (key_ne q)]
    rfl
theorem litM_at (l : List UInt8) (z : DataW Unit) : ∀ (L : List (List UInt8 × DataW Unit)) {D : DataW Unit}, IsMap D → (litM L D).atKey (.string l) z = (getL l L).getD (D.atKey (.string l) z)
 | [], D, h => rfl
 | p :: L, D, h => by
  show (litM L (D.put (.string p.1) p.2)).atKey (.string l) z = _
  rw [litM_at l z L (h.put _ _), getL_cons]
  cases e : getL l L with
  | some d => rfl
  | none =>
   by_cases q : p.1 = l
   ·rw [if_pos q, ← q]
    exact atKey_put_same h (by simp [WideAt.IsKeyLit]) _ _
   ·rw [if_neg q]
    exact atKey_put_other (key_ne q) _ _
end Go.Proofs.YtadkgnbagmnkkakGreatDoor.rn
namespace Go.Proofs.YtadkgnbagmnkkakGreatDoor.rn
open Go.ChangeShapes Go.WideShapes Go.ChangeAt Go.RowKit Go.Maps Go.WideMaps
set_option linter.unusedVariables false
set_option linter.unusedSimpArgs false

theorem lawS : Keyed Tryz.prog 9 := string_keyed Tryz.underlying9
def nV (k : Nat) : DataW Unit := .lit (.int .i64 (k : Int))
theorem nV_inj {a b : Nat} (h : nV a = nV b) : a = b := by
 unfold nV at h
 injection h with h
 injection h with _ h
 omega
theorem reads (W : Nat → Value) : ∃ (R : Value → Option (DataW Unit × List MemPlace)) (g : Nat → Nat), (∀ k, R (W k) = some (nV (g k), [])) ∧ (∀ k, W (g k) = W k) ∧ (∀ v j ps, R v = some (nV j, ps) → v = W j) := by
 classical
 refine ⟨fun v => if h : ∃ k, v = W k then some (nV (Classical.choose h), []) else none, fun k => Classical.choose (⟨k, rfl⟩ : ∃ j, W k = W j), fun k => ?_, fun k => ?_, fun v j ps h => ?_⟩
 ·exact dif_pos (⟨k, rfl⟩ : ∃ j, W k = W j)
 ·exact (Classical.choose_spec (⟨k, rfl⟩ : ∃ j, W k = W j)).symm
 ·by_cases q : ∃ k, v = W k
  ·simp only [dif_pos q] at h
   have e := nV_inj (Prod.mk.inj (Option.some.inj h)).1
   rw [← e]
   exact Classical.choose_spec q
  ·simp only [dif_neg q] at h
   cases h
def wdL (g : Nat → Nat) : List (List UInt8 × DataW Unit) := [([103, 111], nV (g 1)), ([97, 115, 107], nV (g 2)), ([100, 101, 108, 105, 118, 101, 114], nV (g 3)), ([108, 111, 115, 101], nV (g 4)), ([114, 101, 112, 101, 97, 116], nV (g 5)), ([115, 104, 111, 119], nV (g 6)), ([111, 102, 102, 115, 101, 116], nV (g 7)), ([119, 105, 100, 101], nV (g 8)), ([100, 97, 116, 101], nV (g 9))]
theorem wd_get (g : Nat → Nat) (l : List UInt8) : getL l (wdL g) = if wordB l = 0 then none else some (nV (g (wordB l))) := by
 by_cases h1 : l = [103, 111]
 ·subst h1; rfl
 by_cases h2 : l = [97, 115, 107]
 ·subst h2; rfl
 by_cases h3 : l = [100, 101, 108, 105, 118, 101, 114]
 ·subst h3; rfl
 by_cases h4 : l = [108, 111, 115, 101]
 ·subst h4; rfl
 by_cases h5 : l = [114, 101, 112, 101, 97, 116]
 ·subst h5; rfl
 by_cases h6 : l = [115, 104, 111, 119]
 ·subst h6; rfl
 by_cases h7 : l = [111, 102, 102, 115, 101, 116]
 ·subst h7; rfl
 by_cases h8 : l = [119, 105, 100, 101]
 ·subst h8; rfl
 by_cases h9 : l = [100, 97, 116, 101]
 ·subst h9; rfl
 have e : wordB l = 0 := by unfold wordB; rw [if_neg h1, if_neg h2, if_neg h3, if_neg h4, if_neg h5, if_neg h6, if_neg h7, if_neg h8, if_neg h9]
 rw [if_pos e]
 have n : ∀ {a : List UInt8}, ¬ l = a → ¬ a = l := fun h q => h q.symm
 unfold wdL
 simp only [getL, if_neg (n h1), if_neg (n h2), if_neg (n h3), if_neg (n h4), if_neg (n h5), if_neg (n h6), if_neg (n h7), if_neg (n h8), if_neg (n h9), Option.or_none, Option.none_or]
def fnK (k : Nat) : Nat := if k ≤ 5 then 88 else if k = 6 then 60 else if k = 7 then 61 else if k = 8 then 62 else 63
def lbK (X k : Nat) : Array Value := if k ≤ 5 then #[.pointer (some ⟨X + k, 0, none⟩)] else #[]
def wV (X k : Nat) : Value := if k = 0 then .agg #[.int .i64 0, .nilFunc] else .agg #[.int .i64 (wantB k : Int), .func (.func (fnK k)) #[] (lbK X k)]
structure WdM (u : World) (X M : Nat) : Prop where
 m : ∃ (R : Value → Option (DataW Unit × List MemPlace)) (g : Nat → Nat) (n : Nat), (∀ k, R (wV X k) = some (nV (g k), [])) ∧ (∀ k, wV X (g k) = wV X k) ∧ (∀ v j ps, R v = some (nV j, ps) → v = wV X j) ∧ u.ownsMap Tryz.prog 9 R M n (litM (wdL g) (.map []))
 c : ∀ k, 1 ≤ k → k ≤ 5 → Row u (X + k) [.int .i64 (k : Int)]
section
variable {u u' : World} {X M n : Nat}
theorem WdM.lt (h : WdM u X M) : M < u.heap.size := by obtain ⟨_, _, n, _, _, _, h⟩ := h.m; exact h.lt
theorem WdM.ltc (h : WdM u X M) {k : Nat} (h1 : 1 ≤ k) (h5 : k ≤ 5) : X + k < u.heap.size := (h.c k h1 h5).lt
theorem WdM.keep (hz : u'.heap[M]? = u.heap[M]?) (hc : ∀ k, 1 ≤ k → k ≤ 5 → u'.heap[X + k]? = u.heap[X + k]?) (h : WdM u X M) : WdM u' X M := by
 obtain ⟨⟨R, g, n, r1, r2, r3, es, clock, hb, F, hs, hD⟩, c⟩ := h
 refine ⟨⟨R, g, n, r1, r2, r3, es, clock, hz.trans hb, F, hs, hD⟩, fun k h1 h5 => ?_⟩
 have := c k h1 h5
 refine ⟨fun i v hv => ?_, fun i v hv => ?_⟩
 ·have q := this.c i v hv
  unfold World.cell? at q ⊢
  rw [hc k h1 h5]
  exact q
 ·have q := this.f i v hv
  unfold World.frozen? at q ⊢
  rw [hc k h1 h5]
  exact q
theorem WdM.on (hb : Below u.heap.size u u') (h : WdM u X M) : WdM u' X M := h.keep (hb.block M h.lt) (fun k h1 h5 => hb.block _ (h.ltc h1 h5))
theorem zeroW (w : World) : (zeroValue 105).run Tryz.prog w = .ok (wV 0 0) w := by kernel_rfl
theorem WdM.look (h : WdM u X M) (s : ByteArray) (hs : s.size ≤ maxLen) : (Instr.lookup 93 (.map (some M)) (.string s) true).run Tryz.prog u = .ok (.tuple #[wV X (wordB s.data.toList), .bool (decide (wordB s.data.toList ≠ 0))]) u := by
 obtain ⟨R, g, n, r1, r2, r3, hD⟩ := h.m
 obtain ⟨v, ps, hrun, hR⟩ := hD.look_ok lawS Tryz.underlying93 (zeroW u) (r1 0) (keyOf_string_mk Tryz.underlying9 hs : keyOf Tryz.prog 9 (.string s) = some (.string s.data.toList))
 rw [litM_at _ _ _ isMap_empty, wd_get] at hR
 rw [litM_has _ _ isMap_empty, wd_get] at hrun
 rw [hrun]
 by_cases q : wordB s.data.toList = 0
 ·rw [if_pos q] at hR ⊢
  have e : (DataW.map [] : DataW Unit).atKey (.string s.data.toList) (nV (g 0)) = nV (g 0) := rfl
  rw [Option.getD_none, e] at hR
  rw [r3 _ _ _ hR, r2, q]
  simp only [Option.isSome_none, Bool.false_or, Maps.has, ne_eq, not_true_eq_false, decide_false, List.any_nil]
 ·rw [if_neg q] at hR ⊢
  rw [Option.getD_some] at hR
  rw [r3 _ _ _ hR, r2]
  simp only [q, Option.isSome_some, Bool.true_or, ne_eq, not_false_eq_true, decide_true]
theorem ins_any {R : Value → Option (DataW Unit × List MemPlace)} {D : DataW Unit} (h : u.ownsMap Tryz.prog 9 R M n D) (hn : n < 20) (key : ByteArray) (hk : key.size ≤ 20) {v : Value} {d : DataW Unit} {ps : List MemPlace} (hv : R v = some (d, ps)) : ∃ w', (Instr.mapUpdate 93 (.map (some M)) (.string key) v).run Tryz.prog u = .ok () w' ∧ w'.ownsMap Tryz.prog 9 R M (n + 1) (D.put (.string key.data.toList) d) ∧ Keeps (fun j => j = M) u w' ∧ w'.heap.size = u.heap.size := by
 obtain ⟨w', hrun, ho, hg⟩ := h.store lawS Tryz.underlying93 (by unfold maxLen; omega) (keyOf_string_mk Tryz.underlying9 (by unfold maxLen; omega) : keyOf Tryz.prog 9 (.string key) = some (.string key.data.toList)) hv
 refine ⟨w', hrun, ho, ?_, ?_⟩
 ·have q := hg.grown
  exact ⟨q.os, q.tape, q.output, q.size, fun i hi hn => q.block i hi (fun e => hn (Option.some.inj e))⟩
 ·obtain ⟨es, clock, es', clock', hb, rfl⟩ := hg
  simp [Go.ChangeMaps.setBlock]
end
end Go.Proofs.YtadkgnbagmnkkakGreatDoor.rn
