/- A node of package node in memory: its five cells, and a map of what it keeps of others. -/
import Derived.Test.YtadkgnbagmnkkakGreatDoorNm05
import Derived.Maps.OwnOps
import Derived.Maps.OwnSet
import Derived.Maps.Views
import Derived.IntWalk
namespace Go.Proofs.YtadkgnbagmnkkakGreatDoor
open Go.ChangeShapes Go.WideShapes Go.ChangeAt Go.RowKit Go.Maps
set_option linter.unusedVariables false
set_option linter.unusedSimpArgs false

theorem lawK : Keyed Tryz.prog 3 := int_keyed Tryz.underlying3
def offD (a b t : Int) : DataW Unit := .agg [.lit (.int .i64 a), .lit (.int .i64 b), .lit (.int .i64 t)]
def offE (v : Value) : Option (DataW Unit × List MemPlace) :=
 match v with
 | .agg cs => match cs.toList with
  | [.int .i64 a, .int .i64 b, .int .i64 t] => some (offD a b t, [])
  | _ => none
 | _ => none
theorem offE_mk (a b t : Int) : offE (.agg #[.int .i64 a, .int .i64 b, .int .i64 t]) = some (offD a b t, []) := rfl
theorem offE_inv {v : Value} {z : DataW Unit × List MemPlace} (h : offE v = some z) : ∃ a b t, v = .agg #[.int .i64 a, .int .i64 b, .int .i64 t] ∧ z = (offD a b t, []) := by
 unfold offE at h
 split at h
 ·rename_i cs
  split at h
  ·rename_i a b t e
   obtain rfl := Option.some.inj h
   refine ⟨a, b, t, ?_, rfl⟩
   have : cs = #[.int .i64 a, .int .i64 b, .int .i64 t] := by rw [← Array.toArray_toList (xs := cs), e]
   rw [this]
  ·cases h
 ·cases h
theorem offD_inj {a b t a' b' t' : Int} (h : offD a b t = offD a' b' t') : a = a' ∧ b = b' ∧ t = t' := by
 unfold offD at h
 injection h with h
 injection h with h1 h
 injection h with h2 h
 injection h with h3 h
 injection h1 with h1
 injection h1 with _ h1
 injection h2 with h2
 injection h2 with _ h2
 injection h3 with h3
 injection h3 with _ h3
 exact ⟨h1, h2, h3⟩
def cntH (f : Nat → Bool) : Nat → Nat
 | 0 => 0
 | k + 1 => cntH f k + (if f k = true then 1 else 0)
theorem cntH_le (f : Nat → Bool) : ∀ k, cntH f k ≤ k
 | 0 => Nat.le_refl _
 | k + 1 => by have := cntH_le f k; simp only [cntH]; split <;> omega
theorem cntH_far (f : Nat → Bool) (k : Nat) : ∀ m, m ≤ k → cntH (updN f k true) m = cntH f m
 | 0, _ => rfl
 | m + 1, h => by simp only [cntH]; rw [cntH_far f k m (by omega), updN_ne (by omega)]
theorem cntH_upd (f : Nat → Bool) (k : Nat) : ∀ m, k < m → cntH (updN f k true) m = if f k = true then cntH f m else cntH f m + 1
 | 0, h => by omega
 | m + 1, h => by
  simp only [cntH]
  by_cases e : k = m
  ·subst e
   rw [cntH_far f k k (Nat.le_refl _), updN_at]
   cases f k <;> simp
  ·rw [cntH_upd f k m (by omega), updN_ne (fun q => e q.symm)]
   split <;> omega
structure NkD (D : DataW Unit) (c : Nd) : Prop where
 m : IsMap D
 h : ∀ i : Nat, i < 6 → Maps.has D (.int .i64 (i : Int)) = c.has i
 a : ∀ i : Nat, i < 6 → c.has i = true → D.atKey (.int .i64 (i : Int)) (offD 0 0 0) = offD (c.lo i) (c.hi i) (c.at_ i)
 s : Maps.size D = cntH c.has 6
theorem NkD.made (id n : Nat) (p : Int) : NkD (.map []) (Nd.made id n p) := ⟨isMap_empty, fun i _ => rfl, fun i _ h => (by cases h), rfl⟩
def vL (c : Nd) (i : Nat) : Int := if c.has i = true then c.lo i else 0
def vH (c : Nd) (i : Nat) : Int := if c.has i = true then c.hi i else 0
def vA (c : Nd) (i : Nat) : Int := if c.has i = true then c.at_ i else 0
theorem NkD.get {D : DataW Unit} {c : Nd} (d : NkD D c) {i : Nat} (hi : i < 6) : D.atKey (.int .i64 (i : Int)) (offD 0 0 0) = offD (vL c i) (vH c i) (vA c i) := by
 cases e : c.has i with
 | true => unfold vL vH vA; rw [if_pos e, if_pos e, if_pos e]; exact d.a i hi e
 | false =>
  have q : Maps.has D (.int .i64 (i : Int)) = false := by rw [d.h i hi]; exact e
  unfold vL vH vA
  rw [if_neg (by rw [e]; decide), if_neg (by rw [e]; decide), if_neg (by rw [e]; decide)]
  exact atKey_of_not_has q _
def Nd.put (c : Nd) (k : Nat) (a b t : Int) : Nd := { c with has := updN c.has k true, lo := updN c.lo k a, hi := updN c.hi k b, at_ := updN c.at_ k t }
theorem NkD.put {D : DataW Unit} {c : Nd} (d : NkD D c) (ty : Tidy D) {k : Nat} (hk : k < 6) (a b t : Int) : NkD (D.put (.int .i64 (k : Int)) (offD a b t)) (c.put k a b t) := by
 refine ⟨d.m.put _ _, fun i hi => ?_, fun i hi q => ?_, ?_⟩
 ·show _ = updN c.has k true i
  by_cases e : i = k
  ·subst e
   rw [updN_at]
   exact has_put_same d.m (by simp [WideAt.IsKeyLit]) _
  ·rw [updN_ne e, has_put_other (fun q => e (by injection q with _ q; omega))]
   exact d.h i hi
 ·show _ = offD (updN c.lo k a i) (updN c.hi k b i) (updN c.at_ k t i)
  by_cases e : i = k
  ·subst e
   rw [updN_at, updN_at, updN_at]
   exact atKey_put_same d.m (by simp [WideAt.IsKeyLit]) _ _
  ·rw [updN_ne e, updN_ne e, updN_ne e, atKey_put_other (fun q => e (by injection q with _ q; omega))]
   refine d.a i hi ?_
   have : updN c.has k true i = true := q
   rwa [updN_ne e] at this
 ·show _ = cntH (updN c.has k true) 6
  rw [size_put ty, cntH_upd _ _ _ hk, d.h k hk, d.s]
theorem own_bound {w : World} {b n m : Nat} {D : DataW Unit} (h : w.ownsMap Tryz.prog 3 offE b n D) (hm : Maps.size D ≤ m) : w.ownsMap Tryz.prog 3 offE b m D := by
 obtain ⟨es, clock, hb, F, hs, rfl⟩ := h
 exact ⟨es, clock, hb, F, by simpa [Maps.size, length_sorted] using hm, rfl⟩
def hm (c : Nd) : Int := if c.h < 0 then 0 else c.h
theorem hm_bk {c : Nd} {t : Int} (g : c.I) : c.bk t ↔ (t < hm c ∨ 1000000000000 < t) := by
 have := g.h0
 unfold Nd.bk hm
 split <;> constructor <;> intro h <;> omega
def nkL (c : Nd) (M : Nat) : List Value := [.int .i64 c.id, .int .i64 c.n, .int .i64 c.p, .int .i64 (hm c), .map (some M)]
structure PN (u : World) (b M : Nat) (c : Nd) : Prop where
 r : Row u b (nkL c M)
 nm : M ≠ b
 d : ∃ D, u.ownsMap Tryz.prog 3 offE M 6 D ∧ NkD D c
section
variable {u u' W : World} {b M : Nat} {c : Nd}
theorem PN.lt (h : PN u b M c) : b < u.heap.size := h.r.lt
theorem PN.ltM (h : PN u b M c) : M < u.heap.size := by obtain ⟨D, hD, _⟩ := h.d; exact hD.lt
theorem PN.keep (hz : u.heap.size ≤ u'.heap.size) (hF : ∀ k, (k = b ∨ k = M) → u'.heap[k]? = u.heap[k]?) (h : PN u b M c) : PN u' b M c := by
 have e := hF b (Or.inl rfl)
 refine ⟨⟨fun i v hv => (World.cell?_of_block (w := u) (a := ⟨b, i, none⟩) e).trans (h.r.c i v hv), fun i v hv => (World.frozen?_of_block (w := u) (a := ⟨b, i, none⟩) e).trans (h.r.f i v hv)⟩, h.nm, ?_⟩
 obtain ⟨D, ⟨es, clock, hb', F, hs, hD⟩, q⟩ := h.d
 exact ⟨D, ⟨es, clock, (hF M (Or.inr rfl)).trans hb', F, hs, hD⟩, q⟩
theorem PN.on (hb : Below u.heap.size u u') (h : PN u b M c) : PN u' b M c := h.keep hb.size (fun k hk => hb.block k (hk.elim (fun e => e ▸ h.lt) (fun e => e ▸ h.ltM)))
theorem zeroO (w : World) : (zeroValue 293).run Tryz.prog w = .ok (.agg #[.int .i64 0, .int .i64 0, .int .i64 0]) w := by kernel_rfl
theorem PN.look (h : PN u b M c) {i : Nat} (hi : i < 6) : (Instr.lookup 181 (.map (some M)) (.int .i64 (i : Int)) true).run Tryz.prog u = .ok (.tuple #[.agg #[.int .i64 (vL c i), .int .i64 (vH c i), .int .i64 (vA c i)], .bool (c.has i)]) u := by
 obtain ⟨D, hD, q⟩ := h.d
 obtain ⟨v, ps, hrun, hR⟩ := hD.look_ok lawK Tryz.underlying181 (zeroO u) (offE_mk 0 0 0) (keyOf_int_mk Tryz.underlying3 (WalkArith.wf_i64 (by omega)) : keyOf Tryz.prog 3 (.int .i64 (i : Int)) = some (.int .i64 (i : Int)))
 obtain ⟨a, x, t, rfl, ez⟩ := offE_inv hR
 have ez := (Prod.mk.inj ez).1
 rw [q.get hi] at ez
 obtain ⟨e1, e2, e3⟩ := offD_inj ez
 rw [← e1, ← e2, ← e3] at hrun
 rw [hrun, q.h i hi]
theorem PN.store (h : PN u b M c) {k : Nat} (hk : k < 6) (a x t : Int) : ∃ w', (Instr.mapUpdate 181 (.map (some M)) (.int .i64 (k : Int)) (.agg #[.int .i64 a, .int .i64 x, .int .i64 t])).run Tryz.prog u = .ok () w' ∧ PN w' b M (c.put k a x t) ∧ Keeps (fun j => j = M) u w' := by
 obtain ⟨D, hD, q⟩ := h.d
 obtain ⟨w', hrun, ho, hg⟩ := hD.update lawK Tryz.underlying181 (by unfold maxLen; omega) (keyOf_int_mk Tryz.underlying3 (WalkArith.wf_i64 (by omega)) : keyOf Tryz.prog 3 (.int .i64 (k : Int)) = some (.int .i64 (k : Int))) (offE_mk a x t)
 have q' := q.put (hD.tidy lawK) hk a x t
 have kp : Keeps (fun j => j = M) u w' := ⟨hg.os, hg.tape, hg.output, hg.size, fun i hi hn => hg.block i hi (fun e => hn (Option.some.inj e))⟩
 refine ⟨w', hrun, ⟨kp.row (fun e => h.nm e.symm) h.r, h.nm, _, own_bound ho ?_, q'⟩, kp⟩
 rw [q'.s]
 exact cntH_le _ _
theorem PN.late (h : PN u b M c) {t : Int} (ht : 0 ≤ t) : PN (u.setCell ⟨b, 3, none⟩ (.int .i64 t)) b M { c with h := t } ∧ Keeps (fun j => j = b) u (u.setCell ⟨b, 3, none⟩ (.int .i64 t)) := by
 refine ⟨⟨?_, h.nm, ?_⟩, Keeps.put (S := fun j => j = b) rfl (Keeps.refl _ _)⟩
 ·have := Row.put 3 h.r (x := .int .i64 t)
  have e : hm { c with h := t } = t := by unfold hm; exact if_neg (by show ¬ t < 0; omega)
  show Row _ _ [.int .i64 c.id, .int .i64 c.n, .int .i64 c.p, .int .i64 (hm { c with h := t }), .map (some M)]
  rw [e]
  exact this
 ·obtain ⟨D, hD, q⟩ := h.d
  exact ⟨D, hD.setCell (a := ⟨b, 3, none⟩) h.nm _, ⟨q.m, q.h, q.a, q.s⟩⟩
end
def Fn (b M k : Nat) : Prop := k = b ∨ k = M
def Nkp (u : World) (b : Nat) (F : Nat → Prop) (c : Nd) : Prop := ∃ M, PN u b M c ∧ F = Fn b M
theorem Nkp.on {u v : World} {b : Nat} {F : Nat → Prop} {c : Nd} (h : Nkp u b F c) (hz : u.heap.size ≤ v.heap.size) (hF : ∀ k, F k → v.heap[k]? = u.heap[k]?) : Nkp v b F c := by
 obtain ⟨M, hP, rfl⟩ := h
 exact ⟨M, hP.keep hz hF, rfl⟩
theorem Nkp.lt {u : World} {b : Nat} {F : Nat → Prop} {c : Nd} (h : Nkp u b F c) (k : Nat) (hk : F k) : k < u.heap.size := by
 obtain ⟨M, hP, rfl⟩ := h
 exact hk.elim (fun e => e ▸ hP.lt) (fun e => e ▸ hP.ltM)
end Go.Proofs.YtadkgnbagmnkkakGreatDoor
