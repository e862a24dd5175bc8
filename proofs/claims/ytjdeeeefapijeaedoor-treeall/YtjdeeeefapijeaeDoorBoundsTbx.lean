/- A table of spans as it lies in memory, row by row, and whether there is any. -/
import Derived.Test.YtjdeeeefapijeaeDoorBoundsFw
import Derived.Test.YtjdeeeefapijeaeDoorKeeps
namespace Go.Proofs.YtjdeeeefapijeaeDoor
open Go.ChangeShapes Go.WideShapes Go.ChangeAt Go.RowKit
set_option linter.unusedVariables false

def xLo (P : Tx) (i k : Nat) : Int := match P i k with
  | none => 0
  | some x => x.1
def xHi (P : Tx) (i k : Nat) : Int := match P i k with
  | none => 0
  | some x => x.2
/-- A row of a table: its spans, end by end; whether there is any. -/
def rowS (P : Tx) (n i : Nat) : List Value := (List.range (n * 2)).map fun j => .int .i64 (if j % 2 = 0 then xLo P i (j / 2) else xHi P i (j / 2))
def rowK (P : Tx) (n i : Nat) : List Value := (List.range n).map fun k => .bool (P i k).isSome
theorem rowS_lo (P : Tx) (n i k : Nat) (h : k < n) : (rowS P n i)[k * 2]? = some (.int .i64 (xLo P i k)) := by
  unfold rowS
  rw [List.getElem?_map, List.getElem?_range (by omega)]
  show some (Value.int .i64 (if k * 2 % 2 = 0 then xLo P i (k * 2 / 2) else xHi P i (k * 2 / 2))) = _
  rw [if_pos (by omega), show k * 2 / 2 = k by omega]
theorem rowS_hi (P : Tx) (n i k : Nat) (h : k < n) : (rowS P n i)[k * 2 + 1]? = some (.int .i64 (xHi P i k)) := by
  unfold rowS
  rw [List.getElem?_map, List.getElem?_range (by omega)]
  show some (Value.int .i64 (if (k * 2 + 1) % 2 = 0 then xLo P i ((k * 2 + 1) / 2) else xHi P i ((k * 2 + 1) / 2))) = _
  rw [if_neg (by omega), show (k * 2 + 1) / 2 = k by omega]
theorem rowS_none (P : Tx) (n i j : Nat) (h : n * 2 ≤ j) : (rowS P n i)[j]? = none := by
  unfold rowS
  rw [List.getElem?_eq_none (by simp; omega)]
theorem rowK_at (P : Tx) (n i k : Nat) (h : k < n) : (rowK P n i)[k]? = some (.bool (P i k).isSome) := by simp [rowK, h]
theorem rowS_ext {P : Tx} {n i : Nat} {l : List Value} (h1 : ∀ k, k < n → l[k * 2]? = some (.int .i64 (xLo P i k)) ∧ l[k * 2 + 1]? = some (.int .i64 (xHi P i k))) (h2 : ∀ j, n * 2 ≤ j → l[j]? = none) : rowS P n i = l := by
  apply List.ext_getElem?
  intro j
  by_cases hj : j < n * 2
  · by_cases e : j % 2 = 0
    · obtain ⟨k, rfl⟩ : ∃ k, j = k * 2 := ⟨j / 2, by omega⟩
      rw [rowS_lo _ _ _ _ (by omega), (h1 k (by omega)).1]
    · obtain ⟨k, rfl⟩ : ∃ k, j = k * 2 + 1 := ⟨j / 2, by omega⟩
      rw [rowS_hi _ _ _ _ (by omega), (h1 k (by omega)).2]
  · rw [rowS_none _ _ _ _ (by omega), h2 j (by omega)]
theorem updx_lo (P : Tx) (a b i k : Nat) (x : Int × Int) : xLo (updx P a b x) i k = if i = a ∧ k = b then x.1 else xLo P i k := by
  unfold xLo
  by_cases h : i = a ∧ k = b
  · rw [if_pos h]; obtain ⟨rfl, rfl⟩ := h; rw [updx_at]
  · rw [if_neg h, updx_ne _ _ h]
theorem updx_hi (P : Tx) (a b i k : Nat) (x : Int × Int) : xHi (updx P a b x) i k = if i = a ∧ k = b then x.2 else xHi P i k := by
  unfold xHi
  by_cases h : i = a ∧ k = b
  · rw [if_pos h]; obtain ⟨rfl, rfl⟩ := h; rw [updx_at]
  · rw [if_neg h, updx_ne _ _ h]
theorem upd_rowS (P : Tx) (n i b : Nat) (x : Int × Int) (hb : b < n) : rowS (updx P i b x) n i = ((rowS P n i).set (b * 2) (.int .i64 x.1)).set (b * 2 + 1) (.int .i64 x.2) := by
  have len : (rowS P n i).length = n * 2 := by simp [rowS]
  refine rowS_ext (fun k hk => ?_) (fun j hj => ?_)
  · rw [updx_lo, updx_hi]
    by_cases e : k = b
    · subst e
      rw [if_pos ⟨rfl, rfl⟩, if_pos ⟨rfl, rfl⟩]
      refine ⟨?_, ?_⟩
      · rw [List.getElem?_set_ne (by omega), List.getElem?_set_self (by omega)]
      · rw [List.getElem?_set_self (by simp; omega)]
    · rw [if_neg (by omega), if_neg (by omega)]
      refine ⟨?_, ?_⟩
      · rw [List.getElem?_set_ne (by omega), List.getElem?_set_ne (by omega), rowS_lo _ _ _ _ hk]
      · rw [List.getElem?_set_ne (by omega), List.getElem?_set_ne (by omega), rowS_hi _ _ _ _ hk]
  · rw [List.getElem?_eq_none (by simp; omega)]
theorem upd_rowK (P : Tx) (n i b : Nat) (x : Int × Int) (hb : b < n) : rowK (updx P i b x) n i = (rowK P n i).set b (.bool true) := by
  apply List.ext_getElem?
  intro k
  by_cases hk : k < n
  · rw [rowK_at _ _ _ _ hk]
    by_cases e : b = k
    · subst e
      rw [List.getElem?_set_self (by simp [rowK]; exact hk), updx_at]; rfl
    · rw [List.getElem?_set_ne e, rowK_at _ _ _ _ hk, updx_ne _ _ (by omega)]
  · rw [List.getElem?_eq_none (by simp [rowK]; omega), List.getElem?_eq_none (by simp [rowK]; omega)]
theorem upd_rowS_other (P : Tx) (n i j b : Nat) (x : Int × Int) (h : j ≠ i) : rowS (updx P i b x) n j = rowS P n j := by
  unfold rowS
  apply List.map_congr_left
  intro y _
  rw [show xLo (updx P i b x) j (y / 2) = xLo P j (y / 2) by rw [updx_lo]; exact if_neg (by omega), show xHi (updx P i b x) j (y / 2) = xHi P j (y / 2) by rw [updx_hi]; exact if_neg (by omega)]
theorem upd_rowK_other (P : Tx) (n i j b : Nat) (x : Int × Int) (h : j ≠ i) : rowK (updx P i b x) n j = rowK P n j := by
  unfold rowK
  apply List.map_congr_left
  intro y _
  rw [updx_ne _ _ (by omega)]
/-- The rows of a slice of rows. -/
def outs (Sb : Nat → Nat) (n : Nat) : List Value := (List.range n).map fun i => .slice (some ⟨Sb i, 0, none⟩) n n
theorem outs_at (Sb : Nat → Nat) (n i : Nat) (h : i < n) : (outs Sb n)[i]? = some (.slice (some ⟨Sb i, 0, none⟩) n n) := by simp [outs, h]
/-- A table in memory. -/
structure Tbx (u : World) (gs gk n : Nat) (Sb Kb : Nat → Nat) (P : Tx) : Prop where
  outS : Blk u 55 gs (outs Sb n)
  outK : Blk u 56 gk (outs Kb n)
  inS : ∀ i, i < n → Blk u 41 (Sb i) (rowS P n i)
  inK : ∀ i, i < n → Blk u 4 (Kb i) (rowK P n i)
  oneS : ∀ i j, i < n → j < n → i ≠ j → Sb i ≠ Sb j
  oneK : ∀ i j, i < n → j < n → i ≠ j → Kb i ≠ Kb j
/-- The blocks of rows. -/
def Rwx (n : Nat) (Sb Kb : Nat → Nat) (k : Nat) : Prop := ∃ i, i < n ∧ (k = Sb i ∨ k = Kb i)
section
variable {u W : World} {gs gk n : Nat} {Sb Kb : Nat → Nat} {P : Tx}
theorem Tbx.sk (h : Tbx u gs gk n Sb Kb P) {i j : Nat} (hi : i < n) (hj : j < n) : Sb i ≠ Kb j := (h.inS i hi).ne (h.inK j hj) (by decide)
theorem Tbx.gsS (h : Tbx u gs gk n Sb Kb P) {i : Nat} (hi : i < n) : gs ≠ Sb i := h.outS.ne (h.inS i hi) (by decide)
theorem Tbx.gsK (h : Tbx u gs gk n Sb Kb P) {i : Nat} (hi : i < n) : gs ≠ Kb i := h.outS.ne (h.inK i hi) (by decide)
theorem Tbx.gkS (h : Tbx u gs gk n Sb Kb P) {i : Nat} (hi : i < n) : gk ≠ Sb i := h.outK.ne (h.inS i hi) (by decide)
theorem Tbx.gkK (h : Tbx u gs gk n Sb Kb P) {i : Nat} (hi : i < n) : gk ≠ Kb i := h.outK.ne (h.inK i hi) (by decide)
theorem Tbx.on (hb : Below W.heap.size W u) (h : Tbx W gs gk n Sb Kb P) : Tbx u gs gk n Sb Kb P :=
  ⟨h.outS.on hb, h.outK.on hb, fun i hi => (h.inS i hi).on hb, fun i hi => (h.inK i hi).on hb, h.oneS, h.oneK⟩
theorem Tbx.al {ob : Obj} (h : Tbx W gs gk n Sb Kb P) : Tbx (W.alloc ob) gs gk n Sb Kb P :=
  ⟨h.outS.al, h.outK.al, fun i hi => (h.inS i hi).al, fun i hi => (h.inK i hi).al, h.oneS, h.oneK⟩
theorem Tbx.drn {m : Nat} (h : Tbx W gs gk n Sb Kb P) : Tbx (W.drewN m) gs gk n Sb Kb P := ⟨h.outS, h.outK, h.inS, h.inK, h.oneS, h.oneK⟩
theorem Tbx.dr (h : Tbx W gs gk n Sb Kb P) : Tbx W.drew gs gk n Sb Kb P := ⟨h.outS, h.outK, h.inS, h.inK, h.oneS, h.oneK⟩
theorem Tbx.far {b i : Nat} {x : Value} (h : Tbx W gs gk n Sb Kb P) (h1 : gs ≠ b) (h2 : gk ≠ b) (h3 : ∀ i, i < n → Sb i ≠ b ∧ Kb i ≠ b) : Tbx (W.setCell ⟨b, i, none⟩ x) gs gk n Sb Kb P :=
  ⟨h.outS.far h1, h.outK.far h2, fun i hi => (h.inS i hi).far (h3 i hi).1, fun i hi => (h.inK i hi).far (h3 i hi).2, h.oneS, h.oneK⟩
theorem Tbx.lt (h : Tbx u gs gk n Sb Kb P) : gs < u.heap.size ∧ gk < u.heap.size ∧ ∀ i, i < n → Sb i < u.heap.size ∧ Kb i < u.heap.size := ⟨h.outS.lt, h.outK.lt, fun i hi => ⟨(h.inS i hi).lt, (h.inK i hi).lt⟩⟩
/-- A span is stored, and that there is one. -/
theorem Tbx.put (h : Tbx W gs gk n Sb Kb P) {a b : Nat} (ha : a < n) (hb : b < n) (lo hi : Int) : Tbx (((W.setCell ⟨Sb a, b * 2, none⟩ (.int .i64 lo)).setCell ⟨Sb a, b * 2 + 1, none⟩ (.int .i64 hi)).setCell ⟨Kb a, b, none⟩ (.bool true)) gs gk n Sb Kb (updx P a b (lo, hi)) := by
  refine ⟨?_, ?_, fun j hj => ?_, fun j hj => ?_, h.oneS, h.oneK⟩
  · exact ((h.outS.far (h.gsS ha)).far (h.gsS ha)).far (h.gsK ha)
  · exact ((h.outK.far (h.gkS ha)).far (h.gkS ha)).far (h.gkK ha)
  · by_cases e : j = a
    · subst e
      rw [upd_rowS _ _ _ _ _ hb]
      exact (((h.inS j hj).put _).put _).far (h.sk hj hj)
    · rw [upd_rowS_other _ _ _ _ _ _ e]
      exact (((h.inS j hj).far (h.oneS j a hj ha e)).far (h.oneS j a hj ha e)).far (h.sk hj ha)
  · by_cases e : j = a
    · subst e
      rw [upd_rowK _ _ _ _ _ hb]
      exact (((h.inK j hj).far (fun k => h.sk hj hj k.symm)).far (fun k => h.sk hj hj k.symm)).put b
    · rw [upd_rowK_other _ _ _ _ _ _ e]
      exact (((h.inK j hj).far (fun k => h.sk ha hj k.symm)).far (fun k => h.sk ha hj k.symm)).far (h.oneK j a hj ha e)
end
end Go.Proofs.YtjdeeeefapijeaeDoor
