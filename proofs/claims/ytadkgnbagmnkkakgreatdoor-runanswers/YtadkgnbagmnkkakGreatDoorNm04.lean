/- Errors by their numbers. Letters as they are handed over, edges by their places. Numbers in a row, as they are handed over; errors by their numbers. Errors by their numbers, and what is wrong with a date. What there is to be answered of leaps, seconds and labels. Bools and spans in a row, as they are handed over. -/
import Derived.Test.YtadkgnbagmnkkakGreatDoorNm03
import Derived.WalkArith
import Derived.Test.YtadkgnbagmnkkakGreatDoorNm02
namespace Go.Proofs.YtadkgnbagmnkkakGreatDoor
open Go.ChangeShapes Go.WideShapes Go.ChangeAt Go.RowKit
set_option linter.unusedVariables false

def errc (e : Int) : Value := if e = 0 then .nilIface else .iface 86 (.int .i64 e)
theorem errc_zero : errc 0 = .nilIface := if_pos rfl
theorem errc_not {e : Int} (h : e ≠ 0) : errc e = .iface 86 (.int .i64 e) := if_neg h
abbrev In64 (n : Int) : Prop := (Lit.int .i64 n).wf = true
def nOf (e : Int) (n : Nat) : Nat := if e = 0 then n else 0
def egf (l : List Eg) (i : Nat) : Eg := l.getD i ⟨0, 0, 0, 0⟩
def Nrd (w : World) (b off n : Nat) (z : Nat → Int) : Prop := ∀ i, i < n → w.cell? ⟨b, off + i, none⟩ = some (.int .i64 (z i))
theorem Nrd.on {W u : World} {b off n : Nat} {z : Nat → Int} (hb : Below W.heap.size W u) (h : Nrd W b off n z) : Nrd u b off n z := fun i hi => by
 rw [hb.cell (World.block_lt_of_cell? _ _ (h i hi))]; exact h i hi
def NHanded (w : World) (a : Option Addr) (n : Nat) (z : Nat → Int) : Prop := n ≤ 9223372036854775807 ∧ (n = 0 ∨ ∃ b off : Nat, a = some ⟨b, off, none⟩ ∧ Nrd w b off n z)
theorem NHanded.on {W u : World} {a : Option Addr} {n : Nat} {z : Nat → Int} (hb : Below W.heap.size W u) (h : NHanded W a n z) : NHanded u a n z :=
 ⟨h.1, h.2.imp id (fun ⟨b, off, e, s⟩ => ⟨b, off, e, s.on hb⟩)⟩
def eD (y m d : Int) : Int := if okD y m d = true then 0 else 1
theorem ok64 {y m d : Int} (h : okD y m d = true) : In64 y ∧ In64 m ∧ In64 d := by
 obtain ⟨h1, h2, h3, h4, h5, h6⟩ := okD_t h
 have := mdays_le y m
 exact ⟨WalkArith.wf_i64 (by omega), WalkArith.wf_i64 (by omega), WalkArith.wf_i64 (by omega)⟩
theorem eD_ok {y m d : Int} (h : okD y m d = true) : eD y m d = 0 := if_pos h
theorem eD_no {y m d : Int} (h : okD y m d = false) : eD y m d = 1 := if_neg (by rw [h]; decide)
abbrev lbl (y m d h i s : Int) : Value := .agg #[.int .i64 y, .int .i64 m, .int .i64 d, .int .i64 h, .int .i64 i, .int .i64 s]
def UtcL (q : Nat → Int × Bool) (n : Nat) (x y m d h i s : Int) : Prop :=
 okD y m d = true ∧ IsDay q n x (dnum y m d) ∧ h = (lab (x - bg q n (dnum y m d))).1 ∧ i = (lab (x - bg q n (dnum y m d))).2.1 ∧ s = (lab (x - bg q n (dnum y m d))).2.2
def inS (q : Nat → Int × Bool) (n : Nat) (x : Int) : Prop := 0 ≤ x ∧ x < bg q n 84006
def sE (q : Nat → Int × Bool) (n : Nat) (x e : Int) : Prop := (lE q n ≠ 0 ∧ e = lE q n) ∨ (lE q n = 0 ∧ ¬ inS q n x ∧ e = 1)
def UtcA (q : Nat → Int × Bool) (n : Nat) (x y m d h i s e : Int) : Prop := (sE q n x e ∧ y = 0 ∧ m = 0 ∧ d = 0 ∧ h = 0 ∧ i = 0 ∧ s = 0) ∨ (lE q n = 0 ∧ inS q n x ∧ e = 0 ∧ UtcL q n x y m d h i s)
theorem sE_not {q : Nat → Int × Bool} {n : Nat} {x e : Int} (h : sE q n x e) : e ≠ 0 := by
 rcases h with ⟨a, rfl⟩ | ⟨_, _, rfl⟩
 ·exact a
 ·decide
/-! ### What there is to be answered -/
theorem utc_some {q : Nat → Int × Bool} {n : Nat} (L : Lps q n) {x : Int} (hx : inS q n x) : ∃ y m d h i s, UtcL q n x y m d h i s := by
 obtain ⟨D, d0, d1, hD⟩ := day_some L x hx.1 hx.2
 obtain ⟨y, m, d, ok, e⟩ := dnum_some D d0 (by omega)
 exact ⟨y, m, d, _, _, _, ok, by rw [e]; exact hD, rfl, rfl, rfl⟩
theorem UtcL.hands {q : Nat → Int × Bool} {n : Nat} (L : Lps q n) {x y m d h i s : Int} (u : UtcL q n x y m d h i s) : okD y m d = true ∧ okH h i s = true ∧ okL (lng q n (dnum y m d)) h i s ∧ sec h i s = x - bg q n (dnum y m d) := by
 obtain ⟨ok, hD, rfl, rfl, rfl⟩ := u
 have p := hD.place L
 have ll := lng_le L (dnum y m d)
 have o := lab_ok (lng q n (dnum y m d)) (x - bg q n (dnum y m d)) p.1 p.2 ll.2
 obtain ⟨o1, o2, o3, o4, o5, o6, o7, o8⟩ := o
 exact ⟨ok, decide_eq_true ⟨o1, o2, o3, o4, o5, o6⟩, ⟨o1, o2, o3, o4, o5, o6, o7, o8⟩, lab_sec _⟩
theorem UtcL.later {q : Nat → Int × Bool} {n : Nat} (L : Lps q n) {x y m d h i s x' y' m' d' h' i' s' : Int} (u : UtcL q n x y m d h i s) (u' : UtcL q n x' y' m' d' h' i' s') (lt : x < x') : Earlier y m d h i s y' m' d' h' i' s' := by
 obtain ⟨ok, hD, rfl, rfl, rfl⟩ := u
 obtain ⟨ok', hD', rfl, rfl, rfl⟩ := u'
 have mono := hD.mono L hD' (by omega)
 by_cases c : dnum y m d < dnum y' m' d'
 ·rcases date_later ok ok' c with k | ⟨rfl, k | ⟨rfl, k⟩⟩
  ·exact Or.inl k
  ·exact Or.inr ⟨rfl, Or.inl k⟩
  ·exact Or.inr ⟨rfl, Or.inr ⟨rfl, Or.inl k⟩⟩
 ·have e : dnum y m d = dnum y' m' d' := by omega
  obtain ⟨rfl, rfl, rfl⟩ := dnum_one ok ok' e
  have p := hD.place L
  have p' := hD'.place L
  have ll := lng_le L (dnum y m d)
  rcases lab_later p.1 (show x - bg q n (dnum y m d) < x' - bg q n (dnum y m d) by omega) (by omega) with k | ⟨e1, k | ⟨e2, k⟩⟩
  ·exact Or.inr ⟨rfl, Or.inr ⟨rfl, Or.inr ⟨rfl, Or.inl k⟩⟩⟩
  ·exact Or.inr ⟨rfl, Or.inr ⟨rfl, Or.inr ⟨rfl, Or.inr ⟨e1, Or.inl k⟩⟩⟩⟩
  ·exact Or.inr ⟨rfl, Or.inr ⟨rfl, Or.inr ⟨rfl, Or.inr ⟨e1, Or.inr ⟨e2, k⟩⟩⟩⟩⟩
def Bls (w : World) (b off n : Nat) (f : Nat → Bool) : Prop := ∀ i, i < n → w.cell? ⟨b, off + i, none⟩ = some (.bool (f i))
theorem Bls.on {W u : World} {b off n : Nat} {f : Nat → Bool} (hb : Below W.heap.size W u) (h : Bls W b off n f) : Bls u b off n f := fun i hi => by
 rw [hb.cell (World.block_lt_of_cell? _ _ (h i hi))]; exact h i hi
def BHanded (w : World) (a : Option Addr) (n : Nat) (f : Nat → Bool) : Prop := n ≤ 9223372036854775807 ∧ (n = 0 ∨ ∃ b off : Nat, a = some ⟨b, off, none⟩ ∧ Bls w b off n f)
theorem BHanded.on {W u : World} {a : Option Addr} {n : Nat} {f : Nat → Bool} (hb : Below W.heap.size W u) (h : BHanded W a n f) : BHanded u a n f :=
 ⟨h.1, h.2.imp id (fun ⟨b, off, e, s⟩ => ⟨b, off, e, s.on hb⟩)⟩
def Sls (w : World) (b off n : Nat) (f : Nat → Int × Int) : Prop := ∀ i, i < n → w.cell? ⟨b, off + i * 2, none⟩ = some (.int .i64 (f i).1) ∧ w.cell? ⟨b, off + i * 2 + 1, none⟩ = some (.int .i64 (f i).2)
theorem Sls.on {W u : World} {b off n : Nat} {f : Nat → Int × Int} (hb : Below W.heap.size W u) (h : Sls W b off n f) : Sls u b off n f := fun i hi => by
 obtain ⟨h0, h1⟩ := h i hi
 exact ⟨by rw [hb.cell (World.block_lt_of_cell? _ _ h0)]; exact h0, by rw [hb.cell (World.block_lt_of_cell? _ _ h1)]; exact h1⟩
def SHanded (w : World) (a : Option Addr) (n : Nat) (f : Nat → Int × Int) : Prop := n ≤ 9223372036854775807 ∧ (n = 0 ∨ ∃ b off : Nat, a = some ⟨b, off, none⟩ ∧ Sls w b off n f)
theorem SHanded.on {W u : World} {a : Option Addr} {n : Nat} {f : Nat → Int × Int} (hb : Below W.heap.size W u) (h : SHanded W a n f) : SHanded u a n f :=
 ⟨h.1, h.2.imp id (fun ⟨b, off, e, s⟩ => ⟨b, off, e, s.on hb⟩)⟩
end Go.Proofs.YtadkgnbagmnkkakGreatDoor
