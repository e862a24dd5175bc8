/- What there is to be answered of leaps, seconds and labels. -/
import Derived.Test.YthaajbdppmdhaacDoorLeapSpn
import Derived.Test.YthaajbdppmdhaacDoorLeapText
import Derived.Test.YthaajbdppmdhaacDoorCivilErr
namespace Go.Proofs.YthaajbdppmdhaacDoor
open Go.ChangeShapes Go.WideShapes Go.ChangeAt Go.RowKit
set_option linter.unusedVariables false

abbrev lbl (y m d h i s : Int) : Value := .agg #[.int .i64 y, .int .i64 m, .int .i64 d, .int .i64 h, .int .i64 i, .int .i64 s]
/-- The number of a label: what must be answered of leaps as they may be. -/
def TaiL (q : Nat → Int × Bool) (n : Nat) (y m d h i s v e : Int) : Prop :=
  ((okD y m d && okH h i s) = false ∧ v = 0 ∧ e = 1) ∨ ((okD y m d && okH h i s) = true ∧ ¬ okL (lng q n (dnum y m d)) h i s ∧ v = 0 ∧ e = 5) ∨
  ((okD y m d && okH h i s) = true ∧ okL (lng q n (dnum y m d)) h i s ∧ v = bg q n (dnum y m d) + sec h i s ∧ e = 0)
/-- Tai, of any leaps. -/
def TaiA (q : Nat → Int × Bool) (n : Nat) (y m d h i s v e : Int) : Prop := (lE q n ≠ 0 ∧ v = 0 ∧ e = lE q n) ∨ (lE q n = 0 ∧ TaiL q n y m d h i s v e)
/-- The label of a second: what must be answered. -/
def UtcL (q : Nat → Int × Bool) (n : Nat) (x y m d h i s : Int) : Prop :=
  okD y m d = true ∧ IsDay q n x (dnum y m d) ∧ h = (lab (x - bg q n (dnum y m d))).1 ∧ i = (lab (x - bg q n (dnum y m d))).2.1 ∧ s = (lab (x - bg q n (dnum y m d))).2.2
/-- Is a number a second of these years? -/
def inS (q : Nat → Int × Bool) (n : Nat) (x : Int) : Prop := 0 ≤ x ∧ x < bg q n 84006
/-- What is wrong with a second, of any leaps. -/
def sE (q : Nat → Int × Bool) (n : Nat) (x e : Int) : Prop := (lE q n ≠ 0 ∧ e = lE q n) ∨ (lE q n = 0 ∧ ¬ inS q n x ∧ e = 1)
def UtcA (q : Nat → Int × Bool) (n : Nat) (x y m d h i s e : Int) : Prop := (sE q n x e ∧ y = 0 ∧ m = 0 ∧ d = 0 ∧ h = 0 ∧ i = 0 ∧ s = 0) ∨ (lE q n = 0 ∧ inS q n x ∧ e = 0 ∧ UtcL q n x y m d h i s)
def AheadA (q : Nat → Int × Bool) (n : Nat) (x v e : Int) : Prop := (sE q n x e ∧ v = 0) ∨ (lE q n = 0 ∧ inS q n x ∧ e = 0 ∧ ∃ D, IsDay q n x D ∧ v = mor q n D)
def SmearA (q : Nat → Int × Bool) (n : Nat) (x v e : Int) : Prop := (sE q n x e ∧ v = 0) ∨ (lE q n = 0 ∧ inS q n x ∧ e = 0 ∧ Smr q n x v)
theorem sE_not {q : Nat → Int × Bool} {n : Nat} {x e : Int} (h : sE q n x e) : e ≠ 0 := by
  rcases h with ⟨a, rfl⟩ | ⟨_, _, rfl⟩
  · exact a
  · decide
theorem sE_one {q : Nat → Int × Bool} {n : Nat} {x e e' : Int} (h : sE q n x e) (h' : sE q n x e') : e = e' := by
  rcases h with ⟨a, rfl⟩ | ⟨a, _, rfl⟩
  · rcases h' with ⟨_, rfl⟩ | ⟨b, _⟩
    · rfl
    · exact absurd b a
  · rcases h' with ⟨b, _⟩ | ⟨_, _, rfl⟩
    · exact absurd a b
    · rfl
/-! ### What there is to be answered -/
theorem lps_of {q : Nat → Int × Bool} {n : Nat} (h : lE q n = 0) : Lps q n := (lE_zero h).2
theorem utc_some {q : Nat → Int × Bool} {n : Nat} (L : Lps q n) {x : Int} (hx : inS q n x) : ∃ y m d h i s, UtcL q n x y m d h i s := by
  obtain ⟨D, d0, d1, hD⟩ := day_some L x hx.1 hx.2
  obtain ⟨y, m, d, ok, e⟩ := dnum_some D d0 (by omega)
  exact ⟨y, m, d, _, _, _, ok, by rw [e]; exact hD, rfl, rfl, rfl⟩
theorem UtcL.hands {q : Nat → Int × Bool} {n : Nat} (L : Lps q n) {x y m d h i s : Int} (u : UtcL q n x y m d h i s) : okD y m d = true ∧ okH h i s = true ∧ okL (lng q n (dnum y m d)) h i s ∧ sec h i s = x - bg q n (dnum y m d) := by
  obtain ⟨ok, hD, rfl, rfl, rfl⟩ := u
  have p := hD.place L
  have ll := lng_le L (dnum y m d)
  have o := lab_ok (lng q n (dnum y m d)) (x - bg q n (dnum y m d)) p.1 p.2 ll.2
  obtain ⟨o1, o2, o3, o4, o5, o6, o7, o8⟩ := o
  exact ⟨ok, decide_eq_true ⟨o1, o2, o3, o4, o5, o6⟩, ⟨o1, o2, o3, o4, o5, o6, o7, o8⟩, lab_sec _⟩
/-- Each second has one label, and each label its second. -/
theorem UtcL.tai {q : Nat → Int × Bool} {n : Nat} (L : Lps q n) {x y m d h i s : Int} (u : UtcL q n x y m d h i s) : TaiL q n y m d h i s x 0 := by
  obtain ⟨ok, oh, ol, es⟩ := u.hands L
  exact Or.inr (Or.inr ⟨by rw [ok, oh]; rfl, ol, by rw [es]; omega, rfl⟩)
/-- A later second has a later label. -/
theorem UtcL.later {q : Nat → Int × Bool} {n : Nat} (L : Lps q n) {x y m d h i s x' y' m' d' h' i' s' : Int} (u : UtcL q n x y m d h i s) (u' : UtcL q n x' y' m' d' h' i' s') (lt : x < x') : Earlier y m d h i s y' m' d' h' i' s' := by
  obtain ⟨ok, hD, rfl, rfl, rfl⟩ := u
  obtain ⟨ok', hD', rfl, rfl, rfl⟩ := u'
  have mono := hD.mono L hD' (by omega)
  by_cases c : dnum y m d < dnum y' m' d'
  · rcases date_later ok ok' c with k | ⟨rfl, k | ⟨rfl, k⟩⟩
    · exact Or.inl k
    · exact Or.inr ⟨rfl, Or.inl k⟩
    · exact Or.inr ⟨rfl, Or.inr ⟨rfl, Or.inl k⟩⟩
  · have e : dnum y m d = dnum y' m' d' := by omega
    obtain ⟨rfl, rfl, rfl⟩ := dnum_one ok ok' e
    have p := hD.place L
    have p' := hD'.place L
    have ll := lng_le L (dnum y m d)
    rcases lab_later p.1 (show x - bg q n (dnum y m d) < x' - bg q n (dnum y m d) by omega) (by omega) with k | ⟨e1, k | ⟨e2, k⟩⟩
    · exact Or.inr ⟨rfl, Or.inr ⟨rfl, Or.inr ⟨rfl, Or.inl k⟩⟩⟩
    · exact Or.inr ⟨rfl, Or.inr ⟨rfl, Or.inr ⟨rfl, Or.inr ⟨e1, Or.inl k⟩⟩⟩⟩
    · exact Or.inr ⟨rfl, Or.inr ⟨rfl, Or.inr ⟨rfl, Or.inr ⟨e1, Or.inr ⟨e2, k⟩⟩⟩⟩⟩
theorem lng_up {q : Nat → Int × Bool} : ∀ (n : Nat) (d : Int), Lps q n → lng q n d = 86401 → ∃ k, k < n ∧ (q k).1 = d ∧ (q k).2 = true := fun n d L e => by
  by_cases c : ∃ k, k < n ∧ (q k).1 = d
  · obtain ⟨k, hk, rfl⟩ := c
    refine ⟨k, hk, rfl, ?_⟩
    unfold lng at e
    rw [lj_at n L k hk] at e
    cases b : (q k).2 with
    | true => rfl
    | false => rw [b] at e; exact absurd e (by decide)
  · unfold lng at e
    rw [lj_none d n (fun i hi k => c ⟨i, hi, k⟩)] at e
    exact absurd e (by decide)
/-- A second 60 is where a leap is. -/
theorem UtcL.sixty {q : Nat → Int × Bool} {n : Nat} (L : Lps q n) {x y m d h i s : Int} (u : UtcL q n x y m d h i s) (c : s = 60) : h = 23 ∧ i = 59 ∧ ∃ k, k < n ∧ (q k).1 = dnum y m d ∧ (q k).2 = true := by
  obtain ⟨ok, oh, ol, es⟩ := u.hands L
  obtain ⟨a, b, e⟩ := ol.2.2.2.2.2.2.1 c
  exact ⟨a, b, lng_up n _ L e⟩
end Go.Proofs.YthaajbdppmdhaacDoor
