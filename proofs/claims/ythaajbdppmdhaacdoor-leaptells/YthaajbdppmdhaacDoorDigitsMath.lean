/- Texts that are just a form: plain mathematics of bytes. -/
import Derived.Test.YthaajbdppmdhaacDoorCivilRound
namespace Go.Proofs.YthaajbdppmdhaacDoor
set_option linter.unusedVariables false

/-- Is a byte as the form's byte asks? A 0 stands for any digit. -/
def bF (f b : UInt8) : Bool := if f.toNat = 48 then cd b else decide (b.toNat = f.toNat)
/-- A text is just a form. -/
def FitsP (s f : ByteArray) : Prop := ∃ h : s.size = f.size, ∀ i (hi : i < f.size), bF f[i] (s[i]'(h ▸ hi)) = true
theorem first_bF (s f : ByteArray) (h : s.size = f.size) : ∀ n, n ≤ f.size → (∀ i (hi : i < f.size), i < n → bF f[i] (s[i]'(h ▸ hi)) = true) ∨ ∃ j, ∃ hj : j < f.size, j < n ∧ bF f[j] (s[j]'(h ▸ hj)) = false ∧ ∀ i (hi : i < f.size), i < j → bF f[i] (s[i]'(h ▸ hi)) = true
  | 0, _ => Or.inl fun i h hi => by omega
  | n + 1, hn => by
    rcases first_bF s f h n (by omega) with g | ⟨j, hj, h1, h2, h3⟩
    · have hlt : n < f.size := by omega
      cases c : bF f[n] (s[n]'(h ▸ hlt)) with
      | true =>
        refine Or.inl fun i h' hi => ?_
        by_cases e : i = n
        · subst e; exact c
        · exact g i h' (by omega)
      | false => exact Or.inr ⟨n, hlt, by omega, c, g⟩
    · exact Or.inr ⟨j, hj, by omega, h2, h3⟩
/-- The form of a date. -/
def fD : ByteArray := ⟨#[48, 48, 48, 48, 45, 48, 48, 45, 48, 48]⟩
theorem fits_date (s : ByteArray) : FitsP s fD ↔ Shp s := by
  constructor
  · rintro ⟨hs, h⟩
    have hs' : s.size = 10 := hs
    obtain ⟨b0, b1, b2, b3, b4, b5, b6, b7, b8, b9, rfl⟩ := ten_bytes s hs'
    refine ⟨rfl, of_decide_eq_true (h 4 (by show 4 < 10; decide)), of_decide_eq_true (h 7 (by show 7 < 10; decide)), ?_, ?_, ?_⟩
    · rw [ex04]; exact (allD4 _ _ _ _).2 ⟨h 0 (by show 0 < 10; decide), h 1 (by show 1 < 10; decide), h 2 (by show 2 < 10; decide), h 3 (by show 3 < 10; decide)⟩
    · rw [ex57]; exact (allD2 _ _).2 ⟨h 5 (by show 5 < 10; decide), h 6 (by show 6 < 10; decide)⟩
    · rw [ex8a]; exact (allD2 _ _).2 ⟨h 8 (by show 8 < 10; decide), h 9 (by show 9 < 10; decide)⟩
  · rintro ⟨hs, h4, h7, p, q, r⟩
    refine ⟨hs, ?_⟩
    obtain ⟨b0, b1, b2, b3, b4, b5, b6, b7, b8, b9, rfl⟩ := ten_bytes s hs
    rw [ex04] at p
    rw [ex57] at q
    rw [ex8a] at r
    obtain ⟨p0, p1, p2, p3⟩ := (allD4 _ _ _ _).1 p
    obtain ⟨q0, q1⟩ := (allD2 _ _).1 q
    obtain ⟨r0, r1⟩ := (allD2 _ _).1 r
    intro i hi
    have hi' : i < 10 := hi
    match i, hi' with
    | 0, _ => exact p0
    | 1, _ => exact p1
    | 2, _ => exact p2
    | 3, _ => exact p3
    | 4, _ => exact decide_eq_true h4
    | 5, _ => exact q0
    | 6, _ => exact q1
    | 7, _ => exact decide_eq_true h7
    | 8, _ => exact r0
    | 9, _ => exact r1
end Go.Proofs.YthaajbdppmdhaacDoor
