/- A date's text is read as that date, and a text that is read as a date is that date's text: plain mathematics of ten bytes. -/
import Derived.Test.YthaajbdppmdhaacDoorCivilDigits
namespace Go.Proofs.YthaajbdppmdhaacDoor
set_option linter.unusedVariables false

theorem ten_bytes (s : ByteArray) (h : s.size = 10) : ∃ b0 b1 b2 b3 b4 b5 b6 b7 b8 b9 : UInt8, s = ⟨#[b0, b1, b2, b3, b4, b5, b6, b7, b8, b9]⟩ := by
  obtain ⟨⟨l⟩⟩ := s
  have hl : l.length = 10 := h
  match l, hl with
  | [b0, b1, b2, b3, b4, b5, b6, b7, b8, b9], _ => exact ⟨b0, b1, b2, b3, b4, b5, b6, b7, b8, b9, rfl⟩
theorem ex04 (b0 b1 b2 b3 b4 b5 b6 b7 b8 b9 : UInt8) : (⟨#[b0, b1, b2, b3, b4, b5, b6, b7, b8, b9]⟩ : ByteArray).extract 0 4 = ⟨#[b0, b1, b2, b3]⟩ := rfl
theorem ex57 (b0 b1 b2 b3 b4 b5 b6 b7 b8 b9 : UInt8) : (⟨#[b0, b1, b2, b3, b4, b5, b6, b7, b8, b9]⟩ : ByteArray).extract 5 7 = ⟨#[b5, b6]⟩ := rfl
theorem ex8a (b0 b1 b2 b3 b4 b5 b6 b7 b8 b9 : UInt8) : (⟨#[b0, b1, b2, b3, b4, b5, b6, b7, b8, b9]⟩ : ByteArray).extract 8 10 = ⟨#[b8, b9]⟩ := rfl
theorem allD2 (a b : UInt8) : allD ⟨#[a, b]⟩ ↔ cd a = true ∧ cd b = true := by
  constructor
  · intro h; exact ⟨h 0 (by show 0 < 2; decide), h 1 (by show 1 < 2; decide)⟩
  · rintro ⟨h0, h1⟩ i hi
    match i, hi with
    | 0, _ => exact h0
    | 1, _ => exact h1
    | i + 2, hi => exact absurd (show i + 2 < 2 from hi) (by omega)
theorem allD4 (a b c d : UInt8) : allD ⟨#[a, b, c, d]⟩ ↔ cd a = true ∧ cd b = true ∧ cd c = true ∧ cd d = true := by
  constructor
  · intro h; exact ⟨h 0 (by show 0 < 4; decide), h 1 (by show 1 < 4; decide), h 2 (by show 2 < 4; decide), h 3 (by show 3 < 4; decide)⟩
  · rintro ⟨h0, h1, h2, h3⟩ i hi
    match i, hi with
    | 0, _ => exact h0
    | 1, _ => exact h1
    | 2, _ => exact h2
    | 3, _ => exact h3
    | i + 4, hi => exact absurd (show i + 4 < 4 from hi) (by omega)
theorem pv2 (a b : UInt8) : pv [a, b] = ((a.toNat : Int) - 48) * 10 + ((b.toNat : Int) - 48) := by simp [pv]; omega
theorem pv4 (a b c d : UInt8) : pv [a, b, c, d] = (((a.toNat : Int) - 48) * 10 + ((b.toNat : Int) - 48)) * 100 + ((c.toNat : Int) - 48) * 10 + ((d.toNat : Int) - 48) := by simp [pv]; omega
theorem db_nat (n : Int) (h0 : 0 ≤ n) (h1 : n ≤ 9) : ((db n).toNat : Int) = 48 + n := by
  unfold db
  rw [UInt8.toNat_ofNat']
  omega
theorem cd_db (n : Int) (h0 : 0 ≤ n) (h1 : n ≤ 9) : cd (db n) = true := by
  have := db_nat n h0 h1
  exact decide_eq_true (by omega)
theorem db_of {b : UInt8} (h : cd b = true) (n : Int) (hn : n = (b.toNat : Int) - 48) : db n = b := by
  have := cd_t h
  apply UInt8.toNat_inj.1
  have := db_nat n (by omega) (by omega)
  omega
/-- A date's text is read as that date. -/
theorem text_read {y m d : Int} (ok : okD y m d = true) : RD (dtext y m d) y m d 0 := by
  obtain ⟨a1, a2, a3, a4, a5, a6⟩ := okD_t ok
  have ml := mdays_le y m
  have ey : yr (dtext y m d) = y := by
    show pv [db (y / 1000), db (y / 100 % 10), db (y / 10 % 10), db (y % 10)] = y
    rw [pv4, db_nat _ (by omega) (by omega), db_nat _ (by omega) (by omega), db_nat _ (by omega) (by omega), db_nat _ (by omega) (by omega)]
    omega
  have em : mo (dtext y m d) = m := by
    show pv [db (m / 10), db (m % 10)] = m
    rw [pv2, db_nat _ (by omega) (by omega), db_nat _ (by omega) (by omega)]
    omega
  have ed : da (dtext y m d) = d := by
    show pv [db (d / 10), db (d % 10)] = d
    rw [pv2, db_nat _ (by omega) (by omega), db_nat _ (by omega) (by omega)]
    omega
  have x1 : (dtext y m d).extract 0 4 = ⟨#[db (y / 1000), db (y / 100 % 10), db (y / 10 % 10), db (y % 10)]⟩ := ex04 _ _ _ _ _ _ _ _ _ _
  have x2 : (dtext y m d).extract 5 7 = ⟨#[db (m / 10), db (m % 10)]⟩ := ex57 _ _ _ _ _ _ _ _ _ _
  have x3 : (dtext y m d).extract 8 10 = ⟨#[db (d / 10), db (d % 10)]⟩ := ex8a _ _ _ _ _ _ _ _ _ _
  refine Or.inr (Or.inr ⟨⟨rfl, rfl, rfl, ?_, ?_, ?_⟩, by rw [ey, em, ed]; exact ok, rfl, ey.symm, em.symm, ed.symm⟩)
  · rw [x1]
    exact (allD4 _ _ _ _).2 ⟨cd_db _ (by omega) (by omega), cd_db _ (by omega) (by omega), cd_db _ (by omega) (by omega), cd_db _ (by omega) (by omega)⟩
  · rw [x2]
    exact (allD2 _ _).2 ⟨cd_db _ (by omega) (by omega), cd_db _ (by omega) (by omega)⟩
  · rw [x3]
    exact (allD2 _ _).2 ⟨cd_db _ (by omega) (by omega), cd_db _ (by omega) (by omega)⟩
/-- .. and a text that is read is that date's. -/
theorem read_text {s : ByteArray} (h : Shp s) : dtext (yr s) (mo s) (da s) = s := by
  obtain ⟨hs, h4, h7, p, q, r⟩ := h
  obtain ⟨b0, b1, b2, b3, b4, b5, b6, b7, b8, b9, rfl⟩ := ten_bytes s hs
  have e4 : b4 = 45 := UInt8.toNat_inj.1 h4
  have e7 : b7 = 45 := UInt8.toNat_inj.1 h7
  subst e4 e7
  rw [ex04] at p
  rw [ex57] at q
  rw [ex8a] at r
  obtain ⟨p0, p1, p2, p3⟩ := (allD4 _ _ _ _).1 p
  obtain ⟨q0, q1⟩ := (allD2 _ _).1 q
  obtain ⟨r0, r1⟩ := (allD2 _ _).1 r
  have ey : yr ⟨#[b0, b1, b2, b3, 45, b5, b6, 45, b8, b9]⟩ = pv [b0, b1, b2, b3] := rfl
  have em : mo ⟨#[b0, b1, b2, b3, 45, b5, b6, 45, b8, b9]⟩ = pv [b5, b6] := rfl
  have ed : da ⟨#[b0, b1, b2, b3, 45, b5, b6, 45, b8, b9]⟩ = pv [b8, b9] := rfl
  rw [ey, em, ed, pv4, pv2, pv2]
  have := cd_t p0; have := cd_t p1; have := cd_t p2; have := cd_t p3
  have := cd_t q0; have := cd_t q1; have := cd_t r0; have := cd_t r1
  unfold dtext d4 d2
  rw [db_of p0 _ (by omega), db_of p1 _ (by omega), db_of p2 _ (by omega), db_of p3 _ (by omega), db_of q0 _ (by omega), db_of q1 _ (by omega), db_of r0 _ (by omega), db_of r1 _ (by omega)]
  rfl
end Go.Proofs.YthaajbdppmdhaacDoor
