/- noonref1.Number and package span's own reading of a number agree at every text. -/
import Derived.Test.YtonlhhkepclnpaaDoorNumber
namespace Go.Proofs.YtonlhhkepclnpaaDoor
open Go.ChangeShapes Go.WideShapes Go.ChangeAt Go.RowKit Go.Joins
set_option linter.unusedVariables false

theorem get0 {s : ByteArray} {b : UInt8} {r : List UInt8} (h : s.data.toList = b :: r) (h0 : 0 < s.size) : s[0] = b := by
  have := head_of s (by omega)
  rw [h] at this
  simpa using this.symm

theorem get0i {s : ByteArray} {b : UInt8} {r : List UInt8} (h : s.data.toList = b :: r) (h0 : 0 < s.size) (n : Nat) (hb : b.toNat = n) : (s[0].toNat : Int) = n := by
  rw [get0 h h0, hb]

theorem get0n {s : ByteArray} {b : UInt8} {r : List UInt8} (h : s.data.toList = b :: r) (h0 : 0 < s.size) (c : UInt8) (hb : b ≠ c) : ((s[0].toNat : Int) == (c.toNat : Int)) = false := by
  rw [get0 h h0, beq_eq_false_iff_ne]
  intro e
  apply hb
  apply UInt8.toNat_inj.1
  omega

theorem notEmpty {s : ByteArray} (h : 0 < s.size) : s.toList.isEmpty = false := by
  rw [toList_data]
  cases e : s.data.toList with
  | nil => rw [Lib.size_eq, e] at h; simp at h
  | cons a t => rfl

theorem ext1 {s d : ByteArray} {b : UInt8} {r : List UInt8} (h : s.data.toList = b :: r) (hd : d.data.toList = r) : s.extract 1 s.size = d := by
  apply ByteArray.ext
  apply Array.toList_inj.1
  rw [Lib.extract_to_end, h, hd]
  rfl

theorem len_cons {s : ByteArray} {b : UInt8} {r : List UInt8} (h : s.data.toList = b :: r) : s.size = r.length + 1 := by rw [size_of h]; rfl

theorem number_some (s : ByteArray) (n : Int) (w : World) (hs : s.size ≤ maxLen) (h : readNum s.data.toList = some n) :
    Calls Tryd.prog 35 #[.string s, .int .i64 13] w fun e w' => e = .returned (.tuple #[.int .i64 n, .bool true]) ∧ w' = w := by
  obtain ⟨p1, p2, p3, p4, p5, p6⟩ := readNum_parts h
  obtain ⟨b, r, el, hc⟩ := Lib.atoi_cases p5
  have hl := len_cons el
  rw [el] at p1 p2 p3 p4
  rcases hc with ⟨rfl, m, hne, hd, rfl⟩ | ⟨rfl, m, hne, hd, rfl⟩ | ⟨hb1, hb2, m, hd, rfl⟩
  · rw [trim_minus] at p1 p2 p3 p4
    obtain ⟨D, hD⟩ := ba_of r
    have hDs := size_of hD
    cases r with
    | nil => exact absurd rfl hne
    | cons c t =>
      have hc48 : c ≠ 48 := by
        rcases p4 with p4 | p4
        · simpa using p4
        · cases p4
      exact number_okL s D m w hs (by simp at hl; omega) (get0i el (by omega) 45 rfl) (ext1 el hD) (notEmpty (by omega)) (by omega) (by omega) (get0n hD (by omega) 48 hc48) (by show _ = _; rw [hD]; exact hd)
  · exfalso
    rw [trim_plain 43 r (by decide)] at p3
    have p3' : (43 :: r).all isDig = true := p3
    simp only [List.all_cons, Bool.and_eq_true] at p3'
    exact (dig_not_minus p3'.1).2.1 rfl
  · rw [trim_plain b r hb1] at p1 p2 p3 p4
    simp only [List.length_cons] at p1 p2
    cases r with
    | nil =>
      simp at hl
      by_cases h48 : b = 48
      · subst h48
        exact number_okZ s m w (by omega) (notEmpty (by omega)) (by omega) (by omega) (get0i el (by omega) 48 rfl) (by show _ = _; rw [el]; exact hd)
      · exact number_okA s m w (by omega) (notEmpty (by omega)) (by omega) (by omega) (get0n el (by omega) 48 h48) (by show _ = _; rw [el]; exact hd)
    | cons c t =>
      simp at hl
      have h48 : b ≠ 48 := by
        rcases p4 with p4 | p4
        · simpa using p4
        · cases p4
      exact number_okB s m w hs (by omega) (get0n el (by omega) 45 hb1) (notEmpty (by omega)) (by simp at p2; omega) (get0n el (by omega) 48 h48) (by show _ = _; rw [el]; exact hd)

theorem number_none (s : ByteArray) (w : World) (hs : s.size ≤ maxLen) (h : readNum s.data.toList = none) :
    Calls Tryd.prog 35 #[.string s, .int .i64 13] w fun e w' => e = .returned (.tuple #[.int .i64 0, .bool false]) ∧ w' = w := by
  have hs' := hs
  unfold maxLen at hs'
  have p := readNum_none h
  cases el : s.data.toList with
  | nil =>
    have hl : s.size = 0 := by rw [size_of el]; rfl
    exact number_emptyA s w (by omega) (by rw [toList_data, el]; rfl)
  | cons b r =>
    have hl := len_cons el
    rw [el] at p
    by_cases hb : b = 45
    · subst hb
      cases r with
      | nil =>
        simp at hl
        exact number_badA s w (by omega) (notEmpty (by omega)) (by omega) (by omega) (get0n el (by omega) 48 (by decide)) (by show _ = _; rw [el]; rfl)
      | cons c t =>
        rw [trim_minus] at p
        obtain ⟨D, hD⟩ := ba_of (c :: t)
        have hDs := len_cons hD
        simp only [List.length_cons] at hl
        rw [← hD, ← Lib.size_eq] at p
        by_cases q2 : 13 < D.size
        · exact number_longL s D w hs (by omega) (get0i el (by omega) 45 rfl) (ext1 el hD) (notEmpty (by omega)) q2 (by omega)
        · by_cases q4 : c = 48
          · subst q4
            exact number_zeroL s D w hs (by omega) (get0i el (by omega) 45 rfl) (ext1 el hD) (notEmpty (by omega)) (by omega) (by omega) (get0i hD (by omega) 48 rfl)
          · refine number_badL s D w hs (by omega) (get0i el (by omega) 45 rfl) (ext1 el hD) (notEmpty (by omega)) (by omega) (by omega) (get0n hD (by omega) 48 q4) ?_
            show _ = _
            rcases p with p | p | p | ⟨_, _, _, p, _⟩
            · omega
            · omega
            · exact p
            · rw [hD] at p
              simp at p
              exact absurd p q4
    · rw [trim_plain b r hb] at p
      cases r with
      | nil =>
        simp at hl
        have bad : allDig s.data.toList = false := by
          rcases p with p | p | p | ⟨_, _, _, p, p5⟩
          · simp at p
          · simp at p
          · rw [el]; exact p
          · simp at p
            subst p
            exact absurd rfl p5
        by_cases q4 : b = 48
        · subst q4
          exact number_badZ s w (by omega) (notEmpty (by omega)) (by omega) (by omega) (get0i el (by omega) 48 rfl) bad
        · exact number_badA s w (by omega) (notEmpty (by omega)) (by omega) (by omega) (get0n el (by omega) 48 q4) bad
      | cons c t =>
        simp only [List.length_cons] at hl
        rw [← el, ← Lib.size_eq] at p
        by_cases q2 : 13 < s.size
        · exact number_longB s w hs (by omega) (get0n el (by omega) 45 hb) (notEmpty (by omega)) q2 (by omega)
        · by_cases q4 : b = 48
          · subst q4
            exact number_zeroB s w hs (by omega) (get0n el (by omega) 45 hb) (notEmpty (by omega)) (by omega) (get0i el (by omega) 48 rfl)
          · refine number_badB s w hs (by omega) (get0n el (by omega) 45 hb) (notEmpty (by omega)) (by omega) (get0n el (by omega) 48 q4) ?_
            show _ = _
            rcases p with p | p | p | ⟨_, _, _, p, _⟩
            · omega
            · omega
            · exact p
            · rw [el] at p
              simp at p
              exact absurd p q4
end Go.Proofs.YtonlhhkepclnpaaDoor
