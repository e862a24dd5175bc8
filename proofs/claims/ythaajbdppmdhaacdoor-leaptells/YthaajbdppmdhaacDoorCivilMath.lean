/- Days of months and years, the number of a day and the day of a number: plain numbers alone. -/
namespace Go.Proofs.YthaajbdppmdhaacDoor
set_option linter.unusedVariables false

def leapB (y : Int) : Bool := decide (y % 400 = 0 ∨ (y % 4 = 0 ∧ y % 100 ≠ 0))
def mdays (y m : Int) : Int := if m = 2 then (if leapB y then 29 else 28) else if m = 4 ∨ m = 6 ∨ m = 9 ∨ m = 11 then 30 else 31
def ydays (y : Int) : Int := if leapB y then 366 else 365
/-- Is a date right? -/
def okD (y m d : Int) : Bool := decide (1970 ≤ y ∧ y ≤ 2199 ∧ 1 ≤ m ∧ m ≤ 12 ∧ 1 ≤ d ∧ d ≤ mdays y m)
theorem okD_t {y m d : Int} (h : okD y m d = true) : 1970 ≤ y ∧ y ≤ 2199 ∧ 1 ≤ m ∧ m ≤ 12 ∧ 1 ≤ d ∧ d ≤ mdays y m := of_decide_eq_true h
theorem okD_mk {y m d : Int} (h : 1970 ≤ y ∧ y ≤ 2199 ∧ 1 ≤ m ∧ m ≤ 12 ∧ 1 ≤ d ∧ d ≤ mdays y m) : okD y m d = true := decide_eq_true h
/-- Days ahead of the year 1970 + k. -/
def yoff : Nat → Int
  | 0 => 0
  | k + 1 => yoff k + ydays (1970 + k)
/-- Days ahead of the month 1 + k of a year. -/
def moff (y : Int) : Nat → Int
  | 0 => 0
  | k + 1 => moff y k + mdays y (1 + k)
/-- The number of a day. -/
def dnum (y m d : Int) : Int := yoff (y - 1970).toNat + moff y (m - 1).toNat + d - 1
theorem mdays_le (y m : Int) : 28 ≤ mdays y m ∧ mdays y m ≤ 31 := by unfold mdays; split <;> split <;> omega
theorem ydays_le (y : Int) : 365 ≤ ydays y ∧ ydays y ≤ 366 := by unfold ydays; split <;> omega
theorem moff_mono (y : Int) (i : Nat) : ∀ k, i ≤ k → moff y i ≤ moff y k
  | 0, h => by rw [show i = 0 by omega]; exact Int.le_refl _
  | k + 1, h => by
    by_cases e : i = k + 1
    · rw [e]; exact Int.le_refl _
    · have := moff_mono y i k (by omega); have := mdays_le y (1 + k); simp only [moff]; omega
theorem yoff_mono (i : Nat) : ∀ k, i ≤ k → yoff i ≤ yoff k
  | 0, h => by rw [show i = 0 by omega]; exact Int.le_refl _
  | k + 1, h => by
    by_cases e : i = k + 1
    · rw [e]; exact Int.le_refl _
    · have := yoff_mono i k (by omega); have := ydays_le (1970 + k); simp only [yoff]; omega
/-- The months make the year. -/
theorem moff_year (y : Int) : moff y 12 = ydays y := by
  simp only [moff, mdays, ydays]
  cases leapB y <;> rfl
theorem yoff_all : yoff 230 = 84006 := by decide +kernel
/-- Days ahead of a year, at once. -/
theorem yoff_at (k : Nat) (h : k ≤ 230) : yoff k = 365 * k + (k + 1) / 4 - (if 131 ≤ k then 1 else 0) := by
  have key : ∀ k, k < 231 → yoff k = 365 * k + (k + 1) / 4 - (if 131 ≤ k then 1 else 0) := by decide +kernel
  exact key k (by omega)
/-- Days ahead of a month, at once. -/
def ahead (m : Int) : Int := if m ≤ 1 then 0 else if m = 2 then 31 else if m = 3 then 59 else if m = 4 then 90 else if m = 5 then 120 else if m = 6 then 151 else if m = 7 then 181 else if m = 8 then 212 else if m = 9 then 243 else if m = 10 then 273 else if m = 11 then 304 else if m = 12 then 334 else 365
theorem moff_at (y : Int) (k : Nat) (h : k ≤ 12) : moff y k = ahead (k + 1) + (if 2 ≤ k ∧ leapB y = true then 1 else 0) := by
  have key : ∀ k, k < 13 → ∀ b : Bool, leapB y = b → moff y k = ahead (k + 1) + (if 2 ≤ k ∧ b = true then 1 else 0) := by
    intro k hk b hb
    match k, hk with
    | 0, _ => cases b <;> rfl
    | 1, _ => cases b <;> rfl
    | 2, _ => simp only [moff, mdays, hb]; cases b <;> rfl
    | 3, _ => simp only [moff, mdays, hb]; cases b <;> rfl
    | 4, _ => simp only [moff, mdays, hb]; cases b <;> rfl
    | 5, _ => simp only [moff, mdays, hb]; cases b <;> rfl
    | 6, _ => simp only [moff, mdays, hb]; cases b <;> rfl
    | 7, _ => simp only [moff, mdays, hb]; cases b <;> rfl
    | 8, _ => simp only [moff, mdays, hb]; cases b <;> rfl
    | 9, _ => simp only [moff, mdays, hb]; cases b <;> rfl
    | 10, _ => simp only [moff, mdays, hb]; cases b <;> rfl
    | 11, _ => simp only [moff, mdays, hb]; cases b <;> rfl
    | 12, _ => simp only [moff, mdays, hb]; cases b <;> rfl
  exact key k (by omega) _ rfl
theorem dnum_at {y m d : Int} (h : okD y m d = true) : yoff (y - 1970).toNat ≤ dnum y m d ∧ dnum y m d < yoff ((y - 1970).toNat + 1) ∧ moff y (m - 1).toNat ≤ dnum y m d - yoff (y - 1970).toNat ∧ dnum y m d - yoff (y - 1970).toNat < moff y ((m - 1).toNat + 1) := by
  obtain ⟨h1, h2, h3, h4, h5, h6⟩ := okD_t h
  have a := moff_mono y 0 (m - 1).toNat (Nat.zero_le _)
  have b := moff_mono y ((m - 1).toNat + 1) 12 (by omega)
  rw [moff_year] at b
  have e : moff y ((m - 1).toNat + 1) = moff y (m - 1).toNat + mdays y m := by
    show _ + mdays y (1 + ((m - 1).toNat : Int)) = _
    rw [show (1 + ((m - 1).toNat : Int)) = m by omega]
  have e2 : yoff ((y - 1970).toNat + 1) = yoff (y - 1970).toNat + ydays y := by
    show _ + ydays (1970 + ((y - 1970).toNat : Int)) = _
    rw [show (1970 + ((y - 1970).toNat : Int)) = y by omega]
  simp only [moff] at a
  unfold dnum
  omega
theorem dnum_range {y m d : Int} (h : okD y m d = true) : 0 ≤ dnum y m d ∧ dnum y m d < 84006 := by
  obtain ⟨h1, h2, _⟩ := okD_t h
  obtain ⟨a, b, _⟩ := dnum_at h
  have := yoff_mono 0 (y - 1970).toNat (Nat.zero_le _)
  have := yoff_mono ((y - 1970).toNat + 1) 230 (by omega)
  rw [yoff_all] at this
  simp only [yoff] at *
  omega
/-- Each number has one day at most. -/
theorem dnum_one {y m d y' m' d' : Int} (h : okD y m d = true) (h' : okD y' m' d' = true) (e : dnum y m d = dnum y' m' d') : y = y' ∧ m = m' ∧ d = d' := by
  obtain ⟨a1, a2, a3, a4, a5, a6⟩ := okD_t h
  obtain ⟨b1, b2, b3, b4, b5, b6⟩ := okD_t h'
  obtain ⟨p1, p2, p3, p4⟩ := dnum_at h
  obtain ⟨q1, q2, q3, q4⟩ := dnum_at h'
  have ey : y = y' := by
    by_cases c : y < y'
    · have := yoff_mono ((y - 1970).toNat + 1) (y' - 1970).toNat (by omega); omega
    · by_cases c2 : y' < y
      · have := yoff_mono ((y' - 1970).toNat + 1) (y - 1970).toNat (by omega); omega
      · omega
  subst ey
  have em : m = m' := by
    by_cases c : m < m'
    · have := moff_mono y ((m - 1).toNat + 1) (m' - 1).toNat (by omega); omega
    · by_cases c2 : m' < m
      · have := moff_mono y ((m' - 1).toNat + 1) (m - 1).toNat (by omega); omega
      · omega
  subst em
  refine ⟨rfl, rfl, ?_⟩
  unfold dnum at e
  omega
/-- The last of the first places at which a rising row is no greater. -/
theorem rise_at (f : Nat → Int) (x : Int) : ∀ n, f 0 ≤ x → x < f n → ∃ k, k < n ∧ f k ≤ x ∧ x < f (k + 1)
  | 0, h0, h => by omega
  | n + 1, h0, h => by
    by_cases c : x < f n
    · obtain ⟨k, hk, a, b⟩ := rise_at f x n h0 c
      exact ⟨k, by omega, a, b⟩
    · exact ⟨n, by omega, by omega, h⟩
/-- .. and one at least. -/
theorem dnum_some (n : Int) (h0 : 0 ≤ n) (h : n < 84006) : ∃ y m d, okD y m d = true ∧ dnum y m d = n := by
  obtain ⟨k, hk, a, b⟩ := rise_at yoff n 230 h0 (by rw [yoff_all]; exact h)
  have e2 : yoff (k + 1) = yoff k + ydays (1970 + k) := rfl
  obtain ⟨j, hj, c, d⟩ := rise_at (moff (1970 + k)) (n - yoff k) 12 (by simp only [moff]; omega) (by rw [moff_year]; omega)
  have e3 : moff (1970 + k) (j + 1) = moff (1970 + k) j + mdays (1970 + k) (1 + j) := rfl
  refine ⟨1970 + k, 1 + j, n - yoff k - moff (1970 + k) j + 1, okD_mk ⟨by omega, by omega, by omega, by omega, by omega, by omega⟩, ?_⟩
  unfold dnum
  rw [show ((1970 + (k : Int)) - 1970).toNat = k by omega, show ((1 + (j : Int)) - 1).toNat = j by omega]
  omega
/-- The next day: one more of the month, or the first of the next month, or of the next year. -/
def nxt (y m d : Int) : Int × Int × Int := if d < mdays y m then (y, m, d + 1) else if m < 12 then (y, m + 1, 1) else (y + 1, 1, 1)
theorem dnum_next {y m d : Int} (h : okD y m d = true) : dnum (nxt y m d).1 (nxt y m d).2.1 (nxt y m d).2.2 = dnum y m d + 1 := by
  obtain ⟨h1, h2, h3, h4, h5, h6⟩ := okD_t h
  unfold nxt
  split
  · simp only; unfold dnum; omega
  · split
    · simp only
      have e : moff y ((m + 1) - 1).toNat = moff y (m - 1).toNat + mdays y m := by
        rw [show ((m + 1) - 1).toNat = (m - 1).toNat + 1 by omega]
        show _ + mdays y (1 + ((m - 1).toNat : Int)) = _
        rw [show (1 + ((m - 1).toNat : Int)) = m by omega]
      unfold dnum; omega
    · simp only
      have m12 : m = 12 := by omega
      subst m12
      have e := moff_year y
      have e1 : moff y 12 = moff y 11 + mdays y 12 := rfl
      have e2 : yoff ((y + 1) - 1970).toNat = yoff (y - 1970).toNat + ydays y := by
        rw [show ((y + 1) - 1970).toNat = (y - 1970).toNat + 1 by omega]
        show _ + ydays (1970 + ((y - 1970).toNat : Int)) = _
        rw [show (1970 + ((y - 1970).toNat : Int)) = y by omega]
      have e3 : moff (y + 1) ((1 : Int) - 1).toNat = 0 := rfl
      have e4 : moff y ((12 : Int) - 1).toNat = moff y 11 := rfl
      unfold dnum
      rw [e2, e3, e4]
      omega
theorem okD_next {y m d : Int} (h : okD y m d = true) (hl : dnum y m d < 84005) : okD (nxt y m d).1 (nxt y m d).2.1 (nxt y m d).2.2 = true := by
  obtain ⟨h1, h2, h3, h4, h5, h6⟩ := okD_t h
  unfold nxt
  split
  · exact okD_mk ⟨h1, h2, h3, h4, by simp only; omega, by simp only; omega⟩
  · split
    · exact okD_mk ⟨h1, h2, by simp only; omega, by simp only; omega, by simp only; omega, by have := mdays_le y (m + 1); simp only; omega⟩
    · refine okD_mk ⟨by simp only; omega, ?_, by simp only; omega, by simp only; omega, by simp only; omega, by have := mdays_le (y + 1) 1; simp only; omega⟩
      simp only
      apply Classical.byContradiction
      intro hn
      have ey : y = 2199 := by omega
      have em : m = 12 := by omega
      have ed : d = mdays y m := by omega
      subst ey em ed
      exact absurd hl (by decide +kernel)
end Go.Proofs.YthaajbdppmdhaacDoor
