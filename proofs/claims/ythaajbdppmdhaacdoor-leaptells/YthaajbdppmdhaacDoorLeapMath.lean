/- Seconds that are more or less: how long a day is, when it begins, which day and which second of it a number is, and smeared time: plain numbers alone. -/
import Derived.Test.YthaajbdppmdhaacDoorCivilMath
namespace Go.Proofs.YthaajbdppmdhaacDoor
set_option linter.unusedVariables false

/-- A second more, or one less. -/
def sgn (b : Bool) : Int := if b then 1 else -1
theorem sgn_le (b : Bool) : -1 ≤ sgn b ∧ sgn b ≤ 1 := by unfold sgn; split <;> omega
/-- By how much a day is longer, of the first n leaps. -/
def lj (q : Nat → Int × Bool) : Nat → Int → Int
  | 0, _ => 0
  | n + 1, d => lj q n d + if (q n).1 = d then sgn (q n).2 else 0
/-- How many seconds more there were ahead of a day. -/
def mor (q : Nat → Int × Bool) : Nat → Int → Int
  | 0, _ => 0
  | n + 1, d => mor q n d + if (q n).1 < d then sgn (q n).2 else 0
def lng (q : Nat → Int × Bool) (n : Nat) (d : Int) : Int := 86400 + lj q n d
def bg (q : Nat → Int × Bool) (n : Nat) (d : Int) : Int := 86400 * d + mor q n d
/-- Leaps as they may be. -/
structure Lps (q : Nat → Int × Bool) (n : Nat) : Prop where
  rng : ∀ i, i < n → 1 ≤ (q i).1 ∧ (q i).1 < 84005
  gap : ∀ i, i + 1 < n → (q i).1 + 2 ≤ (q (i + 1)).1
section
variable {q : Nat → Int × Bool} {n : Nat}
theorem Lps.far (h : Lps q n) {i : Nat} : ∀ {j : Nat}, i < j → j < n → (q i).1 + 2 ≤ (q j).1
  | 0, hij, _ => by omega
  | j + 1, hij, hj => by
    have g := h.gap j hj
    by_cases e : i = j
    · subst e; exact g
    · have := h.far (i := i) (j := j) (by omega) (by omega); omega
theorem Lps.less (h : Lps q (n + 1)) : Lps q n := ⟨fun i hi => h.rng i (by omega), fun i hi => h.gap i (by omega)⟩
theorem lj_none (d : Int) : ∀ n, (∀ i, i < n → (q i).1 ≠ d) → lj q n d = 0
  | 0, _ => rfl
  | n + 1, h => by
    simp only [lj]
    rw [lj_none d n (fun i hi => h i (by omega)), if_neg (h n (by omega))]; rfl
theorem lj_at : ∀ n, Lps q n → ∀ i, i < n → lj q n (q i).1 = sgn (q i).2
  | 0, _, i, hi => by omega
  | n + 1, h, i, hi => by
    simp only [lj]
    by_cases e : i = n
    · subst e
      rw [lj_none _ i (fun j hj => by have := h.far (i := j) (j := i) hj (by omega); omega), if_pos rfl]; omega
    · rw [lj_at n h.less i (by omega), if_neg (by have := h.far (i := i) (j := n) (by omega) (by omega); omega)]; omega
theorem lj_le (h : Lps q n) (d : Int) : -1 ≤ lj q n d ∧ lj q n d ≤ 1 := by
  by_cases c : ∃ i, i < n ∧ (q i).1 = d
  · obtain ⟨i, hi, rfl⟩ := c
    rw [lj_at n h i hi]; exact sgn_le _
  · rw [lj_none d n (fun i hi e => c ⟨i, hi, e⟩)]; omega
theorem mor_next (d : Int) : ∀ n, mor q n (d + 1) = mor q n d + lj q n d
  | 0 => rfl
  | n + 1 => by
    have ih := mor_next d n
    simp only [mor, lj]
    by_cases a : (q n).1 < d
    · rw [if_pos a, if_pos (by omega), if_neg (by omega)]; omega
    · by_cases b : (q n).1 = d
      · rw [if_neg a, if_pos (by omega), if_pos b]; omega
      · rw [if_neg a, if_neg (by omega), if_neg b]; omega
theorem bg_next (d : Int) : bg q n (d + 1) = bg q n d + lng q n d := by
  unfold bg lng; rw [mor_next]; omega
theorem mor_zero : ∀ n, Lps q n → mor q n 0 = 0
  | 0, _ => rfl
  | n + 1, h => by
    simp only [mor]
    rw [mor_zero n h.less, if_neg (by have := h.rng n (by omega); omega)]; rfl
theorem mor_le : ∀ (n : Nat) (d : Int), -(n : Int) ≤ mor q n d ∧ mor q n d ≤ n
  | 0, _ => by simp [mor]
  | n + 1, d => by
    have := mor_le n d
    have := sgn_le (q n).2
    simp only [mor]
    split <;> omega
theorem mor_day (h : Lps q n) : ∀ k : Nat, mor q n k ≤ k
  | 0 => by have := mor_zero n h; simp at this ⊢; omega
  | k + 1 => by
    have ih := mor_day h k
    have e : ((k + 1 : Nat) : Int) = (k : Int) + 1 := by omega
    rw [e, mor_next]
    have := lj_le h (k : Int); omega
theorem lng_le (h : Lps q n) (d : Int) : 86399 ≤ lng q n d ∧ lng q n d ≤ 86401 := by have := lj_le h d; unfold lng; omega
theorem bg_zero (h : Lps q n) : bg q n 0 = 0 := by unfold bg; rw [mor_zero n h]; rfl
theorem bg_mono (h : Lps q n) (d : Int) : ∀ k : Nat, bg q n d + 86399 * k ≤ bg q n (d + k)
  | 0 => by simp
  | k + 1 => by
    have ih := bg_mono h d k
    have e : d + ((k + 1 : Nat) : Int) = d + k + 1 := by omega
    rw [e, bg_next]
    have := lng_le h (d + k); omega
theorem bg_lt (h : Lps q n) {d e : Int} (hde : d < e) : bg q n d + 86399 ≤ bg q n e := by
  have := bg_mono h d (e - d).toNat
  rw [show d + ((e - d).toNat : Int) = e by omega] at this
  omega
/-- Which day a second is of. -/
def IsDay (q : Nat → Int × Bool) (n : Nat) (x d : Int) : Prop := bg q n d ≤ x ∧ x < bg q n (d + 1)
theorem IsDay.one (h : Lps q n) {x d e : Int} (a : IsDay q n x d) (b : IsDay q n x e) : d = e := by
  obtain ⟨a1, a2⟩ := a
  obtain ⟨b1, b2⟩ := b
  by_cases c : d < e
  · by_cases c2 : d + 1 = e
    · subst c2; omega
    · have := bg_lt h (show d + 1 < e by omega); omega
  · by_cases c3 : e < d
    · by_cases c2 : e + 1 = d
      · subst c2; omega
      · have := bg_lt h (show e + 1 < d by omega); omega
    · omega
theorem day_some (h : Lps q n) (x : Int) (h0 : 0 ≤ x) (h1 : x < bg q n 84006) : ∃ d, 0 ≤ d ∧ d ≤ 84005 ∧ IsDay q n x d := by
  obtain ⟨k, hk, a, b⟩ := rise_at (fun k => bg q n k) x 84006 (by show bg q n ((0 : Nat) : Int) ≤ x; have := bg_zero h; simp at this ⊢; omega) h1
  exact ⟨k, by omega, by omega, a, by have e : ((k + 1 : Nat) : Int) = (k : Int) + 1 := by omega
                                      rw [e] at b; exact b⟩
/-- A second's place in its day. -/
theorem IsDay.place (h : Lps q n) {x d : Int} (a : IsDay q n x d) : 0 ≤ x - bg q n d ∧ x - bg q n d < lng q n d := by
  have := bg_next (q := q) (n := n) d
  obtain ⟨a1, a2⟩ := a
  omega
theorem IsDay.mk' {x d : Int} (h1 : bg q n d ≤ x) (h2 : x - bg q n d < lng q n d) : IsDay q n x d := ⟨h1, by rw [bg_next]; omega⟩
theorem IsDay.mono (h : Lps q n) {x y d e : Int} (a : IsDay q n x d) (b : IsDay q n y e) (hxy : x ≤ y) : d ≤ e := by
  obtain ⟨a1, a2⟩ := a
  obtain ⟨b1, b2⟩ := b
  by_cases c : e < d
  · by_cases c2 : e + 1 = d
    · subst c2; omega
    · have := bg_lt h (show e + 1 < d by omega); omega
  · omega
/-- A beginning of the search for a day is not behind it. -/
theorem day_ge (h : Lps q n) {x d : Int} (hx : 0 ≤ x) (a : IsDay q n x d) : x / 86401 ≤ d := by
  have m := mor_day h (x / 86401).toNat
  have e : (((x / 86401).toNat : Nat) : Int) = x / 86401 := by omega
  rw [e] at m
  by_cases c : x / 86401 ≤ d
  · exact c
  · have := bg_lt h (show d < x / 86401 by omega)
    obtain ⟨a1, a2⟩ := a
    have b : bg q n (x / 86401) ≤ x := by unfold bg; omega
    have : d + 1 = x / 86401 ∨ d + 1 < x / 86401 := by omega
    rcases this with e1 | e1
    · rw [e1] at a2; omega
    · have := bg_lt h e1; omega
end

/-! ### A second's label -/
/-- Hour, minute and second of a place in a day. -/
def lab (s : Int) : Int × Int × Int := if s = 86400 then (23, 59, 60) else (s / 3600, s % 3600 / 60, s % 60)
def sec (h m s : Int) : Int := h * 3600 + m * 60 + s
theorem lab_sec (s : Int) : sec (lab s).1 (lab s).2.1 (lab s).2.2 = s := by
  unfold lab sec; split <;> simp <;> omega
/-- Is there such a second in a day so long? -/
def okL (L h m s : Int) : Prop := 0 ≤ h ∧ h ≤ 23 ∧ 0 ≤ m ∧ m ≤ 59 ∧ 0 ≤ s ∧ s ≤ 60 ∧ (s = 60 → h = 23 ∧ m = 59 ∧ L = 86401) ∧ sec h m s < L
theorem lab_ok (L s : Int) (h0 : 0 ≤ s) (h1 : s < L) (hL : L ≤ 86401) : okL L (lab s).1 (lab s).2.1 (lab s).2.2 := by
  refine ⟨?_, ?_, ?_, ?_, ?_, ?_, ?_, by rw [lab_sec]; exact h1⟩ <;> unfold lab <;> split <;> simp <;> omega
theorem okL_lab {L h m s : Int} (o : okL L h m s) (hL : L ≤ 86401) : lab (sec h m s) = (h, m, s) := by
  obtain ⟨a1, a2, a3, a4, a5, a6, a7, a8⟩ := o
  by_cases c : s = 60
  · obtain ⟨rfl, rfl, _⟩ := a7 c
    subst c
    rfl
  · have e : ¬ sec h m s = 86400 := by unfold sec; omega
    unfold lab
    rw [if_neg e]
    unfold sec
    simp only [Prod.mk.injEq]
    omega

/-! ### Smeared time -/
/-- In the smeared day of leap i. -/
def Win (q : Nat → Int × Bool) (n : Nat) (i : Nat) (x : Int) : Prop := bg q n (q i).1 + 43200 ≤ x ∧ x < bg q n (q i).1 + 43200 + lng q n (q i).1
def winV (q : Nat → Int × Bool) (n : Nat) (i : Nat) (x : Int) : Int := 1000 * (86400 * (q i).1 + 43200) + 86400000 * (x - (bg q n (q i).1 + 43200)) / lng q n (q i).1
/-- What smeared time a second has. -/
def Smr (q : Nat → Int × Bool) (n : Nat) (x v : Int) : Prop := (∃ i, i < n ∧ Win q n i x ∧ v = winV q n i x) ∨ ((∀ i, i < n → ¬ Win q n i x) ∧ ∃ d, IsDay q n x d ∧ v = 1000 * (x - mor q n d))
section
variable {q : Nat → Int × Bool} {n : Nat}
theorem win_range (h : Lps q n) {i : Nat} {x : Int} (w : Win q n i x) : 1000 * (86400 * (q i).1 + 43200) ≤ winV q n i x ∧ winV q n i x < 1000 * (86400 * ((q i).1 + 1) + 43200) := by
  obtain ⟨w1, w2⟩ := w
  have l := lng_le h (q i).1
  unfold winV
  generalize lng q n (q i).1 = L at *
  generalize bg q n (q i).1 + 43200 = F at *
  have a : 0 ≤ 86400000 * (x - F) / L := Int.ediv_nonneg (by omega) (by omega)
  have b : 86400000 * (x - F) / L < 86400000 := Int.ediv_lt_of_lt_mul (by omega) (Int.mul_lt_mul_of_pos_left (by omega) (by omega))
  omega
theorem win_mono (h : Lps q n) {i : Nat} {x y : Int} (hxy : x ≤ y) : winV q n i x ≤ winV q n i y := by
  have l := lng_le h (q i).1
  unfold winV
  have : 86400000 * (x - (bg q n (q i).1 + 43200)) / lng q n (q i).1 ≤ 86400000 * (y - (bg q n (q i).1 + 43200)) / lng q n (q i).1 := Int.ediv_le_ediv (by omega) (by omega)
  omega
theorem win_order (h : Lps q n) {i j : Nat} (hi : i < n) (hj : j < n) {x y : Int} (hxy : x ≤ y) (a : Win q n i x) (b : Win q n j y) : i ≤ j := by
  by_cases c : j < i
  · have f := h.far c hi
    have g := bg_next (q := q) (n := n) (q j).1
    have k := bg_lt h (show (q j).1 + 1 < (q i).1 by omega)
    obtain ⟨a1, a2⟩ := a
    obtain ⟨b1, b2⟩ := b
    omega
  · omega
theorem win_one (h : Lps q n) {i j : Nat} (hi : i < n) (hj : j < n) {x : Int} (a : Win q n i x) (b : Win q n j x) : i = j := by
  have := win_order h hi hj (Int.le_refl x) a b
  have := win_order h hj hi (Int.le_refl x) b a
  omega
/-- Outside the smeared days: so many thousandths. -/
theorem base_at {x d : Int} : 1000 * (x - mor q n d) = 1000 * (86400 * d + (x - bg q n d)) := by unfold bg; omega
/-- Smeared time never goes back. -/
theorem smr_mono (h : Lps q n) {x y v u : Int} (hxy : x ≤ y) (a : Smr q n x v) (b : Smr q n y u) : v ≤ u := by
  rcases a with ⟨i, hi, wi, rfl⟩ | ⟨no, d, hd, rfl⟩
  · rcases b with ⟨j, hj, wj, rfl⟩ | ⟨no, e, he, rfl⟩
    · have o := win_order h hi hj hxy wi wj
      by_cases c : i = j
      · subst c; exact win_mono h hxy
      · have f := h.far (show i < j by omega) hj
        have := win_range h wi
        have := win_range h wj
        omega
    · have r := win_range h wi
      have nw := no i hi
      obtain ⟨w1, w2⟩ := wi
      have ge : bg q n (q i).1 + 43200 + lng q n (q i).1 ≤ y := by
        apply Classical.byContradiction
        intro hn
        exact nw ⟨by omega, by omega⟩
      rw [base_at]
      have g := bg_next (q := q) (n := n) (q i).1
      have p := he.place h
      have : (q i).1 + 1 ≤ e := by
        apply Classical.byContradiction
        intro hn
        have l := lng_le h e
        have c : e = (q i).1 ∨ e < (q i).1 := by omega
        obtain ⟨e1, e2⟩ := he
        rcases c with rfl | c
        · omega
        · have : e + 1 = (q i).1 ∨ e + 1 < (q i).1 := by omega
          rcases this with k | k
          · rw [k] at e2; omega
          · have := bg_lt h k; omega
      by_cases c : e = (q i).1 + 1
      · subst c; omega
      · omega
  · rcases b with ⟨j, hj, wj, rfl⟩ | ⟨no', e, he, rfl⟩
    · have r := win_range h wj
      have nw := no j hj
      obtain ⟨w1, w2⟩ := wj
      have lt : x < bg q n (q j).1 + 43200 := by
        apply Classical.byContradiction
        intro hn
        exact nw ⟨by omega, by omega⟩
      rw [base_at]
      have p := hd.place h
      have l := lng_le h d
      have : d ≤ (q j).1 := by
        apply Classical.byContradiction
        intro hn
        have g := bg_next (q := q) (n := n) (q j).1
        have l2 := lng_le h (q j).1
        have c : d = (q j).1 + 1 ∨ (q j).1 + 1 < d := by omega
        rcases c with rfl | c
        · omega
        · have := bg_lt h c; omega
      by_cases c : d = (q j).1
      · subst c; omega
      · omega
    · have de := hd.mono h he hxy
      rw [base_at, base_at]
      have p := hd.place h
      have p2 := he.place h
      have l := lng_le h d
      by_cases c : d = e
      · subst c; omega
      · omega
theorem smr_one (h : Lps q n) {x v u : Int} (a : Smr q n x v) (b : Smr q n x u) : v = u := by
  have := smr_mono h (Int.le_refl x) a b
  have := smr_mono h (Int.le_refl x) b a
  omega
theorem smr_some (h : Lps q n) (x : Int) (h0 : 0 ≤ x) (h1 : x < bg q n 84006) : ∃ v, Smr q n x v := by
  by_cases c : ∃ i, i < n ∧ Win q n i x
  · obtain ⟨i, hi, w⟩ := c
    exact ⟨_, Or.inl ⟨i, hi, w, rfl⟩⟩
  · obtain ⟨d, _, _, hd⟩ := day_some h x h0 h1
    exact ⟨_, Or.inr ⟨fun i hi w => c ⟨i, hi, w⟩, d, hd, rfl⟩⟩
end
end Go.Proofs.YthaajbdppmdhaacDoor
