/- In how many spans a number is; what is in the most of them, and in at least so many; and that a walk over the numbers at which spans begin and end tells it. Plain numbers alone. -/
namespace Go.Proofs.YthejaecljkjliacDoor
set_option linter.unusedVariables false

/-- Is x in the span? -/
def inn (s : Int × Int) (x : Int) : Int := if s.1 ≤ x ∧ x ≤ s.2 then 1 else 0
/-- In how many of the first n spans x is. -/
def cnt (q : Nat → Int × Int) : Nat → Int → Int
  | 0, _ => 0
  | n + 1, x => cnt q n x + inn (q n) x
theorem inn_le (s : Int × Int) (x : Int) : 0 ≤ inn s x ∧ inn s x ≤ 1 := by unfold inn; split <;> omega
theorem cnt_le (q : Nat → Int × Int) (x : Int) : ∀ n : Nat, 0 ≤ cnt q n x ∧ cnt q n x ≤ n
  | 0 => by simp [cnt]
  | n + 1 => by have h := cnt_le q x n; have := inn_le (q n) x; simp only [cnt]; omega
/-- Whatever each span that has x has too is in no fewer. -/
theorem cnt_mono (q : Nat → Int × Int) (x y : Int) : ∀ n : Nat, (∀ i, i < n → inn (q i) x = 1 → inn (q i) y = 1) → cnt q n x ≤ cnt q n y
  | 0, _ => by simp [cnt]
  | n + 1, h => by
    have ih := cnt_mono q x y n (fun i hi => h i (by omega))
    have h1 := h n (by omega)
    have := inn_le (q n) x; have := inn_le (q n) y
    simp only [cnt]
    by_cases e : inn (q n) x = 1
    · have := h1 e; omega
    · omega
theorem cnt_congr (q : Nat → Int × Int) (x y : Int) (n : Nat) (h : ∀ i, i < n → inn (q i) x = inn (q i) y) : cnt q n x = cnt q n y := by
  have a := cnt_mono q x y n (fun i hi e => by rw [← h i hi]; exact e)
  have b := cnt_mono q y x n (fun i hi e => by rw [h i hi]; exact e)
  omega
theorem cnt_pos (q : Nat → Int × Int) (x : Int) : ∀ n : Nat, 0 < cnt q n x → ∃ i, i < n ∧ inn (q i) x = 1
  | 0, h => by simp [cnt] at h
  | n + 1, h => by
    by_cases e : inn (q n) x = 1
    · exact ⟨n, by omega, e⟩
    · have := inn_le (q n) x
      simp only [cnt] at h
      obtain ⟨i, hi, he⟩ := cnt_pos q x n (by omega)
      exact ⟨i, by omega, he⟩
theorem cnt_one (q : Nat → Int × Int) (x : Int) : ∀ n i : Nat, i < n → inn (q i) x = 1 → 1 ≤ cnt q n x
  | 0, i, h, _ => by omega
  | n + 1, i, h, e => by
    have := inn_le (q n) x
    have c := cnt_le q x n
    simp only [cnt]
    by_cases ei : i = n
    · subst ei; omega
    · have := cnt_one q x n i (by omega) e; omega
/-- In all. -/
theorem cnt_all (q : Nat → Int × Int) (x : Int) : ∀ n : Nat, (n : Int) ≤ cnt q n x ↔ ∀ i, i < n → inn (q i) x = 1
  | 0 => by simp [cnt]
  | n + 1 => by
    have ih := cnt_all q x n
    have a := inn_le (q n) x
    have c := cnt_le q x n
    simp only [cnt]
    constructor
    · intro h i hi
      by_cases e : i = n
      · subst e; omega
      · exact ih.1 (by omega) i (by omega)
    · intro h
      have h1 := ih.2 (fun i hi => h i (by omega))
      have h2 := h n (by omega)
      omega
theorem inn_one (s : Int × Int) (x : Int) : inn s x = 1 ↔ s.1 ≤ x ∧ x ≤ s.2 := by
  unfold inn; split <;> simp_all
/-- Of those with x the greatest beginning: no later than x, in no fewer. -/
theorem lo_at (q : Nat → Int × Int) (x : Int) : ∀ n m : Nat, m ≤ n → (∃ i, i < m ∧ inn (q i) x = 1) → ∃ i, i < m ∧ inn (q i) x = 1 ∧ ∀ j, j < m → inn (q j) x = 1 → (q j).1 ≤ (q i).1
  | n, 0, _, h => by obtain ⟨i, hi, _⟩ := h; omega
  | n, m + 1, hm, h => by
    by_cases e : inn (q m) x = 1
    · by_cases h' : ∃ i, i < m ∧ inn (q i) x = 1
      · obtain ⟨i, hi, ei, hb⟩ := lo_at q x n m (by omega) h'
        by_cases c : (q i).1 ≤ (q m).1
        · refine ⟨m, by omega, e, fun j hj ej => ?_⟩
          by_cases jm : j = m
          · subst jm; omega
          · have := hb j (by omega) ej; omega
        · refine ⟨i, by omega, ei, fun j hj ej => ?_⟩
          by_cases jm : j = m
          · subst jm; omega
          · exact hb j (by omega) ej
      · refine ⟨m, by omega, e, fun j hj ej => ?_⟩
        by_cases jm : j = m
        · subst jm; omega
        · exact absurd ⟨j, by omega, ej⟩ h'
    · obtain ⟨i, hi, ei⟩ := h
      have im : i ≠ m := fun c => e (c ▸ ei)
      obtain ⟨i, hi, ei, hb⟩ := lo_at q x n m (by omega) ⟨i, by omega, ei⟩
      exact ⟨i, by omega, ei, fun j hj ej => by
        by_cases jm : j = m
        · subst jm; exact absurd ej e
        · exact hb j (by omega) ej⟩
theorem hi_at (q : Nat → Int × Int) (x : Int) : ∀ m : Nat, (∃ i, i < m ∧ inn (q i) x = 1) → ∃ i, i < m ∧ inn (q i) x = 1 ∧ ∀ j, j < m → inn (q j) x = 1 → (q i).2 ≤ (q j).2
  | 0, h => by obtain ⟨i, hi, _⟩ := h; omega
  | m + 1, h => by
    by_cases e : inn (q m) x = 1
    · by_cases h' : ∃ i, i < m ∧ inn (q i) x = 1
      · obtain ⟨i, hi, ei, hb⟩ := hi_at q x m h'
        by_cases c : (q m).2 ≤ (q i).2
        · refine ⟨m, by omega, e, fun j hj ej => ?_⟩
          by_cases jm : j = m
          · subst jm; omega
          · have := hb j (by omega) ej; omega
        · refine ⟨i, by omega, ei, fun j hj ej => ?_⟩
          by_cases jm : j = m
          · subst jm; omega
          · exact hb j (by omega) ej
      · refine ⟨m, by omega, e, fun j hj ej => ?_⟩
        by_cases jm : j = m
        · subst jm; omega
        · exact absurd ⟨j, by omega, ej⟩ h'
    · obtain ⟨i, hi, ei⟩ := h
      have im : i ≠ m := fun c => e (c ▸ ei)
      obtain ⟨i, hi, ei, hb⟩ := hi_at q x m ⟨i, by omega, ei⟩
      exact ⟨i, by omega, ei, fun j hj ej => by
        by_cases jm : j = m
        · subst jm; exact absurd ej e
        · exact hb j (by omega) ej⟩
/-- Whatever is in some is in no more than some beginning that is no later. -/
theorem lo_best (q : Nat → Int × Int) (n : Nat) (x : Int) (h : 0 < cnt q n x) : ∃ i, i < n ∧ (q i).1 ≤ x ∧ x ≤ (q i).2 ∧ cnt q n x ≤ cnt q n (q i).1 := by
  obtain ⟨i, hi, ei, hb⟩ := lo_at q x n n (Nat.le_refl _) (cnt_pos q x n h)
  have e2 := (inn_one _ _).1 ei
  refine ⟨i, hi, e2.1, e2.2, cnt_mono q x (q i).1 n (fun j hj ej => ?_)⟩
  have := (inn_one _ _).1 ej
  have := hb j hj ej
  exact (inn_one _ _).2 (by omega)
/-- .. and than some end that is no sooner, and all between are in no fewer. -/
theorem hi_best (q : Nat → Int × Int) (n : Nat) (x : Int) (h : 0 < cnt q n x) : ∃ i, i < n ∧ x ≤ (q i).2 ∧ ∀ y, x ≤ y → y ≤ (q i).2 → cnt q n x ≤ cnt q n y := by
  obtain ⟨i, hi, ei, hb⟩ := hi_at q x n (cnt_pos q x n h)
  have e2 := (inn_one _ _).1 ei
  refine ⟨i, hi, e2.2, fun y h1 h2 => cnt_mono q x y n (fun j hj ej => ?_)⟩
  have := (inn_one _ _).1 ej
  have := hb j hj ej
  exact (inn_one _ _).2 (by omega)

/-- The first span of the numbers that are in the most, and in how many. -/
structure IsMost (c : Int → Int) (lo hi m : Int) : Prop where
  pos : 1 ≤ m
  le : lo ≤ hi
  top : ∀ x, c x ≤ m
  on : ∀ x, lo ≤ x → x ≤ hi → c x = m
  before : ∀ x, x < lo → c x < m
  after : c (hi + 1) < m
theorem IsMost.same {c : Int → Int} {lo hi m lo' hi' m' : Int} (h : IsMost c lo hi m) (h' : IsMost c lo' hi' m') : lo = lo' ∧ hi = hi' ∧ m = m' := by
  have a := h.on lo (Int.le_refl _) h.le
  have a' := h'.on lo' (Int.le_refl _) h'.le
  have b := h.top lo'
  have b' := h'.top lo
  have em : m = m' := by omega
  subst em
  have el : lo = lo' := by
    by_cases c1 : lo < lo'
    · have := h'.before lo c1; omega
    · by_cases c2 : lo' < lo
      · have := h.before lo' c2; omega
      · omega
  subst el
  refine ⟨rfl, ?_, rfl⟩
  have l1 := h.le; have l2 := h'.le
  by_cases c1 : hi < hi'
  · have := h.after; have := h'.on (hi + 1) (by omega) (by omega); omega
  · by_cases c2 : hi' < hi
    · have := h'.after; have := h.on (hi' + 1) (by omega) (by omega); omega
    · omega
/-- From the least to the greatest number that is in at least k. -/
structure IsSafe (c : Int → Int) (k lo hi : Int) : Prop where
  first : k ≤ c lo
  last : k ≤ c hi
  all : ∀ x, k ≤ c x → lo ≤ x ∧ x ≤ hi
theorem IsSafe.same {c : Int → Int} {k lo hi lo' hi' : Int} (h : IsSafe c k lo hi) (h' : IsSafe c k lo' hi') : lo = lo' ∧ hi = hi' := by
  have := h.all lo' h'.first; have := h'.all lo h.first
  have := h.all hi' h'.last; have := h'.all hi h.last
  omega
theorem IsSafe.le {c : Int → Int} {k lo hi : Int} (h : IsSafe c k lo hi) : lo ≤ hi := (h.all lo h.first).2

/-! ### The walk over steps -/
def lsum (L : List (Int × Int)) (x : Int) : Int := (L.map fun p => if p.1 ≤ x then p.2 else 0).sum
theorem sum_perm {L M : List Int} (h : L.Perm M) : L.sum = M.sum := by
  induction h with
  | nil => rfl
  | cons a _ ih => simp [ih]
  | swap a b l => simp; omega
  | trans _ _ a b => exact a.trans b
theorem lsum_perm {L M : List (Int × Int)} (h : L.Perm M) (x : Int) : lsum L x = lsum M x := sum_perm (h.map _)
theorem lsum_append (L M : List (Int × Int)) (x : Int) : lsum (L ++ M) x = lsum L x + lsum M x := by simp [lsum, List.sum_append]
/-- The steps of the first n spans. -/
def stepsOf (q : Nat → Int × Int) : Nat → List (Int × Int)
  | 0 => []
  | n + 1 => stepsOf q n ++ [((q n).1, 1), ((q n).2 + 1, -1)]
theorem stepsOf_length (q : Nat → Int × Int) : ∀ n, (stepsOf q n).length = 2 * n
  | 0 => rfl
  | n + 1 => by simp [stepsOf, stepsOf_length q n]; omega
theorem stepsOf_mem (q : Nat → Int × Int) (p : Int × Int) : ∀ n, p ∈ stepsOf q n → ∃ i, i < n ∧ (p = ((q i).1, 1) ∨ p = ((q i).2 + 1, -1))
  | 0, h => by simp [stepsOf] at h
  | n + 1, h => by
    simp only [stepsOf, List.mem_append, List.mem_cons, List.not_mem_nil, or_false] at h
    rcases h with h | h
    · obtain ⟨i, hi, e⟩ := stepsOf_mem q p n h
      exact ⟨i, by omega, e⟩
    · exact ⟨n, by omega, h⟩
theorem lsum_steps (q : Nat → Int × Int) (x : Int) : ∀ n, (∀ i, i < n → (q i).1 ≤ (q i).2) → lsum (stepsOf q n) x = cnt q n x
  | 0, _ => rfl
  | n + 1, h => by
    have ih := lsum_steps q x n (fun i hi => h i (by omega))
    have hn := h n (by omega)
    rw [stepsOf, lsum_append, ih]
    simp only [cnt, inn, lsum, List.map_cons, List.map_nil, List.sum_cons, List.sum_nil]
    split <;> split <;> split <;> omega
def inAt (L : List (Int × Int)) (k : Nat) : Int := ((L.take k).map (·.2)).sum
def el (L : List (Int × Int)) (k : Nat) : Int × Int := L.getD k (0, 0)
theorem take_succ_el (L : List (Int × Int)) (k : Nat) (h : k < L.length) : L.take (k + 1) = L.take k ++ [el L k] := by
  rw [List.take_add_one]; simp [el, List.getD, List.getElem?_eq_getElem h]
theorem inAt_zero (L : List (Int × Int)) : inAt L 0 = 0 := rfl
theorem inAt_succ (L : List (Int × Int)) (k : Nat) (h : k < L.length) : inAt L (k + 1) = inAt L k + (el L k).2 := by
  unfold inAt; rw [take_succ_el L k h]; simp
/-- Sorted by place. -/
def Srt (L : List (Int × Int)) : Prop := ∀ i j, i < j → j < L.length → (el L i).1 ≤ (el L j).1
theorem Srt.le {L : List (Int × Int)} (h : Srt L) {i j : Nat} (hij : i ≤ j) (hj : j < L.length) : (el L i).1 ≤ (el L j).1 := by
  by_cases e : i = j
  · subst e; omega
  · exact h i j (by omega) hj
theorem mem_take_el (L : List (Int × Int)) (k : Nat) (p : Int × Int) (h : p ∈ L.take k) : ∃ i, i < k ∧ i < L.length ∧ p = el L i := by
  obtain ⟨i, hi, e⟩ := List.mem_iff_getElem.1 h
  have hi' := hi
  simp at hi'
  exact ⟨i, by omega, by omega, by simp [el, List.getD, List.getElem?_eq_getElem (show i < L.length by omega)]; simpa using e.symm⟩
theorem mem_drop_el (L : List (Int × Int)) (k : Nat) (p : Int × Int) (h : p ∈ L.drop k) : ∃ i, k ≤ i ∧ i < L.length ∧ p = el L i := by
  obtain ⟨i, hi, e⟩ := List.mem_iff_getElem.1 h
  have hi' := hi
  simp at hi'
  exact ⟨k + i, by omega, by omega, by simp [el, List.getD, List.getElem?_eq_getElem (show k + i < L.length by omega)]; simpa using e.symm⟩
theorem lsum_in (L : List (Int × Int)) (x : Int) (h : ∀ p ∈ L, p.1 ≤ x) : lsum L x = (L.map (·.2)).sum := by
  unfold lsum
  congr 1
  apply List.map_congr_left
  intro p hp
  rw [if_pos (h p hp)]
theorem lsum_out (L : List (Int × Int)) (x : Int) (h : ∀ p ∈ L, x < p.1) : lsum L x = 0 := by
  induction L with
  | nil => rfl
  | cons p L ih =>
    have h1 := h p (by simp)
    have h2 := ih (fun r hr => h r (by simp [hr]))
    unfold lsum at *
    simp only [List.map_cons, List.sum_cons, h2]
    rw [if_neg (by omega)]; rfl
/-- Behind step k and ahead of step k + 1 a number is in as many as the first k + 1 steps say. -/
theorem lsum_at (L : List (Int × Int)) (hs : Srt L) (k : Nat) (x : Int) (hk : k + 1 < L.length) (h1 : (el L k).1 ≤ x) (h2 : x < (el L (k + 1)).1) : lsum L x = inAt L (k + 1) := by
  have e : lsum L x = lsum (L.take (k + 1) ++ L.drop (k + 1)) x := by rw [List.take_append_drop]
  rw [e, lsum_append, lsum_in _ _ (fun p hp => ?_), lsum_out _ _ (fun p hp => ?_)]
  · unfold inAt; omega
  · obtain ⟨i, h3, h4, rfl⟩ := mem_drop_el _ _ _ hp
    have := hs.le h3 h4; omega
  · obtain ⟨i, h3, h4, rfl⟩ := mem_take_el _ _ _ hp
    have := hs.le (show i ≤ k by omega) (by omega); omega
theorem lsum_before (L : List (Int × Int)) (hs : Srt L) (x : Int) (h : x < (el L 0).1) : lsum L x = 0 :=
  lsum_out _ _ (fun p hp => by
    obtain ⟨i, _, h4, rfl⟩ := mem_drop_el L 0 p (by simpa using hp)
    have := hs.le (Nat.zero_le i) h4; omega)
theorem lsum_after (L : List (Int × Int)) (hs : Srt L) (x : Int) (h0 : 0 < L.length) (h : (el L (L.length - 1)).1 ≤ x) : lsum L x = inAt L L.length := by
  rw [lsum_in _ _ (fun p hp => ?_)]
  · unfold inAt; rw [List.take_length]
  · obtain ⟨i, _, h4, rfl⟩ := mem_drop_el L 0 p (by simpa using hp)
    have := hs.le (show i ≤ L.length - 1 by omega) (by omega); omega

/-- What is told k steps on: each span of numbers that are in as many, rising, to T. -/
def toldBy {σ : Type} (T : σ → Int → Int → Int → σ) (a : σ) (L : List (Int × Int)) : Nat → σ
  | 0 => a
  | k + 1 => if (el L k).1 < (el L (k + 1)).1 then T (toldBy T a L k) (el L k).1 ((el L (k + 1)).1 - 1) (inAt L (k + 1)) else toldBy T a L k
/-- What the steps of spans are, sorted somehow. -/
structure Steps (q : Nat → Int × Int) (n : Nat) (L : List (Int × Int)) : Prop where
  len : L.length = 2 * n
  srt : Srt L
  perm : L.Perm (stepsOf q n)
section
variable {q : Nat → Int × Int} {n : Nat} {L : List (Int × Int)}
theorem Steps.sum (h : Steps q n L) (ok : ∀ i, i < n → (q i).1 ≤ (q i).2) (x : Int) : lsum L x = cnt q n x := (lsum_perm h.perm x).trans (lsum_steps q x n ok)
theorem Steps.seg (h : Steps q n L) (ok : ∀ i, i < n → (q i).1 ≤ (q i).2) (k : Nat) (x : Int) (hk : k + 1 < 2 * n) (h1 : (el L k).1 ≤ x) (h2 : x < (el L (k + 1)).1) : cnt q n x = inAt L (k + 1) := by
  rw [← h.sum ok, lsum_at L h.srt k x (by rw [h.len]; exact hk) h1 h2]
theorem Steps.before (h : Steps q n L) (ok : ∀ i, i < n → (q i).1 ≤ (q i).2) (x : Int) (h1 : x < (el L 0).1) : cnt q n x = 0 := by
  rw [← h.sum ok, lsum_before L h.srt x h1]
theorem Steps.mem (h : Steps q n L) (i : Nat) (hi : i < 2 * n) : ∃ j, j < n ∧ (el L i = ((q j).1, 1) ∨ el L i = ((q j).2 + 1, -1)) := by
  apply stepsOf_mem
  refine h.perm.mem_iff.1 ?_
  have hi' : i < L.length := by rw [h.len]; exact hi
  simp only [el, List.getD, List.getElem?_eq_getElem hi']
  exact List.getElem_mem hi'
theorem Steps.ends (h : Steps q n L) (j : Nat) (hj : j < n) (p : Int × Int) (hp : p = ((q j).1, 1) ∨ p = ((q j).2 + 1, -1)) : ∃ i, i < 2 * n ∧ el L i = p := by
  have : p ∈ stepsOf q n := by
    clear h
    induction n with
    | zero => omega
    | succ n ih =>
      simp only [stepsOf, List.mem_append, List.mem_cons, List.not_mem_nil, or_false]
      by_cases e : j = n
      · subst e; exact Or.inr hp
      · exact Or.inl (ih (by omega))
  obtain ⟨i, hi, e⟩ := List.mem_iff_getElem.1 (h.perm.mem_iff.2 this)
  rw [h.len] at hi
  exact ⟨i, hi, by simp [el, List.getD, List.getElem?_eq_getElem (show i < L.length by rw [h.len]; exact hi)]; exact e⟩
theorem Steps.last (h : Steps q n L) (ok : ∀ i, i < n → (q i).1 ≤ (q i).2) (x : Int) (h1 : (el L (2 * n - 1)).1 ≤ x) : cnt q n x = 0 := by
  have c := cnt_le q x n
  apply Classical.byContradiction
  intro hne
  obtain ⟨i, hi, e⟩ := cnt_pos q x n (by omega)
  have e := (inn_one _ _).1 e
  obtain ⟨j, hj, ej⟩ := h.ends i hi _ (Or.inr rfl)
  have := h.srt.le (show j ≤ 2 * n - 1 by omega) (by rw [h.len]; omega)
  rw [ej] at this
  simp at this
  omega
/-- The first step is a beginning, and the first number is in some. -/
theorem Steps.first (h : Steps q n L) (ok : ∀ i, i < n → (q i).1 ≤ (q i).2) (h0 : 0 < n) : 1 ≤ cnt q n (el L 0).1 := by
  obtain ⟨j, hj, e⟩ := h.mem 0 (by omega)
  obtain ⟨i, hi, ei⟩ := h.ends j hj _ (Or.inl rfl)
  have le := h.srt.le (Nat.zero_le i) (by rw [h.len]; exact hi)
  rw [ei] at le
  have := ok j hj
  rcases e with e | e
  · rw [e]; exact cnt_one q _ n j hj ((inn_one _ _).2 (by simp; omega))
  · rw [e] at le; simp at le; omega
end

/-! ### Most -/
def mostT (a : Int × Int × Int) (lo hi k : Int) : Int × Int × Int :=
  if a.2.2 < k then (lo, hi, k) else if k = a.2.2 ∧ lo = a.2.1 + 1 then (a.1, hi, a.2.2) else a
structure MostUpto (c : Int → Int) (D : Int) (a : Int × Int × Int) : Prop where
  pos : 1 ≤ a.2.2
  le : a.1 ≤ a.2.1
  lt : a.2.1 < D
  top : ∀ x, x < D → c x ≤ a.2.2
  on : ∀ x, a.1 ≤ x → x ≤ a.2.1 → c x = a.2.2
  before : ∀ x, x < a.1 → c x < a.2.2
  after : a.2.1 + 1 < D → c (a.2.1 + 1) < a.2.2
theorem most_first {c : Int → Int} {D D' k : Int} (hD : D < D') (hc : ∀ x, D ≤ x → x < D' → c x = k) (h0 : ∀ x, x < D → c x = 0) (hk : 1 ≤ k) : MostUpto c D' (D, D' - 1, k) := by
  refine ⟨hk, by simp; omega, by simp; omega, fun x hx => ?_, fun x h1 h2 => ?_, fun x hx => ?_, fun h => absurd h (by simp)⟩
  · by_cases e : x < D
    · have := h0 x e; simp; omega
    · have := hc x (by omega) hx; simp; omega
  · simp at h1 h2 ⊢; exact hc x h1 (by omega)
  · have := h0 x hx; simp at *; omega
theorem most_step {c : Int → Int} {D D' k : Int} {a : Int × Int × Int} (hD : D < D') (hc : ∀ x, D ≤ x → x < D' → c x = k) (h : MostUpto c D a) : MostUpto c D' (mostT a D (D' - 1) k) := by
  obtain ⟨lo, hi, m⟩ := a
  have p := h.pos; have l := h.le; have t := h.lt
  simp only at p l t
  have T := h.top; have O := h.on; have B := h.before; have A := h.after
  simp only at T O B A
  unfold mostT
  simp only
  split
  · refine ⟨by simp; omega, by simp; omega, by simp; omega, fun x hx => ?_, fun x h1 h2 => ?_, fun x hx => ?_, fun h => absurd h (by simp)⟩
    · by_cases e : x < D
      · have := T x e; simp; omega
      · have := hc x (by omega) hx; simp; omega
    · simp at h1 h2 ⊢; exact hc x h1 (by omega)
    · have := T x hx; simp at *; omega
  · split
    · rename_i hm
      obtain ⟨rfl, rfl⟩ := hm
      refine ⟨p, by simp; omega, by simp; omega, fun x hx => ?_, fun x h1 h2 => ?_, fun x hx => ?_, fun h => absurd h (by simp)⟩
      · by_cases e : x < hi + 1
        · have := T x e; simp; omega
        · have := hc x (by omega) hx; simp; omega
      · simp at h1 h2 ⊢
        by_cases e : x ≤ hi
        · exact O x h1 e
        · exact hc x (by omega) (by omega)
      · exact B x hx
    · rename_i hm
      refine ⟨p, l, by simp; omega, fun x hx => ?_, O, B, fun hh => ?_⟩
      · by_cases e : x < D
        · exact T x e
        · have := hc x (by omega) hx; simp; omega
      · simp at hh ⊢
        by_cases e : hi + 1 < D
        · exact A e
        · have := hc (hi + 1) (by omega) hh; omega
section
variable {q : Nat → Int × Int} {n : Nat} {L : List (Int × Int)}
theorem most_inv (h : Steps q n L) (ok : ∀ i, i < n → (q i).1 ≤ (q i).2) (h0 : 0 < n) : ∀ k, k < 2 * n →
    ((el L k).1 = (el L 0).1 ∧ toldBy mostT (0, 0, 0) L k = (0, 0, 0)) ∨ MostUpto (cnt q n) (el L k).1 (toldBy mostT (0, 0, 0) L k)
  | 0, _ => Or.inl ⟨rfl, rfl⟩
  | k + 1, hk => by
    have ih := most_inv h ok h0 k (by omega)
    have seg := h.seg ok k
    by_cases c : (el L k).1 < (el L (k + 1)).1
    · right
      have e : toldBy mostT (0, 0, 0) L (k + 1) = mostT (toldBy mostT (0, 0, 0) L k) (el L k).1 ((el L (k + 1)).1 - 1) (inAt L (k + 1)) := if_pos c
      rw [e]
      have hc : ∀ x, (el L k).1 ≤ x → x < (el L (k + 1)).1 → cnt q n x = inAt L (k + 1) := fun x h1 h2 => seg x hk h1 h2
      rcases ih with ⟨e1, e2⟩ | ih
      · rw [e2]
        have f := h.first ok h0
        rw [← e1, hc _ (Int.le_refl _) c] at f
        have : mostT (0, 0, 0) (el L k).1 ((el L (k + 1)).1 - 1) (inAt L (k + 1)) = ((el L k).1, (el L (k + 1)).1 - 1, inAt L (k + 1)) := if_pos (by simp; omega)
        rw [this]
        exact most_first c hc (fun x hx => h.before ok x (by omega)) f
      · exact most_step c hc ih
    · have le := h.srt k (k + 1) (by omega) (by rw [h.len]; exact hk)
      have e : toldBy mostT (0, 0, 0) L (k + 1) = toldBy mostT (0, 0, 0) L k := if_neg c
      have e2 : (el L (k + 1)).1 = (el L k).1 := by omega
      rw [e, e2]
      exact ih
/-- WHAT THE WALK TELLS OF MOST. -/
theorem most_told (h : Steps q n L) (ok : ∀ i, i < n → (q i).1 ≤ (q i).2) (h0 : 0 < n) :
    IsMost (cnt q n) (toldBy mostT (0, 0, 0) L (2 * n - 1)).1 (toldBy mostT (0, 0, 0) L (2 * n - 1)).2.1 (toldBy mostT (0, 0, 0) L (2 * n - 1)).2.2 := by
  have last := h.last ok
  have f := h.first ok h0
  rcases most_inv h ok h0 (2 * n - 1) (by omega) with ⟨e, _⟩ | u
  · have := last (el L 0).1 (by omega); omega
  · have p := u.pos
    refine ⟨p, u.le, fun x => ?_, u.on, u.before, ?_⟩
    · by_cases c : x < (el L (2 * n - 1)).1
      · exact u.top x c
      · have := last x (by omega); omega
    · by_cases c : (toldBy mostT (0, 0, 0) L (2 * n - 1)).2.1 + 1 < (el L (2 * n - 1)).1
      · exact u.after c
      · have := last ((toldBy mostT (0, 0, 0) L (2 * n - 1)).2.1 + 1) (by omega); omega
end

/-! ### Safe -/
def safeT (k : Int) (a : Int × Int × Bool) (lo hi i : Int) : Int × Int × Bool := if i < k then a else (if a.2.2 then a.1 else lo, hi, true)
section
variable {q : Nat → Int × Int} {n : Nat} {L : List (Int × Int)} {K : Int}
theorem safe_inv (h : Steps q n L) (ok : ∀ i, i < n → (q i).1 ≤ (q i).2) (hK : 1 ≤ K) : ∀ k, k < 2 * n →
    (toldBy (safeT K) (0, 0, false) L k = (0, 0, false) ∧ ∀ x, x < (el L k).1 → cnt q n x < K) ∨
    ((toldBy (safeT K) (0, 0, false) L k).2.2 = true ∧ K ≤ cnt q n (toldBy (safeT K) (0, 0, false) L k).1 ∧ K ≤ cnt q n (toldBy (safeT K) (0, 0, false) L k).2.1 ∧
      (toldBy (safeT K) (0, 0, false) L k).2.1 < (el L k).1 ∧ (toldBy (safeT K) (0, 0, false) L k).1 ≤ (toldBy (safeT K) (0, 0, false) L k).2.1 ∧
      ∀ x, x < (el L k).1 → K ≤ cnt q n x → (toldBy (safeT K) (0, 0, false) L k).1 ≤ x ∧ x ≤ (toldBy (safeT K) (0, 0, false) L k).2.1)
  | 0, _ => Or.inl ⟨rfl, fun x hx => by rw [h.before ok x hx]; omega⟩
  | k + 1, hk => by
    have ih := safe_inv h ok hK k (by omega)
    have seg := h.seg ok k
    by_cases c : (el L k).1 < (el L (k + 1)).1
    · have e : toldBy (safeT K) (0, 0, false) L (k + 1) = safeT K (toldBy (safeT K) (0, 0, false) L k) (el L k).1 ((el L (k + 1)).1 - 1) (inAt L (k + 1)) := if_pos c
      rw [e]
      have hc : ∀ x, (el L k).1 ≤ x → x < (el L (k + 1)).1 → cnt q n x = inAt L (k + 1) := fun x h1 h2 => seg x hk h1 h2
      generalize toldBy (safeT K) (0, 0, false) L k = a at ih ⊢
      obtain ⟨lo, hi, f⟩ := a
      unfold safeT
      by_cases lt : inAt L (k + 1) < K
      · rw [if_pos lt]
        rcases ih with ⟨e1, e2⟩ | ⟨e1, e2, e3, e4, e5, e6⟩
        · exact Or.inl ⟨e1, fun x hx => by
            by_cases d : x < (el L k).1
            · exact e2 x d
            · rw [hc x (by omega) hx]; exact lt⟩
        · exact Or.inr ⟨e1, e2, e3, by omega, e5, fun x hx hk => by
            by_cases d : x < (el L k).1
            · exact e6 x d hk
            · rw [hc x (by omega) hx] at hk; omega⟩
      · rw [if_neg lt]
        right
        rcases ih with ⟨e1, e2⟩ | ⟨e1, e2, e3, e4, e5, e6⟩
        · injection e1 with e1 e1'; injection e1' with e1' e1''
          subst e1 e1' e1''
          simp only [Bool.false_eq_true, if_false]
          have a1 := hc (el L k).1 (Int.le_refl _) c
          have a2 := hc ((el L (k + 1)).1 - 1) (by omega) (by omega)
          refine ⟨trivial, by omega, by omega, by omega, by omega, fun x hx hk => ?_⟩
          by_cases d : x < (el L k).1
          · have := e2 x d; omega
          · omega
        · simp only at e1
          subst e1
          simp only [if_true]
          have a2 := hc ((el L (k + 1)).1 - 1) (by omega) (by omega)
          simp only at e2 e3 e4 e5 e6
          refine ⟨trivial, e2, by omega, by omega, by omega, fun x hx hk => ?_⟩
          by_cases d : x < (el L k).1
          · have := e6 x d hk; omega
          · omega
    · have le := h.srt k (k + 1) (by omega) (by rw [h.len]; exact hk)
      have e : toldBy (safeT K) (0, 0, false) L (k + 1) = toldBy (safeT K) (0, 0, false) L k := if_neg c
      have e2 : (el L (k + 1)).1 = (el L k).1 := by omega
      rw [e, e2]
      exact ih
/-- WHAT THE WALK TELLS OF SAFE. -/
theorem safe_told (h : Steps q n L) (ok : ∀ i, i < n → (q i).1 ≤ (q i).2) (h0 : 0 < n) (hK : 1 ≤ K) :
    (toldBy (safeT K) (0, 0, false) L (2 * n - 1) = (0, 0, false) ∧ ∀ x, cnt q n x < K) ∨
    ((toldBy (safeT K) (0, 0, false) L (2 * n - 1)).2.2 = true ∧ IsSafe (cnt q n) K (toldBy (safeT K) (0, 0, false) L (2 * n - 1)).1 (toldBy (safeT K) (0, 0, false) L (2 * n - 1)).2.1) := by
  have last := h.last ok
  rcases safe_inv h ok hK (2 * n - 1) (by omega) with ⟨e1, e2⟩ | ⟨e1, e2, e3, e4, e5, e6⟩
  · exact Or.inl ⟨e1, fun x => by
      by_cases c : x < (el L (2 * n - 1)).1
      · exact e2 x c
      · rw [last x (by omega)]; omega⟩
  · exact Or.inr ⟨e1, e2, e3, fun x hx => by
      by_cases c : x < (el L (2 * n - 1)).1
      · exact e6 x c hx
      · have := last x (by omega); omega⟩
end
end Go.Proofs.YthejaecljkjliacDoor
