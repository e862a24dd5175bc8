/- The upper hull of points: its corners, and what is over them: plain mathematics. -/
import Derived.Test.YtcofpgbaokmbmafDoorRow
namespace Go.Proofs.YtcofpgbaokmbmafDoor
set_option linter.unusedVariables false

/-- How high a point is above the line from a to b (times how far b is from a). -/
def hgt (a b p : Int × Int) : Int := (p.2 - a.2) * (b.1 - a.1) - (b.2 - a.2) * (p.1 - a.1)
/-- The same of three points, by their heights above another line. -/
theorem hgt_by (c d a b p : Int × Int) : (d.1 - c.1) * hgt a b p = (hgt c d p - hgt c d a) * (b.1 - p.1) + (hgt c d p - hgt c d b) * (p.1 - a.1) := by
  unfold hgt
  grind
theorem hgt_left (a b p : Int × Int) : hgt p b a = -hgt a b p := by
  unfold hgt
  grind
theorem hgt_right (a b p : Int × Int) : hgt a p b = -hgt a b p := by
  unfold hgt
  grind
theorem hgt_same (a b p : Int × Int) (h : p.1 = a.1) : hgt a b p = (p.2 - a.2) * (b.1 - a.1) := by
  unfold hgt
  rw [h, Int.sub_self, Int.mul_zero, Int.sub_zero]
theorem hgt_same' (a b p : Int × Int) (h : p.1 = b.1) : hgt a b p = (p.2 - b.2) * (b.1 - a.1) := by
  unfold hgt
  rw [h]
  grind
/-- A corner: the highest one of its X, above each line over it. -/
def Cor (l : List (Int × Int)) (p : Int × Int) : Prop := p ∈ l ∧ (∀ i, i ∈ l → i.1 = p.1 → i.2 ≤ p.2) ∧ ∀ a, a ∈ l → ∀ b, b ∈ l → a.1 < p.1 → p.1 < b.1 → 0 < hgt a b p
/-- The corners, X rising. -/
def Up (l c : List (Int × Int)) : Prop := c.Pairwise (fun a b => a.1 < b.1) ∧ ∀ p, p ∈ c ↔ Cor l p
theorem max_of (f : Int × Int → Int) : ∀ l : List (Int × Int), l ≠ [] → ∃ p, p ∈ l ∧ ∀ q, q ∈ l → f q ≤ f p
  | [], h => absurd rfl h
  | x :: l, _ => by
    by_cases e : l = []
    · subst e
      exact ⟨x, by simp, fun q hq => by simp at hq; rw [hq]; exact Int.le_refl _⟩
    · obtain ⟨p, hp, hm⟩ := max_of f l e
      by_cases c : f p ≤ f x
      · refine ⟨x, by simp, fun q hq => ?_⟩
        rcases List.mem_cons.1 hq with rfl | hq
        · exact Int.le_refl _
        · have := hm q hq; omega
      · refine ⟨p, by simp [hp], fun q hq => ?_⟩
        rcases List.mem_cons.1 hq with rfl | hq
        · omega
        · exact hm q hq
/-- The leftmost of the greatest. -/
theorem max_left (f : Int × Int → Int) (l : List (Int × Int)) (h : l ≠ []) : ∃ p, p ∈ l ∧ (∀ q, q ∈ l → f q ≤ f p) ∧ ∀ q, q ∈ l → q.1 < p.1 → f q < f p := by
  obtain ⟨m, hm, hM⟩ := max_of f l h
  obtain ⟨p, hp, hP⟩ := max_of (fun q => -q.1) (l.filter (fun q => decide (f q = f m))) (fun e => by
    have : m ∈ l.filter (fun q => decide (f q = f m)) := List.mem_filter.2 ⟨hm, by simp⟩
    rw [e] at this
    cases this)
  obtain ⟨p1, p2⟩ := List.mem_filter.1 hp
  have p3 : f p = f m := of_decide_eq_true p2
  refine ⟨p, p1, fun q hq => by rw [p3]; exact hM q hq, fun q hq lt => ?_⟩
  have := hM q hq
  rw [p3]
  rcases Int.lt_or_eq_of_le this with c | c
  · exact c
  · have := hP q (List.mem_filter.2 ⟨hq, by simp [c]⟩)
    omega
section
variable {l c : List (Int × Int)} {a b p : Int × Int}
/-- The highest above a line is a corner. -/
theorem cor_max (w : a.1 < b.1) (hp : p ∈ l) (h1 : ∀ q, q ∈ l → hgt a b q ≤ hgt a b p) (h2 : ∀ q, q ∈ l → q.1 < p.1 → hgt a b q < hgt a b p) : Cor l p := by
  have w0 : 0 < b.1 - a.1 := by omega
  refine ⟨hp, fun i hi e => ?_, fun i hi k hk li lk => ?_⟩
  · have := h1 i hi
    have d : hgt a b p - hgt a b i = (p.2 - i.2) * (b.1 - a.1) := by
      unfold hgt
      rw [e]
      grind
    apply Classical.byContradiction
    intro n
    have : (p.2 - i.2) * (b.1 - a.1) < 0 := Int.mul_neg_of_neg_of_pos (by omega) w0
    omega
  · have e := hgt_by a b i k p
    have x1 : 0 < (hgt a b p - hgt a b i) * (k.1 - p.1) := Int.mul_pos (by have := h2 i hi li; omega) (by omega)
    have x2 : 0 ≤ (hgt a b p - hgt a b k) * (p.1 - i.1) := Int.mul_nonneg (by have := h1 k hk; omega) (by omega)
    apply Classical.byContradiction
    intro n
    have : (b.1 - a.1) * hgt i k p ≤ 0 := Int.mul_nonpos_of_nonneg_of_nonpos (by omega) (by omega)
    omega
/-- No corner between: then no point is above the line. -/
theorem cor_support (ha : Cor l a) (hb : Cor l b) (w : a.1 < b.1) (no : ∀ p, Cor l p → a.1 < p.1 → p.1 < b.1 → False) : ∀ q, q ∈ l → hgt a b q ≤ 0 := by
  intro q hq
  obtain ⟨p, hp, h1, h2⟩ := max_left (hgt a b) l (fun e => by rw [e] at hq; cases hq)
  have cp := cor_max w hp h1 h2
  have hqp := h1 q hq
  apply Classical.byContradiction
  intro n
  have w0 : 0 ≤ b.1 - a.1 := by omega
  rcases Int.lt_trichotomy p.1 a.1 with c | c | c
  · have := ha.2.2 p hp b hb.1 c w
    rw [hgt_left] at this
    omega
  · have := ha.2.1 p hp c
    rw [hgt_same a b p c] at hqp
    have : (p.2 - a.2) * (b.1 - a.1) ≤ 0 := Int.mul_nonpos_of_nonpos_of_nonneg (by omega) w0
    omega
  · rcases Int.lt_trichotomy p.1 b.1 with c2 | c2 | c2
    · exact no p cp c c2
    · have := hb.2.1 p hp c2
      rw [hgt_same' a b p c2] at hqp
      have : (p.2 - b.2) * (b.1 - a.1) ≤ 0 := Int.mul_nonpos_of_nonpos_of_nonneg (by omega) w0
      omega
    · have := hb.2.2 a ha.1 p hp w c2
      rw [hgt_right] at this
      omega
/-- The leftmost and the rightmost highest are corners. -/
theorem cor_first (h : l ≠ []) : ∃ p, Cor l p ∧ ∀ q, q ∈ l → p.1 ≤ q.1 := by
  obtain ⟨m, hm, hM⟩ := max_of (fun q => -q.1) l h
  obtain ⟨p, hp, hP⟩ := max_of (fun q => q.2) (l.filter (fun q => decide (q.1 = m.1))) (fun e => by
    have : m ∈ l.filter (fun q => decide (q.1 = m.1)) := List.mem_filter.2 ⟨hm, by simp⟩
    rw [e] at this
    cases this)
  obtain ⟨p1, p2⟩ := List.mem_filter.1 hp
  have p3 : p.1 = m.1 := of_decide_eq_true p2
  refine ⟨p, ⟨p1, fun i hi e => hP i (List.mem_filter.2 ⟨hi, by simp [e, p3]⟩), fun a ha b hb la => ?_⟩, fun q hq => ?_⟩
  · have := hM a ha
    omega
  · have := hM q hq
    omega
theorem cor_last (h : l ≠ []) : ∃ p, Cor l p ∧ ∀ q, q ∈ l → q.1 ≤ p.1 := by
  obtain ⟨m, hm, hM⟩ := max_of (fun q => q.1) l h
  obtain ⟨p, hp, hP⟩ := max_of (fun q => q.2) (l.filter (fun q => decide (q.1 = m.1))) (fun e => by
    have : m ∈ l.filter (fun q => decide (q.1 = m.1)) := List.mem_filter.2 ⟨hm, by simp⟩
    rw [e] at this
    cases this)
  obtain ⟨p1, p2⟩ := List.mem_filter.1 hp
  have p3 : p.1 = m.1 := of_decide_eq_true p2
  refine ⟨p, ⟨p1, fun i hi e => hP i (List.mem_filter.2 ⟨hi, by simp [e, p3]⟩), fun a ha b hb la lb => ?_⟩, fun q hq => ?_⟩
  · have := hM b hb
    omega
  · have := hM q hq
    omega
/-- Two corners of one X are one. -/
theorem cor_one {q : Int × Int} (hp : Cor l p) (hq : Cor l q) (e : p.1 = q.1) : p = q := by
  have h1 := hp.2.1 q hq.1 e.symm
  have h2 := hq.2.1 p hp.1 e
  exact Prod.ext e (by omega)
end
/-- Two lists of rising X with the same members are one. -/
theorem rise_one : ∀ {c d : List (Int × Int)}, c.Pairwise (fun a b => a.1 < b.1) → d.Pairwise (fun a b => a.1 < b.1) → (∀ p, p ∈ c ↔ p ∈ d) → c = d
  | [], [], _, _, _ => rfl
  | [], y :: d, _, _, h => absurd ((h y).2 (by simp)) (by simp)
  | x :: c, [], _, _, h => absurd ((h x).1 (by simp)) (by simp)
  | x :: c, y :: d, hc, hd, h => by
    obtain ⟨c1, c2⟩ := List.pairwise_cons.1 hc
    obtain ⟨d1, d2⟩ := List.pairwise_cons.1 hd
    have xy : x = y := by
      rcases List.mem_cons.1 ((h x).1 (by simp)) with e | e
      · exact e
      · rcases List.mem_cons.1 ((h y).2 (by simp)) with e' | e'
        · exact e'.symm
        · have := d1 x e
          have := c1 y e'
          omega
    subst xy
    have : c = d := rise_one c2 d2 (fun p => by
      constructor
      · intro hp
        rcases List.mem_cons.1 ((h p).1 (by simp [hp])) with e | e
        · have := c1 p hp
          rw [e] at this
          omega
        · exact e
      · intro hp
        rcases List.mem_cons.1 ((h p).2 (by simp [hp])) with e | e
        · have := d1 p hp
          rw [e] at this
          omega
        · exact e)
    rw [this]
theorem Up.one {l c d : List (Int × Int)} (h : Up l c) (g : Up l d) : c = d := rise_one h.1 g.1 (fun p => (h.2 p).trans (g.2 p).symm)
/-- The corners of the corners are the corners. -/
theorem Up.again {l c : List (Int × Int)} (h : Up l c) : Up c c := ⟨h.1, fun p => ⟨fun hp => by
    have g := (h.2 p).1 hp
    exact ⟨hp, fun i hi e => g.2.1 i ((h.2 i).1 hi).1 e, fun a ha b hb la lb => g.2.2 a ((h.2 a).1 ha).1 b ((h.2 b).1 hb).1 la lb⟩, fun g => g.1⟩⟩
/-- Is (x, v) not below what is over the points? -/
def Nb (l : List (Int × Int)) (x v : Int) : Prop := (∀ a, a ∈ l → a.1 = x → a.2 ≤ v) ∧ ∀ a, a ∈ l → ∀ b, b ∈ l → a.1 ≤ x → x ≤ b.1 → a.1 < b.1 → 0 ≤ hgt a b (x, v)
/-- The least number that is not. -/
def OvV (l : List (Int × Int)) (x v : Int) : Prop := Nb l x v ∧ ∀ u, Nb l x u → v ≤ u
theorem OvV.one {l : List (Int × Int)} {x v u : Int} (h : OvV l x v) (g : OvV l x u) : v = u := by
  have := h.2 u g.1
  have := g.2 v h.1
  omega
/-- More points: no lower. -/
theorem OvV.more {l l' : List (Int × Int)} {x v v' : Int} (h : OvV l x v) (h' : OvV l' x v') (s : ∀ p, p ∈ l → p ∈ l') : v ≤ v' :=
  h.2 v' ⟨fun a ha => h'.1.1 a (s a ha), fun a ha b hb => h'.1.2 a (s a ha) b (s b hb)⟩
/-- Between two corners. -/
theorem ov_between {l : List (Int × Int)} {a b : Int × Int} {x v : Int} (ha : a ∈ l) (hb : b ∈ l) (w : a.1 < b.1) (s : ∀ q, q ∈ l → hgt a b q ≤ 0) (h1 : a.1 ≤ x) (h2 : x ≤ b.1) (v0 : 0 ≤ hgt a b (x, v)) (v1 : hgt a b (x, v - 1) < 0) : OvV l x v := by
  have w0 : 0 < b.1 - a.1 := by omega
  refine ⟨⟨fun i hi e => ?_, fun i hi k hk li lk lt => ?_⟩, fun u hu => ?_⟩
  · have := s i hi
    have d : hgt a b (x, v) - hgt a b i = (v - i.2) * (b.1 - a.1) := by
      unfold hgt
      rw [e]
      grind
    apply Classical.byContradiction
    intro n
    have : (v - i.2) * (b.1 - a.1) < 0 := Int.mul_neg_of_neg_of_pos (by omega) w0
    omega
  · have e := hgt_by a b i k (x, v)
    have x1 : 0 ≤ (hgt a b (x, v) - hgt a b i) * (k.1 - x) := Int.mul_nonneg (by have := s i hi; omega) (by omega)
    have x2 : 0 ≤ (hgt a b (x, v) - hgt a b k) * (x - i.1) := Int.mul_nonneg (by have := s k hk; omega) (by omega)
    apply Classical.byContradiction
    intro n
    have : (b.1 - a.1) * hgt i k (x, v) < 0 := Int.mul_neg_of_pos_of_neg w0 (by omega)
    simp only at e
    omega
  · have g := hu.2 a ha b hb h1 h2 w
    apply Classical.byContradiction
    intro n
    have d : hgt a b (x, v - 1) - hgt a b (x, u) = (v - 1 - u) * (b.1 - a.1) := by
      unfold hgt
      grind
    have : 0 ≤ (v - 1 - u) * (b.1 - a.1) := Int.mul_nonneg (by omega) (by omega)
    omega
/-- All of one X. -/
theorem ov_single {l : List (Int × Int)} {a : Int × Int} {x : Int} (ha : a ∈ l) (e : ∀ q, q ∈ l → q.1 = x) (m : ∀ q, q ∈ l → q.2 ≤ a.2) : OvV l x a.2 :=
  ⟨⟨fun i hi _ => m i hi, fun i hi k hk _ _ lt => by rw [e i hi, e k hk] at lt; omega⟩, fun u hu => hu.1 a ha (e a ha)⟩
/-- Is x from the least X to the greatest? -/
def Within (l : List (Int × Int)) (x : Int) : Prop := (∃ a, a ∈ l ∧ a.1 ≤ x) ∧ ∃ b, b ∈ l ∧ x ≤ b.1
/-- Upside down. -/
def flp (p : Int × Int) : Int × Int := (p.1, -p.2)
theorem flp_flp (p : Int × Int) : flp (flp p) = p := by simp [flp]
theorem within_flp {l : List (Int × Int)} {x : Int} : Within (l.map flp) x ↔ Within l x := by
  constructor
  · rintro ⟨⟨a, ha, h1⟩, b, hb, h2⟩
    obtain ⟨a', ha', rfl⟩ := List.mem_map.1 ha
    obtain ⟨b', hb', rfl⟩ := List.mem_map.1 hb
    exact ⟨⟨a', ha', h1⟩, b', hb', h2⟩
  · rintro ⟨⟨a, ha, h1⟩, b, hb, h2⟩
    exact ⟨⟨flp a, List.mem_map.2 ⟨a, ha, rfl⟩, h1⟩, flp b, List.mem_map.2 ⟨b, hb, rfl⟩, h2⟩
/-- What is under is not above what is over. -/
theorem under_over {l : List (Int × Int)} {x v u : Int} (hw : Within l x) (h : OvV l x v) (g : OvV (l.map flp) x (-u)) : u ≤ v := by
  obtain ⟨⟨a, ha, h1⟩, b, hb, h2⟩ := hw
  by_cases e1 : a.1 = x
  · have x1 := h.1.1 a ha e1
    have x2 := g.1.1 (flp a) (List.mem_map.2 ⟨a, ha, rfl⟩) e1
    simp only [flp] at x2
    omega
  · have lt : a.1 < b.1 := by omega
    have x1 := h.1.2 a ha b hb h1 h2 lt
    have x2 := g.1.2 (flp a) (List.mem_map.2 ⟨a, ha, rfl⟩) (flp b) (List.mem_map.2 ⟨b, hb, rfl⟩) h1 h2 lt
    have d : hgt a b (x, v) + hgt (flp a) (flp b) (x, -u) = (v - u) * (b.1 - a.1) := by
      unfold hgt flp
      grind
    apply Classical.byContradiction
    intro n
    have : (v - u) * (b.1 - a.1) < 0 := Int.mul_neg_of_neg_of_pos (by omega) (by omega)
    omega
end Go.Proofs.YtcofpgbaokmbmafDoor
