/- The middle of numbers, their mean, and how they wander: plain mathematics. -/
import Derived.Test.YthejaecljkjliakDoorRow
namespace Go.Proofs.YthejaecljkjliakDoor
set_option linter.unusedVariables false

/-- The first n numbers. -/
def lsN (z : Nat → Int) (n : Nat) : List Int := (List.range n).map z
theorem lsN_len (z : Nat → Int) (n : Nat) : (lsN z n).length = n := by simp [lsN]
theorem lsN_at (z : Nat → Int) {n i : Nat} (h : i < n) : (lsN z n)[i]? = some (z i) := by simp [lsN, h]
theorem lsN_snoc (z : Nat → Int) (n : Nat) : lsN z (n + 1) = lsN z n ++ [z n] := by simp [lsN, List.range_succ]
theorem mem_lsN {z : Nat → Int} {n : Nat} {v : Int} : v ∈ lsN z n ↔ ∃ i, i < n ∧ z i = v := by
  unfold lsN
  constructor
  · intro h
    obtain ⟨i, hi, e⟩ := List.mem_map.1 h
    exact ⟨i, List.mem_range.1 hi, e⟩
  · rintro ⟨i, hi, e⟩
    exact List.mem_map.2 ⟨i, List.mem_range.2 hi, e⟩
/-- A time. -/
def okT (x : Int) : Prop := -1000000000000 ≤ x ∧ x ≤ 1000000000000
/-- The error of numbers. -/
def NmE (n : Nat) (z : Nat → Int) (e : Int) : Prop := (60 < n ∧ e = 4) ∨ (n = 0 ∧ e = 5) ∨ (0 < n ∧ n ≤ 60 ∧ (∃ i, i < n ∧ ¬ okT (z i)) ∧ e = 1) ∨ (0 < n ∧ n ≤ 60 ∧ (∀ i, i < n → okT (z i)) ∧ e = 0)
section
variable {n : Nat} {z : Nat → Int} {e e' : Int}
theorem nmE_some (n : Nat) (z : Nat → Int) : ∃ e, NmE n z e := by
  by_cases a : 60 < n
  · exact ⟨4, Or.inl ⟨a, rfl⟩⟩
  · by_cases b : n = 0
    · exact ⟨5, Or.inr (Or.inl ⟨b, rfl⟩)⟩
    · by_cases c : ∃ i, i < n ∧ ¬ okT (z i)
      · exact ⟨1, Or.inr (Or.inr (Or.inl ⟨by omega, by omega, c, rfl⟩))⟩
      · exact ⟨0, Or.inr (Or.inr (Or.inr ⟨by omega, by omega, fun i hi => Classical.byContradiction fun q => c ⟨i, hi, q⟩, rfl⟩))⟩
theorem NmE.one (h : NmE n z e) (g : NmE n z e') : e = e' := by
  rcases h with ⟨a, rfl⟩ | ⟨a, rfl⟩ | ⟨a, b, ⟨i, hi, c⟩, rfl⟩ | ⟨a, b, c, rfl⟩ <;> rcases g with ⟨a', rfl⟩ | ⟨a', rfl⟩ | ⟨a', b', ⟨i', hi', c'⟩, rfl⟩ | ⟨a', b', c', rfl⟩ <;> first | rfl | omega | exact absurd (c' i hi) c | exact absurd (c i' hi') c'
theorem NmE.zero (h : NmE n z 0) : 0 < n ∧ n ≤ 60 ∧ ∀ i, i < n → okT (z i) := by
  rcases h with ⟨_, e⟩ | ⟨_, e⟩ | ⟨_, _, _, e⟩ | ⟨a, b, c, _⟩
  · cases e
  · cases e
  · cases e
  · exact ⟨a, b, c⟩
end
/-- Their sum. -/
def smN (z : Nat → Int) : Nat → Int
  | 0 => 0
  | n + 1 => smN z n + z n
theorem smN_le {z : Nat → Int} {b : Int} : ∀ {n : Nat}, (∀ i, i < n → z i ≤ b) → smN z n ≤ n * b
  | 0, _ => by simp [smN]
  | n + 1, h => by
    have := smN_le (z := z) (b := b) (n := n) (fun i hi => h i (by omega))
    have := h n (by omega)
    have e : ((n + 1 : Nat) : Int) * b = n * b + b := by rw [Int.natCast_add, Int.add_mul]; simp
    show smN z n + z n ≤ _
    omega
theorem smN_ge {z : Nat → Int} {b : Int} : ∀ {n : Nat}, (∀ i, i < n → b ≤ z i) → n * b ≤ smN z n
  | 0, _ => by simp [smN]
  | n + 1, h => by
    have := smN_ge (z := z) (b := b) (n := n) (fun i hi => h i (by omega))
    have := h n (by omega)
    have e : ((n + 1 : Nat) : Int) * b = n * b + b := by rw [Int.natCast_add, Int.add_mul]; simp
    show _ ≤ smN z n + z n
    omega
theorem smN_move (z : Nat → Int) (b : Int) : ∀ n : Nat, smN (fun i => z i + b) n = smN z n + n * b
  | 0 => by simp [smN]
  | n + 1 => by
    have e : ((n + 1 : Nat) : Int) * b = n * b + b := by rw [Int.natCast_add, Int.add_mul]; simp
    show smN (fun i => z i + b) n + (z n + b) = smN z n + z n + _
    rw [smN_move z b n]
    omega
theorem smN_congr {z z' : Nat → Int} : ∀ {n : Nat}, (∀ i, i < n → z i = z' i) → smN z n = smN z' n
  | 0, _ => rfl
  | n + 1, h => by
    show smN z n + z n = smN z' n + z' n
    rw [smN_congr (fun i hi => h i (by omega)), h n (by omega)]
/-- Their mean, rounded down. -/
def mnN (z : Nat → Int) (n : Nat) : Int := smN z n / n
theorem mnN_move (z : Nat → Int) (b : Int) {n : Nat} (h : 0 < n) : mnN (fun i => z i + b) n = mnN z n + b := by
  unfold mnN
  rw [smN_move, Int.add_mul_ediv_left _ _ (by omega)]
theorem mnN_between {z : Nat → Int} {n : Nat} {lo hi : Int} (h : 0 < n) (a : ∀ i, i < n → lo ≤ z i) (b : ∀ i, i < n → z i ≤ hi) : lo ≤ mnN z n ∧ mnN z n ≤ hi := by
  have h1 := smN_ge (n := n) a
  have h2 := smN_le (n := n) b
  have p : (0 : Int) < n := by omega
  constructor
  · exact (Int.le_ediv_iff_mul_le p).2 (by rw [Int.mul_comm]; exact h1)
  · have : mnN z n < hi + 1 := (Int.ediv_lt_iff_lt_mul p).2 (by rw [Int.add_mul, Int.mul_comm hi]; omega)
    omega
theorem smN_b {z : Nat → Int} {n m : Nat} (hm : m ≤ n) (h60 : n ≤ 60) (h : ∀ i, i < n → okT (z i)) : -60000000000000 ≤ smN z m ∧ smN z m ≤ 60000000000000 := by
  have h1 := smN_ge (z := z) (n := m) (b := -1000000000000) (fun i hi => (h i (by omega)).1)
  have h2 := smN_le (z := z) (n := m) (b := 1000000000000) (fun i hi => (h i (by omega)).2)
  omega
/-- The k-th by height, of a list. -/
def IsMid (l : List Int) (k : Nat) (v : Int) : Prop := v ∈ l ∧ l.countP (fun x => decide (x < v)) ≤ k ∧ k < l.countP (fun x => decide (x ≤ v))
theorem IsMid.one {l : List Int} {k : Nat} {v v' : Int} (h : IsMid l k v) (g : IsMid l k v') : v = v' := by
  have mono : ∀ a b : Int, a < b → l.countP (fun x => decide (x ≤ a)) ≤ l.countP (fun x => decide (x < b)) := fun a b ab => List.countP_mono_left (fun x _ hx => decide_eq_true (by have := of_decide_eq_true hx; omega))
  rcases Int.lt_trichotomy v v' with lt | e | lt
  · have := mono v v' lt
    have := h.2.2
    have := g.2.1
    omega
  · exact e
  · have := mono v' v lt
    have := h.2.1
    have := g.2.2
    omega
theorem IsMid.perm {l l' : List Int} {k : Nat} {v : Int} (p : l.Perm l') (h : IsMid l k v) : IsMid l' k v := ⟨p.mem_iff.1 h.1, by rw [← p.countP_eq]; exact h.2.1, by rw [← p.countP_eq]; exact h.2.2⟩
/-- In a list that rises it stands there. -/
theorem mid_sorted {L : List Int} (s : L.Pairwise (fun a b => a ≤ b)) {k : Nat} {v : Int} (h : L[k]? = some v) : IsMid L k v := by
  have hk : k < L.length := (List.getElem?_eq_some_iff.1 h).1
  have e : L[k] = v := (List.getElem?_eq_some_iff.1 h).2
  refine ⟨List.mem_of_getElem? h, ?_, ?_⟩
  · have sp := List.take_append_drop k L
    rw [← sp, List.countP_append]
    have z : (L.drop k).countP (fun x => decide (x < v)) = 0 := by
      rw [List.countP_eq_zero]
      intro x hx
      obtain ⟨j, hj, rfl⟩ := List.getElem_of_mem hx
      rw [List.getElem_drop]
      simp only [decide_eq_true_eq]
      by_cases c : j = 0
      · subst c; simp only [Nat.add_zero]; omega
      · have := List.pairwise_iff_getElem.1 s k (k + j) hk (by simp at hj; omega) (by omega)
        omega
    have t := List.countP_le_length (p := fun x => decide (x < v)) (l := L.take k)
    rw [List.length_take] at t
    omega
  · have sp := List.take_append_drop (k + 1) L
    rw [← sp, List.countP_append]
    have t : (L.take (k + 1)).countP (fun x => decide (x ≤ v)) = (L.take (k + 1)).length := by
      rw [List.countP_eq_length]
      intro x hx
      obtain ⟨j, hj, rfl⟩ := List.getElem_of_mem hx
      rw [List.getElem_take]
      simp only [decide_eq_true_eq]
      rw [List.length_take] at hj
      by_cases c : j = k
      · subst c; omega
      · have := List.pairwise_iff_getElem.1 s j k (by omega) hk (by omega)
        omega
    rw [t, List.length_take]
    omega
theorem mid_some {l : List Int} {k : Nat} (h : k < l.length) : ∃ v, IsMid l k v := by
  have p := List.mergeSort_perm l (fun a b => decide (a ≤ b))
  have s := List.pairwise_mergeSort (le := fun a b : Int => decide (a ≤ b)) (by intro a b c h1 h2; simp at *; omega) (by intro a b; simp; omega) l
  have len : k < (l.mergeSort (fun a b => decide (a ≤ b))).length := by rw [p.length_eq]; exact h
  refine ⟨_, (mid_sorted (s.imp (fun {a b} h => by simpa using h)) (List.getElem?_eq_getElem len)).perm p⟩
theorem mid_move {l : List Int} {k : Nat} {v b : Int} (h : IsMid l k v) : IsMid (l.map (fun x => x + b)) k (v + b) := by
  refine ⟨List.mem_map.2 ⟨v, h.1, rfl⟩, ?_, ?_⟩
  · rw [List.countP_map]
    have e : ((fun x => decide (x < v + b)) ∘ fun x => x + b) = fun x => decide (x < v) := by funext x; exact decide_eq_decide.2 (by show x + b < v + b ↔ x < v; omega)
    rw [e]; exact h.2.1
  · rw [List.countP_map]
    have e : ((fun x => decide (x ≤ v + b)) ∘ fun x => x + b) = fun x => decide (x ≤ v) := by funext x; exact decide_eq_decide.2 (by show x + b ≤ v + b ↔ x ≤ v; omega)
    rw [e]; exact h.2.2
theorem lsN_move (z : Nat → Int) (b : Int) (n : Nat) : lsN (fun i => z i + b) n = (lsN z n).map (fun x => x + b) := by unfold lsN; rw [List.map_map]; rfl
/-- How far two are from each other. -/
def dst (a b : Int) : Int := if a - b < 0 then -(a - b) else a - b
theorem dst_b {a b : Int} (ha : okT a) (hb : okT b) : 0 ≤ dst a b ∧ dst a b ≤ 2000000000000 := by
  unfold dst okT at *
  split <;> omega
theorem dst_tri (a b c : Int) : dst a c ≤ dst a b + dst b c := by
  unfold dst
  split <;> split <;> split <;> omega
/-- How they wander, up to the i-th. -/
def wnN (z : Nat → Int) (d : Nat) : Nat → Int
  | 0 => 0
  | i + 1 => if d ≤ i ∧ wnN z d i < dst (z i) (z (i - d)) then dst (z i) (z (i - d)) else wnN z d i
theorem wnN_ge {z : Nat → Int} {d : Nat} : ∀ {n : Nat}, 0 ≤ wnN z d n ∧ ∀ i, i < n → d ≤ i → dst (z i) (z (i - d)) ≤ wnN z d n
  | 0 => ⟨by show (0 : Int) ≤ 0; omega, fun i hi => by omega⟩
  | n + 1 => by
    obtain ⟨a, b⟩ := wnN_ge (z := z) (d := d) (n := n)
    show 0 ≤ (if d ≤ n ∧ wnN z d n < dst (z n) (z (n - d)) then dst (z n) (z (n - d)) else wnN z d n) ∧ ∀ i, i < n + 1 → d ≤ i → dst (z i) (z (i - d)) ≤ (if d ≤ n ∧ wnN z d n < dst (z n) (z (n - d)) then dst (z n) (z (n - d)) else wnN z d n)
    by_cases c : d ≤ n ∧ wnN z d n < dst (z n) (z (n - d))
    · rw [if_pos c]
      refine ⟨by omega, fun i hi hd => ?_⟩
      by_cases q : i = n
      · subst q; exact Int.le_refl _
      · have := b i (by omega) hd; omega
    · rw [if_neg c]
      refine ⟨a, fun i hi hd => ?_⟩
      by_cases q : i = n
      · subst q
        apply Classical.byContradiction
        intro no
        exact c ⟨hd, by omega⟩
      · exact b i (by omega) hd
theorem wnN_le {z : Nat → Int} {d : Nat} {v : Int} (h0 : 0 ≤ v) : ∀ {n : Nat}, (∀ i, i < n → d ≤ i → dst (z i) (z (i - d)) ≤ v) → wnN z d n ≤ v
  | 0, _ => h0
  | n + 1, h => by
    show (if d ≤ n ∧ wnN z d n < dst (z n) (z (n - d)) then dst (z n) (z (n - d)) else wnN z d n) ≤ v
    split
    · rename_i c; exact h n (by omega) c.1
    · exact wnN_le h0 (fun i hi hd => h i (by omega) hd)
theorem wnN_low {z : Nat → Int} {d : Nat} : ∀ {n : Nat}, n ≤ d → wnN z d n = 0
  | 0, _ => rfl
  | n + 1, h => by
    show (if d ≤ n ∧ wnN z d n < dst (z n) (z (n - d)) then dst (z n) (z (n - d)) else wnN z d n) = 0
    rw [if_neg (fun c => by omega), wnN_low (by omega)]
theorem wnN_move (z : Nat → Int) (b : Int) (d : Nat) : ∀ n, wnN (fun i => z i + b) d n = wnN z d n
  | 0 => rfl
  | n + 1 => by
    have e : dst (z n + b) (z (n - d) + b) = dst (z n) (z (n - d)) := by unfold dst; rw [show z n + b - (z (n - d) + b) = z n - z (n - d) by omega]
    show (if d ≤ n ∧ wnN (fun i => z i + b) d n < dst (z n + b) (z (n - d) + b) then dst (z n + b) (z (n - d) + b) else wnN (fun i => z i + b) d n) = _
    rw [e, wnN_move z b d n]
    rfl
/-- Twice as far, no more than twice as much. -/
theorem wnN_twice (z : Nat → Int) (d n : Nat) : wnN z (2 * d) n ≤ 2 * wnN z d n := by
  have g := wnN_ge (z := z) (d := d) (n := n)
  refine wnN_le (by omega) (fun i hi hd => ?_)
  have h1 := g.2 i hi (by omega)
  have h2 := g.2 (i - d) (by omega) (by omega)
  have t := dst_tri (z i) (z (i - d)) (z (i - 2 * d))
  rw [show i - d - d = i - 2 * d by omega] at h2
  omega
end Go.Proofs.YthejaecljkjliakDoor
