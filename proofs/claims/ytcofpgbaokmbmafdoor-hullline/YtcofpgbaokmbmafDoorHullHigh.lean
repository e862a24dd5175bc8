/- Of each X the highest point alone; corners found one behind the other: plain mathematics. -/
import Derived.Test.YtcofpgbaokmbmafDoorHullOv
namespace Go.Proofs.YtcofpgbaokmbmafDoor
set_option linter.unusedVariables false

/-- Of each X the highest point alone, X rising. -/
def Hi (l h : List (Int × Int)) : Prop := h.Pairwise (fun a b => a.1 < b.1) ∧ ∀ p, p ∈ h ↔ p ∈ l ∧ ∀ i, i ∈ l → i.1 = p.1 → i.2 ≤ p.2
theorem hi_of {l : List (Int × Int)} {a : Int × Int} (ha : a ∈ l) : ∃ p, p ∈ l ∧ p.1 = a.1 ∧ a.2 ≤ p.2 ∧ ∀ i, i ∈ l → i.1 = p.1 → i.2 ≤ p.2 := by
  obtain ⟨p, hp, hP⟩ := max_of (fun q => q.2) (l.filter (fun q => decide (q.1 = a.1))) (fun e => by
    have : a ∈ l.filter (fun q => decide (q.1 = a.1)) := List.mem_filter.2 ⟨ha, by simp⟩
    rw [e] at this
    cases this)
  obtain ⟨p1, p2⟩ := List.mem_filter.1 hp
  have p3 : p.1 = a.1 := of_decide_eq_true p2
  exact ⟨p, p1, p3, hP a (List.mem_filter.2 ⟨ha, by simp⟩), fun i hi e => hP i (List.mem_filter.2 ⟨hi, by simp [e, p3]⟩)⟩
theorem Hi.cor {l h : List (Int × Int)} (H : Hi l h) (p : Int × Int) : Cor h p ↔ Cor l p := by
  constructor
  · rintro ⟨c1, c2, c3⟩
    obtain ⟨m1, m2⟩ := (H.2 p).1 c1
    refine ⟨m1, m2, fun a ha b hb la lb => ?_⟩
    obtain ⟨a', a1, a2, a3, a4⟩ := hi_of ha
    obtain ⟨b', b1, b2, b3, b4⟩ := hi_of hb
    have g := c3 a' ((H.2 a').2 ⟨a1, a4⟩) b' ((H.2 b').2 ⟨b1, b4⟩) (by omega) (by omega)
    have e : hgt a b p = hgt a' b' p + ((a'.2 - a.2) * (b.1 - p.1) + (b'.2 - b.2) * (p.1 - a.1)) := by
      unfold hgt
      rw [a2, b2]
      grind
    have x1 : 0 ≤ (a'.2 - a.2) * (b.1 - p.1) := Int.mul_nonneg (by omega) (by omega)
    have x2 : 0 ≤ (b'.2 - b.2) * (p.1 - a.1) := Int.mul_nonneg (by omega) (by omega)
    omega
  · rintro ⟨c1, c2, c3⟩
    exact ⟨(H.2 p).2 ⟨c1, c2⟩, fun i hi e => c2 i ((H.2 i).1 hi).1 e, fun a ha b hb la lb => c3 a ((H.2 a).1 ha).1 b ((H.2 b).1 hb).1 la lb⟩
theorem Hi.up {l h c : List (Int × Int)} (H : Hi l h) (U : Up h c) : Up l c := ⟨U.1, fun p => (U.2 p).trans (H.cor p)⟩
theorem Hi.mem {l l' h : List (Int × Int)} (H : Hi l h) (e : ∀ p, p ∈ l ↔ p ∈ l') : Hi l' h := ⟨H.1, fun p => (H.2 p).trans ⟨fun ⟨a, b⟩ => ⟨(e p).1 a, fun i hi => b i ((e i).2 hi)⟩, fun ⟨a, b⟩ => ⟨(e p).2 a, fun i hi => b i ((e i).1 hi)⟩⟩⟩
/-- Those of the first i whose X is not that of the one ahead. -/
def cmpN (f : Nat → Int × Int) : Nat → List (Int × Int)
  | 0 => []
  | i + 1 => if i = 0 ∨ (f i).1 ≠ (f (i - 1)).1 then cmpN f i ++ [f i] else cmpN f i
theorem cmpN_new {f : Nat → Int × Int} {i : Nat} (h : i = 0 ∨ (f i).1 ≠ (f (i - 1)).1) : cmpN f (i + 1) = cmpN f i ++ [f i] := by
  show (if i = 0 ∨ (f i).1 ≠ (f (i - 1)).1 then cmpN f i ++ [f i] else cmpN f i) = _
  rw [if_pos h]
theorem cmpN_old {f : Nat → Int × Int} {i : Nat} (h0 : i ≠ 0) (h : (f i).1 = (f (i - 1)).1) : cmpN f (i + 1) = cmpN f i := by
  show (if i = 0 ∨ (f i).1 ≠ (f (i - 1)).1 then cmpN f i ++ [f i] else cmpN f i) = _
  rw [if_neg (fun x => x.elim h0 (fun y => y h))]
theorem cmpN_len (f : Nat → Int × Int) : ∀ i, (cmpN f i).length ≤ i
  | 0 => Nat.le_refl _
  | i + 1 => by
    have := cmpN_len f i
    show (if i = 0 ∨ (f i).1 ≠ (f (i - 1)).1 then cmpN f i ++ [f i] else cmpN f i).length ≤ _
    split
    · simp; omega
    · omega
/-- Where none has the X of the one ahead, they are all. -/
theorem cmpN_all {f : Nat → Int × Int} : ∀ {i : Nat}, (∀ j, 0 < j → j < i → (f j).1 ≠ (f (j - 1)).1) → cmpN f i = lst f i
  | 0, _ => rfl
  | i + 1, h => by
    rw [cmpN_new (by by_cases e : i = 0; exact Or.inl e; exact Or.inr (h i (by omega) (by omega))), cmpN_all (fun j a b => h j a (by omega))]
    unfold lst
    rw [List.range_succ, List.map_append]
    rfl
/-- In order: X rising, of one X the highest first. -/
def Srt (f : Nat → Int × Int) (n : Nat) : Prop := ∀ i j, i ≤ j → j < n → (f i).1 < (f j).1 ∨ ((f i).1 = (f j).1 ∧ (f j).2 ≤ (f i).2)
theorem lst_snoc' (f : Nat → Int × Int) (k : Nat) : lst f (k + 1) = lst f k ++ [f k] := by
  unfold lst
  rw [List.range_succ, List.map_append]
  rfl
theorem cmp_hi {f : Nat → Int × Int} {n : Nat} (S : Srt f n) : ∀ i, i ≤ n → Hi (lst f i) (cmpN f i)
  | 0, _ => ⟨List.Pairwise.nil, fun p => ⟨fun h => (by cases h), fun h => (by cases h.1)⟩⟩
  | i + 1, hi => by
    have ih := cmp_hi S i (by omega)
    by_cases c : i = 0 ∨ (f i).1 ≠ (f (i - 1)).1
    · rw [cmpN_new c, lst_snoc']
      have lt : ∀ q, q ∈ lst f i → q.1 < (f i).1 := by
        intro q hq
        obtain ⟨j, hj, rfl⟩ := mem_lst.1 hq
        rcases c with c | c
        · omega
        · have h1 := S j (i - 1) (by omega) (by omega)
          have h2 := S (i - 1) i (by omega) (by omega)
          omega
      refine ⟨?_, fun p => ?_⟩
      · rw [List.pairwise_append]
        refine ⟨ih.1, by simp, fun a ha b hb => ?_⟩
        rw [List.mem_singleton.1 hb]
        exact lt a ((ih.2 a).1 ha).1
      · rw [List.mem_append, List.mem_append, List.mem_singleton]
        constructor
        · rintro (h | rfl)
          · obtain ⟨m1, m2⟩ := (ih.2 p).1 h
            refine ⟨Or.inl m1, fun q hq e => ?_⟩
            rcases List.mem_append.1 hq with hq | hq
            · exact m2 q hq e
            · rw [List.mem_singleton.1 hq] at e
              have := lt p m1
              omega
          · refine ⟨Or.inr rfl, fun q hq e => ?_⟩
            rcases List.mem_append.1 hq with hq | hq
            · have := lt q hq
              omega
            · rw [List.mem_singleton.1 hq]
              exact Int.le_refl _
        · rintro ⟨h | h, m⟩
          · exact Or.inl ((ih.2 p).2 ⟨h, fun q hq => m q (List.mem_append.2 (Or.inl hq))⟩)
          · exact Or.inr h
    · have c0 : i ≠ 0 := fun e => c (Or.inl e)
      have c1 : (f i).1 = (f (i - 1)).1 := Classical.byContradiction fun e => c (Or.inr e)
      rw [cmpN_old c0 c1, lst_snoc']
      refine ⟨ih.1, fun p => ?_⟩
      rw [ih.2 p, List.mem_append, List.mem_singleton]
      have below : ∀ q, q ∈ lst f i → (f i).1 = q.1 → (∀ r, r ∈ lst f i → r.1 = q.1 → r.2 ≤ q.2) → (f i).2 ≤ q.2 := by
        intro q hq e m
        have h1 := m (f (i - 1)) (lst_in (by omega)) (by omega)
        have h2 := S (i - 1) i (by omega) (by omega)
        omega
      constructor
      · rintro ⟨m1, m2⟩
        refine ⟨Or.inl m1, fun q hq e => ?_⟩
        rcases List.mem_append.1 hq with hq | hq
        · exact m2 q hq e
        · rw [List.mem_singleton.1 hq] at e ⊢
          exact below p m1 e m2
      · rintro ⟨h, m⟩
        have m' : ∀ q, q ∈ lst f i → q.1 = p.1 → q.2 ≤ p.2 := fun q hq => m q (List.mem_append.2 (Or.inl hq))
        rcases h with h | h
        · exact ⟨h, m'⟩
        · refine ⟨?_, m'⟩
          have h1 := m' (f (i - 1)) (lst_in (by omega)) (by rw [h]; omega)
          have h2 := S (i - 1) i (by omega) (by omega)
          have : p = f (i - 1) := Prod.ext (by rw [h]; exact c1) (by rw [h] at h1 ⊢; omega)
          rw [this]
          exact lst_in (by omega)
section
variable {l s0 : List (Int × Int)} {p : Int × Int} {k : Nat}
/-- One point more, on the right of all: some corners are none, and it is one. -/
theorem Up.next (U : Up l s0) (hp : ∀ q, q ∈ l → q.1 < p.1) (hk : k ≤ s0.length) (pop : ∀ j a b, k ≤ j → 0 < j → s0[j - 1]? = Option.some a → s0[j]? = Option.some b → hgt a p b ≤ 0) (h0 : 0 < s0.length → 0 < k)
    (top : ∀ a b, 2 ≤ k → s0[k - 2]? = Option.some a → s0[k - 1]? = Option.some b → 0 < hgt a p b) : Up (l ++ [p]) (s0.take k ++ [p]) := by
  have inL : ∀ q, q ∈ s0 → q ∈ l := fun q hq => ((U.2 q).1 hq).1
  refine ⟨?_, fun q => ?_⟩
  · rw [List.pairwise_append]
    refine ⟨U.1.sublist (List.take_sublist _ _), by simp, fun a ha b hb => ?_⟩
    rw [List.mem_singleton.1 hb]
    exact hp a (inL a (List.mem_of_mem_take ha))
  rw [List.mem_append, List.mem_singleton]
  constructor
  · rintro (h | rfl)
    · have hq := List.mem_of_mem_take h
      obtain ⟨j, hj⟩ := List.getElem?_of_mem h
      have jk : j < k := by
        have := (List.getElem?_eq_some_iff.1 hj).1
        simp at this
        omega
      rw [List.getElem?_take, if_pos jk] at hj
      have cq := (U.2 q).1 hq
      refine ⟨List.mem_append.2 (Or.inl cq.1), fun i hi e => ?_, fun a ha b hb la lb => ?_⟩
      · rcases List.mem_append.1 hi with hi | hi
        · exact cq.2.1 i hi e
        · rw [List.mem_singleton.1 hi] at e
          have := hp q cq.1
          omega
      · have ha : a ∈ l := by
          rcases List.mem_append.1 ha with ha | ha
          · exact ha
          · rw [List.mem_singleton.1 ha] at la
            have := hp q cq.1
            omega
        rcases List.mem_append.1 hb with hb | hb
        · exact cq.2.2 a ha b hb la lb
        rw [List.mem_singleton.1 hb]
        -- the last corner that is left, and the one ahead of it
        have ne : l ≠ [] := fun e => by rw [e] at ha; cases ha
        by_cases k1 : k = 1
        · obtain ⟨x, hx, mx⟩ := U.some ne
          have : j = 0 := by omega
          subst this
          rw [hx] at hj
          obtain rfl := Option.some.inj hj
          have := mx a ha
          omega
        obtain ⟨A, hA⟩ : ∃ A, s0[k - 2]? = Option.some A := ⟨_, List.getElem?_eq_getElem (by omega)⟩
        obtain ⟨B, hB⟩ : ∃ B, s0[k - 1]? = Option.some B := ⟨_, List.getElem?_eq_getElem (by omega)⟩
        have t := top A B (by omega) hA hB
        have wAB := U.rise hA hB (by omega)
        have lB := hp B (inL B (List.mem_of_getElem? hB))
        have sup := cor_support (U.cor hA) (U.cor hB) wAB (fun r cr l1 l2 => by
          obtain ⟨i, hi⟩ := List.getElem?_of_mem ((U.2 r).2 cr)
          rcases Nat.lt_trichotomy i (k - 2) with c' | c' | c'
          · have := U.rise hi hA c'
            omega
          · subst c'
            rw [hA] at hi
            obtain rfl := Option.some.inj hi
            omega
          · by_cases c2 : i = k - 1
            · subst c2
              rw [hB] at hi
              obtain rfl := Option.some.inj hi
              omega
            · have := U.rise hB hi (by omega)
              omega)
        have tp : hgt A B p < 0 := by rw [hgt_right] at t; omega
        have zB : hgt A B B = 0 := by unfold hgt; grind
        by_cases jl : j = k - 1
        · subst jl
          rw [hB] at hj
          obtain rfl := Option.some.inj hj
          have e := hgt_by A B a p B
          have x1 : 0 ≤ (hgt A B B - hgt A B a) * (p.1 - B.1) := Int.mul_nonneg (by have := sup a ha; omega) (by omega)
          have x2 : 0 < (hgt A B B - hgt A B p) * (B.1 - a.1) := Int.mul_pos (by omega) (by omega)
          apply Classical.byContradiction
          intro n
          have : (B.1 - A.1) * hgt a p B ≤ 0 := Int.mul_nonpos_of_nonneg_of_nonpos (by omega) (by omega)
          omega
        · have qB := U.rise hj hB (by omega)
          have g1 := cq.2.2 a ha B (inL B (List.mem_of_getElem? hB)) la qB
          rw [← Int.neg_neg (hgt a B q), ← hgt_left] at g1
          have g2 : 0 < hgt q p B := by
            have e := hgt_by A B q p B
            have x1 : 0 ≤ (hgt A B B - hgt A B q) * (p.1 - B.1) := Int.mul_nonneg (by have := sup q cq.1; omega) (by omega)
            have x2 : 0 < (hgt A B B - hgt A B p) * (B.1 - q.1) := Int.mul_pos (by omega) (by omega)
            apply Classical.byContradiction
            intro n
            have : (B.1 - A.1) * hgt q p B ≤ 0 := Int.mul_nonpos_of_nonneg_of_nonpos (by omega) (by omega)
            omega
          rw [hgt_right] at g2
          have zq : hgt q B q = 0 := by unfold hgt; grind
          have e := hgt_by q B a p q
          have x1 : 0 < (hgt q B q - hgt q B a) * (p.1 - q.1) := Int.mul_pos (by omega) (by omega)
          have x2 : 0 < (hgt q B q - hgt q B p) * (q.1 - a.1) := Int.mul_pos (by omega) (by omega)
          apply Classical.byContradiction
          intro n
          have : (B.1 - q.1) * hgt a p q ≤ 0 := Int.mul_nonpos_of_nonneg_of_nonpos (by omega) (by omega)
          omega
    · refine ⟨List.mem_append.2 (Or.inr (by simp)), fun i hi e => ?_, fun a ha b hb la lb => ?_⟩
      · rcases List.mem_append.1 hi with hi | hi
        · have := hp i hi
          omega
        · rw [List.mem_singleton.1 hi]
          exact Int.le_refl _
      · rcases List.mem_append.1 hb with hb | hb
        · have := hp b hb
          omega
        · rw [List.mem_singleton.1 hb] at lb
          omega
  · rintro ⟨c1, c2, c3⟩
    rcases List.mem_append.1 c1 with c1 | c1
    · left
      have cq : Cor l q := ⟨c1, fun i hi => c2 i (List.mem_append.2 (Or.inl hi)), fun a ha b hb => c3 a (List.mem_append.2 (Or.inl ha)) b (List.mem_append.2 (Or.inl hb))⟩
      have hq := (U.2 q).2 cq
      obtain ⟨j, hj⟩ := List.getElem?_of_mem hq
      have jl := (List.getElem?_eq_some_iff.1 hj).1
      by_cases jk : j < k
      · have : (s0.take k)[j]? = Option.some q := by rw [List.getElem?_take, if_pos jk]; exact hj
        exact List.mem_of_getElem? this
      · have := h0 (by omega)
        obtain ⟨a, ha⟩ : ∃ a, s0[j - 1]? = Option.some a := ⟨_, List.getElem?_eq_getElem (by omega)⟩
        have g := pop j a q (by omega) (by omega) ha hj
        have := c3 a (List.mem_append.2 (Or.inl (inL a (List.mem_of_getElem? ha)))) p (List.mem_append.2 (Or.inr (by simp))) (U.rise ha hj (by omega)) (hp q c1)
        omega
    · exact Or.inr (List.mem_singleton.1 c1)
theorem up_nil : Up [] [] := ⟨List.Pairwise.nil, fun p => ⟨fun h => (by cases h), fun h => (by cases h.1)⟩⟩
end
end Go.Proofs.YtcofpgbaokmbmafDoor
