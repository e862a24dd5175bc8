/- Corners put into their order, one by one: plain mathematics. -/
import Derived.Test.YtcofpgbaokmbmafDoorHullDef
namespace Go.Proofs.YtcofpgbaokmbmafDoor
set_option linter.unusedVariables false

/-- The corners among the first i points, X rising. -/
def UpI (f : Nat → Int × Int) (n i : Nat) (out : List (Int × Int)) : Prop := out.Pairwise (fun a b => a.1 < b.1) ∧ ∀ p, p ∈ out ↔ ∃ j, j < i ∧ f j = p ∧ Cor (lst f n) p
section
variable {f : Nat → Int × Int} {n i k : Nat} {out : List (Int × Int)} {p q : Int × Int}
theorem upI_zero : UpI f n 0 [] := ⟨List.Pairwise.nil, fun p => ⟨fun h => (by cases h), fun ⟨j, hj, _⟩ => by omega⟩⟩
theorem UpI.all (h : UpI f n n out) : Up (lst f n) out := ⟨h.1, fun p => (h.2 p).trans ⟨fun ⟨j, _, _, c⟩ => c, fun c => by
  obtain ⟨j, hj, e⟩ := mem_lst.1 c.1
  exact ⟨j, hj, e, c⟩⟩⟩
/-- No corner: it stays out. -/
theorem UpI.skip (h : UpI f n i out) (hc : ¬ Cor (lst f n) (f i)) : UpI f n (i + 1) out := ⟨h.1, fun p => (h.2 p).trans ⟨fun ⟨j, hj, e, c⟩ => ⟨j, by omega, e, c⟩, fun ⟨j, hj, e, c⟩ => by
  by_cases ji : j = i
  · subst ji
    rw [e] at hc
    exact absurd c hc
  · exact ⟨j, by omega, e, c⟩⟩⟩
/-- It is in already. -/
theorem UpI.has (h : UpI f n i out) (hc : Cor (lst f n) (f i)) (hq : q ∈ out) (e : q.1 = (f i).1) : UpI f n (i + 1) out := by
  obtain ⟨j0, hj0, e0, c0⟩ := (h.2 q).1 hq
  have qe : q = f i := cor_one c0 hc e
  refine ⟨h.1, fun p => (h.2 p).trans ⟨fun ⟨j, hj, e, c⟩ => ⟨j, by omega, e, c⟩, fun ⟨j, hj, e', c⟩ => ?_⟩⟩
  by_cases ji : j = i
  · subst ji
    exact ⟨j0, hj0, by rw [e0, qe, e'], c⟩
  · exact ⟨j, by omega, e', c⟩
/-- It is put between. -/
theorem UpI.ins (h : UpI f n i out) (hc : Cor (lst f n) (f i)) (lo : ∀ q, q ∈ out.take k → q.1 < (f i).1) (hi : ∀ q, q ∈ out.drop k → (f i).1 < q.1) : UpI f n (i + 1) (out.take k ++ f i :: out.drop k) := by
  have split : ∀ q, q ∈ out ↔ q ∈ out.take k ∨ q ∈ out.drop k := fun q => by
    rw [← List.mem_append, List.take_append_drop]
  refine ⟨?_, fun p => ?_⟩
  · rw [List.pairwise_append, List.pairwise_cons]
    refine ⟨h.1.sublist (List.take_sublist _ _), ⟨fun q hq => hi q hq, h.1.sublist (List.drop_sublist _ _)⟩, fun a ha b hb => ?_⟩
    rcases List.mem_cons.1 hb with rfl | hb
    · exact lo a ha
    · have := lo a ha
      have := hi b hb
      omega
  · rw [List.mem_append, List.mem_cons]
    constructor
    · rintro (g | g | g)
      · obtain ⟨j, hj, e, c⟩ := (h.2 p).1 ((split p).2 (Or.inl g))
        exact ⟨j, by omega, e, c⟩
      · exact ⟨i, by omega, g.symm, by rw [g]; exact hc⟩
      · obtain ⟨j, hj, e, c⟩ := (h.2 p).1 ((split p).2 (Or.inr g))
        exact ⟨j, by omega, e, c⟩
    · rintro ⟨j, hj, e, c⟩
      by_cases ji : j = i
      · subst ji
        exact Or.inr (Or.inl e.symm)
      · rcases (split p).1 ((h.2 p).2 ⟨j, by omega, e, c⟩) with g | g
        · exact Or.inl g
        · exact Or.inr (Or.inr g)
/-- Those behind a place are no nearer. -/
theorem rise_drop (h : out.Pairwise (fun a b => a.1 < b.1)) {x : Int} (hk : out[k]? = some q) (lt : x < q.1) : ∀ p, p ∈ out.drop k → x < p.1 := by
  intro p hp
  obtain ⟨j, hj⟩ := List.getElem?_of_mem hp
  rw [List.getElem?_drop] at hj
  by_cases j0 : j = 0
  · subst j0
    rw [Nat.add_zero, hk] at hj
    obtain rfl := Option.some.inj hj
    exact lt
  · obtain ⟨l1, e1⟩ := List.getElem?_eq_some_iff.1 hk
    obtain ⟨l2, e2⟩ := List.getElem?_eq_some_iff.1 hj
    have := List.pairwise_iff_getElem.1 h k (k + j) l1 l2 (by omega)
    rw [e1, e2] at this
    omega
theorem take_all {x : Int} (h : ∀ j p, j < k → out[j]? = some p → p.1 < x) : ∀ p, p ∈ out.take k → p.1 < x := by
  intro p hp
  obtain ⟨j, hj⟩ := List.getElem?_of_mem hp
  rw [List.getElem?_take] at hj
  split at hj
  · exact h j p (by assumption) hj
  · cases hj
theorem UpI.len (h : UpI f n i out) : out.length ≤ i := by
  have nd : out.Nodup := h.1.imp (fun {a b} lt e => by rw [e] at lt; exact Int.lt_irrefl _ lt)
  have sub : ∀ (i : Nat) (l : List (Int × Int)), l.Nodup → (∀ p, p ∈ l → ∃ j, j < i ∧ f j = p) → l.length ≤ i := by
    intro i
    induction i with
    | zero =>
      intro l _ hl
      cases l with
      | nil => exact Nat.le_refl _
      | cons x l => obtain ⟨j, hj, _⟩ := hl x (by simp); omega
    | succ i ih =>
      intro l hd hl
      have h1 := ih (l.erase (f i)) (hd.erase _) (fun p hp => by
        obtain ⟨j, hj, e⟩ := hl p (List.mem_of_mem_erase hp)
        refine ⟨j, ?_, e⟩
        by_cases ji : j = i
        · subst ji
          rw [← e] at hp
          exact absurd hp (hd.not_mem_erase)
        · omega)
      have h2 := List.length_erase (a := f i) (l := l)
      split at h2 <;> omega
  exact sub i out nd (fun p hp => by obtain ⟨j, a, b, _⟩ := (h.2 p).1 hp; exact ⟨j, a, b⟩)
end
/-- The cells of points. -/
def pcs : List (Int × Int) → List Value
  | [] => []
  | p :: l => .int .i64 p.1 :: .int .i64 p.2 :: pcs l
theorem pcs_app (l l' : List (Int × Int)) : pcs (l ++ l') = pcs l ++ pcs l' := by
  induction l with
  | nil => rfl
  | cons p l ih => simp [pcs, ih]
theorem pcs_len (l : List (Int × Int)) : (pcs l).length = l.length * 2 := by
  induction l with
  | nil => rfl
  | cons p l ih => simp only [pcs, List.length_cons, ih]; omega
theorem pcs_at : ∀ {l : List (Int × Int)} {i : Nat} {p : Int × Int}, l[i]? = some p → (pcs l)[i * 2]? = some (.int .i64 p.1) ∧ (pcs l)[i * 2 + 1]? = some (.int .i64 p.2)
  | [], i, p, h => by simp at h
  | x :: l, 0, p, h => by
    simp at h
    subst h
    exact ⟨rfl, rfl⟩
  | x :: l, i + 1, p, h => by
    have g : l[i]? = some p := by simpa using h
    have := pcs_at g
    rw [show (i + 1) * 2 = i * 2 + 1 + 1 by omega]
    exact ⟨by simp only [pcs, List.getElem?_cons_succ]; exact this.1, by simp only [pcs, List.getElem?_cons_succ]; exact this.2⟩
theorem pcs_one {l : List (Int × Int)} : ∀ u, u ∈ pcs l → u.oneCell' = true := by
  induction l with
  | nil => intro u hu; cases hu
  | cons p l ih =>
    intro u hu
    simp only [pcs, List.mem_cons] at hu
    rcases hu with rfl | rfl | hu
    · rfl
    · rfl
    · exact ih u hu
end Go.Proofs.YtcofpgbaokmbmafDoor
