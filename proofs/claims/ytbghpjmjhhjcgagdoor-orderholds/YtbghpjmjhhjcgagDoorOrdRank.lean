/- Ranks of events that stand in another order: plain mathematics. -/
import Derived.Test.YtbghpjmjhhjcgagDoorOrdSort
namespace Go.Proofs.YtbghpjmjhhjcgagDoor
set_option linter.unusedVariables false

section
variable {f h : Nat → Ev} {n : Nat}
/-- The same events in another order, by when they begin. -/
structure Ord2 (f h : Nat → Ev) (n : Nat) : Prop where
  of : ∀ i, i < n → ∃ j, j < n ∧ h i = f j
  to : ∀ j, j < n → ∃ i, i < n ∧ h i = f j
  ok : ∀ j, j < n → okAt h j
  up : ∀ i j, i < j → j < n → (h i).lo ≤ (h j).lo
theorem ord2_mk (hf : ∀ j, j < n → okAt f j) (hp : (lstT h n).Perm (lstT f n)) (up : ∀ i j, i < j → j < n → (h i).lo ≤ (h j).lo) : Ord2 f h n := by
  have mem : ∀ (g : Nat → Ev) (t : Tr), t ∈ lstT g n ↔ ∃ i, i < n ∧ trE (g i) = t := fun g t => by
    unfold lstT
    constructor
    · intro m
      obtain ⟨i, hi, e⟩ := List.mem_map.1 m
      exact ⟨i, List.mem_range.1 hi, e⟩
    · rintro ⟨i, hi, e⟩
      exact List.mem_map.2 ⟨i, List.mem_range.2 hi, e⟩
  have inj : ∀ x y : Ev, trE x = trE y → x = y := fun x y e => by
    have := congrArg evT e
    exact this
  have of : ∀ i, i < n → ∃ j, j < n ∧ h i = f j := fun i hi => by
    obtain ⟨j, hj, e⟩ := (mem f _).1 (hp.mem_iff.1 ((mem h _).2 ⟨i, hi, rfl⟩))
    exact ⟨j, hj, inj _ _ e.symm⟩
  have to : ∀ j, j < n → ∃ i, i < n ∧ h i = f j := fun j hj => by
    obtain ⟨i, hi, e⟩ := (mem h _).1 (hp.mem_iff.2 ((mem f _).2 ⟨j, hj, rfl⟩))
    exact ⟨i, hi, inj _ _ e⟩
  have nf : ((lstT f n).map (fun t => t.1)).Nodup := by
    unfold lstT
    rw [List.map_map]
    rw [List.nodup_iff_pairwise_ne, List.pairwise_map]
    refine (List.pairwise_lt_range).imp_of_mem ?_
    intro a b ha hb lt
    exact (hf b (List.mem_range.1 hb)).2 a lt
  have nh : ((lstT h n).map (fun t => t.1)).Nodup := ((hp.map _).nodup_iff).2 nf
  refine ⟨of, to, fun j hj => ?_, up⟩
  obtain ⟨j', hj', e⟩ := of j hj
  refine ⟨by rw [e]; exact (hf j' hj').1, fun k hk q => ?_⟩
  have gk : ((lstT h n).map (fun t => t.1))[k]? = some (h k).id := by rw [List.getElem?_map, lstT_at h n k (by omega)]; rfl
  have gj : ((lstT h n).map (fun t => t.1))[j]? = some (h j).id := by rw [List.getElem?_map, lstT_at h n j hj]; rfl
  have lk : k < ((lstT h n).map (fun t => t.1)).length := by rw [List.length_map, lstT_len]; omega
  have : k = j := (List.getElem?_inj lk nh).1 (by rw [gk, gj, q])
  omega
theorem Ord2.one (o : Ord2 f h n) {i k : Nat} (hi : i < n) (hk : k < n) (e : (h i).id = (h k).id) : i = k := by
  rcases Nat.lt_trichotomy i k with a | a | a
  · exact absurd e ((o.ok k hk).2 i a)
  · exact a
  · exact absurd e.symm ((o.ok i hi).2 k a)
theorem rank_moved (hf : ∀ j, j < n → okAt f j) (o : Ord2 f h n) {i j : Nat} (hi : i < n) (hj : j < n) (e : h i = f j) : rkO h n i = rkO f n j := by
  have g := rkO_is o.ok
  obtain ⟨idx, at'⟩ : ∃ idx : Nat → Nat, ∀ j, j < n → idx j < n ∧ h (idx j) = f j := ⟨fun j => if c : j < n then Classical.choose (o.to j c) else 0, fun j hj => by
    show (if c : j < n then Classical.choose (o.to j c) else 0) < n ∧ h (if c : j < n then Classical.choose (o.to j c) else 0) = f j
    rw [dif_pos hj]
    exact Classical.choose_spec (o.to j hj)⟩
  have r : RkI f n (fun j => rkO h n (idx j)) := fun j hj => by
    obtain ⟨a, b, c⟩ := g (idx j) (at' _ hj).1
    refine ⟨a, fun k hk s => b (idx k) (at' _ hk).1 ?_, ?_⟩
    · show decide ((h (idx k)).hi < (h (idx j)).lo) = true
      rw [(at' _ hk).2, (at' _ hj).2]
      exact s
    · rcases c with c | ⟨k, hk, s, c⟩
      · exact Or.inl c
      · obtain ⟨k', hk', e'⟩ := o.of k hk
        have same : idx k' = k := o.one (at' _ hk').1 hk (by rw [(at' _ hk').2, e'])
        refine Or.inr ⟨k', hk', ?_, by show rkO h n (idx j) = rkO h n (idx k') + 1; rw [same]; exact c⟩
        have s' : decide ((h k).hi < (h (idx j)).lo) = true := s
        rw [e', (at' _ hj).2] at s'
        exact s'
  have q := RkI.one hf r (rkO_is hf) j hj
  have same : idx j = i := o.one (at' _ hj).1 hi (by rw [(at' _ hj).2, e])
  rw [← q]
  show rkO h n i = rkO h n (idx j)
  rw [same]
theorem maxO_stop {p : Nat → Bool} {g : Nat → Int} {i : Nat} : ∀ {n : Nat}, i ≤ n → (∀ k, i ≤ k → k < n → p k = false) → maxO p g n = maxO p g i
  | 0, hi, _ => by rw [show i = 0 by omega]
  | n + 1, hi, q => by
    by_cases c : i = n + 1
    · rw [c]
    · show (if p n = true ∧ maxO p g n < g n then g n else maxO p g n) = _
      rw [if_neg (fun z => by rw [q n (by omega) (by omega)] at z; cases z.1), maxO_stop (by omega) (fun k a b => q k a (by omega))]
/-- By those ahead of it there alone. -/
theorem rank_ahead (o : Ord2 f h n) {i : Nat} (hi : i < n) : rkO h n i = maxO (fun k => sur h k i) (rkO h n) i + 1 := by
  rw [rkO_eq o.ok hi, maxO_stop (i := i) (by omega) (fun k a b => ?_)]
  have l := (okB_t (o.ok k b).1).1
  refine decide_eq_false (fun s => ?_)
  by_cases c : k = i
  · subst c; omega
  · have := o.up i k (by omega) b
    omega
end
section
open Go.ChangeShapes Go.WideShapes Go.ChangeAt Go.RowKit Go.Joins
/-- Events of the call's own, sorted. -/
theorem sorted_evs (f : Nat → Ev) (n g c : Nat) (w u : World) (h12 : n ≤ 12) (hf : ∀ j, j < n → okAt f j) (hB : Below w.heap.size w u) (hg : w.heap.size ≤ g) (hO : u.ownsRow w.heap.size 46 3 (.slice (some ⟨g, 0, none⟩) n c) n (vcs f n)) :
    Calls Tryd.prog 53 #[.slice (some ⟨g, 0, none⟩) n c, .func (.func 54) #[] #[]] u fun e w' => e = .returned (.tuple #[]) ∧ ∃ h, Evs w' g 0 n h ∧ Ord2 f h n ∧ Below w.heap.size w w' := by
  have sz : (lstT f n).toArray.size = n := by simp [lstT_len]
  have hl := (hO.lt g rfl).2
  have hH := holds_of_ownE hO
  refine (sort_evs g c n (lstT f n).toArray u sz hH hl (by omega)).mono ?_
  rintro e u1 ⟨rfl, d', m, os, hp, hs, hw'⟩
  have z := evs_of_holds (holdsK_sortWorldK_c encE 3 u g 0 (lstT f n).toArray d' m os hH hl hp.1)
  rw [sz] at hp hs
  obtain ⟨s', pm⟩ := perm_of hp
  rw [s', ← hw'] at z
  refine ⟨rfl, _, z, ord2_mk hf pm (fun i j lt hj => ?_), by rw [hw']; exact sort_belowE hB hg hB.size⟩
  have y := hs i j (Nat.zero_le _) lt hj
  rw [ltE] at y
  have y' := of_decide_eq_false y
  show (d'[i]!).2.1 ≤ (d'[j]!).2.1
  omega
end
end Go.Proofs.YtbghpjmjhhjcgagDoor
