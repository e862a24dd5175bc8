/- A net in which one node asks all others, one behind the other: plain mathematics. -/
import Derived.Test.YtnagdjipmpjaaaiNm16
namespace Go.Proofs.Ytnagdjipmpjaaai.netAll
set_option linter.unusedVariables false

def zs (i : Nat) : Int := 10 * i
def rs (i : Nat) : Int := 5 * i
theorem be {n : Nat} (h2 : 2 ≤ n) (h6 : n ≤ 6) : BeE n zs n rs 100 0 := Or.inr (Or.inr (Or.inr ⟨by omega, rfl, fun i hi => by unfold zs rs; omega, rfl⟩))
/-- What is so when k were asked, and all came back. -/
structure St (n k : Nat) (late : Int) (N : Nn) : Prop where
  t : N.T
  nn : N.W.n = n
  u : N.W.under = []
  tm : N.W.time = 2 * late * k
  no : ∀ j, 1 ≤ j → j < n → ∀ x, (N.nd j).has x = false
  is : ∀ j, (N.nd 0).has j = true ↔ 1 ≤ j ∧ j ≤ k
theorem first {n : Nat} {late : Int} (h2 : 2 ≤ n) (h6 : n ≤ 6) : St n 0 late (Nn.made n zs rs 100) :=
  ⟨Nn.made_t (be h2 h6), rfl, rfl, by show (0 : Int) = 2 * late * ((0 : Nat) : Int); simp, fun j _ _ x => rfl, fun j => ⟨fun h => (by cases h), fun h => by omega⟩⟩
theorem step {n k : Nat} {late : Int} {N : Nn} (h : St n k late N) (hk : k + 1 < n) (h6 : n ≤ 6) (l0 : 0 ≤ late) (l1 : late ≤ 1000) :
    ∃ N1 N2 N3 N4 N5, NDoR N 2 0 ((k + 1 : Nat) : Int) N1 0 ∧ NDoR N1 1 late 0 N2 0 ∧ NDoR N2 3 0 0 N3 0 ∧ NDoR N3 1 late 0 N4 0 ∧ NDoR N4 3 0 0 N5 0 ∧ St n (k + 1) late N5 := by
  have hn := h.nn
  have tm := h.tm
  have tk : 2 * late * (k : Int) ≤ 2000 * 6 := Int.mul_le_mul (by omega) (by omega) (by omega) (by omega)
  have tk0 : 0 ≤ 2 * late * (k : Int) := Int.mul_nonneg (by omega) (by omega)
  have te : 2 * late * ((k + 1 : Nat) : Int) = 2 * late * (k : Int) + late + late := by rw [Int.natCast_add, Int.mul_add]; show _ + 2 * late * 1 = _; omega
  have d1 := ask_ok h.t (a := 0) (b := k + 1) (by omega) (by omega) (by omega) h.u
  have t1 := (d1.t h.t).1
  have d2 := go_ok t1 (t := late) (y := 0) l0 (by omega) (by show N.W.time + late ≤ _; omega)
  have t2 := (d2.t t1).1
  have d3 := come_ask t2 (a := 0) (b := k + 1) (t := N.W.rd 0) (y := 0) rfl
  have t3 := (d3.t t2).1
  have d4 := go_ok t3 (t := late) (y := 0) l0 (by omega) (by show N.W.time + late + late ≤ _; omega)
  have t4 := (d4.t t3).1
  have d5 := come_ans t4 (a := 0) (b := k + 1) (y := 0) rfl
  have t5 := (d5.t t4).1
  refine ⟨_, _, _, _, _, d1, d2, d3, d4, d5, ⟨t5, hn, rfl, ?_, fun j j1 jn x => ?_, fun j => ?_⟩⟩
  · show N.W.time + late + late = _
    rw [te, tm]
  · dsimp only
    rw [updN_ne (show j ≠ 0 by omega)]
    by_cases e : j = k + 1
    · rw [e, updN_at]
      exact h.no (k + 1) (by omega) (by omega) x
    · rw [updN_ne e]
      exact h.no j j1 jn x
  · dsimp only
    rw [updN_at]
    have kp : ∀ (c : Nd) (t x y : Int) (i : Nat), (c.kept (k + 1) t x y).has i = updN c.has (k + 1) true i := fun _ _ _ _ _ => rfl
    rw [kp]
    by_cases e : j = k + 1
    · rw [e, updN_at]
      exact ⟨fun _ => by omega, fun _ => rfl⟩
    · rw [updN_ne e]
      rw [updN_ne (show 0 ≠ k + 1 by omega), h.is j]
      omega
section
variable {n : Nat} {late : Int} {N : Nn}
/-- The only edges are those of the first node, to each other one. -/
theorem arcs (h : St n (n - 1) late N) (h2 : 2 ≤ n) {u v : Nat} {c : Int} (g : Arc (egf (eoN N)) (eoN N).length u v c) :
    (∃ k : Nat, 1 ≤ k ∧ k < n ∧ ((u = 0 ∧ v = k ∧ c = (N.nd 0).ahi k (N.W.rd 0)) ∨ (u = k ∧ v = 0 ∧ c = -((N.nd 0).alo k (N.W.rd 0))))) := by
  obtain ⟨j, hj, q⟩ := g
  obtain ⟨a, b, h1, h2', h3, h4, h5, h6, h7, h8, _⟩ := (eoN_mem h.t (egf_mem hj)).ex
  have hn := h.nn
  have a0 : a = 0 := by
    apply Classical.byContradiction
    intro ne
    rw [h.no a (by omega) (by omega) b] at h4
    cases h4
  subst a0
  refine ⟨b, by omega, by omega, ?_⟩
  rcases q with ⟨q1, q2, rfl⟩ | ⟨q1, q2, rfl⟩
  · exact Or.inl ⟨by omega, by omega, h8⟩
  · exact Or.inr ⟨by omega, by omega, by rw [h7]⟩
theorem there (h : St n (n - 1) late N) (h2 : 2 ≤ n) {k : Nat} (k1 : 1 ≤ k) (kn : k < n) : Arc (egf (eoN N)) (eoN N).length 0 k ((N.nd 0).ahi k (N.W.rd 0)) ∧ Arc (egf (eoN N)) (eoN N).length k 0 (-((N.nd 0).alo k (N.W.rd 0))) := by
  have hn := h.nn
  have kn0 := h.t.kn 0 (by omega)
  have hk := (h.is k).2 ⟨k1, by omega⟩
  have m : (⟨((N.nd 0).id : Int), (k : Int), (N.nd 0).alo k (N.W.rd 0), (N.nd 0).ahi k (N.W.rd 0)⟩ : Eg) ∈ eoN N := by
    unfold eoN
    refine List.mem_flatMap.2 ⟨0, List.mem_range.2 (by omega), ?_⟩
    unfold Nd.eo
    exact List.mem_map.2 ⟨k, List.mem_filter.2 ⟨List.mem_range.2 (by rw [kn0.n]; omega), hk⟩, rfl⟩
  obtain ⟨j, hj, e⟩ := List.mem_iff_getElem.1 m
  have ej : egf (eoN N) j = ⟨((N.nd 0).id : Int), (k : Int), (N.nd 0).alo k (N.W.rd 0), (N.nd 0).ahi k (N.W.rd 0)⟩ := by
    unfold egf
    rw [List.getD_eq_getElem?_getD, List.getElem?_eq_getElem hj]
    exact e
  have i0 : ((N.nd 0).id : Int) = ((0 : Nat) : Int) := by rw [kn0.id]
  exact ⟨⟨j, hj, Or.inl (by rw [ej]; exact ⟨i0.symm, rfl, rfl⟩)⟩, ⟨j, hj, Or.inr (by rw [ej]; exact ⟨rfl, i0.symm, rfl⟩)⟩⟩
theorem way (h : St n (n - 1) late N) (h2 : 2 ≤ n) {a b : Nat} (ha : a < n) (hb : b < n) : ∃ r c, Wk (Arc (egf (eoN N)) (eoN N).length) r a b c := by
  have f : ∃ r c, Wk (Arc (egf (eoN N)) (eoN N).length) r a 0 c := by
    by_cases e : a = 0
    · subst e; exact ⟨0, 0, Wk.nil 0⟩
    · exact ⟨_, _, (Wk.nil a).snoc (there h h2 (by omega) ha).2⟩
  obtain ⟨r, c, w⟩ := f
  by_cases e : b = 0
  · subst e; exact ⟨r, c, w⟩
  · exact ⟨_, _, w.snoc (there h h2 (by omega) hb).1⟩
/-- Each two have a bound; of one it is nothing. -/
theorem all_bet (h : St n (n - 1) late N) (h2 : 2 ≤ n) {a b : Nat} (ha : a < n) (hb : b < n) : ∃ lo hi, BetA N.W.n (egf (eoN N)) (eoN N).length a b lo hi 0 ∧ (a = b → lo = 0 ∧ hi = 0) := by
  have hn := h.nn
  obtain ⟨T, hA⟩ := eoN_all h.t
  obtain ⟨lo, hi, e, q⟩ := betA_some (egs_e (eoN_egs h.t)) hA a b
  have q' := q
  rcases eoN_bet h.t (a := a) (b := b) ⟨by omega, by omega, by omega, by omega⟩ q with ⟨_, _, _, no⟩ | ⟨rfl, _, _, _, _, x1, x2⟩
  · obtain ⟨r, c, w⟩ := way h h2 ha hb
    exact absurd w (no r c)
  · refine ⟨lo, hi, q', fun ab => ?_⟩
    subst ab
    rw [Int.toNat_natCast] at x1 x2
    have s := Dst.self (eoN_nn h.t n) ha
    have y1 := x1.one s
    have y2 := x2.one s
    omega
/-- Together they are wide. -/
theorem wide (h : St n (n - 1) late N) (h2 : 2 ≤ n) {T : Tb} (hA : AllA (egf (eoN N)) (eoN N).length N.W.n 0 T) : 0 < wid N.W.n T ∧ wid N.W.n T ≤ 72000000000000 := by
  have hn := h.nn
  have n6 := h.t.g.i.n6
  rcases hA with ⟨_, c⟩ | ⟨nn, hT, ⟨_, c⟩ | ⟨nf, _⟩⟩
  · cases c
  · cases c
  have each : ∀ a b, a < N.W.n → b < N.W.n → (T a b).isSome = true → ∃ x y, T a b = some x ∧ T b a = some y ∧ spHi T a b = x ∧ spLo T a b = -y ∧ 0 ≤ x + y ∧ x ≤ 1000000000000 ∧ y ≤ 1000000000000 ∧ Dst (Arc (egf (eoN N)) (eoN N).length) a b x ∧ Dst (Arc (egf (eoN N)) (eoN N).length) b a y := by
    intro a b ha hb hs
    cases s : T a b with
    | none => rw [s] at hs; cases hs
    | some x =>
      obtain ⟨y, s'⟩ := hT.back ha hb s
      have d1 := (hT a b ha).1 x s
      have d2 := (hT b a hb).1 y s'
      have f1 := not_far nf ha hb s
      have f2 := not_far nf hb ha s'
      refine ⟨x, y, rfl, s', by unfold spHi; rw [s]; rfl, by unfold spLo; rw [s, s']; rfl, ?_, by omega, by omega, d1, d2⟩
      obtain ⟨⟨r1, w1⟩, _⟩ := d1
      obtain ⟨⟨r2, w2⟩, _⟩ := d2
      exact not_neg nn _ _ _ ha (w1.app w2)
  have one : ∀ a b, a < N.W.n → b < N.W.n → 0 ≤ (if a < b ∧ (T a b).isSome = true then spHi T a b - spLo T a b else 0) ∧ (if a < b ∧ (T a b).isSome = true then spHi T a b - spLo T a b else 0) ≤ 2000000000000 := by
    intro a b ha hb
    split
    · rename_i q
      obtain ⟨x, y, _, _, e1, e2, p, l1, l2, _⟩ := each a b ha hb q.2
      omega
    · omega
  have sum_b : ∀ (m : Nat) (f : Nat → Int) (K : Int), 0 ≤ K → (∀ i, i < m → 0 ≤ f i ∧ f i ≤ K) → 0 ≤ ((List.range m).map f).sum ∧ ((List.range m).map f).sum ≤ (m : Int) * K ∧ ∀ i, i < m → f i ≤ ((List.range m).map f).sum := by
    intro m f K hK
    induction m with
    | zero => intro _; exact ⟨by simp, by simp, fun i hi => by omega⟩
    | succ m ih =>
      intro hf
      obtain ⟨i1, i2, i3⟩ := ih (fun i hi => hf i (by omega))
      have hm := hf m (by omega)
      rw [List.range_succ, List.map_append, List.sum_append]
      have e : (List.map f [m]).sum = f m := by simp
      have e2 : ((m + 1 : Nat) : Int) * K = (m : Int) * K + K := by rw [Int.natCast_add, Int.add_mul]; simp
      rw [e, e2]
      refine ⟨by omega, by omega, fun i hi => ?_⟩
      by_cases q : i = m
      · subst q; omega
      · have := i3 i (by omega); omega
  have row : ∀ a, a < N.W.n → 0 ≤ ((List.range N.W.n).map (fun b => if a < b ∧ (T a b).isSome = true then spHi T a b - spLo T a b else 0)).sum ∧ ((List.range N.W.n).map (fun b => if a < b ∧ (T a b).isSome = true then spHi T a b - spLo T a b else 0)).sum ≤ 12000000000000 := by
    intro a ha
    have := sum_b N.W.n _ 2000000000000 (by omega) (fun b hb => one a b ha hb)
    have k : (N.W.n : Int) * 2000000000000 ≤ 6 * 2000000000000 := Int.mul_le_mul_of_nonneg_right (by omega) (by omega)
    exact ⟨this.1, by omega⟩
  obtain ⟨r1, r2, r3⟩ := sum_b N.W.n (fun a => ((List.range N.W.n).map (fun b => if a < b ∧ (T a b).isSome = true then spHi T a b - spLo T a b else 0)).sum) 12000000000000 (by omega) row
  have k : (N.W.n : Int) * 12000000000000 ≤ 6 * 12000000000000 := Int.mul_le_mul_of_nonneg_right (by omega) (by omega)
  unfold wid
  refine ⟨?_, by omega⟩
  have x0 := r3 0 (by omega)
  obtain ⟨_, _, x1⟩ := sum_b N.W.n (fun b => if 0 < b ∧ (T 0 b).isSome = true then spHi T 0 b - spLo T 0 b else 0) 2000000000000 (by omega) (fun b hb => one 0 b (by omega) hb)
  have x2 := x1 1 (by omega)
  -- the first and the second node: strictly
  have key : 0 < (if 0 < 1 ∧ (T 0 1).isSome = true then spHi T 0 1 - spLo T 0 1 else 0) := by
    have ar := there h h2 (k := 1) (by omega) (by omega)
    have is1 : (T 0 1).isSome = true := by
      cases s : T 0 1 with
      | some x => rfl
      | none => exact absurd ((Wk.nil 0).snoc ar.1) ((hT 0 1 (by omega)).2 s _ _)
    rw [if_pos ⟨by omega, is1⟩]
    obtain ⟨x, y, _, _, e1, e2, _, _, _, d1, d2⟩ := each 0 1 (by omega) (by omega) is1
    have kn0 := h.t.kn 0 (by omega)
    have hk := (h.is 1).2 ⟨by omega, by omega⟩
    have ag := kn0.aged h.t.g (by omega) hk
    obtain ⟨_, _, _, _, tt, _, _, _, _, l1, l2⟩ := kn0.kn 1 hk
    have i0 := kn0.i h.t.g (by omega)
    have sb := Nd.sk_b i0 (kn0.nbk h.t.g (by omega)) hk
    have wd : (N.nd 0).alo 1 (N.W.rd 0) + 4 ≤ (N.nd 0).ahi 1 (N.W.rd 0) := by unfold Nd.alo Nd.ahi; omega
    -- clocks that fit as well: the second one a bit on, or back
    have fit : ∀ d : Int, (N.nd 0).alo 1 (N.W.rd 0) ≤ N.W.rd 1 + d - N.W.rd 0 → N.W.rd 1 + d - N.W.rd 0 ≤ (N.nd 0).ahi 1 (N.W.rd 0) → ∀ u v c, Arc (egf (eoN N)) (eoN N).length u v c → (fun i => if i = 1 then N.W.rd 1 + d else N.W.rd i) v - (fun i => if i = 1 then N.W.rd 1 + d else N.W.rd i) u ≤ c := by
      intro d f1 f2 u v c g
      have old := (eoN_arc h.t u v c g).1
      obtain ⟨k, k1, kn, ⟨rfl, rfl, rfl⟩ | ⟨rfl, rfl, rfl⟩⟩ := arcs h h2 g
      · by_cases e : v = 1
        · subst e
          show N.W.rd 1 + d - N.W.rd 0 ≤ _
          exact f2
        · show (if v = 1 then N.W.rd 1 + d else N.W.rd v) - N.W.rd 0 ≤ _
          rw [if_neg e]; exact old
      · by_cases e : u = 1
        · subst e
          show N.W.rd 0 - (N.W.rd 1 + d) ≤ _
          omega
        · show N.W.rd 0 - (if u = 1 then N.W.rd 1 + d else N.W.rd u) ≤ _
          rw [if_neg e]; exact old
    have f0 := fit 0 (by omega) (by omega)
    have a1 : N.W.rd 1 + 0 - N.W.rd 0 ≤ x := wk_fit f0 d1.1.choose_spec
    have a2 : N.W.rd 0 - (N.W.rd 1 + 0) ≤ y := wk_fit f0 d2.1.choose_spec
    rw [e1, e2]
    by_cases c : N.W.rd 1 + 1 - N.W.rd 0 ≤ (N.nd 0).ahi 1 (N.W.rd 0)
    · have f1 := fit 1 (by omega) c
      have b1 : N.W.rd 1 + 1 - N.W.rd 0 ≤ x := wk_fit f1 d1.1.choose_spec
      omega
    · have f1 := fit (-1) (by omega) (by omega)
      have b1 : N.W.rd 0 - (N.W.rd 1 + -1) ≤ y := wk_fit f1 d2.1.choose_spec
      omega
  have x0' : ((List.range N.W.n).map (fun b => if 0 < b ∧ (T 0 b).isSome = true then spHi T 0 b - spLo T 0 b else 0)).sum ≤ _ := x0
  have x2' : (if 0 < 1 ∧ (T 0 1).isSome = true then spHi T 0 1 - spLo T 0 1 else 0) ≤ ((List.range N.W.n).map (fun b => if 0 < b ∧ (T 0 b).isSome = true then spHi T 0 b - spLo T 0 b else 0)).sum := x2
  exact Int.lt_of_lt_of_le key (Int.le_trans x2' x0')
end
end Go.Proofs.Ytnagdjipmpjaaai.netAll
