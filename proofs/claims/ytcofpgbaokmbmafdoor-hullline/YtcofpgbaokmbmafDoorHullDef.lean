/- Points in a row, as they are handed over; what package hull must answer. -/
import Derived.Test.YtcofpgbaokmbmafDoorHullMath
import Derived.Test.YtcofpgbaokmbmafDoorErrC
namespace Go.Proofs.YtcofpgbaokmbmafDoor
open Go.ChangeShapes Go.WideShapes Go.ChangeAt Go.RowKit
set_option linter.unusedVariables false

/-- n points lie in a row behind an address. -/
def Pls (w : World) (b off n : Nat) (f : Nat → Int × Int) : Prop := ∀ i, i < n → w.cell? ⟨b, off + i * 2, none⟩ = some (.int .i64 (f i).1) ∧ w.cell? ⟨b, off + i * 2 + 1, none⟩ = some (.int .i64 (f i).2)
theorem Pls.on {W u : World} {b off n : Nat} {f : Nat → Int × Int} (hb : Below W.heap.size W u) (h : Pls W b off n f) : Pls u b off n f := fun i hi => by
  obtain ⟨h0, h1⟩ := h i hi
  exact ⟨by rw [hb.cell (World.block_lt_of_cell? _ _ h0)]; exact h0, by rw [hb.cell (World.block_lt_of_cell? _ _ h1)]; exact h1⟩
def PHanded (w : World) (a : Option Addr) (n : Nat) (f : Nat → Int × Int) : Prop := n ≤ 9223372036854775807 ∧ (n = 0 ∨ ∃ b off : Nat, a = some ⟨b, off, none⟩ ∧ Pls w b off n f)
theorem PHanded.on {W u : World} {a : Option Addr} {n : Nat} {f : Nat → Int × Int} (hb : Below W.heap.size W u) (h : PHanded W a n f) : PHanded u a n f :=
  ⟨h.1, h.2.imp id (fun ⟨b, off, e, s⟩ => ⟨b, off, e, s.on hb⟩)⟩
theorem PHanded.same {w : World} {a : Option Addr} {n : Nat} {f g : Nat → Int × Int} (h : PHanded w a n f) (e : ∀ i, i < n → f i = g i) : PHanded w a n g :=
  ⟨h.1, h.2.imp id (fun ⟨b, off, e', s⟩ => ⟨b, off, e', fun i hi => by rw [← e i hi]; exact s i hi⟩)⟩
/-- The first n as a list. -/
def lst (f : Nat → Int × Int) (n : Nat) : List (Int × Int) := (List.range n).map f
theorem lst_len (f : Nat → Int × Int) (n : Nat) : (lst f n).length = n := by simp [lst]
theorem lst_at (f : Nat → Int × Int) (n i : Nat) (h : i < n) : (lst f n)[i]? = some (f i) := by simp [lst, h]
theorem mem_lst {f : Nat → Int × Int} {n : Nat} {p : Int × Int} : p ∈ lst f n ↔ ∃ i, i < n ∧ f i = p := by
  unfold lst
  constructor
  · intro h
    obtain ⟨i, hi, e⟩ := List.mem_map.1 h
    exact ⟨i, List.mem_range.1 hi, e⟩
  · rintro ⟨i, hi, e⟩
    exact List.mem_map.2 ⟨i, List.mem_range.2 hi, e⟩
theorem lst_in {f : Nat → Int × Int} {n i : Nat} (h : i < n) : f i ∈ lst f n := mem_lst.2 ⟨i, h, rfl⟩
theorem lst_same {f g : Nat → Int × Int} {n : Nat} (h : lst f n = lst g n) : ∀ i, i < n → f i = g i := fun i hi => by
  have := lst_at f n i hi
  rw [h, lst_at g n i hi] at this
  exact (Option.some.inj this).symm
/-- A list as a row. -/
def rowL (l : List (Int × Int)) (i : Nat) : Int × Int := (l[i]?).getD (0, 0)
theorem rowL_at {l : List (Int × Int)} {i : Nat} {p : Int × Int} (h : l[i]? = some p) : rowL l i = p := by unfold rowL; rw [h]; rfl
theorem lst_row (l : List (Int × Int)) : lst (rowL l) l.length = l := by
  apply List.ext_getElem?
  intro i
  by_cases h : i < l.length
  · rw [lst_at _ _ _ h]
    unfold rowL
    rw [List.getElem?_eq_getElem h]
    rfl
  · rw [List.getElem?_eq_none (by rw [lst_len]; omega), List.getElem?_eq_none (by omega)]
theorem lst_flp (f : Nat → Int × Int) (n : Nat) : lst (fun i => flp (f i)) n = (lst f n).map flp := by
  unfold lst
  rw [List.map_map]
  rfl
/-- A point as it may be. -/
def okP (p : Int × Int) : Prop := (-1000000 ≤ p.1 ∧ p.1 ≤ 1000000) ∧ (-1000000 ≤ p.2 ∧ p.2 ≤ 1000000)
theorem okP_flp {p : Int × Int} (h : okP p) : okP (flp p) := by
  obtain ⟨h1, h2, h3⟩ := h
  exact ⟨h1, by show -1000000 ≤ -p.2; omega, by show -p.2 ≤ 1000000; omega⟩
/-- What is wrong with points. -/
def PtE (n : Nat) (f : Nat → Int × Int) (e : Int) : Prop := (60 < n ∧ e = 4) ∨ (n ≤ 60 ∧ (∃ i, i < n ∧ ¬ okP (f i)) ∧ e = 1) ∨ (n ≤ 60 ∧ (∀ i, i < n → okP (f i)) ∧ e = 0)
theorem ptE_some (n : Nat) (f : Nat → Int × Int) : ∃ e, PtE n f e := by
  by_cases h : 60 < n
  · exact ⟨4, Or.inl ⟨h, rfl⟩⟩
  · by_cases g : ∃ i, i < n ∧ ¬ okP (f i)
    · exact ⟨1, Or.inr (Or.inl ⟨by omega, g, rfl⟩)⟩
    · exact ⟨0, Or.inr (Or.inr ⟨by omega, fun i hi => Classical.byContradiction fun c => g ⟨i, hi, c⟩, rfl⟩)⟩
theorem PtE.zero {n : Nat} {f : Nat → Int × Int} (h : PtE n f 0) : n ≤ 60 ∧ ∀ i, i < n → okP (f i) := by
  rcases h with ⟨_, e⟩ | ⟨_, _, e⟩ | ⟨a, b, _⟩
  · cases e
  · cases e
  · exact ⟨a, b⟩
theorem PtE.one {n : Nat} {f : Nat → Int × Int} {e e' : Int} (h : PtE n f e) (g : PtE n f e') : e = e' := by
  rcases h with ⟨a, rfl⟩ | ⟨a, ⟨i, hi, ni⟩, rfl⟩ | ⟨a, b, rfl⟩
  · rcases g with ⟨_, rfl⟩ | ⟨a', _⟩ | ⟨a', _⟩
    · rfl
    · omega
    · omega
  · rcases g with ⟨a', _⟩ | ⟨_, _, rfl⟩ | ⟨_, b', _⟩
    · omega
    · rfl
    · exact absurd (b' i hi) ni
  · rcases g with ⟨a', _⟩ | ⟨_, ⟨i, hi, ni⟩, _⟩ | ⟨_, _, rfl⟩
    · omega
    · exact absurd (b i hi) ni
    · rfl
/-- What is over points at x, what is under them. -/
def OvE (n : Nat) (f : Nat → Int × Int) (x v e : Int) : Prop := (PtE n f e ∧ e ≠ 0 ∧ v = 0) ∨ (PtE n f 0 ∧ n = 0 ∧ v = 0 ∧ e = 5) ∨ (PtE n f 0 ∧ 0 < n ∧ ¬ Within (lst f n) x ∧ v = 0 ∧ e = 1) ∨ (PtE n f 0 ∧ Within (lst f n) x ∧ OvV (lst f n) x v ∧ e = 0)
def UnE (n : Nat) (f : Nat → Int × Int) (x v e : Int) : Prop := (PtE n f e ∧ e ≠ 0 ∧ v = 0) ∨ (PtE n f 0 ∧ n = 0 ∧ v = 0 ∧ e = 5) ∨ (PtE n f 0 ∧ 0 < n ∧ ¬ Within (lst f n) x ∧ v = 0 ∧ e = 1) ∨ (PtE n f 0 ∧ Within (lst f n) x ∧ OvV ((lst f n).map flp) x (-v) ∧ e = 0)
theorem ceil_some (N w : Int) (w0 : 0 < w) : ∃ k, N ≤ k * w ∧ (k - 1) * w < N := by
  have d := Int.mul_ediv_add_emod (-N) w
  have r0 := Int.emod_nonneg (-N) (show w ≠ 0 by omega)
  have r1 := Int.emod_lt_of_pos (-N) w0
  refine ⟨-((-N) / w), ?_, ?_⟩
  · have : -(-N / w) * w = -(w * (-N / w)) := by grind
    omega
  · have : (-(-N / w) - 1) * w = -(w * (-N / w)) - w := by grind
    omega
section
variable {l : List (Int × Int)} {a b : Int × Int} {x : Int}
/-- At a corner. -/
theorem ov_corner (h : Cor l a) (e : a.1 = x) : OvV l x a.2 := by
  refine ⟨⟨fun i hi ei => h.2.1 i hi (by omega), fun i hi k hk li lk lt => ?_⟩, fun u hu => hu.1 a h.1 e⟩
  subst e
  by_cases c1 : i.1 = a.1
  · rw [hgt_same i k _ c1.symm]
    exact Int.mul_nonneg (by have := h.2.1 i hi c1; show 0 ≤ a.2 - i.2; omega) (by omega)
  · by_cases c2 : k.1 = a.1
    · rw [hgt_same' i k _ c2.symm]
      exact Int.mul_nonneg (by have := h.2.1 k hk c2; show 0 ≤ a.2 - k.2; omega) (by omega)
    · exact Int.le_of_lt (h.2.2 i hi k hk (by omega) (by omega))
open Classical in
theorem ov_some (hw : Within l x) : ∃ v, OvV l x v := by
  obtain ⟨⟨s, hs, s1⟩, t, ht, t1⟩ := hw
  have ne : l ≠ [] := fun e => by rw [e] at hs; cases hs
  obtain ⟨p, cp, hp⟩ := cor_first ne
  obtain ⟨r, cr, hr⟩ := cor_last ne
  obtain ⟨a, ha, hA⟩ := max_of (fun q => q.1) (l.filter (fun q => decide (Cor l q ∧ q.1 ≤ x))) (fun e => by
    have : p ∈ l.filter (fun q => decide (Cor l q ∧ q.1 ≤ x)) := List.mem_filter.2 ⟨cp.1, by simp [cp]; have := hp s hs; omega⟩
    rw [e] at this
    cases this)
  obtain ⟨b, hb, hB⟩ := max_of (fun q => -q.1) (l.filter (fun q => decide (Cor l q ∧ x ≤ q.1))) (fun e => by
    have : r ∈ l.filter (fun q => decide (Cor l q ∧ x ≤ q.1)) := List.mem_filter.2 ⟨cr.1, by simp [cr]; have := hr t ht; omega⟩
    rw [e] at this
    cases this)
  obtain ⟨a1, a2⟩ := List.mem_filter.1 ha
  obtain ⟨b1, b2⟩ := List.mem_filter.1 hb
  obtain ⟨ca, a3⟩ : Cor l a ∧ a.1 ≤ x := of_decide_eq_true a2
  obtain ⟨cb, b3⟩ : Cor l b ∧ x ≤ b.1 := of_decide_eq_true b2
  by_cases e1 : a.1 = x
  · exact ⟨_, ov_corner ca e1⟩
  by_cases e2 : b.1 = x
  · exact ⟨_, ov_corner cb e2⟩
  have w : a.1 < b.1 := by omega
  have sup := cor_support ca cb w (fun p cp l1 l2 => by
    by_cases c : p.1 ≤ x
    · have := hA p (List.mem_filter.2 ⟨cp.1, decide_eq_true ⟨cp, c⟩⟩)
      omega
    · have := hB p (List.mem_filter.2 ⟨cp.1, decide_eq_true ⟨cp, by omega⟩⟩)
      omega)
  obtain ⟨k, k1, k2⟩ := ceil_some ((b.2 - a.2) * (x - a.1)) (b.1 - a.1) (by omega)
  refine ⟨a.2 + k, ov_between ca.1 cb.1 w sup a3 b3 ?_ ?_⟩
  · show 0 ≤ (a.2 + k - a.2) * (b.1 - a.1) - (b.2 - a.2) * (x - a.1)
    rw [show a.2 + k - a.2 = k by omega]
    omega
  · show (a.2 + k - 1 - a.2) * (b.1 - a.1) - (b.2 - a.2) * (x - a.1) < 0
    rw [show a.2 + k - 1 - a.2 = k - 1 by omega]
    omega
end
theorem ovE_some (n : Nat) (f : Nat → Int × Int) (x : Int) : ∃ v e, OvE n f x v e := by
  obtain ⟨e, h⟩ := ptE_some n f
  by_cases e0 : e = 0
  · subst e0
    by_cases n0 : n = 0
    · exact ⟨0, 5, Or.inr (Or.inl ⟨h, n0, rfl, rfl⟩)⟩
    · by_cases hw : Within (lst f n) x
      · obtain ⟨v, hv⟩ := ov_some hw
        exact ⟨v, 0, Or.inr (Or.inr (Or.inr ⟨h, hw, hv, rfl⟩))⟩
      · exact ⟨0, 1, Or.inr (Or.inr (Or.inl ⟨h, by omega, hw, rfl, rfl⟩))⟩
  · exact ⟨0, e, Or.inl ⟨h, e0, rfl⟩⟩
theorem unE_some (n : Nat) (f : Nat → Int × Int) (x : Int) : ∃ v e, UnE n f x v e := by
  obtain ⟨e, h⟩ := ptE_some n f
  by_cases e0 : e = 0
  · subst e0
    by_cases n0 : n = 0
    · exact ⟨0, 5, Or.inr (Or.inl ⟨h, n0, rfl, rfl⟩)⟩
    · by_cases hw : Within (lst f n) x
      · obtain ⟨v, hv⟩ := ov_some (within_flp.2 hw)
        exact ⟨-v, 0, Or.inr (Or.inr (Or.inr ⟨h, hw, by rw [Int.neg_neg]; exact hv, rfl⟩))⟩
      · exact ⟨0, 1, Or.inr (Or.inr (Or.inl ⟨h, by omega, hw, rfl, rfl⟩))⟩
  · exact ⟨0, e, Or.inl ⟨h, e0, rfl⟩⟩
end Go.Proofs.YtcofpgbaokmbmafDoor
