/- Lines and words as strings.Cut tells them: plain mathematics. The words of a line, counted: plain mathematics. Words as strings.Split tells them: what the library's contract says of it, in the document's words. Lines as strings.Lines hands them, each with its byte 10 where it has one: plain mathematics. -/
import Derived.Test.YtadkgnbagmnkkakGreatDoorNm07
import Derived.Lib.IndexMore
import Derived.Lib.IndexLaws
import Derived.Lib.IndexBytes
import Derived.Test.YtadkgnbagmnkkakGreatDoorNm08
import Derived.Test.YtadkgnbagmnkkakGreatDoorShelf
import Derived.Lib.SplitLaws
import Derived.Lib.Strings
namespace Go.Proofs.YtadkgnbagmnkkakGreatDoor
set_option linter.unusedVariables false

theorem cutA_none {c : UInt8} : ∀ (t cur : List UInt8), (∀ x, x ∈ t → x ≠ c) → cutA c cur t = [cur ++ t]
 | [], cur, _ => by rw [cutA, List.append_nil]
 | x :: t, cur, h => by
  rw [cutA, if_neg (h x (List.mem_cons_self ..)), cutA_none t _ (fun y hy => h y (List.mem_cons_of_mem _ hy))]
  simp
theorem cutA_some {c : UInt8} (r : List UInt8) : ∀ (p cur : List UInt8), (∀ x, x ∈ p → x ≠ c) → cutA c cur (p ++ c :: r) = (cur ++ p) :: cutA c [] r
 | [], cur, _ => by
  show cutA c cur (c :: r) = _
  rw [cutA, if_pos rfl, List.append_nil]
 | x :: p, cur, h => by
  show cutA c cur (x :: (p ++ c :: r)) = _
  rw [cutA, if_neg (h x (List.mem_cons_self ..)), cutA_some r p _ (fun y hy => h y (List.mem_cons_of_mem _ hy))]
  simp
theorem linA_none : ∀ (t cur : List UInt8), (∀ x, x ∈ t → x ≠ 10) → linA cur t = if cur ++ t = [] then [] else [cur ++ t]
 | [], cur, _ => by rw [linA, List.append_nil]
 | x :: t, cur, h => by
  rw [linA, if_neg (h x (List.mem_cons_self ..)), linA_none t _ (fun y hy => h y (List.mem_cons_of_mem _ hy))]
  simp
theorem linA_some (r : List UInt8) : ∀ (p cur : List UInt8), (∀ x, x ∈ p → x ≠ 10) → linA cur (p ++ 10 :: r) = (cur ++ p) :: linA [] r
 | [], cur, _ => by
  show linA cur (10 :: r) = _
  rw [linA, if_pos rfl, List.append_nil]
 | x :: p, cur, h => by
  show linA cur (x :: (p ++ 10 :: r)) = _
  rw [linA, if_neg (h x (List.mem_cons_self ..)), linA_some r p _ (fun y hy => h y (List.mem_cons_of_mem _ hy))]
  simp
theorem cut_cases (t : List UInt8) (c : UInt8) : (Lib.cut t [c] = (t, [], false) ∧ ∀ x, x ∈ t → x ≠ c) ∨ ∃ p r, t = p ++ c :: r ∧ (∀ x, x ∈ p → x ≠ c) ∧ Lib.cut t [c] = (p, r, true) := by
 have hge := Lib.indexByte_ge t c
 have hi := Lib.index_one t c
 by_cases e : Lib.indexByte t c = -1
 ·refine Or.inl ⟨?_, fun x hx => ?_⟩
  ·unfold Lib.cut
   rw [hi, e, if_neg (by omega)]
  ·obtain ⟨k, hk, rfl⟩ := List.mem_iff_getElem.1 hx
   intro q
   exact Lib.indexByte_none e k (by rw [List.getElem?_eq_getElem hk, q])
 ·obtain ⟨o, ho⟩ : ∃ o : Nat, Lib.indexByte t c = o := ⟨(Lib.indexByte t c).toNat, by omega⟩
  obtain ⟨h1, h2⟩ := Lib.indexByte_some ho
  obtain ⟨hk, hc⟩ := List.getElem?_eq_some_iff.1 h1
  refine Or.inr ⟨t.take o, t.drop (o + 1), ?_, fun x hx => ?_, ?_⟩
  ·have := List.take_append_drop o t
   rw [List.drop_eq_getElem_cons hk, hc] at this
   exact this.symm
  ·obtain ⟨k, hk2, rfl⟩ := List.mem_iff_getElem.1 hx
   rw [List.length_take] at hk2
   have hko : k < o := by omega
   have hkt : k < t.length := by omega
   rw [List.getElem_take]
   intro q
   exact h2 k hko (by rw [List.getElem?_eq_getElem hkt, q])
  ·unfold Lib.cut
   rw [hi, ho, if_pos (by omega)]
   rfl
theorem lin_step {t : List UInt8} (ne : t ≠ []) : linB t = (Lib.cut t [10]).1 :: linB (Lib.cut t [10]).2.1 ∧ (Lib.cut t [10]).2.1.length < t.length := by
 rcases cut_cases t 10 with ⟨e, h⟩ | ⟨p, r, et, h, e⟩
 ·rw [e]
  refine ⟨?_, ?_⟩
  ·show linA [] t = t :: linA [] []
   rw [linA_none t [] h, List.nil_append, if_neg ne]
   rfl
  ·cases t with
   | nil => exact absurd rfl ne
   | cons a b => show 0 < (a :: b).length; simp
 ·rw [e]
  refine ⟨?_, ?_⟩
  ·show linA [] t = p :: linA [] r
   rw [et, linA_some r p [] h, List.nil_append]
  ·show r.length < t.length
   rw [et, List.length_append, List.length_cons]
   omega
theorem cut_step (c : UInt8) (t : List UInt8) : cutB c t = if (Lib.cut t [c]).2.2 = true then (Lib.cut t [c]).1 :: cutB c (Lib.cut t [c]).2.1 else [t] := by
 rcases cut_cases t c with ⟨e, h⟩ | ⟨p, r, et, h, e⟩
 ·rw [e, if_neg (by simp)]
  show cutA c [] t = [t]
  rw [cutA_none t [] h, List.nil_append]
 ·rw [e, if_pos rfl]
  show cutA c [] t = p :: cutA c [] r
  rw [et, cutA_some r p [] h, List.nil_append]
end Go.Proofs.YtadkgnbagmnkkakGreatDoor
namespace Go.Proofs.YtadkgnbagmnkkakGreatDoor.rn
set_option linter.unusedVariables false

theorem cutB_ne (s : List UInt8) : cutB 32 s ≠ [] := cutA_ne 32 s []
theorem nums_cons {x : List UInt8} {t : List (List UInt8)} {V : List Nat} (h : numsD (x :: t) = some V) : ∃ a V', numD x = some a ∧ numsD t = some V' ∧ V = a :: V' := by
 unfold numsD at h
 split at h
 ·rename_i a v e1 e2
  exact ⟨a, v, e1, e2, (Option.some.inj h).symm⟩
 ·cases h
theorem nums_len : ∀ {t : List (List UInt8)} {V : List Nat}, numsD t = some V → V.length = t.length
 | [], V, h => by
  have := Option.some.inj h
  subst this
  rfl
 | x :: t, V, h => by
  obtain ⟨a, V', _, e, rfl⟩ := nums_cons h
  rw [List.length_cons, List.length_cons, nums_len e]
theorem cmd_len {s h : List UInt8} {t : List (List UInt8)} (e : cutB 32 s = h :: t) (n : wordB h = 0 ∨ t.length ≠ wantB (wordB h)) : cmdB s = (0, 0, 0) := by
 cases hv : numsD t with
 | none => exact cmdB_no e hv
 | some V =>
  rw [cmdB_is e hv, if_neg]
  rintro ⟨q1, q2⟩
  rcases n with n | n
  ·exact q1 n
  ·rw [nums_len hv] at q2
   exact n q2
theorem nums_none {x : List UInt8} (hx : numD x = none) : ∀ (p : List (List UInt8)) (t : List (List UInt8)), numsD (p ++ x :: t) = none
 | [], t => by
  cases hv : numsD ([] ++ x :: t) with
  | none => rfl
  | some V =>
   obtain ⟨a, V', e1, _, _⟩ := nums_cons hv
   rw [hx] at e1
   cases e1
 | y :: p, t => by
  cases hv : numsD ((y :: p) ++ x :: t) with
  | none => rfl
  | some V =>
   obtain ⟨a, V', _, e2, _⟩ := nums_cons hv
   have e2 : numsD (p ++ x :: t) = some V' := e2
   rw [nums_none hx p t] at e2
   cases e2
theorem cmd_ok {s h : List UInt8} {t : List (List UInt8)} {V : List Nat} (e : cutB 32 s = h :: t) (h0 : wordB h ≠ 0) (hv : numsD t = some V) (hl : V.length = wantB (wordB h)) : cmdB s = (wordB h, ((V.getD 0 0 : Nat) : Int), ((V.getD 1 0 : Nat) : Int)) := by
 rw [cmdB_is e hv, if_pos ⟨h0, hl⟩]
theorem cmdB_zero {s : List UInt8} {a b : Int} (h : cmdB s = (0, a, b)) : cmdB s = (0, 0, 0) := by
 cases e : cutB 32 s with
 | nil => unfold cmdB; rw [e]; rfl
 | cons hd t =>
  cases hv : numsD t with
  | none => exact cmdB_no e hv
  | some V =>
   have q := cmdB_is e hv
   by_cases c : wordB hd ≠ 0 ∧ V.length = wantB (wordB hd)
   ·rw [if_pos c, h] at q
    exact absurd (Prod.mk.inj q).1.symm c.1
   ·rw [q, if_neg c]
theorem want_le (k : Nat) : wantB k = 0 ∨ wantB k = 1 ∨ wantB k = 2 := by
 unfold wantB
 split
 ·exact Or.inr (Or.inr rfl)
 ·split
  ·exact Or.inl rfl
  ·exact Or.inr (Or.inl rfl)
theorem nums_one {p : List UInt8} {a : Nat} (h : numD p = some a) : numsD [p] = some [a] := by simp only [numsD, h]
theorem nums_two {p q : List UInt8} {a b : Nat} (h : numD p = some a) (g : numD q = some b) : numsD [p, q] = some [a, b] := by simp only [numsD, h, g]
end Go.Proofs.YtadkgnbagmnkkakGreatDoor.rn
namespace Go.Proofs.YtadkgnbagmnkkakGreatDoor.rn
open Go.ChangeShapes Go.WideShapes Go.ChangeAt Go.RowKit Go.Shelf
set_option linter.unusedVariables false

theorem split_cut (c : UInt8) : ∀ (n : Nat) (t : List UInt8), t.length ≤ n → Lib.splitK [c] 0 (Lib.count t [c]) t = cutB c t := by
 intro n
 induction n with
 | zero =>
  intro t h
  have : t = [] := List.length_eq_zero_iff.1 (by omega)
  subst this
  rw [Lib.count_miss (by simp [Lib.index])]
  rfl
 | succ n ih =>
  intro t h
  rcases cut_cases t c with ⟨e, hn⟩ | ⟨p, r, et, hn, e⟩
  ·have ix : Lib.index t [c] = -1 := by
    have hge := Lib.indexByte_ge t c
    rw [Lib.index_one]
    apply Classical.byContradiction
    intro q
    obtain ⟨o, ho⟩ : ∃ o : Nat, Lib.indexByte t c = o := ⟨(Lib.indexByte t c).toNat, by omega⟩
    obtain ⟨h1, _⟩ := Lib.indexByte_some ho
    exact hn c (List.mem_of_getElem? h1) rfl
   rw [Lib.count_miss ix, cut_step, e]
   rfl
  ·have ix : Lib.index t [c] = (p.length : Int) := by
    unfold Lib.cut at e
    split at e
    ·rename_i hp
     have e1 := (Prod.mk.inj e).1
     have e2 := (Prod.mk.inj (Prod.mk.inj e).2).1
     have l1 := congrArg List.length e1
     have l2 := congrArg List.length e2
     rw [List.length_take] at l1
     rw [List.length_drop] at l2
     have lt := congrArg List.length et
     simp only [List.length_append, List.length_cons, List.length_nil] at l2 lt
     omega
    ·have := (Prod.mk.inj (Prod.mk.inj e).2).2
     cases this
   have ed : t.drop (p.length + [c].length) = r := by
    rw [et, show p ++ c :: r = (p ++ [c]) ++ r by simp]
    exact List.drop_left' (by simp)
   have lr : r.length ≤ n := by
    have := congrArg List.length et
    simp only [List.length_append, List.length_cons] at this
    omega
   rw [Lib.count_hit (by simp) ix, ed, Nat.add_comm 1, cut_step, e, if_pos rfl, Lib.splitK, if_neg (by rw [ix, beq_iff_eq]; omega), ix]
   show t.take (p.length + 0) :: Lib.splitK [c] 0 (Lib.count r [c]) (t.drop (p.length + [c].length)) = p :: cutB c r
   rw [ed, ih r lr, Nat.add_zero]
   congr 1
   rw [et]
   exact List.take_left' rfl
theorem map_data : ∀ (l : List ByteArray) (m : List (List UInt8)), l.map (·.data.toList) = m → l = m.map txt
 | [], m, h => by subst h; rfl
 | x :: l, m, h => by
  subst h
  rw [List.map_cons, List.map_cons, ← map_data l _ rfl]
  rfl
theorem split_any (t : List UInt8) (m : Int) (w : World) (hs : t.length ≤ 3000) (hm : w.cell? ⟨1, 0, none⟩ = some (.int .i64 m)) :
  Calls Tryz.prog 70 #[.string (txt t), .string ⟨#[32]⟩] w fun e w' => e = .returned (.slice (some ⟨w.heap.size, 0, none⟩) (cutB 32 t).length (cutB 32 t).length) ∧ w' = w.alloc (.cells (((cutB 32 t).map txt).map Value.string).toArray 9) := by
 have e1 : Lib.splitB ⟨#[32]⟩ 0 (Lib.countB (txt t) ⟨#[32]⟩) (txt t) = (cutB 32 t).map txt := by
  apply map_data
  rw [Lib.splitB_data]
  exact split_cut 32 t.length t (Nat.le_refl _)
 have e2 : (cutB 32 t).length = Lib.countB (txt t) ⟨#[32]⟩ + 1 := by
  have := Lib.splitB_all ⟨#[32]⟩ (by decide) 0 _ (txt t) rfl
  rw [e1, List.length_map] at this
  exact this
 refine (Tryz.strings_Split (txt t) ⟨#[32]⟩ m w (by show t.length < _; omega) hm (by decide)).mono ?_
 rintro e w' ⟨rfl, h⟩
 rw [e1] at h
 exact ⟨by rw [e2], h⟩
end Go.Proofs.YtadkgnbagmnkkakGreatDoor.rn
namespace Go.Proofs.YtadkgnbagmnkkakGreatDoor
set_option linter.unusedVariables false

def lnH (t : List UInt8) : List UInt8 := t.take (t.length - (Lib.cut t [10]).2.1.length)
def lnR (t : List UInt8) : List UInt8 := (Lib.cut t [10]).2.1
def linHn : Nat → List UInt8 → List (List UInt8)
 | 0, _ => []
 | k + 1, t => if t = [] then [] else lnH t :: linHn k (lnR t)
def linH (t : List UInt8) : List (List UInt8) := linHn t.length t
theorem lnR_lt {t : List UInt8} (ne : t ≠ []) : (lnR t).length < t.length := (lin_step ne).2
theorem linHn_more : ∀ (k : Nat) (t : List UInt8), t.length ≤ k → linHn k t = linHn t.length t := by
 intro k
 induction k using Nat.strongRecOn with
 | ind k ih =>
  intro t h
  cases k with
  | zero =>
   have : t.length = 0 := by omega
   rw [this]
  | succ k =>
   by_cases ne : t = []
   ·subst ne
    show (if ([] : List UInt8) = [] then [] else _) = ([] : List (List UInt8))
    rw [if_pos rfl]
   ·have lt := lnR_lt ne
    obtain ⟨m, hm⟩ : ∃ m, t.length = m + 1 := ⟨t.length - 1, by omega⟩
    rw [hm]
    show (if t = [] then [] else lnH t :: linHn k (lnR t)) = (if t = [] then [] else lnH t :: linHn m (lnR t))
    rw [if_neg ne, if_neg ne, ih k (by omega) (lnR t) (by omega)]
    by_cases e : m = k
    ·rw [e, ih k (by omega) (lnR t) (by omega)]
    ·rw [ih m (by omega) (lnR t) (by omega)]
theorem linH_nil : linH [] = [] := rfl
theorem linH_step {t : List UInt8} (ne : t ≠ []) : linH t = lnH t :: linH (lnR t) := by
 have lt := lnR_lt ne
 obtain ⟨m, hm⟩ : ∃ m, t.length = m + 1 := ⟨t.length - 1, by omega⟩
 unfold linH
 rw [hm]
 show (if t = [] then [] else lnH t :: linHn m (lnR t)) = _
 rw [if_neg ne, linHn_more m (lnR t) (by omega)]
theorem lnH_yes {t : List UInt8} {o : Nat} (h : Lib.indexByte t 10 = o) : o < t.length ∧ lnH t = t.take (o + 1) ∧ lnR t = t.drop (o + 1) := by
 obtain ⟨h1, _⟩ := Lib.indexByte_some h
 have lt := (List.getElem?_eq_some_iff.1 h1).1
 have e : (Lib.cut t [10]).2.1 = t.drop (o + 1) := by
  unfold Lib.cut
  rw [Lib.index_one, h, if_pos (by omega)]
  rfl
 refine ⟨lt, ?_, e⟩
 unfold lnH
 rw [e, List.length_drop]
 congr 1
 omega
theorem lnH_no {t : List UInt8} (h : Lib.indexByte t 10 = -1) : lnH t = t ∧ lnR t = [] := by
 have e : (Lib.cut t [10]).2.1 = [] := by
  unfold Lib.cut
  rw [Lib.index_one, h, if_neg (by omega)]
 refine ⟨?_, e⟩
 unfold lnH
 rw [e]
 simp
theorem trim_lnH (t : List UInt8) : Lib.trimSuffix (lnH t) [10] = (Lib.cut t [10]).1 := by
 rcases cut_cases t 10 with ⟨e, h⟩ | ⟨p, r, et, h, e⟩
 ·have el : lnH t = t := by unfold lnH; rw [e]; simp
  rw [el, e]
  unfold Lib.trimSuffix
  rw [if_neg]
  intro q
  obtain ⟨s, hs⟩ := List.isSuffixOf_iff_suffix.1 q
  exact h 10 (by rw [← hs]; simp) rfl
 ·have el : lnH t = p ++ [10] := by
   unfold lnH
   rw [e, et]
   have : (p ++ 10 :: r).length - r.length = (p ++ [10]).length := by simp only [List.length_append, List.length_cons, List.length_nil]; omega
   rw [this, show p ++ 10 :: r = (p ++ [10]) ++ r by simp, List.take_left]
  rw [el, e]
  unfold Lib.trimSuffix
  have hs : Lib.hasSuffix (p ++ [10]) [10] = true := List.isSuffixOf_iff_suffix.2 ⟨p, rfl⟩
  rw [if_pos hs]
  simp
theorem linH_lin : ∀ (n : Nat) (t : List UInt8), t.length ≤ n → (linH t).map (fun x => Lib.trimSuffix x [10]) = linB t
 | 0, t, h => by
  have : t = [] := List.length_eq_zero_iff.1 (by omega)
  subst this
  rfl
 | n + 1, t, h => by
  by_cases ne : t = []
  ·subst ne; rfl
  ·have lt := lnR_lt ne
   rw [linH_step ne, (lin_step ne).1, List.map_cons, trim_lnH, linH_lin n (lnR t) (by omega)]
   rfl
end Go.Proofs.YtadkgnbagmnkkakGreatDoor
