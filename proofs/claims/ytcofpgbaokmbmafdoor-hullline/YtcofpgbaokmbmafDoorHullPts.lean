/- Two lists of points that are the same: noonsame.Points; corners there are. -/
import Derived.Test.YtcofpgbaokmbmafDoorHullOv
import Derived.Lib.SmallJoins
import Derived.Deep.CutRange
import Derived.BigRegion
import Derived.BigQuiet
import Derived.Deep.QuietTactic
import Derived.IntWalk
namespace Go.Proofs.YtcofpgbaokmbmafDoor
open Go.ChangeShapes Go.WideShapes Go.ChangeAt Go.RowKit Go.Joins
set_option linter.unusedVariables false
set_option linter.unusedSimpArgs false

set_option maxRecDepth 100000 in
set_option maxHeartbeats 4000000 in
theorem same_points (a b : Option Addr) (n c d : Nat) (f : Nat → Int × Int) (w : World) (ha : PHanded w a n f) (hb : PHanded w b n f) :
    Calls Tryd.prog 12 #[.slice a n c, .slice b n d] w fun e w' => e = .returned (.bool true) ∧ Below w.heap.size w w' := by
  have hn := ha.1
  have H1 : Hid (n = 0 ∨ ∃ b off : Nat, a = some ⟨b, off, none⟩ ∧ Pls w b off n f) := ha.2
  have H2 : Hid (n = 0 ∨ ∃ c off : Nat, b = some ⟨c, off, none⟩ ∧ Pls w c off n f) := hb.2
  clear ha hb
  go_enter Tryd.func12, Tryd.ntmps12
  go_wp2
  go_loopw [5] (fun i wr => ∃ k : Nat, k ≤ n ∧ i = .int .i64 k ∧ Below w.heap.size w wr) (fun i _ => n - (intOf i).toNat)
  case atStart => exact ⟨0, Nat.zero_le _, rfl, Below.refl _ _⟩
  case round =>
    obtain ⟨k, hk, rfl, hw⟩ := hrel
    have HW : Hid (Below w.heap.size w wr) := hw
    by_cases hlt : k < n
    · have hl3 : (k : Int) < n := by omega
      obtain ⟨g1, o1, rfl, hP1⟩ : ∃ b off : Nat, a = some ⟨b, off, none⟩ ∧ Pls w b off n f := by
        rcases H1.out with e | h
        · omega
        · exact h
      obtain ⟨g2, o2, rfl, hP2⟩ : ∃ c off : Nat, b = some ⟨c, off, none⟩ ∧ Pls w c off n f := by
        rcases H2.out with e | h
        · omega
        · exact h
      have HA : Hid (Pls wr g1 o1 n f) := hP1.on hw
      have HB : Hid (Pls wr g2 o2 n f) := hP2.on hw
      obtain ⟨x0, x1⟩ := HA.out k hlt
      obtain ⟨y0, y1⟩ := HB.out k hlt
      clear hP1 hP2 H1 H2 hw
      generalize (f k).1 = v at *
      generalize (f k).2 = v2 at *
      go_wp2
      go_quiet (fail)
      go_wp2
      go_roundw
      case rel => exact ⟨k + 1, by omega, by go_num, rbel_drn HW.out⟩
      case measure => simp [intOf]; omega
    · have hl3 : ¬ ((k : Int) < n) := by omega
      clear hw
      go_wp2
      go_ret
      exact ⟨rfl, HW.out⟩
section
variable {f : Nat → Int × Int} {n : Nat} {out : List (Int × Int)} {l : List (Int × Int)} {x v : Int}
theorem up_len (h : Up (lst f n) out) : out.length ≤ n := by
  have g : UpI f n n out := ⟨h.1, fun p => (h.2 p).trans ⟨fun c => by
    obtain ⟨j, hj, e⟩ := mem_lst.1 c.1
    exact ⟨j, hj, e, c⟩, fun ⟨_, _, _, c⟩ => c⟩⟩
  exact g.len
theorem up_ok (h : Up (lst f n) out) (hok : ∀ i, i < n → okP (f i)) : ∀ i, i < out.length → okP (rowL out i) := fun i hi => by
  have hp : out[i]? = some (rowL out i) := by unfold rowL; rw [List.getElem?_eq_getElem hi]; rfl
  obtain ⟨j, hj, e⟩ := mem_lst.1 ((h.2 _).1 (List.mem_of_getElem? hp)).1
  rw [← e]
  exact hok j hj
/-- What is over points is not far. -/
theorem ov_in (hok : ∀ p, p ∈ l → okP p) (hw : Within l x) (h : OvV l x v) : -1000000 ≤ v ∧ v ≤ 1000000 := by
  constructor
  · obtain ⟨⟨a, ha, h1⟩, b, hb, h2⟩ := hw
    have oa := hok a ha
    have ob := hok b hb
    by_cases e : a.1 = x
    · have := h.1.1 a ha e
      have := oa.2.1
      omega
    · have g := h.1.2 a ha b hb h1 h2 (by omega)
      apply Classical.byContradiction
      intro n
      have e1 : hgt a b (x, v) = (v - a.2) * (b.1 - x) + (v - b.2) * (x - a.1) := by unfold hgt; grind
      have := oa.2.1
      have := ob.2.1
      have q1 : (v - a.2) * (b.1 - x) ≤ 0 := Int.mul_nonpos_of_nonpos_of_nonneg (by omega) (by omega)
      have q2 : (v - b.2) * (x - a.1) < 0 := Int.mul_neg_of_neg_of_pos (by omega) (by omega)
      omega
  · refine h.2 1000000 ⟨fun a ha _ => (hok a ha).2.2, fun a ha b hb h1 h2 h3 => ?_⟩
    have e1 : hgt a b (x, 1000000) = (1000000 - a.2) * (b.1 - x) + (1000000 - b.2) * (x - a.1) := by unfold hgt; grind
    have := (hok a ha).2.2
    have := (hok b hb).2.2
    have q1 : 0 ≤ (1000000 - a.2) * (b.1 - x) := Int.mul_nonneg (by omega) (by omega)
    have q2 : 0 ≤ (1000000 - b.2) * (x - a.1) := Int.mul_nonneg (by omega) (by omega)
    omega
end
theorem pos_some (x : Int) : ∀ out : List (Int × Int), ∃ k, k ≤ out.length ∧ (∀ j p, j < k → out[j]? = some p → p.1 < x) ∧ ∀ q, out[k]? = some q → x ≤ q.1
  | [] => ⟨0, Nat.le_refl _, fun j p hj => by omega, fun q hq => by simp at hq⟩
  | a :: l => by
    by_cases c : a.1 < x
    · obtain ⟨k, h1, h2, h3⟩ := pos_some x l
      refine ⟨k + 1, by simp; omega, fun j p hj hp => ?_, fun q hq => h3 q (by simpa using hq)⟩
      cases j with
      | zero => simp at hp; rw [← hp]; exact c
      | succ j => exact h2 j p (by omega) (by simpa using hp)
    · exact ⟨0, Nat.zero_le _, fun j p hj => by omega, fun q hq => by simp at hq; rw [← hq]; omega⟩
theorem upI_some (f : Nat → Int × Int) (n : Nat) : ∀ i, ∃ out, UpI f n i out
  | 0 => ⟨[], upI_zero⟩
  | i + 1 => by
    obtain ⟨out, h⟩ := upI_some f n i
    by_cases hc : Cor (lst f n) (f i)
    · obtain ⟨k, h1, h2, h3⟩ := pos_some (f i).1 out
      cases e : out[k]? with
      | none =>
        refine ⟨_, h.ins (k := k) hc (take_all h2) (fun q hq => ?_)⟩
        rw [List.drop_eq_nil_of_le (List.getElem?_eq_none_iff.1 e)] at hq
        cases hq
      | some q =>
        by_cases eq : q.1 = (f i).1
        · exact ⟨out, h.has hc (List.mem_of_getElem? e) eq⟩
        · exact ⟨_, h.ins (k := k) hc (take_all h2) (rise_drop h.1 e (by have := h3 q e; omega))⟩
    · exact ⟨out, h.skip hc⟩
/-- Corners there are. -/
theorem up_some (f : Nat → Int × Int) (n : Nat) : ∃ out, Up (lst f n) out := by
  obtain ⟨out, h⟩ := upI_some f n n
  exact ⟨out, h.all⟩
end Go.Proofs.YtcofpgbaokmbmafDoor
