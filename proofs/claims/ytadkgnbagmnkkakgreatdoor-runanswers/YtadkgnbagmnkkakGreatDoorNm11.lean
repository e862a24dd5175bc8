/- Numerals of at most seven digits, as the library's strconv reads and writes them: plain mathematics. A number, as package run reads it by the library's strconv. -/
import Derived.Test.YtadkgnbagmnkkakGreatDoorNm07
import Derived.Lib.AtoiTie
import Derived.Lib.AtoiAllCases
import Derived.Lib.ItoaMem
import Derived.Test.YtadkgnbagmnkkakGreatDoorNm08
import Derived.Test.YtadkgnbagmnkkakGreatDoorShelf
import Derived.BigQuiet
import Derived.IntWalk
namespace Go.Proofs.YtadkgnbagmnkkakGreatDoor.rn
set_option linter.unusedVariables false

theorem atoi_dec {l : List UInt8} {v : Nat} (ne : l ≠ []) (h : Lib.decFrom 0 l = some v) : Lib.atoi l = some (v : Int) := by
 cases l with
 | nil => exact absurd rfl ne
 | cons b r =>
  obtain ⟨d, hd⟩ := Lib.digit_of_decFrom (b :: r) 0 v h 0 b rfl
  obtain ⟨h48, h57, _⟩ := Lib.digitVal_eq hd
  have n45 : b ≠ 45 := by intro q; rw [q] at h48; exact absurd h48 (by decide)
  have n43 : b ≠ 43 := by intro q; rw [q] at h48; exact absurd h48 (by decide)
  unfold Lib.atoi
  simp [n45, n43, Lib.decNat, h]
theorem num_yes {l : List UInt8} {v : Nat} (h : numD l = some v) : Lib.atoiAll l = .ok (v : Int) ∧ Lib.itoa (v : Int) = l := by
 unfold numD numM at h
 split at h
 ·cases h
 ·rename_i c
  have hl : 1 ≤ l.length ∧ l.length ≤ 7 := by
   refine ⟨?_, ?_⟩
   ·apply Classical.byContradiction
    intro q
    exact c (Or.inl (by omega))
   ·apply Classical.byContradiction
    intro q
    exact c (Or.inr (Or.inl (by omega)))
  have ne : l ≠ [] := fun e => by rw [e] at hl; simp at hl
  have hh : l.head? ≠ some 48 ∨ l = [48] := by
   by_cases q : l.head? = some 48
   ·right
    cases l with
    | nil => exact absurd rfl ne
    | cons a t =>
     have ha : a = 48 := by simpa using q
     have ht : t = [] := by
      apply Classical.byContradiction
      intro z
      have := List.length_pos_iff.2 z
      exact c (Or.inr (Or.inr ⟨by rw [List.length_cons]; omega, q⟩))
     rw [ha, ht]
   ·exact Or.inl q
  have e := decFrom_digits l.length l v (Nat.le_refl _) ne h hh
  refine ⟨?_, by rw [Lib.itoa_nonneg, ← e]⟩
  rw [Lib.atoiAll_short l (by omega), atoi_dec ne h]
  rfl
theorem dec_len7 (u : Nat) : ∀ k, 1 ≤ k → u < 10 ^ k → (Lib.decDigits u).length ≤ k := by
 induction u using Nat.strongRecOn with
 | ind u ih =>
  intro k hk hu
  rw [Lib.decDigits]
  by_cases h : u < 10
  ·rw [dif_pos h]; simpa using hk
  ·rw [dif_neg h, List.length_append, List.length_singleton]
   obtain ⟨j, rfl⟩ : ∃ j, k = j + 1 := ⟨k - 1, by omega⟩
   have hj : 1 ≤ j := by
    rcases Nat.eq_zero_or_pos j with e | e
    ·subst e; simp at hu; omega
    ·exact e
   have := ih (u / 10) (by omega) j hj (by rw [Nat.pow_succ] at hu; omega)
   omega
theorem num_dec {u : Nat} (h : u ≤ 9999999) : numD (Lib.decDigits u) = some u := by
 have l7 := dec_len7 u 7 (by decide) (by omega)
 unfold numD numM
 rw [if_neg, decFrom_decDigits]
 have ne := decDigits_ne u
 have l1 : 1 ≤ (Lib.decDigits u).length := List.length_pos_iff.2 ne
 rintro (q | q | ⟨q1, q2⟩)
 ·omega
 ·omega
 ·by_cases h1 : 1 ≤ u
  ·exact decDigits_head u h1 q2
  ·obtain rfl : u = 0 := by omega
   rw [Lib.decDigits_one (by decide)] at q1
   simp at q1
theorem num_no {l : List UInt8} (h : numD l = none) {v : Int} (h0 : 0 ≤ v) (h1 : v ≤ 9999999) : Lib.itoa v ≠ l := by
 intro e
 obtain ⟨u, rfl⟩ : ∃ u : Nat, v = u := ⟨v.toNat, by omega⟩
 rw [Lib.itoa_nonneg] at e
 have := num_dec (u := u) (by omega)
 rw [e, h] at this
 cases this
end Go.Proofs.YtadkgnbagmnkkakGreatDoor.rn
namespace Go.Proofs.YtadkgnbagmnkkakGreatDoor.rn
open Go.ChangeShapes Go.WideShapes Go.ChangeAt Go.RowKit Go.Joins
set_option linter.unusedVariables false
set_option linter.unusedSimpArgs false

set_option maxHeartbeats 2000000
set_option maxRecDepth 100000
def EnvX (w : World) : Prop := (∃ v, w.cell? ⟨2, 0, none⟩ = some v ∧ (v = .nilIface ∨ ∃ t p, v = .iface t p)) ∧ (∃ v, w.cell? ⟨3, 0, none⟩ = some v ∧ (v = .nilIface ∨ ∃ t p, v = .iface t p))
theorem EnvX.below {w w' : World} (h : EnvX w) (hb : Below w.heap.size w w') : EnvX w' := by
 obtain ⟨⟨a, ha, ia⟩, b, hb2, ib⟩ := h
 exact ⟨⟨a, by rw [hb.cell (World.block_lt_of_cell? _ _ ha)]; exact ha, ia⟩, b, by rw [hb.cell (World.block_lt_of_cell? _ _ hb2)]; exact hb2, ib⟩
theorem atoi_no (s : ByteArray) (w : World) (he : EnvX w) (hs : s.size ≤ 3000) (h : ∀ v, Lib.atoiAll s.data.toList ≠ .ok v) :
  Calls Tryz.prog 56 #[.string s] w fun e w' => ∃ n N, e = .returned (.tuple #[.int .i64 n, .iface 219 (.pointer (some ⟨N, 0, none⟩))]) ∧ Below w.heap.size w w' := by
 obtain ⟨⟨a, ha, ia⟩, b, hb, ib⟩ := he
 cases e : Lib.atoiAll s.data.toList with
 | ok v => exact absurd e (h v)
 | «syntax» =>
  refine (Tryz.strconv_Atoi_syntax s (by omega) e a w ha ia).mono ?_
  rintro o w' ⟨N, rfl, _, _, hw⟩
  exact ⟨_, N, rfl, hw⟩
 | range =>
  refine (Tryz.strconv_Atoi_range s (by omega) e b w hb ib).mono ?_
  rintro o w' ⟨N, rfl, _, _, hw⟩
  exact ⟨_, N, rfl, hw⟩
theorem atoi_yes (s : ByteArray) (w : World) (hs : s.size ≤ 3000) (v : Int) (h : Lib.atoiAll s.data.toList = .ok v) :
  Calls Tryz.prog 56 #[.string s] w fun e w' => e = .returned (.tuple #[.int .i64 v, .nilIface]) ∧ Below w.heap.size w w' := by
 refine (Tryz.strconv_Atoi_ok s (by omega) v h w).mono ?_
 rintro e w' ⟨rfl, rfl | ⟨t, rfl⟩⟩
 ·exact ⟨rfl, Below.refl _ _⟩
 ·exact ⟨rfl, Lib.bytesWorld_below _ _ _⟩
abbrev NumR (s : ByteArray) (w : World) (n : Int) (x : Value) : Prop := Calls Tryz.prog 71 #[.string s] w fun e w' => e = .returned (.tuple #[.int .i64 n, x]) ∧ Below w.heap.size w w'
section
variable {w0 w : World}
theorem num_ok (C : DkC w0) (s : ByteArray) (v : Nat) (hw : Below w0.heap.size w0 w) (hs : s.size ≤ 3000) (h : numD s.data.toList = some v) : NumR s w v .nilIface := by
 have hv := numD_in h
 obtain ⟨h1, h2⟩ := num_yes h
 have cA := atoi_yes s w hs v h1
 have cI := fun (u : World) (hu : Below w0.heap.size w0 u) => C.itoa v u hu (by omega)
 have e : txt (Lib.itoa (v : Int)) = s := by rw [h2]; rfl
 rw [e] at cI
 have HW : Hid (Below w0.heap.size w0 w) := hw
 clear h h1 h2 e hw
 obtain ⟨n, hn⟩ : ∃ n : Int, n = v := ⟨_, rfl⟩
 rw [← hn] at cA cI ⊢
 have n0 : ¬ (n < 0) := by omega
 have n1 : ¬ (9999999 < n) := by omega
 clear hn
 go_enter Tryz.func71, Tryz.ntmps71
 go_wp2_with (first
  | (go_at_call 56; refine cA.mono ?_; rintro e u1 ⟨rfl, hb⟩; have B1 : Hid (Below w.heap.size w u1) := hb; clear hb)
  | (go_at_call 102; refine (cI _ (rbel_on B1.out HW.out)).mono ?_; rintro e u2 ⟨rfl, hb⟩; have B2 : Hid (Below w.heap.size w u2) := rbel_on hb B1.out; clear hb))
 go_ret2
 exact ⟨rfl, B2.out⟩
theorem num_err (s : ByteArray) (hs : s.size ≤ 3000) (he : EnvX w) (h : ∀ v, Lib.atoiAll s.data.toList ≠ .ok v) : NumR s w 0 lineV := by
 have cA := atoi_no s w he hs h
 clear h he
 unfold lineV
 go_enter Tryz.func71, Tryz.ntmps71
 go_wp2_with (go_at_call 56; refine cA.mono ?_; rintro e u1 ⟨n, T, rfl, hb⟩; have B1 : Hid (Below w.heap.size w u1) := hb; clear hb)
 go_ret2
 exact ⟨rfl, B1.out⟩
theorem num_out (s : ByteArray) (hs : s.size ≤ 3000) (v : Int) (h : Lib.atoiAll s.data.toList = .ok v) (hv : v < 0 ∨ 9999999 < v) : NumR s w 0 lineV := by
 have cA := atoi_yes s w hs v h
 clear h
 unfold lineV
 rcases hv with hv | hv
 ·go_enter Tryz.func71, Tryz.ntmps71
  go_wp2_with (go_at_call 56; refine cA.mono ?_; rintro e u1 ⟨rfl, hb⟩; have B1 : Hid (Below w.heap.size w u1) := hb; clear hb)
  go_ret2
  exact ⟨rfl, B1.out⟩
 ·have h0 : ¬ (v < 0) := by omega
  go_enter Tryz.func71, Tryz.ntmps71
  go_wp2_with (go_at_call 56; refine cA.mono ?_; rintro e u1 ⟨rfl, hb⟩; have B1 : Hid (Below w.heap.size w u1) := hb; clear hb)
  go_ret2
  exact ⟨rfl, B1.out⟩
theorem num_other (C : DkC w0) (s : ByteArray) (hw : Below w0.heap.size w0 w) (hs : s.size ≤ 3000) (v : Int) (h : Lib.atoiAll s.data.toList = .ok v) (h0 : 0 ≤ v) (h1 : v ≤ 9999999) (hn : Lib.itoa v ≠ s.data.toList) : NumR s w 0 lineV := by
 have cA := atoi_yes s w hs v h
 have cI := fun (u : World) (hu : Below w0.heap.size w0 u) => C.itoa v u hu (by omega)
 have HW : Hid (Below w0.heap.size w0 w) := hw
 have n0 : ¬ (v < 0) := by omega
 have n1 : ¬ (9999999 < v) := by omega
 obtain ⟨x, hx⟩ : ∃ x, x = txt (Lib.itoa v) := ⟨_, rfl⟩
 rw [← hx] at cI
 have ne : (x.toList == s.toList) = false := by
  rw [ByteArray.toList_eq, ByteArray.toList_eq, hx]
  simpa [txt] using hn
 clear h hn hx hw h0 h1
 unfold lineV
 go_enter Tryz.func71, Tryz.ntmps71
 go_wp2_with (first
  | (go_at_call 56; refine cA.mono ?_; rintro e u1 ⟨rfl, hb⟩; have B1 : Hid (Below w.heap.size w u1) := hb; clear hb)
  | (go_at_call 102; refine (cI _ (rbel_on B1.out HW.out)).mono ?_; rintro e u2 ⟨rfl, hb⟩; have B2 : Hid (Below w.heap.size w u2) := rbel_on hb B1.out; clear hb))
 go_ret2
 exact ⟨rfl, B2.out⟩
theorem num_bad (C : DkC w0) (s : ByteArray) (hw : Below w0.heap.size w0 w) (he : EnvX w) (hs : s.size ≤ 3000) (h : numD s.data.toList = none) : NumR s w 0 lineV := by
 cases e : Lib.atoiAll s.data.toList with
 | ok v =>
  by_cases h0 : v < 0
  ·exact num_out s hs v e (Or.inl h0)
  ·by_cases h1 : 9999999 < v
   ·exact num_out s hs v e (Or.inr h1)
   ·exact num_other C s hw hs v e (by omega) (by omega) (num_no h (by omega) (by omega))
 | «syntax» => exact num_err s hs he (fun v q => by rw [e] at q; cases q)
 | range => exact num_err s hs he (fun v q => by rw [e] at q; cases q)
end
end Go.Proofs.YtadkgnbagmnkkakGreatDoor.rn
