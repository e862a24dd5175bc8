/- What package span answers of texts (Print, Parse and what they call), for any span and any text shorter than 4294967281 bytes. -/
import Derived.Test.YtadkgnbagmnkkakGreatDoorNm01
import Derived.Test.YtadkgnbagmnkkakGreatDoorSpanMath
import Derived.Test.YtadkgnbagmnkkakGreatDoorShelf
import Derived.Lib.SmallJoins
import Derived.Lib.AtoiErrMem
import Derived.Lib.AppendIntMem
import Derived.Shelf.SlSorted.Search
import Derived.RegionTactic
import Derived.ChangeAlike
import Derived.Deep.QuietTactic
import Derived.BigQuiet
namespace Go.Proofs.YtadkgnbagmnkkakGreatDoor
open Go.ChangeShapes Go.WideShapes Go.ChangeAt Go.RowKit Go.Joins
set_option linter.unusedVariables false


def Env (w : World) : Prop := (∃ m, w.cell? ⟨1, 0, none⟩ = some (.int .i64 m)) ∧ Lib.TabIs Tryz.prog w "internal/strconv.uint64pow10" .u64 Lib.pow10Tab

theorem Env.below {w w' : World} (h : Env w) (hb : Below w.heap.size w w') : Env w' := by
 obtain ⟨⟨m, hm⟩, ht⟩ := h
 exact ⟨⟨m, by rw [hb.cell (World.block_lt_of_cell? _ _ hm)]; exact hm⟩, Lib.tabBelow_of_tabIs ht _ hb⟩

theorem cell_on {v u : World} {p : Addr} {x : Value} (hb : Below v.heap.size v u) (h : v.cell? p = some x) : u.cell? p = some x := by
 rw [hb.cell (World.block_lt_of_cell? _ _ h)]; exact h


theorem titoa_any (n : Int) (w : World) (h0 : -9223372036854775808 ≤ n) (h1 : n ≤ 9223372036854775807) (he : Env w) :
  Calls Tryz.prog 102 #[.int .i64 n] w fun e w' => e = .returned (.string ⟨(Lib.itoa n).toArray⟩) ∧ Below w.heap.size w w' := by
 refine (Tryz.strconv_Itoa n h0 h1 w he.2).mono ?_
 rintro e w' ⟨rfl, k, os, rfl⟩
 exact ⟨rfl, below_grown_sl _ _ _ _ (Nat.le_refl _)⟩

theorem itoa_s (n : Int) (s : ByteArray) (w : World) (h0 : -9223372036854775808 ≤ n) (h1 : n ≤ 9223372036854775807) (hs : Hid (s.data.toList = Lib.itoa n)) (he : Env w) :
  Calls Tryz.prog 102 #[.int .i64 n] w fun e w' => e = .returned (.string s) ∧ Below w.heap.size w w' := by
 refine (titoa_any n w h0 h1 he).mono ?_
 rintro e w' ⟨rfl, hb⟩
 have : (⟨(Lib.itoa n).toArray⟩ : ByteArray) = s := by have h := hs.out; rw [← h]
 rw [this]
 exact ⟨rfl, hb⟩





theorem isDig_yes {b : UInt8} (h1 : 48 ≤ (b.toNat : Int)) (h2 : (b.toNat : Int) ≤ 57) : isDig b = true := decide_eq_true (by omega)


theorem size_of {s : ByteArray} {l : List UInt8} (h : s.data.toList = l) : s.size = l.length := by rw [← h, Lib.size_eq]

theorem ba_of (l : List UInt8) : ∃ s : ByteArray, s.data.toList = l := ⟨⟨l.toArray⟩, rfl⟩





theorem toList_data (s : ByteArray) : s.toList = s.data.toList := by
 have := Lib.extract_toList s 0 s.size
 rw [show s.extract 0 s.size = s by simp] at this
 rw [this, Nat.sub_zero, List.drop_zero, List.take_of_length_le]; rw [Lib.size_eq]; exact Nat.le_refl _

theorem head_of (d : ByteArray) (h1 : 1 ≤ d.size) : d.data.toList.head? = some (d[0]'(by omega)) := by
 cases hd : d.data.toList with
 | nil => rw [Lib.size_eq, hd] at h1; simp at h1
 | cons a t =>
  have : d[0]'(by omega) = a := by
   show d.data[0] = a
   have h2 : d.data.toList[0]'(by rw [hd]; simp) = a := by simp [hd]
   exact h2
  rw [this]; rfl











set_option maxHeartbeats 1000000 in
theorem print_s (a b : Int) (x y : ByteArray) (w : World) (he : Env w) (h : okB a b = true) (g1 : -9223372036854775808 ≤ a) (g2 : a ≤ 9223372036854775807) (g3 : -9223372036854775808 ≤ b) (g4 : b ≤ 9223372036854775807) (hx : Hid (x.data.toList = Lib.itoa a)) (hy : Hid (y.data.toList = Lib.itoa b)) (lx : x.size ≤ 21) (ly : y.size ≤ 21) :
  Calls Tryz.prog 93 #[.agg #[.int .i64 a, .int .i64 b]] w fun e w' => e = .returned (.tuple #[.string (x ++ ⟨#[46, 46]⟩ ++ y), .nilIface]) ∧ Below w.heap.size w w' := by
 have cnt : Mark 0 := .mk _
 go_enter Tryz.func93, Tryz.ntmps93
 go_wp2_with (first | (go_at_call 32; refine (check_ok _ _ _ h).mono ?_; rintro e u0 ⟨rfl, hb0⟩; obtain ⟨hc0, hf0⟩ := bcell hb0; have hz0 := hb0.size; simp only [World.size_alloc, Nat.add_one_le_iff] at hz0))
 have he1 : Env u0 := he.below (below_tr hb0 ((Below.refl _ _).alloc (Nat.le_refl _) _))
 have he2 : Env u0.drew := he1.below (Below.drew (Below.refl _ _))
 have c0 : u0.cell? ⟨w.heap.size, 0, none⟩ = some (.int .i64 a) := by rw [hc0 _ _ (by simp)]; simp [go_sem]
 have c1 : u0.cell? ⟨w.heap.size, 1, none⟩ = some (.int .i64 b) := by rw [hc0 _ _ (by simp)]; simp [go_sem]
 have d0 : u0.drew.cell? ⟨w.heap.size, 0, none⟩ = some (.int .i64 a) := c0
 have d1 : u0.drew.cell? ⟨w.heap.size, 1, none⟩ = some (.int .i64 b) := c1
 clear hc0 hf0
 go_region_with (go_at_call 102; refine (itoa_s _ _ _ (by omega) (by omega) (by assumption) (by assumption)).mono ?_; rintro e u ⟨rfl, hb⟩; have he3 : Env u := Env.below (by assumption) hb; have q0 : u.cell? ⟨w.heap.size, 0, none⟩ = some (.int .i64 a) := cell_on hb (by assumption); have q1 : u.cell? ⟨w.heap.size, 1, none⟩ = some (.int .i64 b) := cell_on hb (by assumption))
 all_goals
  go_wp2
  go_ret2
  exact ⟨rfl, by (repeat (first | exact Below.refl _ _ | refine Below.alloc ?_ (by first | (simp; done) | (simp; omega) | omega) _ | refine Below.setCell ?_ (by first | (simp; done) | (simp; omega) | omega) _ | apply Below.drew | apply below_drewN | refine below_tr (by assumption) ?_))⟩

theorem itoa_len (a b : Int) (h : okB a b = true) : (Lib.itoa a).length ≤ 14 ∧ (Lib.itoa b).length ≤ 14 := by
 have key : ∀ n : Int, -1000000000000 ≤ n → n ≤ 1000000000000 → (Lib.itoa n).length ≤ 14 := by
  intro n h1 h2
  by_cases hneg : n < 0
  ·obtain ⟨u, rfl⟩ : ∃ u : Nat, n = -(u : Int) := ⟨n.natAbs, by omega⟩
   rw [Lib.itoa_neg u (by omega), List.length_cons, Lib.decDigits_length]
   have := nDigits_le13 u (by omega)
   omega
  ·obtain ⟨u, rfl⟩ : ∃ u : Nat, n = u := ⟨n.toNat, by omega⟩
   rw [Lib.itoa_nonneg, Lib.decDigits_length]
   have := nDigits_le13 u (by omega)
   omega
 have q := okB_t h
 exact ⟨key a (by omega) (by omega), key b (by omega) (by omega)⟩

theorem print_ok (a b : Int) (r : ByteArray) (w : World) (he : Env w) (h : okB a b = true) (hr : r.data.toList = printL a b) :
  Calls Tryz.prog 93 #[.agg #[.int .i64 a, .int .i64 b]] w fun e w' => e = .returned (.tuple #[.string r, .nilIface]) ∧ Below w.heap.size w w' := by
 obtain ⟨x, hx⟩ := ba_of (Lib.itoa a)
 obtain ⟨y, hy⟩ := ba_of (Lib.itoa b)
 obtain ⟨l1, l2⟩ := itoa_len a b h
 have q := okB_t h
 have e : x ++ ⟨#[46, 46]⟩ ++ y = r := by
  apply ByteArray.ext
  apply Array.toList_inj.1
  rw [data_append, data_append, hx, hy, hr]
  rfl
 rw [← e]
 exact print_s a b x y w he h (by omega) (by omega) (by omega) (by omega) hx hy (by rw [size_of hx]; omega) (by rw [size_of hy]; omega)




end Go.Proofs.YtadkgnbagmnkkakGreatDoor
