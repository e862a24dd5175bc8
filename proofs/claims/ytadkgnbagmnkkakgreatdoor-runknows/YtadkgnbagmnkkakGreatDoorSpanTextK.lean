/- What package span answers of texts (Print, Parse and what they call), for any span and any text shorter than 4294967281 bytes. -/
import Derived.Test.YtadkgnbagmnkkakGreatDoorNm01
import Derived.Test.YtadkgnbagmnkkakGreatDoorSpanMath
import Derived.Test.YtadkgnbagmnkkakGreatDoorShelf
import Derived.Lib.SmallJoins
import Derived.Lib.AtoiErrMem
import Derived.Lib.AppendIntMem
import Derived.Shelf.SlSorted.Search
import Derived.RegionTactic
import Derived.ChangeAlike
import Derived.Deep.QuietTactic
import Derived.BigQuiet
namespace Go.Proofs.YtadkgnbagmnkkakGreatDoor
open Go.ChangeShapes Go.WideShapes Go.ChangeAt Go.RowKit Go.Joins
set_option linter.unusedVariables false

theorem ret_bool {a b : Bool} (h : a = b) : Ending.returned (.bool a) = .returned (.bool b) := by rw [h]

def Env (w : World) : Prop := (∃ m, w.cell? ⟨1, 0, none⟩ = some (.int .i64 m)) ∧ Lib.TabIs Tryz.prog w "internal/strconv.uint64pow10" .u64 Lib.pow10Tab

theorem Env.below {w w' : World} (h : Env w) (hb : Below w.heap.size w w') : Env w' := by
 obtain ⟨⟨m, hm⟩, ht⟩ := h
 exact ⟨⟨m, by rw [hb.cell (World.block_lt_of_cell? _ _ hm)]; exact hm⟩, Lib.tabBelow_of_tabIs ht _ hb⟩

theorem cell_on {v u : World} {p : Addr} {x : Value} (hb : Below v.heap.size v u) (h : v.cell? p = some x) : u.cell? p = some x := by
 rw [hb.cell (World.block_lt_of_cell? _ _ h)]; exact h

theorem bytes_below (w : World) (t : TypeId) (s : ByteArray) : Below w.heap.size w (Lib.bytesWorld w t s) :=
 Lib.bytesWorld_below w t s

theorem titoa_any (n : Int) (w : World) (h0 : -9223372036854775808 ≤ n) (h1 : n ≤ 9223372036854775807) (he : Env w) :
  Calls Tryz.prog 102 #[.int .i64 n] w fun e w' => e = .returned (.string ⟨(Lib.itoa n).toArray⟩) ∧ Below w.heap.size w w' := by
 refine (Tryz.strconv_Itoa n h0 h1 w he.2).mono ?_
 rintro e w' ⟨rfl, k, os, rfl⟩
 exact ⟨rfl, below_grown_sl _ _ _ _ (Nat.le_refl _)⟩

theorem itoa_s (n : Int) (s : ByteArray) (w : World) (h0 : -9223372036854775808 ≤ n) (h1 : n ≤ 9223372036854775807) (hs : Hid (s.data.toList = Lib.itoa n)) (he : Env w) :
  Calls Tryz.prog 102 #[.int .i64 n] w fun e w' => e = .returned (.string s) ∧ Below w.heap.size w w' := by
 refine (titoa_any n w h0 h1 he).mono ?_
 rintro e w' ⟨rfl, hb⟩
 have : (⟨(Lib.itoa n).toArray⟩ : ByteArray) = s := by have h := hs.out; rw [← h]
 rw [this]
 exact ⟨rfl, hb⟩

theorem atoi_any (s : ByteArray) (n : Int) (w : World) (hl : s.size ≤ 18) (h : Lib.atoi s.data.toList = some n) :
  Calls Tryz.prog 56 #[.string s] w fun e w' => e = .returned (.tuple #[.int .i64 n, .nilIface]) ∧ Below w.heap.size w w' := by
 refine (Tryz.strconv_Atoi s n hl h w).mono ?_
 rintro e w' ⟨rfl, t, rfl⟩
 exact ⟨rfl, bytes_below _ _ _⟩

theorem ba_ext {s : ByteArray} {l : List UInt8} (h : s.data.toList = l) : (⟨l.toArray⟩ : ByteArray) = s := by
 subst h; rfl

theorem trim_any (s d : ByteArray) (w : World) (hd : d.data.toList = Lib.trimPrefix s.data.toList [45]) :
  Calls Tryz.prog 54 #[.string s, .string ⟨#[45]⟩] w fun e w' => e = .returned (.string d) ∧ w' = w := by
 refine (Tryz.strings_TrimPrefix s ⟨#[45]⟩ w).mono ?_
 rintro e w' ⟨rfl, rfl⟩
 exact ⟨by rw [show (⟨#[45]⟩ : ByteArray).data.toList = [45] from rfl, ba_ext hd], rfl⟩

theorem cut_any (s a b : ByteArray) (f : Bool) (w : World) (hs : s.size < 4294967281) (he : Env w) (ha : a.data.toList = (Lib.cut s.data.toList [46, 46]).1) (hb : b.data.toList = (Lib.cut s.data.toList [46, 46]).2.1) (hf : (Lib.cut s.data.toList [46, 46]).2.2 = f) :
  Calls Tryz.prog 29 #[.string s, .string ⟨#[46, 46]⟩] w fun e w' => e = .returned (.tuple #[.string a, .string b, .bool f]) ∧ Below w.heap.size w w' := by
 obtain ⟨⟨m, hm⟩, ht⟩ := he
 refine (Tryz.strings_Cut s ⟨#[46, 46]⟩ m w hs hm).mono ?_
 rintro e w' ⟨rfl, n, rfl⟩
 exact ⟨by rw [show (⟨#[46, 46]⟩ : ByteArray).data.toList = [46, 46] from rfl, ba_ext ha, ba_ext hb, hf], below_drewN (Below.refl _ _) n⟩

theorem take_snocT (s : ByteArray) (k : Nat) (h : k < s.size) : s.data.toList.take (k + 1) = s.data.toList.take k ++ [s[k]] := by
 rw [List.take_succ_eq_append_getElem (by simpa using h)]; rfl
theorem all_snoc (s : ByteArray) (k : Nat) (h : k < s.size) (h1 : allDig (s.data.toList.take k) = true) (h2 : isDig s[k] = true) : allDig (s.data.toList.take (k + 1)) = true := by
 unfold allDig at *; rw [take_snocT s k h]; simp [h1, h2]
theorem all_no (s : ByteArray) (k : Nat) (h : k < s.size) (hd : isDig s[k] = false) : allDig s.data.toList = false := by
 unfold allDig
 rw [List.all_eq_false]
 exact ⟨s[k], by show s.data.toList[k]'(by simpa using h) ∈ _; exact List.getElem_mem _, by simp [hd]⟩
theorem isDig_lo {b : UInt8} (h : (b.toNat : Int) < 48) : isDig b = false := decide_eq_false (by omega)
theorem isDig_hi {b : UInt8} (h : 57 < (b.toNat : Int)) : isDig b = false := decide_eq_false (by omega)
theorem isDig_yes {b : UInt8} (h1 : 48 ≤ (b.toNat : Int)) (h2 : (b.toNat : Int) ≤ 57) : isDig b = true := decide_eq_true (by omega)

set_option maxHeartbeats 400000 in
theorem allDigits_any (s : ByteArray) (w : World) (hs : s.size ≤ maxLen) :
  Calls Tryz.prog 55 #[.string s] w fun e w' => e = .returned (.bool (allDig s.data.toList)) ∧ w' = w := by
 unfold maxLen at hs
 go_enter Tryz.func55, Tryz.ntmps55
 go_wp2
 go_loop [2, 3, 6] (fun z _ i => ∃ k : Nat, k ≤ s.size ∧ i = .int .i64 k ∧ z = .bool false ∧ allDig (s.data.toList.take k) = true) (fun _ _ i => s.size - (intOf i).toNat)
 case atStart => exact ⟨0, Nat.zero_le _, rfl, rfl, rfl⟩
 case round =>
  obtain ⟨k, hk, rfl, rfl, hall⟩ := hrel
  have HA : Hid (allDig (s.data.toList.take k) = true) := hall
  clear hall
  by_cases hlt : k < s.size
  ·go_wp2
   ·go_ret
    exact ⟨ret_bool (all_no s k hlt (isDig_hi (by omega))).symm, rfl⟩
   ·go_round
    case rel => exact ⟨k + 1, by omega, by go_num, rfl, all_snoc s k hlt HA.out (isDig_yes (by omega) (by omega))⟩
    case measure => simp [intOf]; omega
   ·go_ret
    exact ⟨ret_bool (all_no s k hlt (isDig_lo (by omega))).symm, rfl⟩
  ·go_wp2
   go_ret
   exact ⟨ret_bool (by rw [← HA.out, List.take_of_length_le (by simp; omega)]), rfl⟩

theorem size_of {s : ByteArray} {l : List UInt8} (h : s.data.toList = l) : s.size = l.length := by rw [← h, Lib.size_eq]

theorem ba_of (l : List UInt8) : ∃ s : ByteArray, s.data.toList = l := ⟨⟨l.toArray⟩, rfl⟩





set_option maxHeartbeats 800000 in
theorem readNumber_yes1J (s d : ByteArray) (n : Int) (w : World) (hs : s.size ≤ maxLen) (hd : Hid (d.data.toList = Lib.trimPrefix s.data.toList [45])) (h1 : 1 ≤ d.size) (h2 : d.size ≤ 13) (h : allDig d.data.toList = true) (H : ((((d[0].toNat : Int) == 48) = false) ∧ (s.size ≤ 18) ∧ (Hid (Lib.atoi s.data.toList = some n))) ∨ (((d[0].toNat : Int) = 48) ∧ ((!s.toList == [48]) = false) ∧ (s.size ≤ 18) ∧ (Hid (Lib.atoi s.data.toList = some n)))) :
  Calls Tryz.prog 30 #[.string s] w fun e w' => e = .returned (.tuple #[.int .i64 n, .bool true]) ∧ Below w.heap.size w w' := by
 rcases H with ⟨h3, hl, ha⟩ | ⟨h3, h4, hl, ha⟩
 all_goals
  unfold maxLen at hs
  go_enter Tryz.func30, Tryz.ntmps30
  go_wp2_with (first | (go_at_call 54; refine (trim_any s d _ hd.out).mono ?_; rintro e u ⟨rfl, rfl⟩) | (go_at_call 55; refine (allDigits_any d _ (by unfold maxLen; omega)).mono ?_; rintro e u ⟨rfl, rfl⟩) | (go_at_call 56; refine (atoi_any s n _ hl ha.out).mono ?_; rintro e u1 ⟨rfl, hb⟩))
  go_quiet (fail)
  go_wp2
  go_ret2
  exact ⟨rfl, below_drewN hb _⟩
theorem readNumber_yes1 (s d : ByteArray) (n : Int) (w : World) (hs : s.size ≤ maxLen) (hd : Hid (d.data.toList = Lib.trimPrefix s.data.toList [45])) (h1 : 1 ≤ d.size) (h2 : d.size ≤ 13) (h : allDig d.data.toList = true) (h3 : ((d[0].toNat : Int) == 48) = false) (hl : s.size ≤ 18) (ha : Hid (Lib.atoi s.data.toList = some n)) : Calls Tryz.prog 30 #[.string s] w fun e w' => e = .returned (.tuple #[.int .i64 n, .bool true]) ∧ Below w.heap.size w w' := readNumber_yes1J s d n w hs hd h1 h2 h (Or.inl ⟨h3, hl, ha⟩)
theorem readNumber_yes2 (s d : ByteArray) (n : Int) (w : World) (hs : s.size ≤ maxLen) (hd : Hid (d.data.toList = Lib.trimPrefix s.data.toList [45])) (h1 : 1 ≤ d.size) (h2 : d.size ≤ 13) (h : allDig d.data.toList = true) (h3 : (d[0].toNat : Int) = 48) (h4 : (!s.toList == [48]) = false) (hl : s.size ≤ 18) (ha : Hid (Lib.atoi s.data.toList = some n)) : Calls Tryz.prog 30 #[.string s] w fun e w' => e = .returned (.tuple #[.int .i64 n, .bool true]) ∧ Below w.heap.size w w' := readNumber_yes1J s d n w hs hd h1 h2 h (Or.inr (⟨h3, h4, hl, ha⟩))
theorem toList_data (s : ByteArray) : s.toList = s.data.toList := by
 have := Lib.extract_toList s 0 s.size
 rw [show s.extract 0 s.size = s by simp] at this
 rw [this, Nat.sub_zero, List.drop_zero, List.take_of_length_le]; rw [Lib.size_eq]; exact Nat.le_refl _

theorem head_of (d : ByteArray) (h1 : 1 ≤ d.size) : d.data.toList.head? = some (d[0]'(by omega)) := by
 cases hd : d.data.toList with
 | nil => rw [Lib.size_eq, hd] at h1; simp at h1
 | cons a t =>
  have : d[0]'(by omega) = a := by
   show d.data[0] = a
   have h2 : d.data.toList[0]'(by rw [hd]; simp) = a := by simp [hd]
   exact h2
  rw [this]; rfl


theorem readNumber_some (s : ByteArray) (n : Int) (w : World) (hs : s.size ≤ maxLen) (h : readNum s.data.toList = some n) :
  Calls Tryz.prog 30 #[.string s] w fun e w' => e = .returned (.tuple #[.int .i64 n, .bool true]) ∧ Below w.heap.size w w' := by
 obtain ⟨d, hd⟩ := ba_of (Lib.trimPrefix s.data.toList [45])
 obtain ⟨p1, p2, p3, p4, p5, p6⟩ := readNum_parts h
 rw [← hd] at p1 p2 p3 p4
 rw [← Lib.size_eq] at p1 p2 p6
 rw [head_of d p1] at p4
 by_cases e : s.data.toList = [48]
 ·refine readNumber_yes2 s d n w hs hd p1 p2 p3 ?_ (by rw [toList_data, e]; rfl) p6 p5
  have hd2 : d.data.toList = [48] := by rw [hd, e]; rfl
  have := head_of d p1
  rw [hd2] at this
  simp only [List.head?_cons, Option.some.injEq] at this
  rw [← this]; rfl
 ·refine readNumber_yes1 s d n w hs hd p1 p2 p3 ?_ p6 p5
  rcases p4 with p4 | p4
  ·rw [beq_eq_false_iff_ne]
   intro e2
   apply p4
   congr 1
   apply UInt8.toNat_inj.1
   show (d[0]'(by omega)).toNat = 48
   omega
  ·exact absurd p4 e

theorem cut_le (l m : List UInt8) : (Lib.cut l m).1.length ≤ l.length ∧ (Lib.cut l m).2.1.length ≤ l.length := by
 unfold Lib.cut
 split
 ·exact ⟨by simp only [List.length_take]; omega, by simp only [List.length_drop]; omega⟩
 ·simp






set_option maxHeartbeats 1000000 in
theorem parse_in (s a b : ByteArray) (x y : Int) (w : World) (hs : s.size < 4294967281) (he : Env w) (ha : Hid (a.data.toList = (Lib.cut s.data.toList [46, 46]).1)) (hb : Hid (b.data.toList = (Lib.cut s.data.toList [46, 46]).2.1)) (hf : Hid ((Lib.cut s.data.toList [46, 46]).2.2 = true)) (la : a.size ≤ maxLen) (lb : b.size ≤ maxLen) (h1 : Hid (readNum a.data.toList = some x)) (h2 : Hid (readNum b.data.toList = some y)) (h3 : okB x y = true) :
  Calls Tryz.prog 12 #[.string s] w fun e w' => e = .returned (.tuple #[.agg #[.int .i64 x, .int .i64 y], .nilIface]) ∧ Below w.heap.size w w' := by
 have cnt : Mark 0 := .mk _
 go_enter Tryz.func12, Tryz.ntmps12
 go_wp2_with (first | (go_at_call 29; have cq : Mark 0 := cnt; refine (cut_any s a b true _ hs (he.below ((Below.refl _ _).alloc (Nat.le_refl _) _)) ha.out hb.out hf.out).mono ?_; clear cq cnt; have cnt : Mark 1 := .mk _; rintro e u0 ⟨rfl, hb0⟩; obtain ⟨hc0, hf0⟩ := bcell hb0; have hz0 := hb0.size; (try simp only [World.size_alloc, Nat.add_one_le_iff] at hz0); (try (have zb0_0 : w.heap.size < u0.heap.size := by omega))) | (go_at_call 30; have cq : Mark 1 := cnt; refine (readNumber_some a x _ la h1.out).mono ?_; clear cq cnt; have cnt : Mark 2 := .mk _; rintro e u1 ⟨rfl, hb1⟩; obtain ⟨hc1, hf1⟩ := bcell hb1; have hz1 := hb1.size; (try simp only [World.size_alloc, Nat.add_one_le_iff] at hz1); (try (have zb0_1 : w.heap.size < u1.heap.size := by omega)); (try (have zz0_1 : u0.heap.size < u1.heap.size := by omega))) | (go_at_call 30; have cq : Mark 2 := cnt; refine (readNumber_some b y _ lb h2.out).mono ?_; clear cq cnt; have cnt : Mark 3 := .mk _; rintro e u2 ⟨rfl, hb2⟩; obtain ⟨hc2, hf2⟩ := bcell hb2; have hz2 := hb2.size; (try simp only [World.size_alloc, Nat.add_one_le_iff] at hz2); (try (have zb0_2 : w.heap.size < u2.heap.size := by omega)); (try (have zz0_2 : u0.heap.size < u2.heap.size := by omega)); (try (have zz1_2 : u1.heap.size < u2.heap.size := by omega))) | (go_at_call 31; have cq : Mark 3 := cnt; refine (checked_ok _ _ _ h3).mono ?_; clear cq cnt; have cnt : Mark 4 := .mk _; rintro e u3 ⟨rfl, hb3⟩; obtain ⟨hc3, hf3⟩ := bcell hb3; have hz3 := hb3.size; (try simp only [World.size_alloc, Nat.add_one_le_iff] at hz3); (try (have zb0_3 : w.heap.size < u3.heap.size := by omega)); (try (have zz0_3 : u0.heap.size < u3.heap.size := by omega)); (try (have zz1_3 : u1.heap.size < u3.heap.size := by omega)); (try (have zz2_3 : u2.heap.size < u3.heap.size := by omega))))
 exact bodyPost_ret (v := _) (by simp [results, Tryz.results12, go_sem, *]) rfl ⟨rfl, by (repeat (first | exact Below.refl _ _ | refine Below.alloc ?_ (by first | (simp; done) | (simp; omega) | omega) _ | refine Below.setCell ?_ (by first | (simp; done) | (simp; omega) | omega) _ | apply Below.drew | apply below_drewN | refine below_tr (by assumption) ?_))⟩

set_option maxHeartbeats 400000 in
theorem print_no (a b : Int) (w : World) (h : okB a b = false) :
  Calls Tryz.prog 93 #[.agg #[.int .i64 a, .int .i64 b]] w fun e w' => e = .returned (.tuple #[.string ⟨#[]⟩, .iface 86 (.int .i64 1)]) ∧ Below w.heap.size w w' := by
 have cnt : Mark 0 := .mk _
 go_enter Tryz.func93, Tryz.ntmps93
 go_wp2_with (first | (go_at_call 32; have cq : Mark 0 := cnt; refine (check_no _ _ _ h).mono ?_; clear cq cnt; have cnt : Mark 1 := .mk _; rintro e u0 ⟨rfl, hb0⟩; obtain ⟨hc0, hf0⟩ := bcell hb0; have hz0 := hb0.size; (try simp only [World.size_alloc, Nat.add_one_le_iff] at hz0); (try (have zb0_0 : w.heap.size < u0.heap.size := by omega))))
 go_ret2
 exact ⟨rfl, by (repeat (first | exact Below.refl _ _ | refine Below.alloc ?_ (by first | (simp; done) | (simp; omega) | omega) _ | refine Below.setCell ?_ (by first | (simp; done) | (simp; omega) | omega) _ | apply Below.drew | apply below_drewN | refine below_tr (by assumption) ?_))⟩

set_option maxHeartbeats 1000000 in
theorem print_s (a b : Int) (x y : ByteArray) (w : World) (he : Env w) (h : okB a b = true) (g1 : -9223372036854775808 ≤ a) (g2 : a ≤ 9223372036854775807) (g3 : -9223372036854775808 ≤ b) (g4 : b ≤ 9223372036854775807) (hx : Hid (x.data.toList = Lib.itoa a)) (hy : Hid (y.data.toList = Lib.itoa b)) (lx : x.size ≤ 21) (ly : y.size ≤ 21) :
  Calls Tryz.prog 93 #[.agg #[.int .i64 a, .int .i64 b]] w fun e w' => e = .returned (.tuple #[.string (x ++ ⟨#[46, 46]⟩ ++ y), .nilIface]) ∧ Below w.heap.size w w' := by
 have cnt : Mark 0 := .mk _
 go_enter Tryz.func93, Tryz.ntmps93
 go_wp2_with (first | (go_at_call 32; refine (check_ok _ _ _ h).mono ?_; rintro e u0 ⟨rfl, hb0⟩; obtain ⟨hc0, hf0⟩ := bcell hb0; have hz0 := hb0.size; simp only [World.size_alloc, Nat.add_one_le_iff] at hz0))
 have he1 : Env u0 := he.below (below_tr hb0 ((Below.refl _ _).alloc (Nat.le_refl _) _))
 have he2 : Env u0.drew := he1.below (Below.drew (Below.refl _ _))
 have c0 : u0.cell? ⟨w.heap.size, 0, none⟩ = some (.int .i64 a) := by rw [hc0 _ _ (by simp)]; simp [go_sem]
 have c1 : u0.cell? ⟨w.heap.size, 1, none⟩ = some (.int .i64 b) := by rw [hc0 _ _ (by simp)]; simp [go_sem]
 have d0 : u0.drew.cell? ⟨w.heap.size, 0, none⟩ = some (.int .i64 a) := c0
 have d1 : u0.drew.cell? ⟨w.heap.size, 1, none⟩ = some (.int .i64 b) := c1
 clear hc0 hf0
 go_region_with (go_at_call 102; refine (itoa_s _ _ _ (by omega) (by omega) (by assumption) (by assumption)).mono ?_; rintro e u ⟨rfl, hb⟩; have he3 : Env u := Env.below (by assumption) hb; have q0 : u.cell? ⟨w.heap.size, 0, none⟩ = some (.int .i64 a) := cell_on hb (by assumption); have q1 : u.cell? ⟨w.heap.size, 1, none⟩ = some (.int .i64 b) := cell_on hb (by assumption))
 all_goals
  go_wp2
  go_ret2
  exact ⟨rfl, by (repeat (first | exact Below.refl _ _ | refine Below.alloc ?_ (by first | (simp; done) | (simp; omega) | omega) _ | refine Below.setCell ?_ (by first | (simp; done) | (simp; omega) | omega) _ | apply Below.drew | apply below_drewN | refine below_tr (by assumption) ?_))⟩

theorem itoa_len (a b : Int) (h : okB a b = true) : (Lib.itoa a).length ≤ 14 ∧ (Lib.itoa b).length ≤ 14 := by
 have key : ∀ n : Int, -1000000000000 ≤ n → n ≤ 1000000000000 → (Lib.itoa n).length ≤ 14 := by
  intro n h1 h2
  by_cases hneg : n < 0
  ·obtain ⟨u, rfl⟩ : ∃ u : Nat, n = -(u : Int) := ⟨n.natAbs, by omega⟩
   rw [Lib.itoa_neg u (by omega), List.length_cons, Lib.decDigits_length]
   have := nDigits_le13 u (by omega)
   omega
  ·obtain ⟨u, rfl⟩ : ∃ u : Nat, n = u := ⟨n.toNat, by omega⟩
   rw [Lib.itoa_nonneg, Lib.decDigits_length]
   have := nDigits_le13 u (by omega)
   omega
 have q := okB_t h
 exact ⟨key a (by omega) (by omega), key b (by omega) (by omega)⟩

theorem print_ok (a b : Int) (r : ByteArray) (w : World) (he : Env w) (h : okB a b = true) (hr : r.data.toList = printL a b) :
  Calls Tryz.prog 93 #[.agg #[.int .i64 a, .int .i64 b]] w fun e w' => e = .returned (.tuple #[.string r, .nilIface]) ∧ Below w.heap.size w w' := by
 obtain ⟨x, hx⟩ := ba_of (Lib.itoa a)
 obtain ⟨y, hy⟩ := ba_of (Lib.itoa b)
 obtain ⟨l1, l2⟩ := itoa_len a b h
 have q := okB_t h
 have e : x ++ ⟨#[46, 46]⟩ ++ y = r := by
  apply ByteArray.ext
  apply Array.toList_inj.1
  rw [data_append, data_append, hx, hy, hr]
  rfl
 rw [← e]
 exact print_s a b x y w he h (by omega) (by omega) (by omega) (by omega) hx hy (by rw [size_of hx]; omega) (by rw [size_of hy]; omega)


theorem parse_ok (s : ByteArray) (x y : Int) (w : World) (hs : s.size < 4294967281) (he : Env w) (h : parseL s.data.toList = some (x, y)) (h3 : okB x y = true) :
  Calls Tryz.prog 12 #[.string s] w fun e w' => e = .returned (.tuple #[.agg #[.int .i64 x, .int .i64 y], .nilIface]) ∧ Below w.heap.size w w' := by
 obtain ⟨a, ha⟩ := ba_of (Lib.cut s.data.toList [46, 46]).1
 obtain ⟨b, hb⟩ := ba_of (Lib.cut s.data.toList [46, 46]).2.1
 have hle := cut_le s.data.toList [46, 46]
 rw [← ha, ← hb, ← Lib.size_eq, ← Lib.size_eq, ← Lib.size_eq] at hle
 unfold parseL at h
 rw [← ha, ← hb] at h
 cases hf : (Lib.cut s.data.toList [46, 46]).2.2 with
 | false => rw [hf] at h; simp at h
 | true =>
  rw [if_pos hf] at h
  cases h1 : readNum a.data.toList with
  | none => rw [h1] at h; simp at h
  | some p =>
   cases h2 : readNum b.data.toList with
   | none => rw [h1, h2] at h; simp at h
   | some q =>
    rw [h1, h2] at h
    simp only [Option.some.injEq, Prod.mk.injEq] at h
    obtain ⟨rfl, rfl⟩ := h
    exact parse_in s a b p q w hs he ha hb hf (by unfold maxLen; omega) (by unfold maxLen; omega) h1 h2 h3


end Go.Proofs.YtadkgnbagmnkkakGreatDoor
