/- The widths of spans: what stat.Widths answers. -/
import Derived.Test.YthejaecljkjliakDoorStatDefW
import Derived.Test.YthejaecljkjliakDoorVoteChk
import Derived.Test.YthejaecljkjliakDoorOwnInts
import Derived.Lib.SmallJoins
namespace Go.Proofs.YthejaecljkjliakDoor
open Go.ChangeShapes Go.WideShapes Go.ChangeAt Go.RowKit
set_option linter.unusedVariables false
set_option linter.unusedSimpArgs false

theorem wcheck_any (ad : Option Addr) (n cap : Nat) (q : Nat → Int × Int) (w : World) (hH : SHd w ad n q) :
    Calls Tryd.prog 15 #[.slice ad n cap] w fun e w' => e = .returned (errc (svE q n)) ∧ Below w.heap.size w w' := vcheck_e ad n cap q w hH
theorem widths_no (ad : Option Addr) (n cap : Nat) (q : Nat → Int × Int) (w : World) (hH : SHd w ad n q) (he : svE q n ≠ 0) :
    Calls Tryd.prog 5 #[.slice ad n cap] w fun o w' => o = .returned (.tuple #[.slice none 0 0, errc (svE q n)]) ∧ Below w.heap.size w w' := by
  have cC := fun u hu => wcheck_any ad n cap q u (hH.on (W := w) hu)
  generalize svE q n = e at *
  rw [errc_not he] at *
  clear hH
  go_enter Tryd.func5, Tryd.ntmps5
  go_wp2_with (go_at_call 15; refine (cC _ (Below.refl _ _)).mono ?_; rintro e u0 ⟨rfl, hb⟩; have HB : Hid _ := hb; clear hb)
  go_ret2
  exact ⟨rfl, HB.out⟩
set_option maxHeartbeats 2000000 in
theorem widths_ok (b off n cap : Nat) (q : Nat → Int × Int) (w : World) (hP : SpT w b off n q) (he : svE q n = 0) :
    Calls Tryd.prog 5 #[.slice (some ⟨b, off, none⟩) n cap] w fun o w' => ∃ v, o = .returned (.tuple #[v, .nilIface]) ∧ w'.ownsRow w.heap.size 3 1 v n (icn (fun i => (q i).2 - (q i).1) n) ∧ Below w.heap.size w w' := by
  obtain ⟨i0, hi0, hz0, hz1, hz2⟩ := info_parts infoIntN
  obtain ⟨n0, n40, ok⟩ := svE_zero he
  have hbl : b < w.heap.size := World.block_lt_of_cell? _ _ (hP 0 n0).1
  have cC : Calls Tryd.prog 15 #[.slice (some ⟨b, off, none⟩) n cap] w fun e w' => e = .returned .nilIface ∧ Below w.heap.size w w' := by
    have := wcheck_any (some ⟨b, off, none⟩) n cap q w ⟨by omega, Or.inr ⟨b, off, rfl, hP⟩⟩
    rwa [he] at this
  have HP : Hid (SpT w b off n q) := hP
  have HZ : Hid (∀ i, i < n → okB (q i).1 (q i).2 = true) := ok
  clear hP ok he
  go_enter Tryd.func5, Tryd.ntmps5
  go_wp2_with (go_at_call 15; refine cC.mono ?_; rintro e u0 ⟨rfl, hb⟩; have HB : Hid (Below w.heap.size w u0) := hb; clear hb)
  have HO : Hid ((u0.alloc (.cells #[] 3)).ownsRow w.heap.size 3 1 (.slice (some ⟨u0.heap.size, 0, none⟩) 0 0) 0 []) := by
    have z := own_empty u0 3 1
    refine ⟨z.1, z.2.imp id ?_⟩
    rintro ⟨g, c, cur, h1, h2, h3⟩
    exact ⟨g, c, cur, h1, by have := HB.out.size; omega, h3⟩
  go_loopw [5, 16] (fun v i wr => ∃ k : Nat, k ≤ n ∧ i = .int .i64 k ∧ wr.ownsRow w.heap.size 3 1 v k (icn (fun i => (q i).2 - (q i).1) k) ∧ Below w.heap.size w wr) (fun _ i _ => n - (intOf i).toNat)
  case atStart => exact ⟨0, Nat.zero_le _, rfl, HO.out, rbel_al HB.out⟩
  case round =>
    obtain ⟨k, hk, rfl, hown, hw⟩ := hrel
    have zz := hw.size
    have HW : Hid (Below w.heap.size w wr) := hw
    by_cases hlt : k < n
    · have hl3 : (k : Int) < n := by omega
      obtain ⟨x0, x1⟩ := (HP.out.on hw) k hlt
      have ok := HZ.out k hlt
      have sw : IntKind.i64.wrap ((q k).2 - (q k).1) = (q k).2 - (q k).1 := by
        simp only [okB, decide_eq_true_eq, Bool.and_eq_true] at ok
        exact IntWalk.i64_in _ (by omega)
      have HL : Hid (icn (fun i => (q i).2 - (q i).1) (k + 1) = icn (fun i => (q i).2 - (q i).1) k ++ [.int .i64 ((q k).2 - (q k).1)]) := rfl
      have il := icn_len (fun i => (q i).2 - (q i).1) k
      have nb : ¬ (b = wr.heap.size) := by omega
      generalize hL1 : icn (fun i => (q i).2 - (q i).1) (k + 1) = L1 at *
      generalize icn (fun i => (q i).2 - (q i).1) k = L0 at *
      clear HZ HP HO ok
      generalize (q k).2 = hi at *
      generalize (q k).1 = lo at *
      go_wp2_with (at_builtin; refine wpList_append_own _ rfl _ _ 23 rfl w.heap.size 3 i0 (.int .i64 0) 1 8 Tryd.underlying23 hi0 hz0 hz1 hz2 rfl (by decide) _ _ _ rfl ((hown.alloc _).alloc _) ⟨wr.heap.size + 1, 0, none⟩ 1 1 [.int .i64 (hi - lo)] rfl rfl ?c1 ?c2 ?c3 ?c4 ?c5 ?_)
      case c1 =>
        intro j u hj
        rw [Addr.add_lit, World.cell?_alloc_at _ _ _ _ (by simp)]
        simpa using hj
      case c2 =>
        intro u hu
        simp at hu
        rcases hu with rfl; rfl
      case c3 => unfold maxLen; omega
      case c4 => omega
      case c5 => have := HW.out.size; simp; omega
      intro v' w1 hown' hgrow _
      have hown1 : Hid (w1.ownsRow w.heap.size 3 1 v' (k + 1) L1) := by
        show w1.ownsRow w.heap.size 3 1 v' (k + 1) L1
        rw [HL.out]
        exact hown'
      have hw1 : Hid (Below w.heap.size w w1) := (rbel_al (rbel_al HW.out)).grown hgrow (by have := HW.out.size; simp; omega) (fun j hj => (hown.lt j hj).1)
      clear hown' hgrow hown
      go_wp2
      go_roundw
      case rel => exact ⟨k + 1, by omega, by go_num, by rw [hL1]; exact hown1.out, hw1.out⟩
      case measure => simp [intOf]; omega
    · have hl3 : ¬ ((k : Int) < n) := by omega
      obtain rfl : k = n := by omega
      go_wp2
      go_ret2
      exact ⟨_, rfl, hown, HW.out⟩
theorem widths_any (ad : Option Addr) (n cap : Nat) (q : Nat → Int × Int) (w : World) (hH : SHd w ad n q) :
    Calls Tryd.prog 5 #[.slice ad n cap] w fun o w' => ∃ (ta : Option Addr) (k tc : Nat), o = .returned (.tuple #[.slice ta k tc, errc (svE q n)]) ∧ NHanded w' ta k (fun i => (q i).2 - (q i).1) ∧ k = (if svE q n = 0 then n else 0) ∧ Below w.heap.size w w' := by
  by_cases he : svE q n = 0
  · obtain ⟨n0, n40, ok⟩ := svE_zero he
    rcases hH.2 with h | ⟨b, off, rfl, hP⟩
    · omega
    · refine (widths_ok b off n cap q w hP he).mono ?_
      rintro e w' ⟨v, rfl, hO, hb⟩
      obtain ⟨a, c, rfl, hN, _⟩ := own_intsN hO (by omega)
      refine ⟨a, n, c, by rw [he, errc_zero], hN, (if_pos he).symm, hb⟩
  · refine (widths_no ad n cap q w hH he).mono ?_
    rintro e w' ⟨rfl, hb⟩
    exact ⟨none, 0, 0, rfl, ⟨by omega, Or.inl rfl⟩, (if_neg he).symm, hb⟩
end Go.Proofs.YthejaecljkjliakDoor
