/- What the document's own reckoning (package noonref1) answers of points: Flip. -/
import Derived.Test.YtcofpgbaokmbmafDoorHullRefA
import Derived.Test.YtcofpgbaokmbmafDoorHullOwn
import Derived.Deep.RegionLaw
import Derived.Laws.AppendOwnNone
namespace Go.Proofs.YtcofpgbaokmbmafDoor
open Go.ChangeShapes Go.WideShapes Go.ChangeAt Go.RowKit Go.Joins
set_option linter.unusedVariables false
set_option linter.unusedSimpArgs false

/-- Points upside down. -/
def FlR (f : Nat → Int × Int) (n : Nat) (w : World) (o : Ending) (w' : World) : Prop := ∃ a cap, o = .returned (.slice a n cap) ∧ PHanded w' a n (fun i => flp (f i)) ∧ Below w.heap.size w w'
set_option maxRecDepth 100000 in
set_option maxHeartbeats 8000000 in
theorem rflip_any (ad : Option Addr) (n cap : Nat) (f : Nat → Int × Int) (w : World) (h60 : n ≤ 60) (hH : PHanded w ad n f) (hok : ∀ i, i < n → okP (f i)) :
    Calls Tryd.prog 9 #[.slice ad n cap] w fun o w' => FlR f n w o w' := by
  have HP : Hid (n = 0 ∨ ∃ b off : Nat, ad = some ⟨b, off, none⟩ ∧ Pls w b off n f) := hH.2
  have HO : Hid (∀ i, i < n → okP (f i)) := hok
  obtain ⟨i0, hi0, hz0, hz1, hz2⟩ := info_parts infoPoint
  clear hH hok
  go_enter Tryd.func9, Tryd.ntmps9
  go_wp2
  go_loopw [3, 4] (fun v vi wr => ∃ i : Nat, i ≤ n ∧ vi = .int .i64 i ∧ wr.ownsRow w.heap.size 33 2 v i (pcs (lst (fun j => flp (f j)) i)) ∧ Below w.heap.size w wr) (fun _ i _ => n - (intOf i).toNat)
  case atStart => exact ⟨0, Nat.zero_le _, rfl, World.ownsRow_nil _ _ _ _, Below.refl _ _⟩
  case round =>
    obtain ⟨i, hi, rfl, hown, hw⟩ := hrel
    have zz := hw.size
    have HW : Hid (Below w.heap.size w wr) := hw
    by_cases hlt : i < n
    · have hl3 : (i : Int) < n := by omega
      obtain ⟨b, off, rfl, hP⟩ : ∃ b off : Nat, ad = some ⟨b, off, none⟩ ∧ Pls w b off n f := by
        rcases HP.out with e | h
        · omega
        · exact h
      obtain ⟨x0, x1⟩ := (hP.on hw) i hlt
      have zb : b < wr.heap.size := World.block_lt_of_cell? _ _ x0
      obtain ⟨_, o1, o2⟩ := HO.out i hlt
      have wn : IntKind.i64.wrap (-(f i).2) = -(f i).2 := IntWalk.i64_in _ (by omega)
      have HB : Hid (∀ j, u3.ownBlock = some j → w.heap.size ≤ j) := fun j hj => (hown.lt j hj).1
      have HL : Hid (pcs (lst (fun j => flp (f j)) (i + 1)) = pcs (lst (fun j => flp (f j)) i) ++ [.int .i64 (f i).1, .int .i64 (-(f i).2)]) := by show pcs _ = _; rw [lst_snoc, pcs_app]; rfl
      have HWN : Hid (wr.ownsRow w.heap.size 33 2 u3 i (pcs (lst (fun j => flp (f j)) i))) := hown
      clear hw hP HO HP hown o1 o2
      generalize (f i).1 = px at *
      generalize (f i).2 = py at *
      go_wp2
      go_region_law (refine step_append_own rfl (.tmp 11) (.tmp 24) 22 rfl w.heap.size 33 i0 (.agg #[.int .i64 0, .int .i64 0]) 2 16 Tryd.underlying22 hi0 hz0 hz1 hz2 rfl (by decide) u3 i _ (by simp [Act.eval, Act.put]) (HWN.out.alloc _) ⟨wr.heap.size, 0, none⟩ 1 1 [.int .i64 px, .int .i64 (-py)] (by simp [Act.eval, Act.put]) rfl (fun j u hj => by rw [Addr.add_lit]; exact (Row.made (W := wr) (vs := [.int .i64 px, .int .i64 (-py)]) rfl).c _ _ (by simpa using hj)) (fun u hu => by simp at hu; rcases hu with rfl | rfl <;> rfl) (by unfold maxLen; omega) (by omega) (by simp; omega) ?_; intro v' w1 hown1 hgrow1)
      all_goals
        have ho1 : Hid (w1.ownsRow w.heap.size 33 2 v' (i + 1) (pcs (lst (fun j => flp (f j)) (i + 1)))) := by
          show w1.ownsRow w.heap.size 33 2 v' (i + 1) (pcs (lst (fun j => flp (f j)) (i + 1)))
          rw [HL.out]
          exact hown1
        have hw1 : Hid (Below w.heap.size w w1) := by
          first
            | exact (rbel_al HW.out).grown hgrow1 (by simp; omega) HB.out
            | exact (rbel_dr (rbel_al HW.out)).grown hgrow1 (by simp; omega) HB.out
            | exact (rbel_al (rbel_dr HW.out)).grown hgrow1 (by simp; omega) HB.out
        clear hown1 hgrow1 HWN HB HL HW
        go_wp2
        go_roundw
        case rel => exact ⟨i + 1, by omega, by go_num, ho1.out, hw1.out⟩
        case measure => simp [intOf]; omega
    · have hl3 : ¬ ((i : Int) < n) := by omega
      have e : i = n := by omega
      subst e
      obtain ⟨a, cap', rfl, hH, _⟩ := own_points hown (by rw [lst_len]) (by omega)
      have HH : Hid (PHanded wr a i (fun j => flp (f j))) := hH.same (fun j hj => rowL_lst _ i j hj)
      clear hown hw hH HP HO
      go_wp2
      go_ret
      exact ⟨a, cap', rfl, HH.out, HW.out⟩
end Go.Proofs.YtcofpgbaokmbmafDoor
