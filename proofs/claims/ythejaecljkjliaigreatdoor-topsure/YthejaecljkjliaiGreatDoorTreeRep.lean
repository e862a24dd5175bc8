/- slices.Repeat of one number. -/
import Derived.Test.YthejaecljkjliaiGreatDoorNm12
import Derived.Laws.CopyOwn
namespace Go.Proofs.YthejaecljkjliaiGreatDoor
open Go.ChangeShapes Go.WideShapes Go.ChangeAt Go.RowKit Go.Joins
set_option linter.unusedVariables false
set_option linter.unusedSimpArgs false

theorem fiR_splice (n k c : Nat) (h : k + c ≤ n) : splice (fiR n k) k (List.replicate c (.int .i64 (-1))) = fiR n (k + c) := by
  symm
  refine map_range_ext (fun j hj => ?_) (by rw [length_splice _ _ _ (by simp [fiR]; omega)]; simp [fiR])
  unfold splice
  rw [List.length_replicate]
  by_cases c1 : j < k
  · rw [List.getElem?_append_left (by simp [fiR]; omega), List.getElem?_take, if_pos c1, if_pos (by omega)]
    simp [fiR, hj, c1]
  · rw [List.getElem?_append_right (by simp [fiR]; omega)]
    have e : (List.take k (fiR n k)).length = k := by simp [fiR]; omega
    rw [e]
    by_cases c2 : j < k + c
    · rw [List.getElem?_append_left (by simp; omega), if_pos c2]
      rw [List.getElem?_replicate, if_pos (by omega)]
    · rw [List.getElem?_append_right (by simp; omega), if_neg c2, List.length_replicate, List.getElem?_drop, show k + c + (j - k - c) = j by omega]
      simp [fiR, hj, c1]
theorem fiR_cs {n k c j : Nat} {v : Value} (ck : c ≤ k) (kn : k ≤ n) (hv : (List.replicate c (Value.int .i64 (-1)))[j]? = some v) : (fiR n k)[j]? = some v := by
  rw [List.getElem?_replicate] at hv
  by_cases h : j < c
  · rw [if_pos h] at hv
    rw [← hv]
    simp [fiR, show j < n by omega, show j < k by omega]
  · rw [if_neg h] at hv; cases hv
set_option maxRecDepth 100000 in
set_option maxHeartbeats 4000000 in
theorem repeat_any (n g : Nat) (w : World) (h1 : 1 ≤ n) (h6 : n ≤ 6) (hc : w.cell? ⟨g, 0, none⟩ = some (.int .i64 (-1))) :
    Calls Tryz.prog 77 #[.slice (some ⟨g, 0, none⟩) 1 1, .int .i64 n] w fun e w' => e = .returned (.slice (some ⟨w.heap.size, 0, none⟩) n n) ∧ Blk w' 3 w.heap.size (fiR n n) ∧ Below w.heap.size w w' := by
  have cM := mul_any n h6 w
  have m1 := tmk_ints n h6
  have g0 : g < w.heap.size := World.block_lt_of_cell? _ _ hc
  have u1 : IntKind.u64.wrap (n : Int) = (n : Int) := by show (n : Int) % 18446744073709551616 = _; omega
  have hn0 : ¬ ((n : Int) < 0) := by omega
  have sz : (Tryz.prog.info? 3).map (·.size) = some 1 := by kernel_rfl
  have HC : Hid (w.cell? ⟨g, 0, none⟩ = some (.int .i64 (-1))) := hc
  clear hc
  go_enter Tryz.func77, Tryz.ntmps77
  go_wp2_with (first
    | (go_at_call 110; refine cM.mono ?_; rintro e u0 ⟨rfl, hu⟩; rw [hu]; clear hu)
    | (refine wpList_copy_splice (o := ⟨some 33, _, _, _, _, _⟩) rfl (.tmp 31) (.tmp 32) 22 22 rfl 3 Tryz.underlying22 sz (some ⟨w.heap.size, 0, none⟩) (some ⟨g, 0, none⟩) n n 1 1 rfl rfl w.heap.size 0 (fiR n 0) 3 ?a1 [.int .i64 (-1)] ?a2 ?a3 ?a4 ?a5 w.heap.size w (rbel_al (Below.refl _ _)) (Nat.le_refl _) ?_))
  case a1 =>
    rw [fiR_zero, show (List.replicate n (Value.int .i64 0)).toArray = Array.replicate n (Value.int .i64 0) by simp]
    show (w.heap.push _)[w.heap.size]? = _
    simp
  case a2 => show 1 = Nat.min 1 n; exact (Nat.min_eq_left h1).symm
  case a3 =>
    intro j v hv
    cases j with
    | zero =>
      obtain rfl := Option.some.inj hv
      exact HC.out
    | succ j => simp at hv
  case a4 => simp [fiR]; omega
  case a5 =>
    intro v hv
    simp at hv
    subst hv
    rfl
  intro w1 hg1 hb1
  have HG1 : Hid (Blk w1 3 w.heap.size (fiR n 1)) := by
    show Blk w1 3 w.heap.size (fiR n 1)
    have := hg1.out
    rw [show ([Value.int .i64 (-1)] : List Value) = List.replicate 1 (.int .i64 (-1)) from rfl, fiR_splice n 0 1 (by omega)] at this
    exact this
  have HB1 : Hid (Below w.heap.size w w1) := hb1
  clear hg1 hb1 cM m1
  go_wp2
  go_loopw [8] (fun vk wr => ∃ k : Nat, 1 ≤ k ∧ k ≤ n ∧ vk = .int .i64 k ∧ Blk wr 3 w.heap.size (fiR n k) ∧ Below w.heap.size w wr) (fun vk _ => n - (intOf vk).toNat)
  case atStart => exact ⟨1, by omega, h1, rfl, HG1.out, HB1.out⟩
  case round =>
    clear HG1 HB1
    obtain ⟨k, k1, kn, rfl, hB, hw⟩ := hrel
    have HW : Hid (Below w.heap.size w wr) := hw
    have HB : Hid (Blk wr 3 w.heap.size (fiR n k)) := hB
    clear hw hB
    by_cases hlt : k < n
    · have hl3 : (k : Int) < n := by omega
      have hne : ¬ (k = n) := by omega
      have hne2 : ¬ (n = k) := by omega
      have k0 : (0 : Int) ≤ k := by omega
      have kz : ¬ ((k : Int) < 0) := by omega
      have hle : ¬ ((n : Int) < k) := by omega
      obtain ⟨c, hc⟩ : ∃ c : Nat, c = Nat.min k (n - k) := ⟨_, rfl⟩
      have c0 : 0 < c := by rw [hc]; show 0 < min k (n - k); omega
      have ck : k + c ≤ n := by rw [hc]; show k + min k (n - k) ≤ n; omega
      have ck2 : c ≤ k := by rw [hc]; show min k (n - k) ≤ k; omega
      have HCC : Hid (c = Nat.min k (n - k)) := hc
      have wk : IntKind.i64.wrap ((k : Int) + c) = (k : Int) + c := IntWalk.i64_in _ (by omega)
      clear hc
      go_wp2
      go_region_law (refine step_copy_splice rfl (.tmp 41) (.tmp 44) 22 22 rfl 3 Tryz.underlying22 sz (some ⟨w.heap.size, k, none⟩) (some ⟨w.heap.size, 0, none⟩) (n - k) (n - k) k n (by simp [Act.eval, Act.put]) (by simp [Act.eval, Act.put]) w.heap.size k (fiR n k) 3 HB.out.dr (List.replicate c (.int .i64 (-1))) (by rw [List.length_replicate]; exact HCC.out) (fun _ => ⟨rfl, _, rfl, fun j v hv => by rw [Addr.add_lit, Nat.zero_add]; exact (HB.out.dr).c j v (fiR_cs ck2 kn hv)⟩) (by rw [List.length_replicate]; simp [fiR]; omega) (fun v hv => by rw [(List.mem_replicate.1 hv).2]; rfl) w.heap.size w (rbel_dr HW.out) (Nat.le_refl _) ?_; intro w2 hg2 hb2)
      have HG2 : Hid (Blk w2 3 w.heap.size (fiR n (k + c))) := by
        show Blk w2 3 w.heap.size (fiR n (k + c))
        rw [← fiR_splice n k c ck]
        exact hg2.out
      have HB2 : Hid (Below w.heap.size w w2) := hb2
      clear hg2 hb2
      simp [Act.put]
      go_wp2
      go_roundw
      case rel => exact ⟨k + c, by omega, ck, by go_num, HG2.out, HB2.out⟩
      case measure => simp [intOf]; omega
    · have hl3 : ¬ ((k : Int) < n) := by omega
      have e : k = n := by omega
      rw [e] at HB
      clear e
      go_wp2
      go_ret
      exact ⟨rfl, HB.out, HW.out⟩
end Go.Proofs.YthejaecljkjliaiGreatDoor
