/- What the document's own reckoning (package noonref1) answers of what is over a hull: Over. -/
import Derived.Test.YtcofpgbaokmbmafDoorHullRefA
namespace Go.Proofs.YtcofpgbaokmbmafDoor
open Go.ChangeShapes Go.WideShapes Go.ChangeAt Go.RowKit Go.Joins
set_option linter.unusedVariables false
set_option linter.unusedSimpArgs false

def OvR (l : List (Int × Int)) (x : Int) (w : World) (o : Ending) (w' : World) : Prop := ∃ v, o = .returned (.int .i64 v) ∧ OvV l x v ∧ Below w.heap.size w w'
set_option maxRecDepth 100000 in
set_option maxHeartbeats 8000000 in
theorem rover_any (l : List (Int × Int)) (b off k cap : Nat) (c : Nat → Int × Int) (x : Int) (w : World) (k0 : 0 < k) (k60 : k ≤ 60) (hP : Pls w b off k c) (hU : Up l (lst c k)) (hok : ∀ i, i < k → okP (c i)) (hW : Within l x) :
    Calls Tryd.prog 13 #[.slice (some ⟨b, off, none⟩) k cap, .int .i64 x] w fun o w' => OvR l x w o w' := by
  have HP : Hid (Pls w b off k c) := hP
  have HU : Hid (Up l (lst c k)) := hU
  have HO : Hid (∀ i, i < k → okP (c i)) := hok
  have HWi : Hid (Within l x) := hW
  have e1 : (lst c k)[(lst c k).length - 1]? = some (c (k - 1)) := by rw [lst_len]; exact lst_at c k (k - 1) (by omega)
  have ends := (hU.within (lst_at c k 0 k0) e1).1 hW
  have HEn : Hid ((c 0).1 ≤ x ∧ x ≤ (c (k - 1)).1) := ends
  have o0 := hok 0 k0
  have o1 := hok (k - 1) (by omega)
  have xb : -1000000 ≤ x ∧ x ≤ 1000000 := by
    have := o0.1.1
    have := o1.1.2
    omega
  clear hP hU hok hW e1 ends o0 o1
  go_enter Tryd.func13, Tryd.ntmps13
  go_wp2
  go_loopw [5] (fun vi wr => ∃ i : Nat, i < k ∧ vi = .int .i64 i ∧ (i = 0 ∨ (c i).1 < x) ∧ Below w.heap.size w wr) (fun i _ => k - (intOf i).toNat)
  case atStart => exact ⟨0, k0, rfl, Or.inl rfl, Below.refl _ _⟩
  case round =>
    obtain ⟨i, hi, rfl, hx, hw⟩ := hrel
    have HW : Hid (Below w.heap.size w wr) := hw
    have wi : IntKind.i64.wrap ((i : Int) + 1) = ((i + 1 : Nat) : Int) := by rw [show (i : Int) + 1 = ((i + 1 : Nat) : Int) by omega]; exact IntWalk.i64_in _ (by omega)
    by_cases hlt : i + 1 < k
    · have hl3 : ((i + 1 : Nat) : Int) < k := by omega
      have hl4 : (i : Int) < k := by omega
      obtain ⟨x0, x1⟩ := (HP.out.on hw) i hi
      obtain ⟨y0, y1⟩ := (HP.out.on hw) (i + 1) hlt
      have zb : b < wr.heap.size := World.block_lt_of_cell? _ _ x0
      have hxa : (c i).1 ≤ x := by
        rcases hx with e | h
        · rw [e]; exact HEn.out.1
        · omega
      by_cases cx : (c (i + 1)).1 < x
      · have HX : Hid ((c (i + 1)).1 < x) := cx
        clear hw hx HP HO HU HWi HEn hxa
        generalize (c (i + 1)).2 = by' at *
        generalize (c i).1 = ax at *
        generalize (c i).2 = ay at *
        as_aux_lemma =>
          go_wp2
          go_roundw
          case rel => exact ⟨i + 1, by omega, by go_num, Or.inr HX.out, rbel_al (rbel_al HW.out)⟩
          case measure => simp [intOf]; omega
      · obtain ⟨⟨a1, a2⟩, a3, a4⟩ := HO.out i hi
        obtain ⟨⟨b1, b2⟩, b3, b4⟩ := HO.out (i + 1) hlt
        have rise := HU.out.rise (lst_at c k i hi) (lst_at c k (i + 1) hlt) (by omega)
        obtain ⟨W, hWd⟩ : ∃ u, u = (c (i + 1)).1 - (c i).1 := ⟨_, rfl⟩
        obtain ⟨u1, hu1⟩ : ∃ u, u = (c (i + 1)).2 - (c i).2 := ⟨_, rfl⟩
        obtain ⟨u2, hu2⟩ : ∃ u, u = x - (c i).1 := ⟨_, rfl⟩
        have w1 : IntKind.i64.wrap ((c (i + 1)).1 - (c i).1) = W := by rw [hWd]; exact IntWalk.i64_in _ (by omega)
        have w2 : IntKind.i64.wrap ((c (i + 1)).2 - (c i).2) = u1 := by rw [hu1]; exact IntWalk.i64_in _ (by omega)
        have w3 : IntKind.i64.wrap (x - (c i).1) = u2 := by rw [hu2]; exact IntWalk.i64_in _ (by omega)
        have m1 := mul_in (u := u1) (v := u2) (by omega) (by omega) (by omega) (by omega)
        obtain ⟨N, hN⟩ : ∃ u, u = u1 * u2 := ⟨_, rfl⟩
        have w4 : IntKind.i64.wrap (u1 * u2) = N := by rw [hN]; exact IntWalk.i64_in _ (by omega)
        rw [← hN] at m1
        have W0 : 0 < W := by omega
        have W2 : W ≤ 2000000 := by omega
        have Wne : ¬ (W = 0) := by omega
        have t1 := tdiv_low N W W0
        have t2 := tdiv_in N W W0 m1
        have t3 : N - W ≤ N.tdiv W * W := by
          have d := Int.tdiv_mul_add_tmod N W
          have r := Int.tmod_lt_of_pos N W0
          omega
        obtain ⟨K0, hK0⟩ : ∃ u, u = N.tdiv W := ⟨_, rfl⟩
        have w5 : IntKind.i64.wrap (N.tdiv W) = K0 := by rw [hK0]; exact IntWalk.i64_in _ (by omega)
        rw [← hK0] at t1 t2 t3
        have HOv : Hid (∀ K, N ≤ K * W → (K - 1) * W < N → OvV l x ((c i).2 + K)) := fun K g1 g2 => HU.out.between (lst_at c k i hi) (lst_at c k (i + 1) hlt) hxa (by omega) (by rw [← hu1, ← hu2, ← hN, ← hWd]; exact g1) (by rw [← hu1, ← hu2, ← hN, ← hWd]; exact g2)
        clear hw hx HP HO HU HWi HEn hxa b1 b2 b3 b4 a1 a2 rise hWd hu1 hu2 hN hK0
        generalize (c (i + 1)).1 = bx at *
        generalize (c (i + 1)).2 = by' at *
        generalize (c i).1 = ax at *
        obtain ⟨ay, hay⟩ : ∃ u, u = (c i).2 := ⟨_, rfl⟩
        rw [← hay] at x1 a3 a4 HOv w2
        clear hay
        obtain ⟨A0, hA0⟩ : ∃ A0, A0 = wr.heap.size := ⟨_, rfl⟩
        go_wp2
        go_loopw [10] (fun v wr' => ∃ K : Int, v = .int .i64 K ∧ (K - 1) * W < N ∧ N - W ≤ K * W ∧ -4000000000000 ≤ K ∧ K ≤ 4000000000001 ∧ Row wr' A0 [.int .i64 ax, .int .i64 ay] ∧ Below w.heap.size w wr') (fun v _ => (N - intOf v * W).toNat)
        case atStart => exact ⟨K0, rfl, t1, t3, t2.1, by omega, Row.al (Row.made hA0), rbel_al (rbel_al HW.out)⟩
        case round =>
          clear x0 x1 y0 y1 zb t1 t2 t3 HW w1 w2 w3 w4 w5 cx
          obtain ⟨K, rfl, g1, g2, g3, g4, hR, hw⟩ := hrel
          have HW : Hid (Below w.heap.size w wr) := hw
          have HR : Hid (Row wr A0 [.int .i64 ax, .int .i64 ay]) := hR
          have r1 := hR.c 1 _ rfl
          rw [hA0] at r1
          have wm : IntKind.i64.wrap (K * W) = K * W := by
            have e : (K - 1) * W = K * W - W := by grind
            exact IntWalk.i64_in _ (by omega)
          by_cases lt : K * W < N
          · have kb : K ≤ 4000000000000 := by
              apply Classical.byContradiction
              intro n
              have : K * 1 ≤ K * W := Int.mul_le_mul_of_nonneg_left (by omega) (by omega)
              omega
            have wk : IntKind.i64.wrap (K + 1) = K + 1 := IntWalk.i64_in _ (by omega)
            have e1 : (K + 1) * W = K * W + W := by grind
            have H1 : Hid ((K + 1 - 1) * W < N ∧ N - W ≤ (K + 1) * W) := ⟨by rw [show K + 1 - 1 = K by omega]; exact lt, by rw [e1]; omega⟩
            have HM : Hid ((N - (K + 1) * W).toNat < (N - K * W).toNat) := by show _ < _; rw [e1]; omega
            clear hR hw g1 g2 e1
            go_wp2
            go_roundw
            case rel => exact ⟨K + 1, rfl, H1.out.1, H1.out.2, by omega, by omega, HR.out, HW.out⟩
            case measure =>
              have e1 : (K + 1) * W = K * W + W := by grind
              simp [intOf]
              rw [e1]
              omega
          · have HV : Hid (OvV l x (ay + K)) := HOv.out K (by omega) g1
            have wy : IntKind.i64.wrap (ay + K) = ay + K := IntWalk.i64_in _ (by omega)
            clear hR hw g1 g2 HOv
            go_wp2
            go_ret
            exact ⟨_, rfl, HV.out, HW.out⟩
    · have hl3 : ¬ (((i + 1 : Nat) : Int) < k) := by omega
      have ei : i = k - 1 := by omega
      have hi0 : i = 0 := by
        rcases hx with e | h
        · exact e
        · rw [ei] at h
          have := HEn.out.2
          omega
      have hk1 : k = 1 := by omega
      obtain ⟨x0, x1⟩ := (HP.out.on hw) 0 k0
      have x1' : wr.cell? ⟨b, off + 1, none⟩ = some (.int .i64 (c 0).2) := by simpa using x1
      have HS : Hid (OvV l x (c 0).2) := HU.out.single (lst_at c k 0 k0) (by rw [lst_len]; exact hk1) HWi.out
      have k3 : (0 : Int) < k := by omega
      clear hw hx HP HO HU HWi HEn ei hk1 x0 x1
      subst hi0
      generalize (c 0).2 = y at *
      go_wp2
      go_ret
      exact ⟨_, rfl, HS.out, HW.out⟩
end Go.Proofs.YtcofpgbaokmbmafDoor
