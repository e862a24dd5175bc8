/- What hull.heightUp answers: how high the line along corners is, rounded up. -/
import Derived.Test.YtcofpgbaokmbmafDoorHullTrn
namespace Go.Proofs.YtcofpgbaokmbmafDoor
open Go.ChangeShapes Go.WideShapes Go.ChangeAt Go.RowKit Go.Joins
set_option linter.unusedVariables false
set_option linter.unusedSimpArgs false

/-- Where x lies among corners: at one, or between two. -/
theorem hgt_where {l : List (Int × Int)} {c : Nat → Int × Int} {k : Nat} {x v r : Int} (hU : Up l (lst c k)) (hw : Within l x) (hv : OvV l x v) (hr : Fst (fun i => decide (x ≤ (c i).1)) k r) :
    ∃ K : Nat, K < k ∧ r = K ∧ ((((c K).1 = x) ∧ v = (c K).2) ∨ (0 < K ∧ (c K).1 ≠ x ∧ (c (K - 1)).1 < x ∧ x < (c K).1 ∧ v = (c (K - 1)).2 + divUp (((c K).2 - (c (K - 1)).2) * (x - (c (K - 1)).1)) ((c K).1 - (c (K - 1)).1))) := by
  have ne : l ≠ [] := fun e => by obtain ⟨⟨a, ha, _⟩, _⟩ := hw; rw [e] at ha; cases ha
  obtain ⟨a, ha, ma⟩ := hU.some ne
  obtain ⟨b, hb, mb⟩ := hU.last ne
  rw [lst_len] at hb
  have kp : 0 < k := by
    have := (List.getElem?_eq_some_iff.1 ha).1
    rw [lst_len] at this
    exact this
  rw [lst_at c k 0 kp] at ha
  rw [lst_at c k (k - 1) (by omega)] at hb
  have ea := Option.some.inj ha
  have eb := Option.some.inj hb
  obtain ⟨⟨p, hp, p1⟩, q, hq, q1⟩ := hw
  have fa := ma p hp
  have fb := mb q hq
  rcases hr with ⟨K, hK, rK, pK, no⟩ | ⟨_, no⟩
  · refine ⟨K, hK, rK, ?_⟩
    have xK : x ≤ (c K).1 := of_decide_eq_true pK
    have hcK : (lst c k)[K]? = some (c K) := lst_at c k K hK
    by_cases e : (c K).1 = x
    · exact Or.inl ⟨e, hv.one (ov_corner (hU.cor hcK) e)⟩
    · have K0 : 0 < K := by
        apply Classical.byContradiction
        intro n
        have : K = 0 := by omega
        subst this
        rw [← ea] at fa
        omega
      have lt := of_decide_eq_false (no (K - 1) (by omega))
      have hcJ : (lst c k)[K - 1]? = some (c (K - 1)) := lst_at c k (K - 1) (by omega)
      have d0 : 0 < (c K).1 - (c (K - 1)).1 := by omega
      obtain ⟨k1, k2⟩ := divUp_is (((c K).2 - (c (K - 1)).2) * (x - (c (K - 1)).1)) ((c K).1 - (c (K - 1)).1) d0
      refine Or.inr ⟨K0, e, by omega, by omega, hv.one (hU.between (i := K - 1) hcJ (by rw [show K - 1 + 1 = K by omega]; exact hcK) (by omega) (by omega) k1 k2)⟩
  · have := of_decide_eq_false (no (k - 1) (by omega))
    rw [eb] at this
    omega
set_option maxRecDepth 100000 in
set_option maxHeartbeats 4000000 in
theorem heightUp_any (ca : Option Addr) (k cc : Nat) (c : Nat → Int × Int) (l : List (Int × Int)) (x v : Int) (w : World) (hP : PHanded w ca k c) (hU : Up l (lst c k)) (hok : ∀ i, i < k → okP (c i)) (hw : Within l x) (hv : OvV l x v) :
    Calls Tryd.prog 24 #[.slice ca k cc, .int .i64 x] w fun o w' => o = .returned (.int .i64 v) ∧ Below w.heap.size w w' := by
  have kk : k ≤ 9223372036854775807 := hP.1
  have RX : Hid (Row (w.alloc (.cells #[.int .i64 x] 3)) w.heap.size [.int .i64 x]) := Row.made (vs := [.int .i64 x]) rfl
  have HBX : Hid (Below w.heap.size w (w.alloc (.cells #[.int .i64 x] 3))) := rbel_al (Below.refl _ _)
  have cI := idx_hgt ca k cc (.pointer (some ⟨w.heap.size, 0, none⟩)) c (fun i => decide (x ≤ (c i).1)) (w.alloc (.cells #[.int .i64 x] 3)) (hP.on HBX.out) (fun i u2 hi hb2 => hgt1_any (c i).1 (c i).2 x w.heap.size u2 ((Row.on hb2 RX.out).c 0 _ rfl))
  have HWh : Hid (∀ r, Fst (fun i => decide (x ≤ (c i).1)) k r → ∃ K : Nat, K < k ∧ r = K ∧ ((((c K).1 = x) ∧ v = (c K).2) ∨ (0 < K ∧ (c K).1 ≠ x ∧ (c (K - 1)).1 < x ∧ x < (c K).1 ∧ v = (c (K - 1)).2 + divUp (((c K).2 - (c (K - 1)).2) * (x - (c (K - 1)).1)) ((c K).1 - (c (K - 1)).1)))) := fun r hr => hgt_where hU hw hv hr
  have HP : Hid (PHanded w ca k c) := hP
  have HOk : Hid (∀ i, i < k → okP (c i)) := hok
  clear hU hw hv hok hP
  go_enter Tryd.func24, Tryd.ntmps24
  go_upto_region 2 with (go_at_call 26; refine cI.mono ?_; rintro e u0 ⟨r, rfl, hr, hb⟩; obtain ⟨K, hK, rfl, hcase⟩ := HWh.out r hr; have HB : Hid (Below w.heap.size w u0) := rbel_on hb HBX.out; have RX0 : Hid (Row u0 w.heap.size [.int .i64 x]) := Row.on hb RX.out; have HCs : Hid (((c K).1 = x ∧ v = (c K).2) ∨ (0 < K ∧ (c K).1 ≠ x ∧ (c (K - 1)).1 < x ∧ x < (c K).1 ∧ v = (c (K - 1)).2 + divUp (((c K).2 - (c (K - 1)).2) * (x - (c (K - 1)).1)) ((c K).1 - (c (K - 1)).1))) := hcase; clear hb hr hcase)
  obtain ⟨b, off, rfl, hPl⟩ : ∃ b off : Nat, ca = some ⟨b, off, none⟩ ∧ Pls u0 b off k c := by
    rcases (HP.out.on HB.out).2 with e | h
    · omega
    · exact h
  have kl : (K : Int) < k := by omega
  obtain ⟨x0, x1⟩ := hPl K hK
  have bl : b < u0.heap.size := World.block_lt_of_cell? _ _ x0
  have nb : ¬ (b = u0.heap.size) := by omega
  have r0 := RX0.out.c 0 _ rfl
  have wl : w.heap.size < u0.heap.size := World.block_lt_of_cell? _ _ r0
  have nw : ¬ (w.heap.size = u0.heap.size) := by omega
  have HPl : Hid (Pls u0 b off k c) := hPl
  clear hPl cI HWh HP
  rcases HCs.out with ⟨e1, e2⟩ | ⟨K0, e1, e3, e4, e2⟩
  · rw [e1] at x0
    rw [← e2] at x1
    clear HCs e1 e2 HOk
    go_wp2
    go_ret
    exact ⟨rfl, rbel_al HB.out⟩
  · obtain ⟨J, hJ⟩ : ∃ J, J = K - 1 := ⟨_, rfl⟩
    rw [← hJ] at e3 e2
    obtain ⟨y0, y1⟩ := HPl.out J (by omega)
    obtain ⟨⟨o1, o2⟩, o3, o4⟩ := HOk.out K hK
    obtain ⟨⟨o5, o6⟩, o7, o8⟩ := HOk.out J (by omega)
    have wk : IntKind.i64.wrap ((K : Int) - 1) = (J : Int) := by rw [show (K : Int) - 1 = (J : Int) by omega]; exact IntWalk.i64_in _ (by omega)
    have jl : (J : Int) < k := by omega
    have jl' : J < k := by omega
    obtain ⟨m1, m2⟩ := mul_in (u := (c K).2 - (c J).2) (v := x - (c J).1) (by omega) (by omega) (by omega) (by omega)
    have HD : Hid (-1000000 ≤ (c J).2 ∧ (c J).2 ≤ 1000000) := ⟨o7, o8⟩
    have w1 : IntKind.i64.wrap ((c K).2 - (c J).2) = (c K).2 - (c J).2 := IntWalk.i64_in _ (by omega)
    have w2 : IntKind.i64.wrap (x - (c J).1) = x - (c J).1 := IntWalk.i64_in _ (by omega)
    have w4 : IntKind.i64.wrap ((c K).1 - (c J).1) = (c K).1 - (c J).1 := IntWalk.i64_in _ (by omega)
    obtain ⟨N, hN⟩ : ∃ N, N = ((c K).2 - (c J).2) * (x - (c J).1) := ⟨_, rfl⟩
    have w3 : IntKind.i64.wrap (((c K).2 - (c J).2) * (x - (c J).1)) = N := by rw [hN]; exact IntWalk.i64_in _ (by omega)
    have cD := fun u => divideUp_any N ((c K).1 - (c J).1) u (by omega) (by rw [hN]; exact ⟨m1, m2⟩)
    rw [← hN] at e2
    have db : -4000000000001 ≤ divUp N ((c K).1 - (c J).1) ∧ divUp N ((c K).1 - (c J).1) ≤ 4000000000001 := by
      have t := tdiv_in N ((c K).1 - (c J).1) (by omega) (by rw [hN]; exact ⟨m1, m2⟩)
      unfold divUp
      split <;> omega
    have w5 : IntKind.i64.wrap ((c J).2 + divUp N ((c K).1 - (c J).1)) = v := by rw [e2]; exact IntWalk.i64_in _ (by omega)
    have ne1 : ¬ ((c K).1 = x) := e1
    have nb2 : ¬ (b = u0.heap.size + 1) := by omega
    have nw2 : ¬ (w.heap.size = u0.heap.size + 1) := by omega
    have nu : ¬ (u0.heap.size = u0.heap.size + 1) := by omega
    clear HCs e1 e2 HOk hJ m1 m2 hN db o1 o2 o3 o4 o5 o6 o7 o8 e3 e4 HPl K0
    generalize divUp N ((c K).1 - (c J).1) = D at *
    generalize (c K).1 = kx at *
    generalize (c K).2 = ky at *
    generalize (c J).1 = jx at *
    generalize (c J).2 = jy at *
    go_wp2
    go_quiet (first | (go_at_call 32; refine Calls.quiet_of_same (cD _)))
    go_wp2
    go_ret
    exact ⟨rfl, rbel_drn (rbel_al (rbel_al HB.out))⟩
end Go.Proofs.YtcofpgbaokmbmafDoor
