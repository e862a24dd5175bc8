/- Package hull answers as the document says: Upper, Over, Under. -/
import Derived.Test.YtcofpgbaokmbmafDoorHullHgt
import Derived.Test.YtcofpgbaokmbmafDoorHullDefC
namespace Go.Proofs.YtcofpgbaokmbmafDoor
open Go.ChangeShapes Go.WideShapes Go.ChangeAt Go.RowKit Go.Joins
set_option linter.unusedVariables false
set_option linter.unusedSimpArgs false

theorem ptE_of {n : Nat} {f : Nat → Int × Int} {e : Int} (h : PtE n f e) (ne : e ≠ 0) : errc e = .iface 39 (.int .i64 e) := by
  rcases ptE_not ne h with rfl | rfl
  · exact errc_four
  · exact errc_one
set_option maxHeartbeats 1000000 in
theorem upper_any (a : Option Addr) (n cap : Nat) (f : Nat → Int × Int) (e : Int) (u : World) (hH : PHanded u a n f) (hE : PtE n f e) : Calls Tryd.prog 10 #[.slice a n cap] u fun o w' => ∃ (ca : Option Addr) (k cc : Nat) (c : Nat → Int × Int), o = .returned (.tuple #[.slice ca k cc, errc e]) ∧ PHanded w' ca k c ∧ (e ≠ 0 → k = 0) ∧ (e = 0 → Up (lst f n) (lst c k)) ∧ Below u.heap.size u w' := by
  have cK := check_any a n cap f e u hH hE
  by_cases ne : e = 0
  · subst ne
    obtain ⟨h60, hok⟩ := hE.zero
    have cC : Hid (∀ u', Below u.heap.size u u' → Calls Tryd.prog 21 #[.slice a n cap] u' fun o w' => CrR f n u' o w') := fun u' hb => corners_any a n cap f u' h60 (hH.on hb) hok
    rw [errc_nil] at cK ⊢
    clear hH hE hok
    go_enter Tryd.func10, Tryd.ntmps10
    go_wp2_with (first
      | (go_at_call 7; refine cK.mono ?_; rintro e u0 ⟨rfl, hb⟩; have HB : Hid (Below u.heap.size u u0) := hb; clear hb)
      | (go_at_call 21; refine (cC.out _ HB.out).mono ?_; rintro e u1 ⟨ca, k, cc, c, rfl, hP, hU, _, _, hb⟩; have HR : Hid (PHanded u1 ca k c ∧ Up (lst f n) (lst c k) ∧ Below u.heap.size u u1) := ⟨hP, hU, rbel_on hb HB.out⟩; clear hP hU hb))
    exact bodyPost_ret (v := _) (by simp [results, Tryd.results10, go_sem, *]) rfl ⟨ca, k, cc, c, rfl, HR.out.1, fun h => absurd rfl h, fun _ => HR.out.2.1, HR.out.2.2⟩
  · have q := ptE_of hE ne
    have HE : Hid (e ≠ 0) := ne
    rw [q] at cK ⊢
    clear hH hE q ne
    go_enter Tryd.func10, Tryd.ntmps10
    go_wp2_with (go_at_call 7; refine cK.mono ?_; rintro e' u0 ⟨rfl, hb⟩; have HB : Hid (Below u.heap.size u u0) := hb; clear hb)
    exact bodyPost_ret (v := _) (by simp [results, Tryd.results10, go_sem, *]) rfl ⟨none, 0, 0, f, rfl, ⟨by omega, Or.inl rfl⟩, fun _ => rfl, fun h => absurd h HE.out, HB.out⟩
theorem atE_of {n : Nat} {f : Nat → Int × Int} {x e : Int} (h : AtE n f x e) (ne : e ≠ 0) : errc e = .iface 39 (.int .i64 e) := by
  rcases h with ⟨h, _⟩ | ⟨_, _, rfl⟩ | ⟨_, _, _, rfl⟩ | ⟨_, _, rfl⟩
  · exact ptE_of h ne
  · rfl
  · rfl
  · exact absurd rfl ne
set_option maxHeartbeats 1000000 in
theorem over_any (a : Option Addr) (n cap : Nat) (f : Nat → Int × Int) (x v e : Int) (u : World) (hH : PHanded u a n f) (hE : AtE n f x e) (hv0 : e ≠ 0 → v = 0) (hv : e = 0 → OvV (lst f n) x v) : Calls Tryd.prog 14 #[.slice a n cap, .int .i64 x] u fun o w' => o = .returned (.tuple #[.int .i64 v, errc e]) ∧ Below u.heap.size u w' := by
  have cK := checkAt_any a n cap f x e u hH hE
  by_cases ne : e = 0
  · subst ne
    obtain ⟨hz, hw⟩ : PtE n f 0 ∧ Within (lst f n) x := by
      rcases hE with ⟨_, h⟩ | ⟨_, _, h⟩ | ⟨_, _, _, h⟩ | ⟨h1, h2, _⟩
      · exact absurd rfl h
      · cases h
      · cases h
      · exact ⟨h1, h2⟩
    obtain ⟨h60, hok⟩ := hz.zero
    have cC : Hid (∀ u', Below u.heap.size u u' → Calls Tryd.prog 21 #[.slice a n cap] u' fun o w' => CrR f n u' o w') := fun u' hb => corners_any a n cap f u' h60 (hH.on hb) hok
    have cG : Hid (∀ ca k cc c u', PHanded u' ca k c → Up (lst f n) (lst c k) → Calls Tryd.prog 24 #[.slice ca k cc, .int .i64 x] u' fun o w' => o = .returned (.int .i64 v) ∧ Below u'.heap.size u' w') := fun ca k cc c u' hP hU => heightUp_any ca k cc c (lst f n) x v u' hP hU (fun i hi => by
      obtain ⟨j, hj, e⟩ := mem_lst.1 ((hU.2 (c i)).1 (lst_in hi)).1
      rw [← e]
      exact hok j hj) hw (hv rfl)
    rw [errc_nil] at cK ⊢
    clear hH hE hok hz hw hv hv0
    go_enter Tryd.func14, Tryd.ntmps14
    go_wp2_with (first
      | (go_at_call 23; refine cK.mono ?_; rintro e u0 ⟨rfl, hb⟩; have HB : Hid (Below u.heap.size u u0) := hb; clear hb)
      | (go_at_call 21; refine (cC.out _ HB.out).mono ?_; rintro e u1 ⟨ca, k, cc, c, rfl, hP, hU, _, _, hb⟩; have HR : Hid (PHanded u1 ca k c ∧ Up (lst f n) (lst c k) ∧ Below u.heap.size u u1) := ⟨hP, hU, rbel_on hb HB.out⟩; clear hP hU hb)
      | (go_at_call 24; refine (cG.out _ _ _ _ _ HR.out.1 HR.out.2.1).mono ?_; rintro e u2 ⟨rfl, hb⟩; have HB2 : Hid (Below u.heap.size u u2) := rbel_on hb HR.out.2.2; clear hb))
    exact bodyPost_ret (v := _) (by simp [results, Tryd.results14, go_sem, *]) rfl ⟨rfl, HB2.out⟩
  · have q := atE_of hE ne
    obtain rfl := hv0 ne
    rw [q] at cK ⊢
    clear hH hE q ne hv hv0
    go_enter Tryd.func14, Tryd.ntmps14
    go_wp2_with (go_at_call 23; refine cK.mono ?_; rintro e' u0 ⟨rfl, hb⟩; have HB : Hid (Below u.heap.size u u0) := hb; clear hb)
    exact bodyPost_ret (v := _) (by simp [results, Tryd.results14, go_sem, *]) rfl ⟨rfl, HB.out⟩
theorem OvV.in' {l : List (Int × Int)} {x v : Int} (hw : Within l x) (hv : OvV l x v) (ok : ∀ p, p ∈ l → okP p) : -1000000 ≤ v ∧ v ≤ 1000000 := by
  have top : Nb l x 1000000 := ⟨fun a ha e => (ok a ha).2.2, fun a ha b hb la lb lt => by
    have oa := (ok a ha).2.2
    have ob := (ok b hb).2.2
    have e : hgt a b (x, 1000000) = (1000000 - a.2) * (b.1 - x) + (1000000 - b.2) * (x - a.1) := by
      unfold hgt
      grind
    rw [e]
    exact Int.add_nonneg (Int.mul_nonneg (by omega) (by omega)) (Int.mul_nonneg (by omega) (by omega))⟩
  refine ⟨?_, hv.2 _ top⟩
  obtain ⟨⟨a, ha, a1⟩, b, hb, b1⟩ := hw
  have oa := (ok a ha).2.1
  have ob := (ok b hb).2.1
  by_cases e : a.1 = x
  · have := hv.1.1 a ha e
    omega
  by_cases e' : b.1 = x
  · have := hv.1.1 b hb e'
    omega
  have g := hv.1.2 a ha b hb a1 b1 (by omega)
  have e2 : hgt a b (x, v) = (v - a.2) * (b.1 - x) + (v - b.2) * (x - a.1) := by
    unfold hgt
    grind
  rw [e2] at g
  apply Classical.byContradiction
  intro n
  have x1 : (v - a.2) * (b.1 - x) < 0 := Int.mul_neg_of_neg_of_pos (by omega) (by omega)
  have x2 : (v - b.2) * (x - a.1) < 0 := Int.mul_neg_of_neg_of_pos (by omega) (by omega)
  omega
set_option maxHeartbeats 1000000 in
theorem under_any (a : Option Addr) (n cap : Nat) (f : Nat → Int × Int) (x v e : Int) (u : World) (hH : PHanded u a n f) (hE : AtE n f x e) (hv0 : e ≠ 0 → v = 0) (hv : e = 0 → OvV ((lst f n).map flp) x (-v)) : Calls Tryd.prog 15 #[.slice a n cap, .int .i64 x] u fun o w' => o = .returned (.tuple #[.int .i64 v, errc e]) ∧ Below u.heap.size u w' := by
  have cK := checkAt_any a n cap f x e u hH hE
  by_cases ne : e = 0
  · subst ne
    obtain ⟨hz, hw⟩ : PtE n f 0 ∧ Within (lst f n) x := by
      rcases hE with ⟨_, h⟩ | ⟨_, _, h⟩ | ⟨_, _, _, h⟩ | ⟨h1, h2, _⟩
      · exact absurd rfl h
      · cases h
      · cases h
      · exact ⟨h1, h2⟩
    obtain ⟨h60, hok⟩ := hz.zero
    have hokF : ∀ i, i < n → okP (flp (f i)) := fun i hi => okP_flp (hok i hi)
    have hov := hv rfl
    rw [← lst_flp] at hov
    have hwF : Within (lst (fun i => flp (f i)) n) x := by rw [lst_flp]; exact within_flp.2 hw
    have bd := OvV.in' hwF hov (fun p hp => by obtain ⟨j, hj, e⟩ := mem_lst.1 hp; rw [← e]; exact hokF j hj)
    obtain ⟨V, hV⟩ : ∃ V, V = -v := ⟨_, rfl⟩
    rw [← hV] at hov bd
    have wV : IntKind.i64.wrap (-V) = v := by rw [show -V = v by omega]; exact IntWalk.i64_in _ (by omega)
    have cT : Hid (∀ u', Below u.heap.size u u' → Calls Tryd.prog 22 #[.slice a n cap] u' fun o w' => TuR f n u' o w') := fun u' hb => turned_any a n cap f u' h60 (hH.on hb) hok
    have cC : Hid (∀ a' c' u', PHanded u' a' n (fun i => flp (f i)) → Calls Tryd.prog 21 #[.slice a' n c'] u' fun o w' => CrR (fun i => flp (f i)) n u' o w') := fun a' c' u' h => corners_any a' n c' _ u' h60 h hokF
    have cG : Hid (∀ ca k cc c u', PHanded u' ca k c → Up (lst (fun i => flp (f i)) n) (lst c k) → Calls Tryd.prog 24 #[.slice ca k cc, .int .i64 x] u' fun o w' => o = .returned (.int .i64 V) ∧ Below u'.heap.size u' w') := fun ca k cc c u' hP hU => heightUp_any ca k cc c (lst (fun i => flp (f i)) n) x V u' hP hU (fun i hi => by
      obtain ⟨j, hj, e⟩ := mem_lst.1 ((hU.2 (c i)).1 (lst_in hi)).1
      rw [← e]
      exact hokF j hj) hwF hov
    rw [errc_nil] at cK ⊢
    clear hH hE hok hz hw hv hv0 hokF hov hwF bd hV
    go_enter Tryd.func15, Tryd.ntmps15
    go_wp2_with (first
      | (go_at_call 23; refine cK.mono ?_; rintro e u0 ⟨rfl, hb⟩; have HB : Hid (Below u.heap.size u u0) := hb; clear hb)
      | (go_at_call 22; refine (cT.out _ HB.out).mono ?_; rintro e u3 ⟨a3, c3, rfl, hP, hb⟩; have HT : Hid (PHanded u3 a3 n (fun i => flp (f i)) ∧ Below u.heap.size u u3) := ⟨hP, rbel_on hb HB.out⟩; clear hP hb)
      | (go_at_call 21; refine (cC.out _ _ _ HT.out.1).mono ?_; rintro e u1 ⟨ca, k, cc, c, rfl, hP, hU, _, _, hb⟩; have HR : Hid (PHanded u1 ca k c ∧ Up (lst (fun i => flp (f i)) n) (lst c k) ∧ Below u.heap.size u u1) := ⟨hP, hU, rbel_on hb HT.out.2⟩; clear hP hU hb)
      | (go_at_call 24; refine (cG.out _ _ _ _ _ HR.out.1 HR.out.2.1).mono ?_; rintro e u2 ⟨rfl, hb⟩; have HB2 : Hid (Below u.heap.size u u2) := rbel_on hb HR.out.2.2; clear hb))
    exact bodyPost_ret (v := _) (by simp [results, Tryd.results15, go_sem, *]) rfl ⟨rfl, HB2.out⟩
  · have q := atE_of hE ne
    obtain rfl := hv0 ne
    rw [q] at cK ⊢
    clear hH hE q ne hv hv0
    go_enter Tryd.func15, Tryd.ntmps15
    go_wp2_with (go_at_call 23; refine cK.mono ?_; rintro e' u0 ⟨rfl, hb⟩; have HB : Hid (Below u.heap.size u u0) := hb; clear hb)
    exact bodyPost_ret (v := _) (by simp [results, Tryd.results15, go_sem, *]) rfl ⟨rfl, HB.out⟩
theorem hlu {w : World} : HlU w := ⟨fun a n cap f e u _ hH hE => upper_any a n cap f e u hH hE⟩
theorem hlo {w : World} : HlO w := ⟨fun a n cap f x v e u _ hH _ hE => by
    rcases hE with ⟨h, ne, h0⟩ | ⟨h, n0, h0, rfl⟩ | ⟨h, n0, hw, h0, rfl⟩ | ⟨h, hw, hv, rfl⟩
    · exact over_any a n cap f x v e u hH (Or.inl ⟨h, ne⟩) (fun _ => h0) (fun e => absurd e ne)
    · exact over_any a n cap f x v 5 u hH (Or.inr (Or.inl ⟨h, n0, rfl⟩)) (fun _ => h0) (fun e => by cases e)
    · exact over_any a n cap f x v 1 u hH (Or.inr (Or.inr (Or.inl ⟨h, n0, hw, rfl⟩))) (fun _ => h0) (fun e => by cases e)
    · exact over_any a n cap f x v 0 u hH (Or.inr (Or.inr (Or.inr ⟨h, hw, rfl⟩))) (fun e => absurd rfl e) (fun _ => hv), fun a n cap f x v e u _ hH _ hE => by
    rcases hE with ⟨h, ne, h0⟩ | ⟨h, n0, h0, rfl⟩ | ⟨h, n0, hw, h0, rfl⟩ | ⟨h, hw, hv, rfl⟩
    · exact under_any a n cap f x v e u hH (Or.inl ⟨h, ne⟩) (fun _ => h0) (fun e => absurd e ne)
    · exact under_any a n cap f x v 5 u hH (Or.inr (Or.inl ⟨h, n0, rfl⟩)) (fun _ => h0) (fun e => by cases e)
    · exact under_any a n cap f x v 1 u hH (Or.inr (Or.inr (Or.inl ⟨h, n0, hw, rfl⟩))) (fun _ => h0) (fun e => by cases e)
    · exact under_any a n cap f x v 0 u hH (Or.inr (Or.inr (Or.inr ⟨h, hw, rfl⟩))) (fun e => absurd rfl e) (fun _ => hv)⟩
end Go.Proofs.YtcofpgbaokmbmafDoor
