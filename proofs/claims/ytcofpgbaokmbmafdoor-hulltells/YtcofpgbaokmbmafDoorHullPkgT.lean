/- Package hull answers as the document says: Check, Lower. -/
import Derived.Test.YtcofpgbaokmbmafDoorHullPkg
import Derived.Test.YtcofpgbaokmbmafDoorHullDefT
namespace Go.Proofs.YtcofpgbaokmbmafDoor
open Go.ChangeShapes Go.WideShapes Go.ChangeAt Go.RowKit Go.Joins
set_option linter.unusedVariables false
set_option linter.unusedSimpArgs false

set_option maxHeartbeats 1000000 in
theorem lower_any (a : Option Addr) (n cap : Nat) (f : Nat → Int × Int) (e : Int) (u : World) (hH : PHanded u a n f) (hE : PtE n f e) : Calls Tryd.prog 11 #[.slice a n cap] u fun o w' => ∃ (ca : Option Addr) (k cc : Nat) (c : Nat → Int × Int), o = .returned (.tuple #[.slice ca k cc, errc e]) ∧ PHanded w' ca k c ∧ (e ≠ 0 → k = 0) ∧ (e = 0 → Up ((lst f n).map flp) ((lst c k).map flp)) ∧ Below u.heap.size u w' := by
  have cK := check_any a n cap f e u hH hE
  by_cases ne : e = 0
  · subst ne
    obtain ⟨h60, hok⟩ := hE.zero
    have hokF : ∀ i, i < n → okP (flp (f i)) := fun i hi => okP_flp (hok i hi)
    have cT : Hid (∀ u', Below u.heap.size u u' → Calls Tryd.prog 22 #[.slice a n cap] u' fun o w' => TuR f n u' o w') := fun u' hb => turned_any a n cap f u' h60 (hH.on hb) hok
    have cC : Hid (∀ a' c' u', PHanded u' a' n (fun i => flp (f i)) → Calls Tryd.prog 21 #[.slice a' n c'] u' fun o w' => CrR (fun i => flp (f i)) n u' o w') := fun a' c' u' h => corners_any a' n c' _ u' h60 h hokF
    have cB : Hid (∀ ca k cc c u', PHanded u' ca k c → Up (lst (fun i => flp (f i)) n) (lst c k) → k ≤ n → Calls Tryd.prog 22 #[.slice ca k cc] u' fun o w' => TuR c k u' o w') := fun ca k cc c u' hP hU hk => turned_any ca k cc c u' (by omega) hP (fun i hi => by
      obtain ⟨j, hj, e⟩ := mem_lst.1 ((hU.2 (c i)).1 (lst_in hi)).1
      rw [← e]
      exact hokF j hj)
    rw [errc_nil] at cK ⊢
    clear hH hE hok hokF
    have cnt : Mark 0 := .mk _
    go_enter Tryd.func11, Tryd.ntmps11
    go_wp2_with (first
      | (go_at_call 7; refine cK.mono ?_; rintro e u0 ⟨rfl, hb⟩; have HB : Hid (Below u.heap.size u u0) := hb; clear hb)
      | (go_at_call 22; have cq : Mark 0 := cnt; refine (cT.out _ HB.out).mono ?_; clear cq cnt; have cnt : Mark 1 := .mk _; rintro e u3 ⟨a3, c3, rfl, hP, hb⟩; have HT : Hid (PHanded u3 a3 n (fun i => flp (f i)) ∧ Below u.heap.size u u3) := ⟨hP, rbel_on hb HB.out⟩; clear hP hb)
      | (go_at_call 21; refine (cC.out _ _ _ HT.out.1).mono ?_; rintro e u1 ⟨ca, k, cc, c, rfl, hP, hU, hkn, _, hb⟩; have HR : Hid (PHanded u1 ca k c ∧ Up (lst (fun i => flp (f i)) n) (lst c k) ∧ k ≤ n ∧ Below u.heap.size u u1) := ⟨hP, hU, hkn, rbel_on hb HT.out.2⟩; clear hP hU hb hkn)
      | (go_at_call 22; have cq : Mark 1 := cnt; refine (cB.out _ _ _ _ _ HR.out.1 HR.out.2.1 HR.out.2.2.1).mono ?_; clear cq cnt; rintro e u4 ⟨a4, c4, rfl, hP, hb⟩; have HF : Hid (PHanded u4 a4 k (fun i => flp (c i)) ∧ Below u.heap.size u u4) := ⟨hP, rbel_on hb HR.out.2.2.2⟩; clear hP hb))
    refine bodyPost_ret (v := _) (by simp [results, Tryd.results11, go_sem, *]) rfl ⟨a4, k, c4, _, rfl, HF.out.1, fun h => absurd rfl h, fun _ => ?_, HF.out.2⟩
    have h := HR.out.2.1
    rw [lst_flp] at h
    rw [lst_flp, List.map_map, show flp ∘ flp = id from funext flp_flp, List.map_id]
    exact h
  · have q := ptE_of hE ne
    have HE : Hid (e ≠ 0) := ne
    rw [q] at cK ⊢
    clear hH hE q ne
    go_enter Tryd.func11, Tryd.ntmps11
    go_wp2_with (go_at_call 7; refine cK.mono ?_; rintro e' u0 ⟨rfl, hb⟩; have HB : Hid (Below u.heap.size u u0) := hb; clear hb)
    exact bodyPost_ret (v := _) (by simp [results, Tryd.results11, go_sem, *]) rfl ⟨none, 0, 0, f, rfl, ⟨by omega, Or.inl rfl⟩, fun _ => rfl, fun h => absurd h HE.out, HB.out⟩
theorem hlt {w : World} : HlT w := ⟨fun a n cap f e u _ hH hE => check_any a n cap f e u hH hE, fun a n cap f e u _ hH hE => lower_any a n cap f e u hH hE⟩
end Go.Proofs.YtcofpgbaokmbmafDoor
