/- The middle of numbers: what stat.Median answers. -/
import Derived.Test.YthejaecljkjliakDoorStatChk
import Derived.Test.YthejaecljkjliakDoorStatSort
namespace Go.Proofs.YthejaecljkjliakDoor
open Go.ChangeShapes Go.WideShapes Go.ChangeAt Go.RowKit Go.Joins
set_option linter.unusedVariables false
set_option linter.unusedSimpArgs false

theorem median_no (ad : Option Addr) (n cap : Nat) (z : Nat → Int) (e : Int) (w : World) (hH : NHanded w ad n z) (hE : NmE n z e) (he : e ≠ 0) :
    Calls Tryd.prog 11 #[.slice ad n cap] w fun o w' => o = .returned (.tuple #[.int .i64 0, errc e]) ∧ Below w.heap.size w w' := by
  have cC := fun u hu => scheck_any ad n cap z e u (hH.on (W := w) hu) hE
  rw [errc_not he] at *
  clear hH
  go_enter Tryd.func11, Tryd.ntmps11
  go_wp2_with (go_at_call 18; refine (cC _ (Below.refl _ _)).mono ?_; rintro e u0 ⟨rfl, hb⟩; have HB : Hid _ := hb; clear hb)
  go_ret2
  exact ⟨rfl, HB.out⟩
set_option maxHeartbeats 1000000 in
theorem median_ok (ad : Option Addr) (n cap : Nat) (z : Nat → Int) (v : Int) (w : World) (hH : NHanded w ad n z) (hE : NmE n z 0) (hv : IsMid (lsN z n) ((n - 1) / 2) v) :
    Calls Tryd.prog 11 #[.slice ad n cap] w fun o w' => o = .returned (.tuple #[.int .i64 v, .nilIface]) ∧ Below w.heap.size w w' := by
  obtain ⟨n0, n60, ok⟩ := hE.zero
  have cC : Calls Tryd.prog 18 #[.slice ad n cap] w fun o w' => o = .returned .nilIface ∧ Below w.heap.size w w' := scheck_any _ n cap z 0 w hH hE
  have cK : ∀ u, Below w.heap.size w u → Calls Tryd.prog 19 #[.slice ad n cap] u fun e w' => ∃ (g c : Nat), e = .returned (.slice (some ⟨g, 0, none⟩) n c) ∧ w.heap.size ≤ g ∧ n ≤ c ∧ w'.ownsRow w.heap.size 3 1 (.slice (some ⟨g, 0, none⟩) n c) n (icn z n) ∧ Below w.heap.size w w' := fun u hu => (clone_ints ad n cap z u n60 (hH.on hu)).mono fun e w' ⟨x, he, hO, hb⟩ => by
    have hO' := hO
    rcases hO.2 with ⟨_, e0⟩ | ⟨g, c, cur, e1, hg, hgb, hcn, hcm, hcs, htk⟩
    · omega
    · subst e1
      refine ⟨g, c, he, by have := hu.size; omega, hcn, ⟨hO'.1, Or.inr ⟨g, c, cur, rfl, by have := hu.size; omega, hgb, hcn, hcm, hcs, htk⟩⟩, rbel_on hb hu⟩
  have cS : ∀ g c u, Below w.heap.size w u → w.heap.size ≤ g → u.ownsRow w.heap.size 3 1 (.slice (some ⟨g, 0, none⟩) n c) n (icn z n) → Calls Tryd.prog 20 #[.slice (some ⟨g, 0, none⟩) n c, .func (.func 21) #[] #[]] u fun e w' => e = .returned (.tuple #[]) ∧ w'.cell? ⟨g, (n - 1) / 2, none⟩ = some (.int .i64 v) ∧ Below w.heap.size w w' := fun g c u hu hg hO => sort_ints g n c z v w u hu hg hO n0 n60 hv
  have hmf : ∀ (fn : Go.Fn) (first cap : Array Value) (w : World), (Instr.makeFunc fn first cap).run Tryd.prog w = .ok (.func fn first cap) w := fun _ _ _ _ => rfl
  obtain ⟨k, hk⟩ : ∃ k, k = (n - 1) / 2 := ⟨_, rfl⟩
  rw [← hk] at cS
  have k1 : ((n : Int) - 1).tdiv 2 = (k : Int) := by rw [Int.tdiv_eq_ediv_of_nonneg (by omega)]; omega
  have k2 : IntKind.i64.wrap (((n : Int) - 1).tdiv 2) = (k : Int) := by rw [k1]; exact IntWalk.i64_in _ (by omega)
  have k3 : IntKind.i64.wrap ((n : Int) - 1) = (n : Int) - 1 := IntWalk.i64_in _ (by omega)
  have k4 : k < n := by omega
  clear hH hE ok hv hk
  go_enter Tryd.func11, Tryd.ntmps11
  go_wp2_with (first
    | (go_at_call 18; refine cC.mono ?_; rintro e u0 ⟨rfl, hb⟩; have HB : Hid (Below w.heap.size w u0) := hb; clear hb)
    | (go_at_call 19; refine (cK _ HB.out).mono ?_; rintro e u1 ⟨g, c, rfl, hg, hc, hO, hb⟩; have HG : Hid (w.heap.size ≤ g ∧ u1.ownsRow w.heap.size 3 1 (.slice (some ⟨g, 0, none⟩) n c) n (icn z n) ∧ Below w.heap.size w u1) := ⟨hg, hO, hb⟩; clear hO hb)
    | (go_at_call 20; refine (cS _ _ _ HG.out.2.2 HG.out.1 HG.out.2.1).mono ?_; rintro e u2 ⟨rfl, cV, hb⟩; have HB2 : Hid (Below w.heap.size w u2) := hb; clear hb))
  go_ret2
  exact ⟨rfl, HB2.out⟩
theorem median_any (ad : Option Addr) (n cap : Nat) (z : Nat → Int) (e v : Int) (w : World) (hH : NHanded w ad n z) (hE : NmE n z e) (hv : e = 0 → IsMid (lsN z n) ((n - 1) / 2) v) (hz : e ≠ 0 → v = 0) :
    Calls Tryd.prog 11 #[.slice ad n cap] w fun o w' => o = .returned (.tuple #[.int .i64 v, errc e]) ∧ Below w.heap.size w w' := by
  by_cases q : e = 0
  · subst q
    rw [errc_zero]
    exact median_ok ad n cap z v w hH hE (hv rfl)
  · rw [hz q]
    exact median_no ad n cap z e w hH hE q
end Go.Proofs.YthejaecljkjliakDoor
