/- The ways through the law HullTells. -/
import Derived.Test.YtcofpgbaokmbmafDoorHullSame
import Derived.Test.YtcofpgbaokmbmafDoorHullDefC
import Derived.Test.YtcofpgbaokmbmafDoorHullDefT
import Derived.Test.YtcofpgbaokmbmafDoorTold
namespace Go.Proofs.YtcofpgbaokmbmafDoor.hullTells
open Go.ChangeShapes Go.WideShapes Go.ChangeAt Go.RowKit Go.Joins Go.Proofs.YtcofpgbaokmbmafDoor.told
set_option linter.unusedVariables false
set_option linter.unusedSimpArgs false

theorem error_c (f : Int) (w : World) (he : EnvE w) : Calls Tryd.prog 6 #[errc f, .int .i64 f] w fun e w' => e = .returned (.bool true) ∧ Below w.heap.size w w' := error_same f w he
theorem nil_points (u : World) (la : Option Addr) (lc : Nat) : Calls Tryd.prog 12 #[.slice la 0 lc, .slice none 0 0] u fun e w' => e = .returned (.bool true) ∧ Below u.heap.size u w' := same_points la none 0 lc 0 (fun _ => (0, 0)) u ⟨by omega, Or.inl rfl⟩ ⟨by omega, Or.inl rfl⟩
set_option maxRecDepth 100000 in
set_option maxHeartbeats 8000000 in
theorem wrong (a : Option Addr) (n cap : Nat) (f : Nat → Int × Int) (x e : Int) (w : World) (he : EnvE w) (B : HlU w) (O : HlO w) (C : HlT w) (hH : PHanded w a n f) (hx : In64 x) (hE : PtE n f e) (ne : e ≠ 0) :
    Calls Tryd.prog 3 #[.slice a n cap, .int .i64 x] w fun o w' => o = .returned (.bool true) ∧ Below w.heap.size w w' := by
  have HE : Hid (EnvE w) := he
  have cP := rpoints_any a n cap f e w hH hE
  have cK := fun u (hu : Below w.heap.size w u) => C.check a n cap f e u hu (hH.on hu) hE
  have cU : ∀ u, Below w.heap.size w u → Calls Tryd.prog 10 #[.slice a n cap] u fun o w' => ∃ ca cc, o = .returned (.tuple #[.slice ca 0 cc, errc e]) ∧ Below u.heap.size u w' := fun u hu => (B.upper a n cap f e u hu (hH.on hu) hE).mono (by
    rintro o w' ⟨ca, k, cc, c, rfl, _, hk, _, hb⟩
    obtain rfl := hk ne
    exact ⟨ca, cc, rfl, hb⟩)
  have cL : ∀ u, Below w.heap.size w u → Calls Tryd.prog 11 #[.slice a n cap] u fun o w' => ∃ ca cc, o = .returned (.tuple #[.slice ca 0 cc, errc e]) ∧ Below u.heap.size u w' := fun u hu => (C.lower a n cap f e u hu (hH.on hu) hE).mono (by
    rintro o w' ⟨ca, k, cc, c, rfl, _, hk, _, hb⟩
    obtain rfl := hk ne
    exact ⟨ca, cc, rfl, hb⟩)
  have cO := fun u (hu : Below w.heap.size w u) => O.over a n cap f x 0 e u hu (hH.on hu) hx (Or.inl ⟨hE, ne, rfl⟩)
  have cN := fun u (hu : Below w.heap.size w u) => O.under a n cap f x 0 e u hu (hH.on hu) hx (Or.inl ⟨hE, ne, rfl⟩)
  have cR := fun u (h : EnvE u) => error_c e u h
  have cS := nil_points
  have d0 : (e == 0) = false := by simpa using ne
  clear he B O C hH hE
  generalize errc e = er at *
  have cnt : Mark 0 := .mk _
  go_enter Tryd.func3, Tryd.ntmps3
  go_wp2_with (first
    | (go_at_call 5; refine cP.mono ?_; rintro e' u0 ⟨rfl, hb⟩; have HW0 : Hid (Below w.heap.size w u0) := hb; clear hb)
    | (go_at_call 7; refine (cK _ HW0.out).mono ?_; rintro e' u1 ⟨rfl, hb⟩; have HW1 : Hid (Below w.heap.size w u1) := rbel_on hb HW0.out; clear hb)
    | (go_at_call 6; have cq : Mark 0 := cnt; refine (cR _ (HE.out.below HW1.out)).mono ?_; clear cq cnt; have cnt : Mark 1 := .mk _; rintro e' u2 ⟨rfl, hb⟩; have HW2 : Hid (Below w.heap.size w u2) := rbel_on hb HW1.out; clear hb)
    | (go_at_call 10; refine (cU _ HW2.out).mono ?_; rintro e' u3 ⟨ca, cc, rfl, hb⟩; have HW3 : Hid (Below w.heap.size w u3) := rbel_on hb HW2.out; clear hb)
    | (go_at_call 6; have cq : Mark 1 := cnt; refine (cR _ (HE.out.below HW3.out)).mono ?_; clear cq cnt; have cnt : Mark 2 := .mk _; rintro e' u4 ⟨rfl, hb⟩; have HW4 : Hid (Below w.heap.size w u4) := rbel_on hb HW3.out; clear hb)
    | (go_at_call 11; refine (cL _ HW4.out).mono ?_; rintro e' u5 ⟨ca2, cc2, rfl, hb⟩; have HW5 : Hid (Below w.heap.size w u5) := rbel_on hb HW4.out; clear hb)
    | (go_at_call 6; have cq : Mark 2 := cnt; refine (cR _ (HE.out.below HW5.out)).mono ?_; clear cq cnt; have cnt : Mark 3 := .mk _; rintro e' u6 ⟨rfl, hb⟩; have HW6 : Hid (Below w.heap.size w u6) := rbel_on hb HW5.out; clear hb)
    | (go_at_call 12; have cq : Mark 3 := cnt; refine (cS _ _ _).mono ?_; clear cq cnt; have cnt : Mark 4 := .mk _; rintro e' u7 ⟨rfl, hb⟩; have HW7 : Hid (Below w.heap.size w u7) := rbel_on hb HW6.out; clear hb)
    | (go_at_call 12; have cq : Mark 4 := cnt; refine (cS _ _ _).mono ?_; clear cq cnt; have cnt : Mark 5 := .mk _; rintro e' u8 ⟨rfl, hb⟩; have HW8 : Hid (Below w.heap.size w u8) := rbel_on hb HW7.out; clear hb)
    | (go_at_call 14; refine (cO _ HW8.out).mono ?_; rintro e' u9 ⟨rfl, hb⟩; have HW9 : Hid (Below w.heap.size w u9) := rbel_on hb HW8.out; clear hb)
    | (go_at_call 6; have cq : Mark 5 := cnt; refine (cR _ (HE.out.below HW9.out)).mono ?_; clear cq cnt; have cnt : Mark 6 := .mk _; rintro e' u10 ⟨rfl, hb⟩; have HW10 : Hid (Below w.heap.size w u10) := rbel_on hb HW9.out; clear hb)
    | (go_at_call 15; refine (cN _ HW10.out).mono ?_; rintro e' u11 ⟨rfl, hb⟩; have HW11 : Hid (Below w.heap.size w u11) := rbel_on hb HW10.out; clear hb)
    | (go_at_call 6; have cq : Mark 6 := cnt; refine (cR _ (HE.out.below HW11.out)).mono ?_; clear cq cnt; have cnt : Mark 7 := .mk _; rintro e' u12 ⟨rfl, hb⟩; have HW12 : Hid (Below w.heap.size w u12) := rbel_on hb HW11.out; clear hb))
  go_ret
  exact ⟨rfl, HW12.out⟩
end Go.Proofs.YtcofpgbaokmbmafDoor.hullTells
