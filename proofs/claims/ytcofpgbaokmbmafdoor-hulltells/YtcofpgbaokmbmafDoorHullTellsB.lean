/- The ways through the law HullTells: points as they may be. -/
import Derived.Test.YtcofpgbaokmbmafDoorHullTellsA
namespace Go.Proofs.YtcofpgbaokmbmafDoor.hullTells
open Go.ChangeShapes Go.WideShapes Go.ChangeAt Go.RowKit Go.Joins Go.Proofs.YtcofpgbaokmbmafDoor.told
set_option linter.unusedVariables false
set_option linter.unusedSimpArgs false

set_option maxRecDepth 100000 in
set_option maxHeartbeats 8000000 in
theorem noPoints (a : Option Addr) (n cap : Nat) (f : Nat → Int × Int) (x : Int) (out1 out2 : List (Int × Int)) (w : World) (he : EnvE w) (B : HlU w) (O : HlO w) (C : HlT w) (hH : PHanded w a n f) (hx : In64 x) (hE : PtE n f 0) (U1 : Up (lst f n) out1) (U2 : Up (lst (fun i => flp (f i)) n) out2) (n0 : n = 0) :
    Calls Tryd.prog 3 #[.slice a n cap, .int .i64 x] w fun o w' => o = .returned (.bool true) ∧ Below w.heap.size w w' := by
  obtain ⟨h60, hok⟩ := hE.zero
  have l1 : out1.length ≤ 60 := Nat.le_trans (up_len U1) h60
  have l2 : out2.length ≤ 60 := Nat.le_trans (up_len U2) h60
  have hok2 : ∀ i, i < n → okP (flp (f i)) := fun i hi => okP_flp (hok i hi)
  have HE : Hid (EnvE w) := he
  have cP := rpoints_any a n cap f 0 w hH hE
  have cK := fun u (hu : Below w.heap.size w u) => C.check a n cap f 0 u hu (hH.on hu) hE
  have cU1 : ∀ u, Below w.heap.size w u → Calls Tryd.prog 8 #[.slice a n cap] u fun o w' => ∃ a1 c1, o = .returned (.slice a1 out1.length c1) ∧ PHanded w' a1 out1.length (rowL out1) ∧ Below u.heap.size u w' := fun u hu => (rupper_any a n cap f u h60 (hH.on hu) hok).mono (by
    rintro o w' ⟨v, out, rfl, hL, hU, hb⟩
    obtain rfl := hU.one U1
    obtain ⟨a1, c1, rfl, h1⟩ := hL.handed l1
    exact ⟨a1, c1, rfl, h1, hb⟩)
  have cF1 := fun u (hu : Below w.heap.size w u) => rflip_any a n cap f u h60 (hH.on hu) hok
  have cU2 : Hid (∀ u a2 c2, PHanded u a2 n (fun i => flp (f i)) → Calls Tryd.prog 8 #[.slice a2 n c2] u fun o w' => ∃ a1 c1, o = .returned (.slice a1 out2.length c1) ∧ PHanded w' a1 out2.length (rowL out2) ∧ Below u.heap.size u w') := fun u a2 c2 h2 => (rupper_any a2 n c2 _ u h60 h2 hok2).mono (by
    rintro o w' ⟨v, out, rfl, hL, hU, hb⟩
    obtain rfl := hU.one U2
    obtain ⟨a1, c1, rfl, h1⟩ := hL.handed l2
    exact ⟨a1, c1, rfl, h1, hb⟩)
  have cF2 : Hid (∀ u a3 c3, PHanded u a3 out2.length (rowL out2) → Calls Tryd.prog 9 #[.slice a3 out2.length c3] u fun o w' => FlR (rowL out2) out2.length u o w') := fun u a3 c3 h3 => rflip_any a3 out2.length c3 (rowL out2) u l2 h3 (up_ok U2 hok2)
  have cHU : ∀ u, Below w.heap.size w u → Calls Tryd.prog 10 #[.slice a n cap] u fun o w' => ∃ ca cc, o = .returned (.tuple #[.slice ca out1.length cc, errc 0]) ∧ PHanded w' ca out1.length (rowL out1) ∧ Below u.heap.size u w' := fun u hu => (B.upper a n cap f 0 u hu (hH.on hu) hE).mono (by
    rintro o w' ⟨ca, k, cc, c, rfl, hp, _, hk, hb⟩
    have e := (hk rfl).one U1
    have ek : k = out1.length := by rw [← e, lst_len]
    subst ek
    exact ⟨ca, cc, rfl, hp.same (fun i hi => by rw [← rowL_lst c out1.length i hi, e]), hb⟩)
  have cHL : ∀ u, Below w.heap.size w u → Calls Tryd.prog 11 #[.slice a n cap] u fun o w' => ∃ ca cc, o = .returned (.tuple #[.slice ca out2.length cc, errc 0]) ∧ PHanded w' ca out2.length (fun i => flp (rowL out2 i)) ∧ Below u.heap.size u w' := fun u hu => (C.lower a n cap f 0 u hu (hH.on hu) hE).mono (by
    rintro o w' ⟨ca, k, cc, c, rfl, hp, _, hk, hb⟩
    have h := hk rfl
    rw [← lst_flp, ← lst_flp] at h
    have e := h.one U2
    have ek : k = out2.length := by rw [← e, lst_len]
    subst ek
    exact ⟨ca, cc, rfl, hp.same (fun i hi => by rw [← e, rowL_lst _ _ i hi, flp_flp]), hb⟩)
  have cS1 : Hid (∀ u ca cc a1 c1, PHanded u ca out1.length (rowL out1) → PHanded u a1 out1.length (rowL out1) → Calls Tryd.prog 12 #[.slice ca out1.length cc, .slice a1 out1.length c1] u fun e w' => e = .returned (.bool true) ∧ Below u.heap.size u w') := fun u ca cc a1 c1 h1 h2 => same_points ca a1 _ cc c1 _ u h1 h2
  have cS2 : Hid (∀ u ca cc a1 c1, PHanded u ca out2.length (fun i => flp (rowL out2 i)) → PHanded u a1 out2.length (fun i => flp (rowL out2 i)) → Calls Tryd.prog 12 #[.slice ca out2.length cc, .slice a1 out2.length c1] u fun e w' => e = .returned (.bool true) ∧ Below u.heap.size u w') := fun u ca cc a1 c1 h1 h2 => same_points ca a1 _ cc c1 _ u h1 h2
  have cR := fun u (h : EnvE u) => error_c 0 u h
  have cO := fun u (hu : Below w.heap.size w u) => O.over a n cap f x 0 5 u hu (hH.on hu) hx (Or.inr (Or.inl ⟨hE, n0, rfl, rfl⟩))
  have cN := fun u (hu : Below w.heap.size w u) => O.under a n cap f x 0 5 u hu (hH.on hu) hx (Or.inr (Or.inl ⟨hE, n0, rfl, rfl⟩))
  have cRe := fun u (h : EnvE u) => error_c 5 u h
  clear he B O C hH hE U1 U2 hok hok2
  subst n0
  generalize errc 0 = E0 at *
  generalize errc 5 = E5 at *
  have cnt : Mark 0 := .mk _
  go_enter Tryd.func3, Tryd.ntmps3
  go_wp2_with (first
    | (go_at_call 5; refine cP.mono ?_; rintro e' u0 ⟨rfl, hb⟩; have HW0 : Hid (Below w.heap.size w u0) := hb; clear hb)
    | (go_at_call 7; refine (cK _ HW0.out).mono ?_; rintro e' u1 ⟨rfl, hb⟩; have HW1 : Hid (Below w.heap.size w u1) := rbel_on hb HW0.out; clear hb)
    | (go_at_call 6; have cq : Mark 0 := cnt; refine (cR _ (HE.out.below HW1.out)).mono ?_; clear cq cnt; have cnt : Mark 1 := .mk _; rintro e' u2 ⟨rfl, hb⟩; have HW2 : Hid (Below w.heap.size w u2) := rbel_on hb HW1.out; clear hb)
    | (go_at_call 8; have cq : Mark 1 := cnt; refine (cU1 _ HW2.out).mono ?_; clear cq cnt; have cnt : Mark 2 := .mk _; rintro e' u3 ⟨a1, c1, rfl, hp, hb⟩; have HA3 : Hid (PHanded u3 a1 out1.length (rowL out1)) := hp; have HW3 : Hid (Below w.heap.size w u3) := rbel_on hb HW2.out; clear hb hp)
    | (go_at_call 9; have cq : Mark 2 := cnt; refine (cF1 _ HW3.out).mono ?_; clear cq cnt; have cnt : Mark 3 := .mk _; rintro e' u4 ⟨a2, c2, rfl, hp, hb⟩; have cu := cU2.out u4 a2 c2 hp; have HA4 : Hid (PHanded u4 a1 out1.length (rowL out1)) := HA3.out.on hb; have HW4 : Hid (Below w.heap.size w u4) := rbel_on hb HW3.out; clear hb hp)
    | (go_at_call 8; have cq : Mark 3 := cnt; refine cu.mono ?_; clear cq cnt cu; have cnt : Mark 4 := .mk _; rintro e' u5 ⟨a3, c3, rfl, hp, hb⟩; have cf := cF2.out u5 a3 c3 hp; have HA5 : Hid (PHanded u5 a1 out1.length (rowL out1)) := HA4.out.on hb; have HW5 : Hid (Below w.heap.size w u5) := rbel_on hb HW4.out; clear hb hp)
    | (go_at_call 9; have cq : Mark 4 := cnt; refine cf.mono ?_; clear cq cnt cf; have cnt : Mark 5 := .mk _; rintro e' u6 ⟨a4, c4, rfl, hp, hb⟩; have HD6 : Hid (PHanded u6 a4 out2.length (fun i => flp (rowL out2 i))) := hp; have HA6 : Hid (PHanded u6 a1 out1.length (rowL out1)) := HA5.out.on hb; have HW6 : Hid (Below w.heap.size w u6) := rbel_on hb HW5.out; clear hb hp)
    | (go_at_call 10; refine (cHU _ HW6.out).mono ?_; rintro e' u7 ⟨ca, cc, rfl, hp, hb⟩; have HC7 : Hid (PHanded u7 ca out1.length (rowL out1)) := hp; have HD7 : Hid (PHanded u7 a4 out2.length (fun i => flp (rowL out2 i))) := HD6.out.on hb; have HA7 : Hid (PHanded u7 a1 out1.length (rowL out1)) := HA6.out.on hb; have HW7 : Hid (Below w.heap.size w u7) := rbel_on hb HW6.out; clear hb hp)
    | (go_at_call 6; have cq : Mark 5 := cnt; refine (cR _ (HE.out.below HW7.out)).mono ?_; clear cq cnt; have cnt : Mark 6 := .mk _; rintro e' u8 ⟨rfl, hb⟩; have HC8 : Hid (PHanded u8 ca out1.length (rowL out1)) := HC7.out.on hb; have HD8 : Hid (PHanded u8 a4 out2.length (fun i => flp (rowL out2 i))) := HD7.out.on hb; have HA8 : Hid (PHanded u8 a1 out1.length (rowL out1)) := HA7.out.on hb; have HW8 : Hid (Below w.heap.size w u8) := rbel_on hb HW7.out; clear hb)
    | (go_at_call 11; refine (cHL _ HW8.out).mono ?_; rintro e' u9 ⟨cb, cd, rfl, hp, hb⟩; have HE9 : Hid (PHanded u9 cb out2.length (fun i => flp (rowL out2 i))) := hp; have HC9 : Hid (PHanded u9 ca out1.length (rowL out1)) := HC8.out.on hb; have HD9 : Hid (PHanded u9 a4 out2.length (fun i => flp (rowL out2 i))) := HD8.out.on hb; have HA9 : Hid (PHanded u9 a1 out1.length (rowL out1)) := HA8.out.on hb; have HW9 : Hid (Below w.heap.size w u9) := rbel_on hb HW8.out; clear hb hp)
    | (go_at_call 6; have cq : Mark 6 := cnt; refine (cR _ (HE.out.below HW9.out)).mono ?_; clear cq cnt; have cnt : Mark 7 := .mk _; rintro e' v0 ⟨rfl, hb⟩; have cs := cS1.out v0 ca cc a1 c1 (HC9.out.on hb) (HA9.out.on hb); have HE10 : Hid (PHanded v0 cb out2.length (fun i => flp (rowL out2 i))) := HE9.out.on hb; have HD10 : Hid (PHanded v0 a4 out2.length (fun i => flp (rowL out2 i))) := HD9.out.on hb; have HA10 : Hid (PHanded v0 a1 out1.length (rowL out1)) := HA9.out.on hb; have HW10 : Hid (Below w.heap.size w v0) := rbel_on hb HW9.out; clear hb)
    | (go_at_call 12; have cq : Mark 7 := cnt; refine cs.mono ?_; clear cq cnt cs; have cnt : Mark 8 := .mk _; rintro e' v1 ⟨rfl, hb⟩; have cs := cS2.out v1 cb cd a4 c4 (HE10.out.on hb) (HD10.out.on hb); have HD11 : Hid (PHanded v1 a4 out2.length (fun i => flp (rowL out2 i))) := HD10.out.on hb; have HA11 : Hid (PHanded v1 a1 out1.length (rowL out1)) := HA10.out.on hb; have HW11 : Hid (Below w.heap.size w v1) := rbel_on hb HW10.out; clear hb)
    | (go_at_call 12; have cq : Mark 8 := cnt; refine cs.mono ?_; clear cq cnt cs; have cnt : Mark 9 := .mk _; rintro e' v2 ⟨rfl, hb⟩; have HD12 : Hid (PHanded v2 a4 out2.length (fun i => flp (rowL out2 i))) := HD11.out.on hb; have HA12 : Hid (PHanded v2 a1 out1.length (rowL out1)) := HA11.out.on hb; have HW12 : Hid (Below w.heap.size w v2) := rbel_on hb HW11.out; clear hb)
    | (go_at_call 14; refine (cO _ HW12.out).mono ?_; rintro e' v5 ⟨rfl, hb⟩; have HW15 : Hid (Below w.heap.size w v5) := rbel_on hb HW12.out; clear hb)
    | (go_at_call 6; have cq : Mark 9 := cnt; refine (cRe _ (HE.out.below HW15.out)).mono ?_; clear cq cnt; have cnt : Mark 10 := .mk _; rintro e' v6 ⟨rfl, hb⟩; have HW16 : Hid (Below w.heap.size w v6) := rbel_on hb HW15.out; clear hb)
    | (go_at_call 15; refine (cN _ HW16.out).mono ?_; rintro e' v7 ⟨rfl, hb⟩; have HW17 : Hid (Below w.heap.size w v7) := rbel_on hb HW16.out; clear hb)
    | (go_at_call 6; have cq : Mark 10 := cnt; refine (cRe _ (HE.out.below HW17.out)).mono ?_; clear cq cnt; have cnt : Mark 11 := .mk _; rintro e' v8 ⟨rfl, hb⟩; have HW18 : Hid (Below w.heap.size w v8) := rbel_on hb HW17.out; clear hb))
  go_ret
  exact ⟨rfl, HW18.out⟩
set_option maxRecDepth 100000 in
set_option maxHeartbeats 8000000 in
theorem beyond (a : Option Addr) (n cap : Nat) (f : Nat → Int × Int) (x : Int) (out1 out2 : List (Int × Int)) (w : World) (he : EnvE w) (B : HlU w) (O : HlO w) (C : HlT w) (hH : PHanded w a n f) (hx : In64 x) (hE : PtE n f 0) (U1 : Up (lst f n) out1) (U2 : Up (lst (fun i => flp (f i)) n) out2) (n0 : 0 < n) (hw : ¬ Within (lst f n) x) :
    Calls Tryd.prog 3 #[.slice a n cap, .int .i64 x] w fun o w' => o = .returned (.bool true) ∧ Below w.heap.size w w' := by
  obtain ⟨h60, hok⟩ := hE.zero
  have l1 : out1.length ≤ 60 := Nat.le_trans (up_len U1) h60
  have l2 : out2.length ≤ 60 := Nat.le_trans (up_len U2) h60
  have hok2 : ∀ i, i < n → okP (flp (f i)) := fun i hi => okP_flp (hok i hi)
  have HE : Hid (EnvE w) := he
  have cP := rpoints_any a n cap f 0 w hH hE
  have cK := fun u (hu : Below w.heap.size w u) => C.check a n cap f 0 u hu (hH.on hu) hE
  have cU1 : ∀ u, Below w.heap.size w u → Calls Tryd.prog 8 #[.slice a n cap] u fun o w' => ∃ a1 c1, o = .returned (.slice a1 out1.length c1) ∧ PHanded w' a1 out1.length (rowL out1) ∧ Below u.heap.size u w' := fun u hu => (rupper_any a n cap f u h60 (hH.on hu) hok).mono (by
    rintro o w' ⟨v, out, rfl, hL, hU, hb⟩
    obtain rfl := hU.one U1
    obtain ⟨a1, c1, rfl, h1⟩ := hL.handed l1
    exact ⟨a1, c1, rfl, h1, hb⟩)
  have cF1 := fun u (hu : Below w.heap.size w u) => rflip_any a n cap f u h60 (hH.on hu) hok
  have cU2 : Hid (∀ u a2 c2, PHanded u a2 n (fun i => flp (f i)) → Calls Tryd.prog 8 #[.slice a2 n c2] u fun o w' => ∃ a1 c1, o = .returned (.slice a1 out2.length c1) ∧ PHanded w' a1 out2.length (rowL out2) ∧ Below u.heap.size u w') := fun u a2 c2 h2 => (rupper_any a2 n c2 _ u h60 h2 hok2).mono (by
    rintro o w' ⟨v, out, rfl, hL, hU, hb⟩
    obtain rfl := hU.one U2
    obtain ⟨a1, c1, rfl, h1⟩ := hL.handed l2
    exact ⟨a1, c1, rfl, h1, hb⟩)
  have cF2 : Hid (∀ u a3 c3, PHanded u a3 out2.length (rowL out2) → Calls Tryd.prog 9 #[.slice a3 out2.length c3] u fun o w' => FlR (rowL out2) out2.length u o w') := fun u a3 c3 h3 => rflip_any a3 out2.length c3 (rowL out2) u l2 h3 (up_ok U2 hok2)
  have cHU : ∀ u, Below w.heap.size w u → Calls Tryd.prog 10 #[.slice a n cap] u fun o w' => ∃ ca cc, o = .returned (.tuple #[.slice ca out1.length cc, errc 0]) ∧ PHanded w' ca out1.length (rowL out1) ∧ Below u.heap.size u w' := fun u hu => (B.upper a n cap f 0 u hu (hH.on hu) hE).mono (by
    rintro o w' ⟨ca, k, cc, c, rfl, hp, _, hk, hb⟩
    have e := (hk rfl).one U1
    have ek : k = out1.length := by rw [← e, lst_len]
    subst ek
    exact ⟨ca, cc, rfl, hp.same (fun i hi => by rw [← rowL_lst c out1.length i hi, e]), hb⟩)
  have cHL : ∀ u, Below w.heap.size w u → Calls Tryd.prog 11 #[.slice a n cap] u fun o w' => ∃ ca cc, o = .returned (.tuple #[.slice ca out2.length cc, errc 0]) ∧ PHanded w' ca out2.length (fun i => flp (rowL out2 i)) ∧ Below u.heap.size u w' := fun u hu => (C.lower a n cap f 0 u hu (hH.on hu) hE).mono (by
    rintro o w' ⟨ca, k, cc, c, rfl, hp, _, hk, hb⟩
    have h := hk rfl
    rw [← lst_flp, ← lst_flp] at h
    have e := h.one U2
    have ek : k = out2.length := by rw [← e, lst_len]
    subst ek
    exact ⟨ca, cc, rfl, hp.same (fun i hi => by rw [← e, rowL_lst _ _ i hi, flp_flp]), hb⟩)
  have cS1 : Hid (∀ u ca cc a1 c1, PHanded u ca out1.length (rowL out1) → PHanded u a1 out1.length (rowL out1) → Calls Tryd.prog 12 #[.slice ca out1.length cc, .slice a1 out1.length c1] u fun e w' => e = .returned (.bool true) ∧ Below u.heap.size u w') := fun u ca cc a1 c1 h1 h2 => same_points ca a1 _ cc c1 _ u h1 h2
  have cS2 : Hid (∀ u ca cc a1 c1, PHanded u ca out2.length (fun i => flp (rowL out2 i)) → PHanded u a1 out2.length (fun i => flp (rowL out2 i)) → Calls Tryd.prog 12 #[.slice ca out2.length cc, .slice a1 out2.length c1] u fun e w' => e = .returned (.bool true) ∧ Below u.heap.size u w') := fun u ca cc a1 c1 h1 h2 => same_points ca a1 _ cc c1 _ u h1 h2
  have cR := fun u (h : EnvE u) => error_c 0 u h
  have ne : lst f n ≠ [] := fun e => by have := lst_len f n; rw [e] at this; simp at this; omega
  obtain ⟨p0, e0, _⟩ := U1.some ne
  obtain ⟨p1, e1, _⟩ := U1.last ne
  have k0 : 0 < out1.length := (List.getElem?_eq_some_iff.1 e0).1
  have wi := U1.within (x := x) e0 e1
  have r0 : rowL out1 0 = p0 := rowL_at e0
  have r1 : rowL out1 (out1.length - 1) = p1 := rowL_at e1
  have wk : IntKind.i64.wrap ((out1.length : Int) - 1) = ((out1.length - 1 : Nat) : Int) := by rw [show (out1.length : Int) - 1 = ((out1.length - 1 : Nat) : Int) by omega]; exact IntWalk.i64_in _ (by omega)
  have hk3 : (0 : Int) < (out1.length : Nat) := by omega
  have hk4 : ((out1.length - 1 : Nat) : Int) < (out1.length : Nat) := by omega
  have nb : ((n : Int) == 0) = false := by simp; omega
  have HRow : Hid (∀ (u : World) (a1 : Option Addr), PHanded u a1 out1.length (rowL out1) → ∃ g o, a1 = some ⟨g, o, Option.none⟩ ∧ u.cell? ⟨g, o, Option.none⟩ = some (.int .i64 p0.1) ∧ u.cell? ⟨g, o + (out1.length - 1) * 2, Option.none⟩ = some (.int .i64 p1.1)) := fun u a1 h => by
    rcases h.2 with e | ⟨g, o, e, s⟩
    · omega
    · have s0 := (s 0 k0).1
      have s1 := (s (out1.length - 1) (by omega)).1
      rw [r0] at s0
      rw [r1] at s1
      exact ⟨g, o, e, by simpa using s0, s1⟩
  have cO := fun u (hu : Below w.heap.size w u) => O.over a n cap f x 0 1 u hu (hH.on hu) hx (Or.inr (Or.inr (Or.inl ⟨hE, n0, hw, rfl, rfl⟩)))
  have cN := fun u (hu : Below w.heap.size w u) => O.under a n cap f x 0 1 u hu (hH.on hu) hx (Or.inr (Or.inr (Or.inl ⟨hE, n0, hw, rfl, rfl⟩)))
  have cRe := fun u (h : EnvE u) => error_c 1 u h
  have hc : x < p0.1 ∨ (¬ x < p0.1 ∧ p1.1 < x) := by
    by_cases c : x < p0.1
    · exact Or.inl c
    · refine Or.inr ⟨c, ?_⟩
      apply Classical.byContradiction
      intro c2
      exact hw (wi.2 ⟨by omega, by omega⟩)
  clear he B O C hH hE U1 U2 hok hok2 hw wi ne e0 e1 r0 r1
  generalize errc 0 = E0 at *
  generalize errc 1 = E1 at *
  generalize p0.1 = X0 at *
  generalize p1.1 = X1 at *
  have cnt : Mark 0 := .mk _
  rcases hc with c1 | ⟨c1, c2⟩
  · have d1 : decide (x < X0) = true := decide_eq_true c1
    go_enter Tryd.func3, Tryd.ntmps3
    go_wp2_with (first
      | (go_at_call 5; refine cP.mono ?_; rintro e' u0 ⟨rfl, hb⟩; have HW0 : Hid (Below w.heap.size w u0) := hb; clear hb)
      | (go_at_call 7; refine (cK _ HW0.out).mono ?_; rintro e' u1 ⟨rfl, hb⟩; have HW1 : Hid (Below w.heap.size w u1) := rbel_on hb HW0.out; clear hb)
      | (go_at_call 6; have cq : Mark 0 := cnt; refine (cR _ (HE.out.below HW1.out)).mono ?_; clear cq cnt; have cnt : Mark 1 := .mk _; rintro e' u2 ⟨rfl, hb⟩; have HW2 : Hid (Below w.heap.size w u2) := rbel_on hb HW1.out; clear hb)
      | (go_at_call 8; have cq : Mark 1 := cnt; refine (cU1 _ HW2.out).mono ?_; clear cq cnt; have cnt : Mark 2 := .mk _; rintro e' u3 ⟨a1, c1, rfl, hp, hb⟩; have HA3 : Hid (PHanded u3 a1 out1.length (rowL out1)) := hp; have HW3 : Hid (Below w.heap.size w u3) := rbel_on hb HW2.out; clear hb hp)
      | (go_at_call 9; have cq : Mark 2 := cnt; refine (cF1 _ HW3.out).mono ?_; clear cq cnt; have cnt : Mark 3 := .mk _; rintro e' u4 ⟨a2, c2, rfl, hp, hb⟩; have cu := cU2.out u4 a2 c2 hp; have HA4 : Hid (PHanded u4 a1 out1.length (rowL out1)) := HA3.out.on hb; have HW4 : Hid (Below w.heap.size w u4) := rbel_on hb HW3.out; clear hb hp)
      | (go_at_call 8; have cq : Mark 3 := cnt; refine cu.mono ?_; clear cq cnt cu; have cnt : Mark 4 := .mk _; rintro e' u5 ⟨a3, c3, rfl, hp, hb⟩; have cf := cF2.out u5 a3 c3 hp; have HA5 : Hid (PHanded u5 a1 out1.length (rowL out1)) := HA4.out.on hb; have HW5 : Hid (Below w.heap.size w u5) := rbel_on hb HW4.out; clear hb hp)
      | (go_at_call 9; have cq : Mark 4 := cnt; refine cf.mono ?_; clear cq cnt cf; have cnt : Mark 5 := .mk _; rintro e' u6 ⟨a4, c4, rfl, hp, hb⟩; have HD6 : Hid (PHanded u6 a4 out2.length (fun i => flp (rowL out2 i))) := hp; have HA6 : Hid (PHanded u6 a1 out1.length (rowL out1)) := HA5.out.on hb; have HW6 : Hid (Below w.heap.size w u6) := rbel_on hb HW5.out; clear hb hp)
      | (go_at_call 10; refine (cHU _ HW6.out).mono ?_; rintro e' u7 ⟨ca, cc, rfl, hp, hb⟩; have HC7 : Hid (PHanded u7 ca out1.length (rowL out1)) := hp; have HD7 : Hid (PHanded u7 a4 out2.length (fun i => flp (rowL out2 i))) := HD6.out.on hb; have HA7 : Hid (PHanded u7 a1 out1.length (rowL out1)) := HA6.out.on hb; have HW7 : Hid (Below w.heap.size w u7) := rbel_on hb HW6.out; clear hb hp)
      | (go_at_call 6; have cq : Mark 5 := cnt; refine (cR _ (HE.out.below HW7.out)).mono ?_; clear cq cnt; have cnt : Mark 6 := .mk _; rintro e' u8 ⟨rfl, hb⟩; have HC8 : Hid (PHanded u8 ca out1.length (rowL out1)) := HC7.out.on hb; have HD8 : Hid (PHanded u8 a4 out2.length (fun i => flp (rowL out2 i))) := HD7.out.on hb; have HA8 : Hid (PHanded u8 a1 out1.length (rowL out1)) := HA7.out.on hb; have HW8 : Hid (Below w.heap.size w u8) := rbel_on hb HW7.out; clear hb)
      | (go_at_call 11; refine (cHL _ HW8.out).mono ?_; rintro e' u9 ⟨cb, cd, rfl, hp, hb⟩; have HE9 : Hid (PHanded u9 cb out2.length (fun i => flp (rowL out2 i))) := hp; have HC9 : Hid (PHanded u9 ca out1.length (rowL out1)) := HC8.out.on hb; have HD9 : Hid (PHanded u9 a4 out2.length (fun i => flp (rowL out2 i))) := HD8.out.on hb; have HA9 : Hid (PHanded u9 a1 out1.length (rowL out1)) := HA8.out.on hb; have HW9 : Hid (Below w.heap.size w u9) := rbel_on hb HW8.out; clear hb hp)
      | (go_at_call 6; have cq : Mark 6 := cnt; refine (cR _ (HE.out.below HW9.out)).mono ?_; clear cq cnt; have cnt : Mark 7 := .mk _; rintro e' v0 ⟨rfl, hb⟩; have cs := cS1.out v0 ca cc a1 c1 (HC9.out.on hb) (HA9.out.on hb); have HE10 : Hid (PHanded v0 cb out2.length (fun i => flp (rowL out2 i))) := HE9.out.on hb; have HD10 : Hid (PHanded v0 a4 out2.length (fun i => flp (rowL out2 i))) := HD9.out.on hb; have HA10 : Hid (PHanded v0 a1 out1.length (rowL out1)) := HA9.out.on hb; have HW10 : Hid (Below w.heap.size w v0) := rbel_on hb HW9.out; clear hb)
      | (go_at_call 12; have cq : Mark 7 := cnt; refine cs.mono ?_; clear cq cnt cs; have cnt : Mark 8 := .mk _; rintro e' v1 ⟨rfl, hb⟩; have cs := cS2.out v1 cb cd a4 c4 (HE10.out.on hb) (HD10.out.on hb); have HD11 : Hid (PHanded v1 a4 out2.length (fun i => flp (rowL out2 i))) := HD10.out.on hb; have HA11 : Hid (PHanded v1 a1 out1.length (rowL out1)) := HA10.out.on hb; have HW11 : Hid (Below w.heap.size w v1) := rbel_on hb HW10.out; clear hb)
      | (go_at_call 12; have cq : Mark 8 := cnt; refine cs.mono ?_; clear cq cnt cs; have cnt : Mark 9 := .mk _; rintro e' v2 ⟨rfl, hb⟩; have HD12 : Hid (PHanded v2 a4 out2.length (fun i => flp (rowL out2 i))) := HD11.out.on hb; have HA12 : Hid (PHanded v2 a1 out1.length (rowL out1)) := HA11.out.on hb; have HW12 : Hid (Below w.heap.size w v2) := rbel_on hb HW11.out; clear hb; obtain ⟨g1, o1, rfl, q0, q1⟩ := HRow.out v2 a1 HA12.out)
      | (go_at_call 14; refine (cO _ HW12.out).mono ?_; rintro e' v5 ⟨rfl, hb⟩; have HW15 : Hid (Below w.heap.size w v5) := rbel_on hb HW12.out; clear hb)
      | (go_at_call 6; have cq : Mark 9 := cnt; refine (cRe _ (HE.out.below HW15.out)).mono ?_; clear cq cnt; have cnt : Mark 10 := .mk _; rintro e' v6 ⟨rfl, hb⟩; have HW16 : Hid (Below w.heap.size w v6) := rbel_on hb HW15.out; clear hb)
      | (go_at_call 15; refine (cN _ HW16.out).mono ?_; rintro e' v7 ⟨rfl, hb⟩; have HW17 : Hid (Below w.heap.size w v7) := rbel_on hb HW16.out; clear hb)
      | (go_at_call 6; have cq : Mark 10 := cnt; refine (cRe _ (HE.out.below HW17.out)).mono ?_; clear cq cnt; have cnt : Mark 11 := .mk _; rintro e' v8 ⟨rfl, hb⟩; have HW18 : Hid (Below w.heap.size w v8) := rbel_on hb HW17.out; clear hb))
    go_ret
    exact ⟨rfl, HW18.out⟩
  · have d1 : decide (x < X0) = false := decide_eq_false c1
    have d2 : decide (X1 < x) = true := decide_eq_true c2
    go_enter Tryd.func3, Tryd.ntmps3
    go_wp2_with (first
      | (go_at_call 5; refine cP.mono ?_; rintro e' u0 ⟨rfl, hb⟩; have HW0 : Hid (Below w.heap.size w u0) := hb; clear hb)
      | (go_at_call 7; refine (cK _ HW0.out).mono ?_; rintro e' u1 ⟨rfl, hb⟩; have HW1 : Hid (Below w.heap.size w u1) := rbel_on hb HW0.out; clear hb)
      | (go_at_call 6; have cq : Mark 0 := cnt; refine (cR _ (HE.out.below HW1.out)).mono ?_; clear cq cnt; have cnt : Mark 1 := .mk _; rintro e' u2 ⟨rfl, hb⟩; have HW2 : Hid (Below w.heap.size w u2) := rbel_on hb HW1.out; clear hb)
      | (go_at_call 8; have cq : Mark 1 := cnt; refine (cU1 _ HW2.out).mono ?_; clear cq cnt; have cnt : Mark 2 := .mk _; rintro e' u3 ⟨a1, c1, rfl, hp, hb⟩; have HA3 : Hid (PHanded u3 a1 out1.length (rowL out1)) := hp; have HW3 : Hid (Below w.heap.size w u3) := rbel_on hb HW2.out; clear hb hp)
      | (go_at_call 9; have cq : Mark 2 := cnt; refine (cF1 _ HW3.out).mono ?_; clear cq cnt; have cnt : Mark 3 := .mk _; rintro e' u4 ⟨a2, c2, rfl, hp, hb⟩; have cu := cU2.out u4 a2 c2 hp; have HA4 : Hid (PHanded u4 a1 out1.length (rowL out1)) := HA3.out.on hb; have HW4 : Hid (Below w.heap.size w u4) := rbel_on hb HW3.out; clear hb hp)
      | (go_at_call 8; have cq : Mark 3 := cnt; refine cu.mono ?_; clear cq cnt cu; have cnt : Mark 4 := .mk _; rintro e' u5 ⟨a3, c3, rfl, hp, hb⟩; have cf := cF2.out u5 a3 c3 hp; have HA5 : Hid (PHanded u5 a1 out1.length (rowL out1)) := HA4.out.on hb; have HW5 : Hid (Below w.heap.size w u5) := rbel_on hb HW4.out; clear hb hp)
      | (go_at_call 9; have cq : Mark 4 := cnt; refine cf.mono ?_; clear cq cnt cf; have cnt : Mark 5 := .mk _; rintro e' u6 ⟨a4, c4, rfl, hp, hb⟩; have HD6 : Hid (PHanded u6 a4 out2.length (fun i => flp (rowL out2 i))) := hp; have HA6 : Hid (PHanded u6 a1 out1.length (rowL out1)) := HA5.out.on hb; have HW6 : Hid (Below w.heap.size w u6) := rbel_on hb HW5.out; clear hb hp)
      | (go_at_call 10; refine (cHU _ HW6.out).mono ?_; rintro e' u7 ⟨ca, cc, rfl, hp, hb⟩; have HC7 : Hid (PHanded u7 ca out1.length (rowL out1)) := hp; have HD7 : Hid (PHanded u7 a4 out2.length (fun i => flp (rowL out2 i))) := HD6.out.on hb; have HA7 : Hid (PHanded u7 a1 out1.length (rowL out1)) := HA6.out.on hb; have HW7 : Hid (Below w.heap.size w u7) := rbel_on hb HW6.out; clear hb hp)
      | (go_at_call 6; have cq : Mark 5 := cnt; refine (cR _ (HE.out.below HW7.out)).mono ?_; clear cq cnt; have cnt : Mark 6 := .mk _; rintro e' u8 ⟨rfl, hb⟩; have HC8 : Hid (PHanded u8 ca out1.length (rowL out1)) := HC7.out.on hb; have HD8 : Hid (PHanded u8 a4 out2.length (fun i => flp (rowL out2 i))) := HD7.out.on hb; have HA8 : Hid (PHanded u8 a1 out1.length (rowL out1)) := HA7.out.on hb; have HW8 : Hid (Below w.heap.size w u8) := rbel_on hb HW7.out; clear hb)
      | (go_at_call 11; refine (cHL _ HW8.out).mono ?_; rintro e' u9 ⟨cb, cd, rfl, hp, hb⟩; have HE9 : Hid (PHanded u9 cb out2.length (fun i => flp (rowL out2 i))) := hp; have HC9 : Hid (PHanded u9 ca out1.length (rowL out1)) := HC8.out.on hb; have HD9 : Hid (PHanded u9 a4 out2.length (fun i => flp (rowL out2 i))) := HD8.out.on hb; have HA9 : Hid (PHanded u9 a1 out1.length (rowL out1)) := HA8.out.on hb; have HW9 : Hid (Below w.heap.size w u9) := rbel_on hb HW8.out; clear hb hp)
      | (go_at_call 6; have cq : Mark 6 := cnt; refine (cR _ (HE.out.below HW9.out)).mono ?_; clear cq cnt; have cnt : Mark 7 := .mk _; rintro e' v0 ⟨rfl, hb⟩; have cs := cS1.out v0 ca cc a1 c1 (HC9.out.on hb) (HA9.out.on hb); have HE10 : Hid (PHanded v0 cb out2.length (fun i => flp (rowL out2 i))) := HE9.out.on hb; have HD10 : Hid (PHanded v0 a4 out2.length (fun i => flp (rowL out2 i))) := HD9.out.on hb; have HA10 : Hid (PHanded v0 a1 out1.length (rowL out1)) := HA9.out.on hb; have HW10 : Hid (Below w.heap.size w v0) := rbel_on hb HW9.out; clear hb)
      | (go_at_call 12; have cq : Mark 7 := cnt; refine cs.mono ?_; clear cq cnt cs; have cnt : Mark 8 := .mk _; rintro e' v1 ⟨rfl, hb⟩; have cs := cS2.out v1 cb cd a4 c4 (HE10.out.on hb) (HD10.out.on hb); have HD11 : Hid (PHanded v1 a4 out2.length (fun i => flp (rowL out2 i))) := HD10.out.on hb; have HA11 : Hid (PHanded v1 a1 out1.length (rowL out1)) := HA10.out.on hb; have HW11 : Hid (Below w.heap.size w v1) := rbel_on hb HW10.out; clear hb)
      | (go_at_call 12; have cq : Mark 8 := cnt; refine cs.mono ?_; clear cq cnt cs; have cnt : Mark 9 := .mk _; rintro e' v2 ⟨rfl, hb⟩; have HD12 : Hid (PHanded v2 a4 out2.length (fun i => flp (rowL out2 i))) := HD11.out.on hb; have HA12 : Hid (PHanded v2 a1 out1.length (rowL out1)) := HA11.out.on hb; have HW12 : Hid (Below w.heap.size w v2) := rbel_on hb HW11.out; clear hb; obtain ⟨g1, o1, rfl, q0, q1⟩ := HRow.out v2 a1 HA12.out)
      | (go_at_call 14; refine (cO _ HW12.out).mono ?_; rintro e' v5 ⟨rfl, hb⟩; have HW15 : Hid (Below w.heap.size w v5) := rbel_on hb HW12.out; clear hb)
      | (go_at_call 6; have cq : Mark 9 := cnt; refine (cRe _ (HE.out.below HW15.out)).mono ?_; clear cq cnt; have cnt : Mark 10 := .mk _; rintro e' v6 ⟨rfl, hb⟩; have HW16 : Hid (Below w.heap.size w v6) := rbel_on hb HW15.out; clear hb)
      | (go_at_call 15; refine (cN _ HW16.out).mono ?_; rintro e' v7 ⟨rfl, hb⟩; have HW17 : Hid (Below w.heap.size w v7) := rbel_on hb HW16.out; clear hb)
      | (go_at_call 6; have cq : Mark 10 := cnt; refine (cRe _ (HE.out.below HW17.out)).mono ?_; clear cq cnt; have cnt : Mark 11 := .mk _; rintro e' v8 ⟨rfl, hb⟩; have HW18 : Hid (Below w.heap.size w v8) := rbel_on hb HW17.out; clear hb))
    go_ret
    exact ⟨rfl, HW18.out⟩
set_option maxRecDepth 100000 in
set_option maxHeartbeats 8000000 in
theorem inside (a : Option Addr) (n cap : Nat) (f : Nat → Int × Int) (x : Int) (out1 out2 : List (Int × Int)) (w : World) (he : EnvE w) (B : HlU w) (O : HlO w) (C : HlT w) (hH : PHanded w a n f) (hx : In64 x) (hE : PtE n f 0) (U1 : Up (lst f n) out1) (U2 : Up (lst (fun i => flp (f i)) n) out2) (n0 : 0 < n) (hw : Within (lst f n) x) :
    Calls Tryd.prog 3 #[.slice a n cap, .int .i64 x] w fun o w' => o = .returned (.bool true) ∧ Below w.heap.size w w' := by
  obtain ⟨h60, hok⟩ := hE.zero
  have l1 : out1.length ≤ 60 := Nat.le_trans (up_len U1) h60
  have l2 : out2.length ≤ 60 := Nat.le_trans (up_len U2) h60
  have hok2 : ∀ i, i < n → okP (flp (f i)) := fun i hi => okP_flp (hok i hi)
  have HE : Hid (EnvE w) := he
  have cP := rpoints_any a n cap f 0 w hH hE
  have cK := fun u (hu : Below w.heap.size w u) => C.check a n cap f 0 u hu (hH.on hu) hE
  have cU1 : ∀ u, Below w.heap.size w u → Calls Tryd.prog 8 #[.slice a n cap] u fun o w' => ∃ a1 c1, o = .returned (.slice a1 out1.length c1) ∧ PHanded w' a1 out1.length (rowL out1) ∧ Below u.heap.size u w' := fun u hu => (rupper_any a n cap f u h60 (hH.on hu) hok).mono (by
    rintro o w' ⟨v, out, rfl, hL, hU, hb⟩
    obtain rfl := hU.one U1
    obtain ⟨a1, c1, rfl, h1⟩ := hL.handed l1
    exact ⟨a1, c1, rfl, h1, hb⟩)
  have cF1 := fun u (hu : Below w.heap.size w u) => rflip_any a n cap f u h60 (hH.on hu) hok
  have cU2 : Hid (∀ u a2 c2, PHanded u a2 n (fun i => flp (f i)) → Calls Tryd.prog 8 #[.slice a2 n c2] u fun o w' => ∃ a1 c1, o = .returned (.slice a1 out2.length c1) ∧ PHanded w' a1 out2.length (rowL out2) ∧ Below u.heap.size u w') := fun u a2 c2 h2 => (rupper_any a2 n c2 _ u h60 h2 hok2).mono (by
    rintro o w' ⟨v, out, rfl, hL, hU, hb⟩
    obtain rfl := hU.one U2
    obtain ⟨a1, c1, rfl, h1⟩ := hL.handed l2
    exact ⟨a1, c1, rfl, h1, hb⟩)
  have cF2 : Hid (∀ u a3 c3, PHanded u a3 out2.length (rowL out2) → Calls Tryd.prog 9 #[.slice a3 out2.length c3] u fun o w' => FlR (rowL out2) out2.length u o w') := fun u a3 c3 h3 => rflip_any a3 out2.length c3 (rowL out2) u l2 h3 (up_ok U2 hok2)
  have cHU : ∀ u, Below w.heap.size w u → Calls Tryd.prog 10 #[.slice a n cap] u fun o w' => ∃ ca cc, o = .returned (.tuple #[.slice ca out1.length cc, errc 0]) ∧ PHanded w' ca out1.length (rowL out1) ∧ Below u.heap.size u w' := fun u hu => (B.upper a n cap f 0 u hu (hH.on hu) hE).mono (by
    rintro o w' ⟨ca, k, cc, c, rfl, hp, _, hk, hb⟩
    have e := (hk rfl).one U1
    have ek : k = out1.length := by rw [← e, lst_len]
    subst ek
    exact ⟨ca, cc, rfl, hp.same (fun i hi => by rw [← rowL_lst c out1.length i hi, e]), hb⟩)
  have cHL : ∀ u, Below w.heap.size w u → Calls Tryd.prog 11 #[.slice a n cap] u fun o w' => ∃ ca cc, o = .returned (.tuple #[.slice ca out2.length cc, errc 0]) ∧ PHanded w' ca out2.length (fun i => flp (rowL out2 i)) ∧ Below u.heap.size u w' := fun u hu => (C.lower a n cap f 0 u hu (hH.on hu) hE).mono (by
    rintro o w' ⟨ca, k, cc, c, rfl, hp, _, hk, hb⟩
    have h := hk rfl
    rw [← lst_flp, ← lst_flp] at h
    have e := h.one U2
    have ek : k = out2.length := by rw [← e, lst_len]
    subst ek
    exact ⟨ca, cc, rfl, hp.same (fun i hi => by rw [← e, rowL_lst _ _ i hi, flp_flp]), hb⟩)
  have cS1 : Hid (∀ u ca cc a1 c1, PHanded u ca out1.length (rowL out1) → PHanded u a1 out1.length (rowL out1) → Calls Tryd.prog 12 #[.slice ca out1.length cc, .slice a1 out1.length c1] u fun e w' => e = .returned (.bool true) ∧ Below u.heap.size u w') := fun u ca cc a1 c1 h1 h2 => same_points ca a1 _ cc c1 _ u h1 h2
  have cS2 : Hid (∀ u ca cc a1 c1, PHanded u ca out2.length (fun i => flp (rowL out2 i)) → PHanded u a1 out2.length (fun i => flp (rowL out2 i)) → Calls Tryd.prog 12 #[.slice ca out2.length cc, .slice a1 out2.length c1] u fun e w' => e = .returned (.bool true) ∧ Below u.heap.size u w') := fun u ca cc a1 c1 h1 h2 => same_points ca a1 _ cc c1 _ u h1 h2
  have cR := fun u (h : EnvE u) => error_c 0 u h
  have ne : lst f n ≠ [] := fun e => by have := lst_len f n; rw [e] at this; simp at this; omega
  obtain ⟨p0, e0, _⟩ := U1.some ne
  obtain ⟨p1, e1, _⟩ := U1.last ne
  have k0 : 0 < out1.length := (List.getElem?_eq_some_iff.1 e0).1
  have wi := U1.within (x := x) e0 e1
  have r0 : rowL out1 0 = p0 := rowL_at e0
  have r1 : rowL out1 (out1.length - 1) = p1 := rowL_at e1
  have wk : IntKind.i64.wrap ((out1.length : Int) - 1) = ((out1.length - 1 : Nat) : Int) := by rw [show (out1.length : Int) - 1 = ((out1.length - 1 : Nat) : Int) by omega]; exact IntWalk.i64_in _ (by omega)
  have hk3 : (0 : Int) < (out1.length : Nat) := by omega
  have hk4 : ((out1.length - 1 : Nat) : Int) < (out1.length : Nat) := by omega
  have nb : ((n : Int) == 0) = false := by simp; omega
  have HRow : Hid (∀ (u : World) (a1 : Option Addr), PHanded u a1 out1.length (rowL out1) → ∃ g o, a1 = some ⟨g, o, Option.none⟩ ∧ u.cell? ⟨g, o, Option.none⟩ = some (.int .i64 p0.1) ∧ u.cell? ⟨g, o + (out1.length - 1) * 2, Option.none⟩ = some (.int .i64 p1.1)) := fun u a1 h => by
    rcases h.2 with e | ⟨g, o, e, s⟩
    · omega
    · have s0 := (s 0 k0).1
      have s1 := (s (out1.length - 1) (by omega)).1
      rw [r0] at s0
      rw [r1] at s1
      exact ⟨g, o, e, by simpa using s0, s1⟩
  obtain ⟨V1, hV1⟩ := ov_some hw
  have hw2 : Within (lst (fun i => flp (f i)) n) x := by rw [lst_flp]; exact within_flp.2 hw
  obtain ⟨V2, hV2⟩ := ov_some hw2
  have vb := ov_in (fun p hp => by obtain ⟨j, hj, rfl⟩ := mem_lst.1 hp; exact hok2 j hj) hw2 hV2
  have ne2 : lst (fun i => flp (f i)) n ≠ [] := fun e => by have := lst_len (fun i => flp (f i)) n; rw [e] at this; simp at this; omega
  have k2 : 0 < out2.length := by obtain ⟨p, e, _⟩ := U2.some ne2; exact (List.getElem?_eq_some_iff.1 e).1
  have cV1 : Hid (∀ u a1 c1, PHanded u a1 out1.length (rowL out1) → Calls Tryd.prog 13 #[.slice a1 out1.length c1, .int .i64 x] u fun o w' => o = .returned (.int .i64 V1) ∧ Below u.heap.size u w') := fun u a1 c1 h => by
    rcases h.2 with e | ⟨g, o, rfl, s⟩
    · omega
    · refine (rover_any (lst f n) g o out1.length c1 (rowL out1) x u k0 l1 s (by rw [lst_row]; exact U1) (up_ok U1 hok) hw).mono ?_
      rintro o' w' ⟨v, rfl, hv, hb⟩
      rw [hv.one hV1]
      exact ⟨rfl, hb⟩
  have cV2 : Hid (∀ u a1 c1, PHanded u a1 out2.length (fun i => flp (flp (rowL out2 i))) → Calls Tryd.prog 13 #[.slice a1 out2.length c1, .int .i64 x] u fun o w' => o = .returned (.int .i64 V2) ∧ Below u.heap.size u w') := fun u a1 c1 h => by
    rcases (h.same (fun i _ => flp_flp (rowL out2 i))).2 with e | ⟨g, o, rfl, s⟩
    · omega
    · refine (rover_any (lst (fun i => flp (f i)) n) g o out2.length c1 (rowL out2) x u k2 l2 s (by rw [lst_row]; exact U2) (up_ok U2 hok2) hw2).mono ?_
      rintro o' w' ⟨v, rfl, hv, hb⟩
      rw [hv.one hV2]
      exact ⟨rfl, hb⟩
  have cF3 : Hid (∀ u a3 c3, PHanded u a3 out2.length (fun i => flp (rowL out2 i)) → Calls Tryd.prog 9 #[.slice a3 out2.length c3] u fun o w' => FlR (fun i => flp (rowL out2 i)) out2.length u o w') := fun u a3 c3 h3 => rflip_any a3 out2.length c3 _ u l2 h3 (fun i hi => okP_flp (up_ok U2 hok2 i hi))
  have cO := fun u (hu : Below w.heap.size w u) => O.over a n cap f x V1 0 u hu (hH.on hu) hx (Or.inr (Or.inr (Or.inr ⟨hE, hw, hV1, rfl⟩)))
  have cN := fun u (hu : Below w.heap.size w u) => O.under a n cap f x (-V2) 0 u hu (hH.on hu) hx (Or.inr (Or.inr (Or.inr ⟨hE, hw, by rw [Int.neg_neg, ← lst_flp]; exact hV2, rfl⟩)))
  have cRe := cR
  obtain ⟨V3, hV3⟩ : ∃ V3, V3 = -V2 := ⟨_, rfl⟩
  have wv : IntKind.i64.wrap (-V2) = V3 := by rw [hV3]; exact IntWalk.i64_in _ (by omega)
  rw [← hV3] at cN
  have hc := wi.1 hw
  have d1 : decide (x < p0.1) = false := decide_eq_false (by omega)
  have d2 : decide (p1.1 < x) = false := decide_eq_false (by omega)
  clear he B O C hH hE U1 U2 hok hok2 hw hw2 wi ne ne2 e0 e1 r0 r1 hV1 hV2 vb hc hV3
  generalize errc 0 = E0 at *
  generalize p0.1 = X0 at *
  generalize p1.1 = X1 at *
  have cnt : Mark 0 := .mk _
  go_enter Tryd.func3, Tryd.ntmps3
  go_wp2_with (first
    | (go_at_call 5; refine cP.mono ?_; rintro e' u0 ⟨rfl, hb⟩; have HW0 : Hid (Below w.heap.size w u0) := hb; clear hb)
    | (go_at_call 7; refine (cK _ HW0.out).mono ?_; rintro e' u1 ⟨rfl, hb⟩; have HW1 : Hid (Below w.heap.size w u1) := rbel_on hb HW0.out; clear hb)
    | (go_at_call 6; have cq : Mark 0 := cnt; refine (cR _ (HE.out.below HW1.out)).mono ?_; clear cq cnt; have cnt : Mark 1 := .mk _; rintro e' u2 ⟨rfl, hb⟩; have HW2 : Hid (Below w.heap.size w u2) := rbel_on hb HW1.out; clear hb)
    | (go_at_call 8; have cq : Mark 1 := cnt; refine (cU1 _ HW2.out).mono ?_; clear cq cnt; have cnt : Mark 2 := .mk _; rintro e' u3 ⟨a1, c1, rfl, hp, hb⟩; have HA3 : Hid (PHanded u3 a1 out1.length (rowL out1)) := hp; have HW3 : Hid (Below w.heap.size w u3) := rbel_on hb HW2.out; clear hb hp)
    | (go_at_call 9; have cq : Mark 2 := cnt; refine (cF1 _ HW3.out).mono ?_; clear cq cnt; have cnt : Mark 3 := .mk _; rintro e' u4 ⟨a2, c2, rfl, hp, hb⟩; have cu := cU2.out u4 a2 c2 hp; have HA4 : Hid (PHanded u4 a1 out1.length (rowL out1)) := HA3.out.on hb; have HW4 : Hid (Below w.heap.size w u4) := rbel_on hb HW3.out; clear hb hp)
    | (go_at_call 8; have cq : Mark 3 := cnt; refine cu.mono ?_; clear cq cnt cu; have cnt : Mark 4 := .mk _; rintro e' u5 ⟨a3, c3, rfl, hp, hb⟩; have cf := cF2.out u5 a3 c3 hp; have HA5 : Hid (PHanded u5 a1 out1.length (rowL out1)) := HA4.out.on hb; have HW5 : Hid (Below w.heap.size w u5) := rbel_on hb HW4.out; clear hb hp)
    | (go_at_call 9; have cq : Mark 4 := cnt; refine cf.mono ?_; clear cq cnt cf; have cnt : Mark 5 := .mk _; rintro e' u6 ⟨a4, c4, rfl, hp, hb⟩; have HD6 : Hid (PHanded u6 a4 out2.length (fun i => flp (rowL out2 i))) := hp; have HA6 : Hid (PHanded u6 a1 out1.length (rowL out1)) := HA5.out.on hb; have HW6 : Hid (Below w.heap.size w u6) := rbel_on hb HW5.out; clear hb hp)
    | (go_at_call 10; refine (cHU _ HW6.out).mono ?_; rintro e' u7 ⟨ca, cc, rfl, hp, hb⟩; have HC7 : Hid (PHanded u7 ca out1.length (rowL out1)) := hp; have HD7 : Hid (PHanded u7 a4 out2.length (fun i => flp (rowL out2 i))) := HD6.out.on hb; have HA7 : Hid (PHanded u7 a1 out1.length (rowL out1)) := HA6.out.on hb; have HW7 : Hid (Below w.heap.size w u7) := rbel_on hb HW6.out; clear hb hp)
    | (go_at_call 6; have cq : Mark 5 := cnt; refine (cR _ (HE.out.below HW7.out)).mono ?_; clear cq cnt; have cnt : Mark 6 := .mk _; rintro e' u8 ⟨rfl, hb⟩; have HC8 : Hid (PHanded u8 ca out1.length (rowL out1)) := HC7.out.on hb; have HD8 : Hid (PHanded u8 a4 out2.length (fun i => flp (rowL out2 i))) := HD7.out.on hb; have HA8 : Hid (PHanded u8 a1 out1.length (rowL out1)) := HA7.out.on hb; have HW8 : Hid (Below w.heap.size w u8) := rbel_on hb HW7.out; clear hb)
    | (go_at_call 11; refine (cHL _ HW8.out).mono ?_; rintro e' u9 ⟨cb, cd, rfl, hp, hb⟩; have HE9 : Hid (PHanded u9 cb out2.length (fun i => flp (rowL out2 i))) := hp; have HC9 : Hid (PHanded u9 ca out1.length (rowL out1)) := HC8.out.on hb; have HD9 : Hid (PHanded u9 a4 out2.length (fun i => flp (rowL out2 i))) := HD8.out.on hb; have HA9 : Hid (PHanded u9 a1 out1.length (rowL out1)) := HA8.out.on hb; have HW9 : Hid (Below w.heap.size w u9) := rbel_on hb HW8.out; clear hb hp)
    | (go_at_call 6; have cq : Mark 6 := cnt; refine (cR _ (HE.out.below HW9.out)).mono ?_; clear cq cnt; have cnt : Mark 7 := .mk _; rintro e' v0 ⟨rfl, hb⟩; have cs := cS1.out v0 ca cc a1 c1 (HC9.out.on hb) (HA9.out.on hb); have HE10 : Hid (PHanded v0 cb out2.length (fun i => flp (rowL out2 i))) := HE9.out.on hb; have HD10 : Hid (PHanded v0 a4 out2.length (fun i => flp (rowL out2 i))) := HD9.out.on hb; have HA10 : Hid (PHanded v0 a1 out1.length (rowL out1)) := HA9.out.on hb; have HW10 : Hid (Below w.heap.size w v0) := rbel_on hb HW9.out; clear hb)
    | (go_at_call 12; have cq : Mark 7 := cnt; refine cs.mono ?_; clear cq cnt cs; have cnt : Mark 8 := .mk _; rintro e' v1 ⟨rfl, hb⟩; have cs := cS2.out v1 cb cd a4 c4 (HE10.out.on hb) (HD10.out.on hb); have HD11 : Hid (PHanded v1 a4 out2.length (fun i => flp (rowL out2 i))) := HD10.out.on hb; have HA11 : Hid (PHanded v1 a1 out1.length (rowL out1)) := HA10.out.on hb; have HW11 : Hid (Below w.heap.size w v1) := rbel_on hb HW10.out; clear hb)
    | (go_at_call 12; have cq : Mark 8 := cnt; refine cs.mono ?_; clear cq cnt cs; have cnt : Mark 9 := .mk _; rintro e' v2 ⟨rfl, hb⟩; have HD12 : Hid (PHanded v2 a4 out2.length (fun i => flp (rowL out2 i))) := HD11.out.on hb; have HA12 : Hid (PHanded v2 a1 out1.length (rowL out1)) := HA11.out.on hb; have HW12 : Hid (Below w.heap.size w v2) := rbel_on hb HW11.out; clear hb; have co1 := cV1.out v2 a1 c1 HA12.out; obtain ⟨g1, o1, rfl, q0, q1⟩ := HRow.out v2 a1 HA12.out)
    | (go_at_call 13; have cq : Mark 9 := cnt; refine co1.mono ?_; clear cq cnt co1; have cnt : Mark 10 := .mk _; rintro e' v3 ⟨rfl, hb⟩; have cf := cF3.out v3 a4 c4 (HD12.out.on hb); have HW13 : Hid (Below w.heap.size w v3) := rbel_on hb HW12.out; clear hb)
    | (go_at_call 9; have cq : Mark 10 := cnt; refine cf.mono ?_; clear cq cnt cf; have cnt : Mark 11 := .mk _; rintro e' v4 ⟨a5, c5, rfl, hp, hb⟩; have co2 := cV2.out v4 a5 c5 hp; have HW14 : Hid (Below w.heap.size w v4) := rbel_on hb HW13.out; clear hb hp)
    | (go_at_call 13; have cq : Mark 11 := cnt; refine co2.mono ?_; clear cq cnt co2; have cnt : Mark 12 := .mk _; rintro e' y4 ⟨rfl, hb⟩; have HW15b : Hid (Below w.heap.size w y4) := rbel_on hb HW14.out; clear hb)
    | (go_at_call 14; refine (cO _ HW15b.out).mono ?_; rintro e' v5 ⟨rfl, hb⟩; have HW15 : Hid (Below w.heap.size w v5) := rbel_on hb HW15b.out; clear hb)
    | (go_at_call 6; have cq : Mark 12 := cnt; refine (cRe _ (HE.out.below HW15.out)).mono ?_; clear cq cnt; have cnt : Mark 13 := .mk _; rintro e' v6 ⟨rfl, hb⟩; have HW16 : Hid (Below w.heap.size w v6) := rbel_on hb HW15.out; clear hb)
    | (go_at_call 15; refine (cN _ HW16.out).mono ?_; rintro e' v7 ⟨rfl, hb⟩; have HW17 : Hid (Below w.heap.size w v7) := rbel_on hb HW16.out; clear hb)
    | (go_at_call 6; have cq : Mark 13 := cnt; refine (cRe _ (HE.out.below HW17.out)).mono ?_; clear cq cnt; have cnt : Mark 14 := .mk _; rintro e' v8 ⟨rfl, hb⟩; have HW18 : Hid (Below w.heap.size w v8) := rbel_on hb HW17.out; clear hb))
  go_ret
  exact ⟨rfl, HW18.out⟩
theorem all_ways (a : Option Addr) (n cap : Nat) (f : Nat → Int × Int) (x : Int) (w : World) (he : EnvE w) (B : HlU w) (O : HlO w) (C : HlT w) (hH : PHanded w a n f) (hx : In64 x) :
    Calls Tryd.prog 3 #[.slice a n cap, .int .i64 x] w fun o w' => o = .returned (.bool true) ∧ Below w.heap.size w w' := by
  obtain ⟨e, hE⟩ := ptE_some n f
  by_cases e0 : e = 0
  · subst e0
    obtain ⟨out1, U1⟩ := up_some f n
    obtain ⟨out2, U2⟩ := up_some (fun i => flp (f i)) n
    by_cases n0 : n = 0
    · exact noPoints a n cap f x out1 out2 w he B O C hH hx hE U1 U2 n0
    · by_cases hw : Within (lst f n) x
      · exact inside a n cap f x out1 out2 w he B O C hH hx hE U1 U2 (by omega) hw
      · exact beyond a n cap f x out1 out2 w he B O C hH hx hE U1 U2 (by omega) hw
  · exact wrong a n cap f x e w he B O C hH hx hE e0
end Go.Proofs.YtcofpgbaokmbmafDoor.hullTells
