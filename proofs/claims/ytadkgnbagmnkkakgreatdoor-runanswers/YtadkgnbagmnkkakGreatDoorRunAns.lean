/- What a desk answers to a line. -/
import Derived.Test.YtadkgnbagmnkkakGreatDoorNm08
import Derived.Test.YtadkgnbagmnkkakGreatDoorRunRead
import Derived.Test.YtadkgnbagmnkkakGreatDoorRunNam
import Derived.Shelf.Abstract
namespace Go.Proofs.YtadkgnbagmnkkakGreatDoor.rn
open Go.ChangeShapes Go.WideShapes Go.ChangeAt Go.RowKit Go.Joins Go.Shelf
set_option linter.unusedVariables false
set_option linter.unusedSimpArgs false
set_option maxHeartbeats 8000000
set_option maxRecDepth 100000
section
variable {w0 u : World} {nb M X Z : Nat} {F : Nat → Prop} {N N' : Nn}
def An (C : DkC w0) (u : World) (nb : Nat) (F : Nat → Prop) (N' : Nn) (x : List UInt8) (o : Ending) (w' : World) : Prop := ∃ F' : Nat → Prop, o = .returned (.string (txt x)) ∧ Nv w0 C.toNt w' nb F' N' ∧ Keeps F u w' ∧ ∀ k, F' k → F k ∨ u.heap.size ≤ k
theorem do_five (C : DkC w0) (g : Nv w0 C.toNt u nb F N) (d : Row u Z [.pointer (some ⟨nb, 0, none⟩), .map (some M)]) (nFZ : ¬ F Z) (hM : WdM u X M) (nFX : ∀ k, 1 ≤ k → k ≤ 5 → ¬ F (X + k)) (k a b : Nat) (k1 : 1 ≤ k) (k5 : k ≤ 5) (ha : a ≤ 9999999) (hb : b ≤ 9999999) (s x : List UInt8) (hL : LineR N s N' x) (hc : cmdB s = (k, (a : Int), (b : Int))) : Calls Tryz.prog 88 #[.pointer (some ⟨Z, 0, none⟩), .agg #[.int .i64 (a : Int), .int .i64 (b : Int)], .pointer (some ⟨X + k, 0, none⟩)] u (Tl C u nb F N' x) := by
 rcases hL.is hc with ⟨h, _⟩ | ⟨_, _, e, hD, hx⟩ | ⟨h, _⟩ | ⟨h, _⟩ | ⟨h, _⟩ | ⟨h, _⟩
 ·omega
 ·exact do_act C g d nFZ (X + k) k (hM.c k k1 k5) (nFX k k1 k5) a b ha hb (by omega) e x hD hx
 all_goals omega
theorem do_four (C : DkC w0) (g : Nv w0 C.toNt u nb F N) (d : Row u Z [.pointer (some ⟨nb, 0, none⟩), .map (some M)]) (k a b : Nat) (k6 : 6 ≤ k) (k9 : k ≤ 9) (ha : a ≤ 9999999) (hb : b ≤ 9999999) (s x : List UInt8) (hL : LineR N s N' x) (hc : cmdB s = (k, (a : Int), (b : Int))) : Calls Tryz.prog (fnK k) #[.pointer (some ⟨Z, 0, none⟩), .agg #[.int .i64 (a : Int), .int .i64 (b : Int)]] u (Tl C u nb F N' x) := by
 rcases hL.is hc with ⟨h, _⟩ | ⟨_, h, _⟩ | ⟨h, rfl, hI⟩ | ⟨h, rfl, lo, hi, e, hB, hx⟩ | ⟨h, rfl, T, hA, hx⟩ | ⟨h, rfl, y, m, d2, hh, mi, sc, hU, hx⟩
 ·omega
 ·omega
 ·subst h; exact do_show C g d a b ha hb x hI
 ·subst h; exact do_off C g d a b ha hb x lo hi e hB hx
 ·subst h; exact do_wide C g d a b ha hb x T hA hx
 ·subst h; exact do_date C g d a b ha hb x y m d2 hh mi sc hU hx
theorem ent_act : ∀ args w, (callFunc 88 args).run Tryz.prog w = .ok (.enter 88 args) w := enters_of Tryz.func88 (by kernel_rfl) rfl
theorem ent_four (k : Nat) (k6 : 6 ≤ k) (k9 : k ≤ 9) : ∀ args w, (callFunc (fnK k) args).run Tryz.prog w = .ok (.enter (fnK k) args) w := by
 rcases (show k = 6 ∨ k = 7 ∨ k = 8 ∨ k = 9 by omega) with rfl | rfl | rfl | rfl
 ·exact enters_of Tryz.func60 (by kernel_rfl) rfl
 ·exact enters_of Tryz.func61 (by kernel_rfl) rfl
 ·exact enters_of Tryz.func62 (by kernel_rfl) rfl
 ·exact enters_of Tryz.func63 (by kernel_rfl) rfl
theorem rd_bad {s : List UInt8} {v : World} (h : Calls Tryz.prog 41 #[.pointer (some ⟨Z, 0, none⟩), .string (txt s)] v (Rd X s v)) (hc : cmdB s = (0, 0, 0)) : Calls Tryz.prog 41 #[.pointer (some ⟨Z, 0, none⟩), .string (txt s)] v fun o w' => o = .returned (.tuple #[.agg #[.int .i64 0, .nilFunc], .agg #[.int .i64 0, .int .i64 0], lineV]) ∧ Below v.heap.size v w' := by
 refine h.mono ?_
 rintro o w' ⟨hb, ⟨rfl, _⟩ | ⟨k, a, b, _, k0, _, _, _, hk⟩⟩
 ·exact ⟨rfl, hb⟩
 ·rw [hc] at hk
  exact absurd (Prod.mk.inj hk).1.symm k0
theorem rd_good {s : List UInt8} {v : World} (h : Calls Tryz.prog 41 #[.pointer (some ⟨Z, 0, none⟩), .string (txt s)] v (Rd X s v)) {k a b : Nat} (k0 : k ≠ 0) (hc : cmdB s = (k, (a : Int), (b : Int))) : Calls Tryz.prog 41 #[.pointer (some ⟨Z, 0, none⟩), .string (txt s)] v fun o w' => o = .returned (.tuple #[.agg #[.int .i64 (wantB k : Int), .func (.func (fnK k)) #[] (lbK X k)], .agg #[.int .i64 (a : Int), .int .i64 (b : Int)], .nilIface]) ∧ Below v.heap.size v w' := by
 refine h.mono ?_
 rintro o w' ⟨hb, ⟨_, hz⟩ | ⟨k', a', b', rfl, _, _, _, _, hk⟩⟩
 ·rw [hc] at hz
  exact absurd (Prod.mk.inj hz).1 k0
 ·rw [hc] at hk
  have q1 := (Prod.mk.inj hk).1
  have q2 := (Prod.mk.inj (Prod.mk.inj hk).2).1
  have q3 := (Prod.mk.inj (Prod.mk.inj hk).2).2
  obtain rfl : a = a' := by omega
  obtain rfl : b = b' := by omega
  subst q1
  exact ⟨by rw [show wV X k = .agg #[.int .i64 (wantB k : Int), .func (.func (fnK k)) #[] (lbK X k)] from if_neg k0], hb⟩
theorem answer_bad (C : DkC w0) (hE : told.EnvE w0) (g : Nv w0 C.toNt u nb F N) (s : List UInt8) (cR : ∀ v, Below u.heap.size u v → Calls Tryz.prog 41 #[.pointer (some ⟨Z, 0, none⟩), .string (txt s)] v fun o w' => o = .returned (.tuple #[.agg #[.int .i64 0, .nilFunc], .agg #[.int .i64 0, .int .i64 0], lineV]) ∧ Below v.heap.size v w') : Calls Tryz.prog 18 #[.pointer (some ⟨Z, 0, none⟩), .string (txt s)] u (An C u nb F N badB) := by
 have cN := fun (v : World) (hv : Below u.heap.size u v) => name_line v ((hE.below g.hw).below hv)
 have HG : Hid (Nv w0 C.toNt u nb F N) := g
 clear g hE
 unfold lineV at cR cN
 go_enter Tryz.func18, Tryz.ntmps18
 go_wp2_with (first
  | (go_at_call 41; refine (cR _ (by (repeat first | with_reducible exact Below.refl _ _ | with_reducible refine rbel_put (by omega) ?_ | with_reducible refine rbel_drn ?_ | with_reducible refine rbel_dr ?_ | with_reducible refine rbel_al ?_))).mono ?_; rintro o u1 ⟨rfl, hb⟩; have B1 : Hid (Below u.heap.size u u1) := rbel_on hb (by (repeat first | with_reducible exact Below.refl _ _ | with_reducible refine rbel_put (by omega) ?_ | with_reducible refine rbel_drn ?_ | with_reducible refine rbel_dr ?_ | with_reducible refine rbel_al ?_)); clear hb)
  | (go_at_call 15; refine (cN _ (by (repeat first | with_reducible exact B1.out | with_reducible refine rbel_put (by omega) ?_ | with_reducible refine rbel_drn ?_ | with_reducible refine rbel_dr ?_ | with_reducible refine rbel_al ?_))).mono ?_; rintro o u2 ⟨rfl, hb⟩; have B2 : Hid (Below u.heap.size u u2) := rbel_on hb (by (repeat first | with_reducible exact B1.out | with_reducible refine rbel_put (by omega) ?_ | with_reducible refine rbel_drn ?_ | with_reducible refine rbel_dr ?_ | with_reducible refine rbel_al ?_)); clear hb))
 go_ret
 exact ⟨F, rfl, HG.out.on B2.out, Keeps.of B2.out, fun k h => Or.inl h⟩
theorem answer_fn (C : DkC w0) (hE : told.EnvE w0) (hw : Below w0.heap.size w0 u) (s x : List UInt8) (fn : Nat) (lb : Array Value) (hlb : lb = #[] ∨ ∃ c, lb = #[.pointer (some ⟨c, 0, none⟩)]) (hfn : ∀ args w, (callFunc fn args).run Tryz.prog w = .ok (.enter fn args) w) (n : Nat) (a b : Nat) (cR : ∀ v, Below u.heap.size u v → Calls Tryz.prog 41 #[.pointer (some ⟨Z, 0, none⟩), .string (txt s)] v fun o w' => o = .returned (.tuple #[.agg #[.int .i64 (n : Int), .func (.func fn) #[] lb], .agg #[.int .i64 (a : Int), .int .i64 (b : Int)], .nilIface]) ∧ Below v.heap.size v w') (cF : ∀ v, Below u.heap.size u v → Calls Tryz.prog fn (#[.pointer (some ⟨Z, 0, none⟩), .agg #[.int .i64 (a : Int), .int .i64 (b : Int)]] ++ lb) v (Tl C v nb F N' x)) : Calls Tryz.prog 18 #[.pointer (some ⟨Z, 0, none⟩), .string (txt s)] u (An C u nb F N' x) := by
 rcases hlb with rfl | ⟨c, rfl⟩
 all_goals
  have HE : Hid (told.EnvE w0) := hE
  clear hw hE
  go_enter Tryz.func18, Tryz.ntmps18
  go_wp2_with (go_at_call 41; refine (cR _ (by (repeat first | with_reducible exact Below.refl _ _ | with_reducible refine rbel_put (by omega) ?_ | with_reducible refine rbel_drn ?_ | with_reducible refine rbel_dr ?_ | with_reducible refine rbel_al ?_))).mono ?_; rintro o u1 ⟨rfl, hb⟩; have B1 : Hid (Below u.heap.size u u1) := rbel_on hb (by (repeat first | with_reducible exact Below.refl _ _ | with_reducible refine rbel_put (by omega) ?_ | with_reducible refine rbel_drn ?_ | with_reducible refine rbel_dr ?_ | with_reducible refine rbel_al ?_)); clear hb)
  go_at_fn fn
  refine (cF _ (by (repeat first | with_reducible exact B1.out | with_reducible refine rbel_put (by omega) ?_ | with_reducible refine rbel_drn ?_ | with_reducible refine rbel_dr ?_ | with_reducible refine rbel_al ?_))).mono ?_
  rintro o u2 ⟨F', e, t, rfl, e0, e8, hx, g2, hK, hF⟩
  have sz1 := B1.out.size
  have G2 : Hid (Nv w0 C.toNt u2 nb F' N') := g2
  have K2 : Hid (Keeps F u u2) := (Keeps.of (by (repeat first | with_reducible exact B1.out | with_reducible refine rbel_put (by omega) ?_ | with_reducible refine rbel_drn ?_ | with_reducible refine rbel_dr ?_ | with_reducible refine rbel_al ?_))).trans hK
  have F2 : Hid (∀ k, F' k → F k ∨ u.heap.size ≤ k) := (fun k hk => (hF k hk).imp id (fun q => by simp at q; omega))
  clear g2 hK hF cF cR
  by_cases z : e = 0
  ·subst z
   rw [errc_zero]
   rw [if_pos rfl] at hx
   have et : Hid (t = txt x) := by
    show t = txt x
    rw [hx]
    rfl
   clear hx
   go_wp2
   go_ret
   rw [et.out]
   exact ⟨F', rfl, G2.out, K2.out, F2.out⟩
  ·rw [errc_not z]
   rw [if_neg z] at hx
   have cN := fun (v : World) (hv : Below u2.heap.size u2 v) => name_errno e (by omega) e8 v ((HE.out.below G2.out.hw).below hv)
   have HX : Hid (x = nameB e) := hx
   clear hx
   go_wp2_with (go_at_call 15; refine (cN _ (by (repeat first | with_reducible exact Below.refl _ _ | with_reducible refine rbel_put (by omega) ?_ | with_reducible refine rbel_drn ?_ | with_reducible refine rbel_dr ?_ | with_reducible refine rbel_al ?_))).mono ?_; rintro o u3 ⟨rfl, hb⟩; have B3 : Hid (Below u2.heap.size u2 u3) := rbel_on hb (by (repeat first | with_reducible exact Below.refl _ _ | with_reducible refine rbel_put (by omega) ?_ | with_reducible refine rbel_drn ?_ | with_reducible refine rbel_dr ?_ | with_reducible refine rbel_al ?_)); clear hb)
   go_ret
   rw [HX.out]
   exact ⟨F', rfl, G2.out.on B3.out, K2.out.trans (Keeps.of B3.out), F2.out⟩
theorem answer_any (C : DkC w0) (hE : told.EnvE w0) (hS : ShE w0) (hX : EnvX w0) (g : Nv w0 C.toNt u nb F N) (d : Row u Z [.pointer (some ⟨nb, 0, none⟩), .map (some M)]) (nFZ : ¬ F Z) (hM : WdM u X M) (nFX : ∀ k, 1 ≤ k → k ≤ 5 → ¬ F (X + k)) (s x : List UInt8) (hs : s.length ≤ 3000) (hL : LineR N s N' x) : Calls Tryz.prog 18 #[.pointer (some ⟨Z, 0, none⟩), .string (txt s)] u (An C u nb F N' x) := by
 have cR := fun (v : World) (hv : Below u.heap.size u v) => read_any C (rbel_on hv g.hw) ((hS.below g.hw).below hv) ((hX.below g.hw).below hv) (Row.on hv d) (hM.on hv) s hs
 obtain ⟨k, a', b', hc, hr⟩ := id hL
 obtain ⟨k9, a0, a1, b0, b1⟩ := cmdW_in (show cmdW (cutB 32 s) = (k, a', b') from hc)
 obtain ⟨a, rfl⟩ : ∃ a : Nat, a' = a := ⟨a'.toNat, by omega⟩
 obtain ⟨b, rfl⟩ : ∃ b : Nat, b' = b := ⟨b'.toNat, by omega⟩
 by_cases k0 : k = 0
 ·subst k0
  have hz : cmdB s = (0, 0, 0) := by
   rcases hr with ⟨_, _, hx⟩ | ⟨h, _⟩ | ⟨h, _⟩ | ⟨h, _⟩ | ⟨h, _⟩ | ⟨h, _⟩
   ·exact cmdB_zero hc
   all_goals omega
  obtain ⟨rfl, rfl⟩ := hL.bad hz
  exact answer_bad C hE g s (fun v hv => rd_bad (cR v hv) hz)
 ·by_cases k5 : k ≤ 5
  ·have ef : fnK k = 88 := if_pos k5
   have el : lbK X k = #[.pointer (some ⟨X + k, 0, none⟩)] := if_pos k5
   refine answer_fn C hE g.hw s x 88 _ (Or.inr ⟨X + k, rfl⟩) ent_act (wantB k) a b (fun v hv => ?_) (fun v hv => ?_)
   ·have q := rd_good (cR v hv) k0 hc
    rw [ef, el] at q
    exact q
   ·exact do_five C (g.on hv) (Row.on hv d) nFZ (hM.on hv) nFX k a b (by omega) k5 (by omega) (by omega) s x hL hc
  ·have el : lbK X k = #[] := if_neg k5
   refine answer_fn C hE g.hw s x (fnK k) _ (Or.inl rfl) (ent_four k (by omega) k9) (wantB k) a b (fun v hv => ?_) (fun v hv => ?_)
   ·have q := rd_good (cR v hv) k0 hc
    rw [el] at q
    exact q
   ·exact do_four C (g.on hv) (Row.on hv d) k a b (by omega) k9 (by omega) (by omega) s x hL hc
end
end Go.Proofs.YtadkgnbagmnkkakGreatDoor.rn
