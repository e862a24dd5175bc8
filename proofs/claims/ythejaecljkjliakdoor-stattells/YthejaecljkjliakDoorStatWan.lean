/- How numbers wander: what stat.walk and stat.Wander answer. -/
import Derived.Test.YthejaecljkjliakDoorStatChk
import Derived.Deep.Slices
namespace Go.Proofs.YthejaecljkjliakDoor
open Go.ChangeShapes Go.WideShapes Go.ChangeAt Go.RowKit Go.Joins
set_option linter.unusedVariables false
set_option linter.unusedSimpArgs false

/-- The greatest so far behind two numbers more. -/
def wn1 (x a b : Int) : Int := if x < dst b a then dst b a else x
theorem wn1_max (x a b : Int) : wn1 x a b = max (max x (a - b)) (b - a) := by
  unfold wn1 dst
  omega
theorem wnN_step (z : Nat → Int) (d k : Nat) : wnN z d (d + k + 1) = wn1 (wnN z d (d + k)) (z k) (z (d + k)) := by
  show (if d ≤ d + k ∧ wnN z d (d + k) < dst (z (d + k)) (z (d + k - d)) then dst (z (d + k)) (z (d + k - d)) else wnN z d (d + k)) = _
  rw [show d + k - d = k by omega]
  unfold wn1
  by_cases c : wnN z d (d + k) < dst (z (d + k)) (z k)
  · rw [if_pos ⟨by omega, c⟩, if_pos c]
  · rw [if_neg (fun h => c h.2), if_neg c]
theorem wander1 (B : Nat) (x a b : Int) (w : World) (h : Row w B [.int .i64 x]) (ha : okT a) (hb : okT b) :
    Calls Tryd.prog 25 #[.int .i64 a, .int .i64 b, .pointer (some ⟨B, 0, none⟩)] w fun e w' => e = .returned (.tuple #[]) ∧ Row w' B [.int .i64 (wn1 x a b)] ∧ Keeps (fun k => k = B) w w' := by
  have HR : Hid (Row w B [.int .i64 x]) := h
  have c0 := h.c 0 _ rfl
  have f0 := h.f 0 _ rfl
  have l0 := h.lt
  have w1 : IntKind.i64.wrap (a - b) = a - b := IntWalk.i64_in _ (by unfold okT at *; omega)
  have w2 : IntKind.i64.wrap (b - a) = b - a := IntWalk.i64_in _ (by unfold okT at *; omega)
  have M : Hid (wn1 x a b = max (max x (a - b)) (b - a)) := wn1_max x a b
  clear h ha hb
  go_enter Tryd.func25, Tryd.ntmps25
  go_wp2
  all_goals
    go_end0
    refine ⟨rfl, ?_, Keeps.put (S := fun k => k = B) rfl (Keeps.refl _ _)⟩
    first
      | (have e : wn1 x a b = b - a := (by unfold wn1 dst; omega); rw [e]; exact Row.put 0 HR.out)
      | (have e : wn1 x a b = a - b := (by unfold wn1 dst; omega); rw [e]; exact Row.put 0 HR.out)
      | (have e : wn1 x a b = x := (by unfold wn1 dst; omega); rw [e]; exact Row.put 0 HR.out)
set_option maxHeartbeats 2000000 in
theorem walk_any (b off n cap B d : Nat) (z : Nat → Int) (w : World) (hc : n ≤ cap) (hP : Nrd w b off n z) (hR : Row w B [.int .i64 0]) (hB : b ≠ B) (d0 : 0 < d) (dn : d < n) (n60 : n ≤ 60) (ok : ∀ i, i < n → okT (z i)) :
    Calls Tryd.prog 24 #[.slice (some ⟨b, off, none⟩) n cap, .int .i64 d, .func (.func 25) #[] #[.pointer (some ⟨B, 0, none⟩)]] w fun e w' => e = .returned (.tuple #[]) ∧ Row w' B [.int .i64 (wnN z d n)] ∧ Keeps (fun k => k = B) w w' := by
  obtain ⟨m, rfl⟩ : ∃ m, n = d + m := ⟨n - d, by omega⟩
  have HP : Hid (Nrd w b off (d + m) z) := hP
  have HR : Hid (Row w B [.int .i64 0]) := hR
  have HZ : Hid (∀ i, i < d + m → okT (z i)) := ok
  have HB : Hid (b ≠ B) := hB
  clear hP hR ok hB
  have x1 : ((d + m : Nat) : Int) - d = m := by omega
  go_enter Tryd.func24, Tryd.ntmps24
  go_wp2
  go_loopw [12] (fun i wr => ∃ k : Nat, k ≤ m ∧ i = .int .i64 k ∧ Row wr B [.int .i64 (wnN z d (d + k))] ∧ Keeps (fun k => k = B) w wr) (fun i _ => m - (intOf i).toNat)
  case atStart => exact ⟨0, Nat.zero_le _, rfl, by rw [show d + 0 = d from rfl, wnN_low (Nat.le_refl d)]; exact HR.out, Keeps.refl _ _⟩
  case round =>
    obtain ⟨k, hk, rfl, hr, hw⟩ := hrel
    have HW : Hid (Keeps (fun k => k = B) w wr) := hw
    by_cases hlt : k < m
    · have hl3 : (k : Int) < m := by omega
      have hl4 : (k : Int) < ((d + m : Nat) : Int) := by omega
      have y0 : wr.cell? ⟨b, off + k, none⟩ = some (.int .i64 (z k)) := hw.cell HB.out (HP.out k (by omega))
      have y1 : wr.cell? ⟨b, off + d + k, none⟩ = some (.int .i64 (z (d + k))) := by
        have := hw.cell HB.out (HP.out (d + k) (by omega))
        rwa [show off + (d + k) = off + d + k by omega] at this
      have cW : ∀ W, W = wr → Calls Tryd.prog 25 #[.int .i64 (z k), .int .i64 (z (d + k)), .pointer (some ⟨B, 0, none⟩)] W fun e w' => e = .returned (.tuple #[]) ∧ Row w' B [.int .i64 (wnN z d (d + k + 1))] ∧ Keeps (fun k => k = B) W w' := by
        rintro W rfl
        rw [wnN_step]
        exact wander1 B _ _ _ _ hr (HZ.out k (by omega)) (HZ.out (d + k) (by omega))
      generalize hV : wnN z d (d + k + 1) = V at *
      clear HZ HP hr hw HR
      generalize z k = z1 at *
      generalize z (d + k) = z2 at *
      go_wp2_with (go_at_call 25; refine (cW _ rfl).mono ?_; rintro e u0 ⟨rfl, hr, hw⟩; have HR0 : Hid _ := hr; have HW0 : Hid _ := hw; clear hr hw)
      go_roundw
      case rel => exact ⟨k + 1, by omega, by go_num, by rw [show d + (k + 1) = d + k + 1 from rfl, hV]; exact HR0.out, HW.out.trans HW0.out⟩
      case measure => simp [intOf]; omega
    · have hl3 : ¬ ((k : Int) < m) := by omega
      obtain rfl : k = m := by omega
      go_wp2
      go_end0
      exact ⟨rfl, hr, HW.out⟩
/-- Wander: the numbers are wrong. -/
theorem wander_no (ad : Option Addr) (n cap : Nat) (z : Nat → Int) (d e : Int) (w : World) (hH : NHanded w ad n z) (hE : NmE n z e) (he : e ≠ 0) :
    Calls Tryd.prog 13 #[.slice ad n cap, .int .i64 d] w fun o w' => o = .returned (.tuple #[.int .i64 0, errc e]) ∧ Below w.heap.size w w' := by
  have cC := fun u hu => scheck_any ad n cap z e u (hH.on (W := w) hu) hE
  rw [errc_not he] at *
  clear hH
  go_enter Tryd.func13, Tryd.ntmps13
  go_wp2_with (go_at_call 18; refine (cC _ (Below.refl _ _)).mono ?_; rintro e u0 ⟨rfl, hb⟩; have HB : Hid _ := hb; clear hb)
  go_ret2
  exact ⟨rfl, HB.out⟩
/-- .. how far is wrong. -/
theorem wander_far (ad : Option Addr) (n cap : Nat) (z : Nat → Int) (d : Int) (w : World) (hH : NHanded w ad n z) (hE : NmE n z 0) (hd : d < 1 ∨ (n : Int) ≤ d) :
    Calls Tryd.prog 13 #[.slice ad n cap, .int .i64 d] w fun o w' => o = .returned (.tuple #[.int .i64 0, .iface 41 (.int .i64 1)]) ∧ Below w.heap.size w w' := by
  have cC : ∀ u, Below w.heap.size w u → Calls Tryd.prog 18 #[.slice ad n cap] u fun o w' => o = .returned .nilIface ∧ Below u.heap.size u w' := fun u hu => scheck_any ad n cap z 0 u (hH.on (W := w) hu) hE
  have h' : d < 1 ∨ (¬ d < 1 ∧ (n : Int) ≤ d) := by omega
  clear hH hd
  rcases h' with d1 | ⟨d1, d2⟩
  all_goals
    go_enter Tryd.func13, Tryd.ntmps13
    go_wp2_with (go_at_call 18; refine (cC _ (Below.refl _ _)).mono ?_; rintro e u0 ⟨rfl, hb⟩; have HB : Hid _ := hb; clear hb)
    go_ret2
    exact ⟨rfl, HB.out⟩
theorem wander_ok (b off n cap d : Nat) (z : Nat → Int) (w : World) (hc : n ≤ cap) (hP : Nrd w b off n z) (hE : NmE n z 0) (d0 : 0 < d) (dn : d < n) :
    Calls Tryd.prog 13 #[.slice (some ⟨b, off, none⟩) n cap, .int .i64 d] w fun o w' => o = .returned (.tuple #[.int .i64 (wnN z d n), .nilIface]) ∧ Below w.heap.size w w' := by
  obtain ⟨n0, n60, ok⟩ := hE.zero
  have hbl : b < w.heap.size := World.block_lt_of_cell? _ _ (hP 0 n0)
  have cC : Calls Tryd.prog 18 #[.slice (some ⟨b, off, none⟩) n cap] w fun o w' => o = .returned .nilIface ∧ Below w.heap.size w w' := scheck_any _ n cap z 0 w ⟨by omega, Or.inr ⟨b, off, rfl, hP⟩⟩ hE
  have cW : ∀ B u, Below w.heap.size w u → w.heap.size ≤ B → Row u B [.int .i64 0] → Calls Tryd.prog 24 #[.slice (some ⟨b, off, none⟩) n cap, .int .i64 d, .func (.func 25) #[] #[.pointer (some ⟨B, 0, none⟩)]] u fun e w' => e = .returned (.tuple #[]) ∧ Row w' B [.int .i64 (wnN z d n)] ∧ Keeps (fun k => k = B) u w' := fun B u hu hB hR => walk_any b off n cap B d z u hc (hP.on hu) hR (by omega) d0 dn n60 ok
  have hmf : ∀ (fn : Go.Fn) (first cap : Array Value) (w : World), (Instr.makeFunc fn first cap).run Tryd.prog w = .ok (.func fn first cap) w := fun _ _ _ _ => rfl
  have e1 : ¬ ((d : Int) < 1) := by omega
  have e2 : ¬ ((n : Int) ≤ (d : Int)) := by omega
  clear hP hE ok
  generalize wnN z d n = V at *
  go_enter Tryd.func13, Tryd.ntmps13
  go_wp2_with (first
    | (go_at_call 18; refine cC.mono ?_; rintro e u0 ⟨rfl, hb⟩; have HB : Hid (Below w.heap.size w u0) := hb; clear hb)
    | (go_at_call 24; refine (cW u0.heap.size _ (rbel_al HB.out) HB.out.size (Row.made rfl)).mono ?_; rintro e u1 ⟨rfl, hr, hk⟩; have cV := hr.c 0 _ rfl; have HK : Hid (Below w.heap.size w u1) := (rbel_al HB.out).trans (hk.below (by have := HB.out.size; simp; omega) (fun k e => by rw [e]; exact HB.out.size)); clear hr hk))
  go_ret2
  exact ⟨rfl, HK.out⟩
theorem wander_any (ad : Option Addr) (n cap : Nat) (z : Nat → Int) (d e : Int) (w : World) (hH : NHanded w ad n z) (hc : n ≤ cap) (hE : WnE n z d e) :
    Calls Tryd.prog 13 #[.slice ad n cap, .int .i64 d] w fun o w' => o = .returned (.tuple #[.int .i64 (if e = 0 then wnN z d.toNat n else 0), errc e]) ∧ Below w.heap.size w w' := by
  rcases hE with ⟨a, b⟩ | ⟨a, b, rfl⟩ | ⟨a, b, c, rfl⟩
  · rw [if_neg b]
    exact wander_no ad n cap z d e w hH a b
  · rw [if_neg (by decide), errc_not (by decide)]
    exact wander_far ad n cap z d w hH a b
  · rw [if_pos rfl, errc_zero]
    rcases hH.2 with h | ⟨b', off, rfl, hP⟩
    · have := a.zero; omega
    · have := wander_ok b' off n cap d.toNat z w hc hP a (by omega) (by omega)
      rwa [show ((d.toNat : Nat) : Int) = d by omega] at this
end Go.Proofs.YthejaecljkjliakDoor
