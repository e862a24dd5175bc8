/- What hull.turned, hull.Check, hull.checkAt and hull.heightUp answer. -/
import Derived.Test.YtcofpgbaokmbmafDoorHullCor
namespace Go.Proofs.YtcofpgbaokmbmafDoor
open Go.ChangeShapes Go.WideShapes Go.ChangeAt Go.RowKit Go.Joins
set_option linter.unusedVariables false
set_option linter.unusedSimpArgs false

/-- Points upside down. -/
def TuR (f : Nat → Int × Int) (n : Nat) (w : World) (o : Ending) (w' : World) : Prop := ∃ a cap, o = .returned (.slice a n cap) ∧ PHanded w' a n (fun i => flp (f i)) ∧ Below w.heap.size w w'
set_option maxRecDepth 100000 in
set_option maxHeartbeats 8000000 in
theorem turned_any (ad : Option Addr) (n cap : Nat) (f : Nat → Int × Int) (w : World) (h60 : n ≤ 60) (hH : PHanded w ad n f) (hok : ∀ i, i < n → okP (f i)) :
    Calls Tryd.prog 22 #[.slice ad n cap] w fun o w' => TuR f n w o w' := by
  have HP : Hid (n = 0 ∨ ∃ b off : Nat, ad = some ⟨b, off, none⟩ ∧ Pls w b off n f) := hH.2
  have HO : Hid (∀ i, i < n → okP (f i)) := hok
  obtain ⟨i0, hi0, hz0, hz1, hz2⟩ := info_parts infoPoint
  clear hH hok
  go_enter Tryd.func22, Tryd.ntmps22
  go_wp2
  go_loopw [3, 9] (fun v vi wr => ∃ i : Nat, i ≤ n ∧ vi = .int .i64 i ∧ wr.ownsRow w.heap.size 33 2 v i (pcs (lst (fun j => flp (f j)) i)) ∧ Below w.heap.size w wr) (fun _ i _ => n - (intOf i).toNat)
  case atStart => exact ⟨0, Nat.zero_le _, rfl, own_emptyP w 33 2, rbel_al (Below.refl _ _)⟩
  case round =>
    obtain ⟨i, hi, rfl, hown, hw⟩ := hrel
    have zz := hw.size
    have HW : Hid (Below w.heap.size w wr) := hw
    by_cases hlt : i < n
    · have hl3 : (i : Int) < n := by omega
      obtain ⟨b, off, rfl, hP⟩ : ∃ b off : Nat, ad = some ⟨b, off, none⟩ ∧ Pls w b off n f := by
        rcases HP.out with e | h
        · omega
        · exact h
      obtain ⟨x0, x1⟩ := (hP.on hw) i hlt
      have zb : b < wr.heap.size := World.block_lt_of_cell? _ _ x0
      have nb : ¬ (b = wr.heap.size) := by omega
      obtain ⟨_, o1, o2⟩ := HO.out i hlt
      have wn : IntKind.i64.wrap (-(f i).2) = -(f i).2 := IntWalk.i64_in _ (by omega)
      have HB : Hid (∀ j, u3.ownBlock = some j → w.heap.size ≤ j) := fun j hj => (hown.lt j hj).1
      have HL : Hid (pcs (lst (fun j => flp (f j)) (i + 1)) = pcs (lst (fun j => flp (f j)) i) ++ [.int .i64 (f i).1, .int .i64 (-(f i).2)]) := by show pcs _ = _; rw [lst_snoc, pcs_app]; rfl
      have HWN : Hid (wr.ownsRow w.heap.size 33 2 u3 i (pcs (lst (fun j => flp (f j)) i))) := hown
      clear hw hP HO HP hown o1 o2
      generalize (f i).1 = px at *
      generalize (f i).2 = py at *
      go_wp2_with (at_builtin; refine wpList_append_own _ rfl _ _ 22 rfl w.heap.size 33 i0 (.agg #[.int .i64 0, .int .i64 0]) 2 16 Tryd.underlying22 hi0 hz0 hz1 hz2 rfl (by decide) _ _ _ rfl ((HWN.out.alloc _).alloc _) ⟨wr.heap.size + 1, 0, none⟩ 1 1 [.int .i64 px, .int .i64 (-py)] rfl rfl (fun j u hj => by rw [Addr.add_lit]; exact (Row.made (W := wr.alloc (.cells #[.int .i64 px, .int .i64 py] 33)) (vs := [.int .i64 px, .int .i64 (-py)]) (by simp)).c _ _ (by simpa using hj)) (fun u hu => by simp at hu; rcases hu with rfl | rfl <;> rfl) (by unfold maxLen; omega) (by omega) (by simp; omega) ?_)
      intro v' w1 hown1 hgrow1 _
      have ho1 : Hid (w1.ownsRow w.heap.size 33 2 v' (i + 1) (pcs (lst (fun j => flp (f j)) (i + 1)))) := by
        show w1.ownsRow w.heap.size 33 2 v' (i + 1) (pcs (lst (fun j => flp (f j)) (i + 1)))
        rw [HL.out]
        exact hown1
      have hw1 : Hid (Below w.heap.size w w1) := (rbel_al (rbel_al HW.out)).grown hgrow1 (by simp; omega) HB.out
      clear hown1 hgrow1 HWN HB HL HW
      go_wp2
      go_roundw
      case rel => exact ⟨i + 1, by omega, by go_num, ho1.out, hw1.out⟩
      case measure => simp [intOf]; omega
    · have hl3 : ¬ ((i : Int) < n) := by omega
      have e : i = n := by omega
      subst e
      obtain ⟨a, cap', rfl, hH, _⟩ := own_points hown (by rw [lst_len]) (by omega)
      have HH : Hid (PHanded wr a i (fun j => flp (f j))) := hH.same (fun j hj => rowL_lst _ i j hj)
      clear hown hw hH HP HO
      go_wp2
      go_ret
      exact ⟨a, cap', rfl, HH.out, HW.out⟩
theorem check_any (a : Option Addr) (n cap : Nat) (f : Nat → Int × Int) (e : Int) (u : World) (hH : PHanded u a n f) (hE : PtE n f e) : Calls Tryd.prog 7 #[.slice a n cap] u fun o w' => o = .returned (errc e) ∧ Below u.heap.size u w' := by
  have hn := hH.1
  have cA := any_chk a n cap f (fun i => badP (f i)) u hH (fun i u' hi hb => check1_any (f i).1 (f i).2 u')
  have HB : Hid (Below u.heap.size u u) := Below.refl _ _
  clear hH
  rcases hE with ⟨h, rfl⟩ | ⟨h, ⟨i, hi, hx⟩, rfl⟩ | ⟨h, hx, rfl⟩
  · have h' : (60 : Int) < n := by omega
    clear cA
    go_enter Tryd.func7, Tryd.ntmps7
    go_wp2
    go_ret
    exact ⟨rfl, HB.out⟩
  · have h' : ¬ ((60 : Int) < n) := by omega
    have HY : Hid (∃ k, k < n ∧ badP (f k) = true) := ⟨i, hi, (badP_iff _).2 hx⟩
    clear hx
    go_enter Tryd.func7, Tryd.ntmps7
    go_wp2_with (go_at_call 17; refine cA.mono ?_; rintro e u0 ⟨b, rfl, hb, hbel⟩; obtain rfl := hb.yes HY.out; have HB0 : Hid (Below u.heap.size u u0) := hbel; clear hb hbel)
    go_ret
    exact ⟨rfl, HB0.out⟩
  · have h' : ¬ ((60 : Int) < n) := by omega
    have HY : Hid (∀ k, k < n → badP (f k) = false) := fun k hk => by
      cases e : badP (f k) with
      | false => rfl
      | true => exact absurd (hx k hk) ((badP_iff _).1 e)
    clear hx
    go_enter Tryd.func7, Tryd.ntmps7
    go_wp2_with (go_at_call 17; refine cA.mono ?_; rintro e u0 ⟨b, rfl, hb, hbel⟩; obtain rfl := hb.no HY.out; have HB0 : Hid (Below u.heap.size u u0) := hbel; clear hb hbel)
    go_ret
    exact ⟨rfl, HB0.out⟩
/-- What is wrong with points and an x. -/
def AtE (n : Nat) (f : Nat → Int × Int) (x e : Int) : Prop := (PtE n f e ∧ e ≠ 0) ∨ (PtE n f 0 ∧ n = 0 ∧ e = 5) ∨ (PtE n f 0 ∧ 0 < n ∧ ¬ Within (lst f n) x ∧ e = 1) ∨ (PtE n f 0 ∧ Within (lst f n) x ∧ e = 0)
theorem ptE_not {e : Int} (h : e ≠ 0) {n : Nat} {f : Nat → Int × Int} (hE : PtE n f e) : e = 4 ∨ e = 1 := by
  rcases hE with ⟨_, rfl⟩ | ⟨_, _, rfl⟩ | ⟨_, _, rfl⟩
  · exact Or.inl rfl
  · exact Or.inr rfl
  · exact absurd rfl h
theorem errc_nil : errc 0 = .nilIface := rfl
theorem errc_four : errc 4 = .iface 39 (.int .i64 4) := rfl
theorem errc_one : errc 1 = .iface 39 (.int .i64 1) := rfl
set_option maxRecDepth 100000 in
set_option maxHeartbeats 4000000 in
theorem checkAt_good (a : Option Addr) (n cap : Nat) (f : Nat → Int × Int) (x : Int) (bf bt : Bool) (u : World) (n0 : 0 < n) (hH : PHanded u a n f) (hE : PtE n f 0) (hf : ∀ b, AnyP (fun i => decide ((f i).1 ≤ x)) n b → b = bf) (ht : ∀ b, AnyP (fun i => decide (x ≤ (f i).1)) n b → b = bt) :
    Calls Tryd.prog 23 #[.slice a n cap, .int .i64 x] u fun o w' => o = .returned (errc (if bf && bt then 0 else 1)) ∧ Below u.heap.size u w' := by
  have cK := check_any a n cap f 0 (u.alloc (.cells #[.int .i64 x] 3)) (hH.on (rbel_al (Below.refl _ _))) hE
  rw [errc_nil] at cK
  have RX : Hid (Row (u.alloc (.cells #[.int .i64 x] 3)) u.heap.size [.int .i64 x]) := Row.made (vs := [.int .i64 x]) rfl
  have HBX : Hid (Below u.heap.size u (u.alloc (.cells #[.int .i64 x] 3))) := rbel_al (Below.refl _ _)
  have cF : Hid (∀ u', Below u.heap.size u u' → Row u' u.heap.size [.int .i64 x] → Calls Tryd.prog 17 #[.slice a n cap, .func (.func 29) #[] #[.pointer (some ⟨u.heap.size, 0, none⟩)]] u' fun e w' => e = .returned (.bool bf) ∧ Below u'.heap.size u' w') := fun u' hb hr => (any_at1 a n cap _ f (fun i => decide ((f i).1 ≤ x)) u' (hH.on hb) (fun i u2 hi hb2 => at1_any (f i).1 (f i).2 x u.heap.size u2 ((Row.on hb2 hr).c 0 _ rfl))).mono (by
    rintro e w' ⟨b, rfl, hA, hB⟩
    rw [hf b hA]
    exact ⟨rfl, hB⟩)
  have cT : Hid (∀ u', Below u.heap.size u u' → Row u' u.heap.size [.int .i64 x] → Calls Tryd.prog 17 #[.slice a n cap, .func (.func 30) #[] #[.pointer (some ⟨u.heap.size, 0, none⟩)]] u' fun e w' => e = .returned (.bool bt) ∧ Below u'.heap.size u' w') := fun u' hb hr => (any_at2 a n cap _ f (fun i => decide (x ≤ (f i).1)) u' (hH.on hb) (fun i u2 hi hb2 => at2_any (f i).1 (f i).2 x u.heap.size u2 ((Row.on hb2 hr).c 0 _ rfl))).mono (by
    rintro e w' ⟨b, rfl, hA, hB⟩
    rw [ht b hA]
    exact ⟨rfl, hB⟩)
  have n0' : ¬ ((n : Int) = 0) := by omega
  have n0'' : ¬ (n = 0) := by omega
  have hmf1 : ∀ W, (Instr.makeFunc (.func 29) #[] #[.pointer (some ⟨u.heap.size, 0, none⟩)]).run Tryd.prog W = .ok (.func (.func 29) #[] #[.pointer (some ⟨u.heap.size, 0, none⟩)]) W := fun _ => by kernel_rfl
  have hmf2 : ∀ W, (Instr.makeFunc (.func 30) #[] #[.pointer (some ⟨u.heap.size, 0, none⟩)]).run Tryd.prog W = .ok (.func (.func 30) #[] #[.pointer (some ⟨u.heap.size, 0, none⟩)]) W := fun _ => by kernel_rfl
  clear hH hE hf ht
  have cnt : Mark 0 := .mk _
  cases bf <;> cases bt
  all_goals
    go_enter Tryd.func23, Tryd.ntmps23
    go_wp2_with (first
      | (go_at_call 7; refine cK.mono ?_; rintro e u0 ⟨rfl, hb⟩; have HB : Hid (Below u.heap.size u u0) := rbel_on hb HBX.out; have RX0 : Hid (Row u0 u.heap.size [.int .i64 x]) := Row.on hb RX.out; clear hb)
      | (go_at_call 17; have cq : Mark 0 := cnt; refine (cF.out _ HB.out RX0.out).mono ?_; clear cq cnt; have cnt : Mark 1 := .mk _; rintro e u1 ⟨rfl, hb⟩; have HB1 : Hid (Below u.heap.size u u1) := rbel_on hb HB.out; have RX1 : Hid (Row u1 u.heap.size [.int .i64 x]) := Row.on hb RX0.out; clear hb)
      | (go_at_call 17; have cq : Mark 1 := cnt; refine (cT.out _ HB1.out RX1.out).mono ?_; clear cq cnt; have cnt : Mark 2 := .mk _; rintro e u2 ⟨rfl, hb⟩; have HB2 : Hid (Below u.heap.size u u2) := rbel_on hb HB1.out; clear hb))
    go_ret
    exact ⟨rfl, HB2.out⟩
set_option maxRecDepth 100000 in
set_option maxHeartbeats 4000000 in
theorem checkAt_any (a : Option Addr) (n cap : Nat) (f : Nat → Int × Int) (x e : Int) (u : World) (hH : PHanded u a n f) (hE : AtE n f x e) : Calls Tryd.prog 23 #[.slice a n cap, .int .i64 x] u fun o w' => o = .returned (errc e) ∧ Below u.heap.size u w' := by
  rcases hE with ⟨hE, ne⟩ | ⟨hE, n0, rfl⟩ | ⟨hE, n0, hw, rfl⟩ | ⟨hE, hw, rfl⟩
  · have cK := check_any a n cap f e (u.alloc (.cells #[.int .i64 x] 3)) (hH.on (rbel_al (Below.refl _ _))) hE
    have h2 := ptE_not ne hE
    clear hH hE ne
    rcases h2 with rfl | rfl
    · rw [errc_four] at cK ⊢
      go_enter Tryd.func23, Tryd.ntmps23
      go_wp2_with (go_at_call 7; refine cK.mono ?_; rintro e u0 ⟨rfl, hb⟩; have HB : Hid (Below u.heap.size u u0) := rbel_on hb (rbel_al (Below.refl _ _)); clear hb)
      go_ret
      exact ⟨rfl, HB.out⟩
    · rw [errc_one] at cK ⊢
      go_enter Tryd.func23, Tryd.ntmps23
      go_wp2_with (go_at_call 7; refine cK.mono ?_; rintro e u0 ⟨rfl, hb⟩; have HB : Hid (Below u.heap.size u u0) := rbel_on hb (rbel_al (Below.refl _ _)); clear hb)
      go_ret
      exact ⟨rfl, HB.out⟩
  · subst n0
    have cK := check_any a 0 cap f 0 (u.alloc (.cells #[.int .i64 x] 3)) (hH.on (rbel_al (Below.refl _ _))) hE
    rw [errc_nil] at cK
    clear hH hE
    go_enter Tryd.func23, Tryd.ntmps23
    go_wp2_with (go_at_call 7; refine cK.mono ?_; rintro e u0 ⟨rfl, hb⟩; have HB : Hid (Below u.heap.size u u0) := rbel_on hb (rbel_al (Below.refl _ _)); clear hb)
    go_ret
    exact ⟨rfl, HB.out⟩
  · by_cases h1 : ∃ k, k < n ∧ (f k).1 ≤ x
    · by_cases h2 : ∃ k, k < n ∧ x ≤ (f k).1
      · exfalso
        obtain ⟨k, hk, e⟩ := h1
        obtain ⟨k', hk', e'⟩ := h2
        exact hw ⟨⟨f k, lst_in hk, e⟩, f k', lst_in hk', e'⟩
      · exact checkAt_good a n cap f x true false u n0 hH hE (fun b hb => hb.yes (by obtain ⟨k, hk, e⟩ := h1; exact ⟨k, hk, decide_eq_true e⟩)) (fun b hb => hb.no (fun k hk => decide_eq_false (fun e => h2 ⟨k, hk, e⟩)))
    · by_cases h2 : ∃ k, k < n ∧ x ≤ (f k).1
      · exact checkAt_good a n cap f x false true u n0 hH hE (fun b hb => hb.no (fun k hk => decide_eq_false (fun e => h1 ⟨k, hk, e⟩))) (fun b hb => hb.yes (by obtain ⟨k, hk, e⟩ := h2; exact ⟨k, hk, decide_eq_true e⟩))
      · exact checkAt_good a n cap f x false false u n0 hH hE (fun b hb => hb.no (fun k hk => decide_eq_false (fun e => h1 ⟨k, hk, e⟩))) (fun b hb => hb.no (fun k hk => decide_eq_false (fun e => h2 ⟨k, hk, e⟩)))
  · obtain ⟨⟨p, hp, e1⟩, q, hq, e2⟩ := hw
    obtain ⟨i, hi, rfl⟩ := mem_lst.1 hp
    obtain ⟨j, hj, rfl⟩ := mem_lst.1 hq
    exact checkAt_good a n cap f x true true u (by omega) hH hE (fun b hb => hb.yes ⟨i, hi, decide_eq_true e1⟩) (fun b hb => hb.yes ⟨j, hj, decide_eq_true e2⟩)
end Go.Proofs.YtcofpgbaokmbmafDoor
