/- Events cloned, and sorted by when they begin. -/
import Derived.Test.YtbghpjmjhhjcgagDoorOrdRow
import Derived.Test.YtbghpjmjhhjcgagDoorOrdLay
namespace Go.Proofs.YtbghpjmjhhjcgagDoor
open Go.ChangeShapes Go.WideShapes Go.ChangeAt Go.RowKit Go.Joins
set_option linter.unusedVariables false
set_option linter.unusedSimpArgs false

theorem nilE' (n c : Nat) (u : World) : (binOp .eql 40 (.slice none n c) (.slice none 0 0)).run Tryd.prog u = .ok (.bool true) u := by kernel_rfl
theorem someE (a : Addr) (n c : Nat) (u : World) : (binOp .eql 40 (.slice (some a) n c) (.slice none 0 0)).run Tryd.prog u = .ok (.bool false) u := by kernel_rfl
theorem own_emptyE (w : World) (e : TypeId) (size : Nat) : (w.alloc (.cells #[] e)).ownsRow w.heap.size e size (.slice (some ⟨w.heap.size, 0, none⟩) 0 0) 0 [] := by
  refine ⟨by simp, Or.inr ⟨w.heap.size, 0, #[], rfl, Nat.le_refl _, ?_, Nat.le_refl _, Nat.zero_le _, by simp, by simp⟩⟩
  show (w.heap.push _)[w.heap.size]? = _
  simp
theorem evs_cells {w : World} {b off n : Nat} {f : Nat → Ev} (h : Evs w b off n f) (j : Nat) (u : Value) (hj : (vcs f n)[j]? = some u) : w.cell? ⟨b, off + j, none⟩ = some u := by
  have l := (List.getElem?_eq_some_iff.1 hj).1
  rw [vcs_len] at l
  obtain ⟨a, c, d⟩ := h (j / 3) (by omega)
  obtain ⟨x, y, z⟩ := vcs_at f (show j / 3 < n by omega)
  have : j % 3 = 0 ∨ j % 3 = 1 ∨ j % 3 = 2 := by omega
  rcases this with e | e | e
  · rw [show j / 3 * 3 = j by omega] at x
    rw [x] at hj
    rw [show off + j = off + j / 3 * 3 by omega, a, ← hj]
  · rw [show j / 3 * 3 + 1 = j by omega] at y
    rw [y] at hj
    rw [show off + j = off + j / 3 * 3 + 1 by omega, c, ← hj]
  · rw [show j / 3 * 3 + 1 + 1 = j by omega] at z
    rw [z] at hj
    rw [show off + j = off + j / 3 * 3 + 1 + 1 by omega, d, ← hj]
set_option maxHeartbeats 1000000 in
theorem clone_evs (ad : Option Addr) (n cap : Nat) (f : Nat → Ev) (w : World) (h12 : n ≤ 12) (hH : VHanded w ad n f) :
    Calls Tryd.prog 52 #[.slice ad n cap] w fun e w' => ∃ v, e = .returned v ∧ w'.ownsRow w.heap.size 46 3 v n (vcs f n) ∧ Below w.heap.size w w' := by
  have q1 := nilE'
  have q2 := someE
  obtain ⟨i0, hi0, hz0, hz1, hz2⟩ := info_parts infoEvent
  cases ad with
  | none =>
    have n0 : n = 0 := by
      rcases hH.2 with e | ⟨b, off, e, _⟩
      · exact e
      · cases e
    subst n0
    clear hH
    go_enter Tryd.func52, Tryd.ntmps52
    go_wp2
    go_ret
    exact ⟨_, rfl, World.ownsRow_nil _ _ _ _, Below.refl _ _⟩
  | some a =>
    have HC : Hid (∀ j u, (vcs f n)[j]? = some u → (w.alloc (.cells #[] 46)).cell? (a.add j) = some u) := by
      intro j u hj
      rcases hH.2 with e | ⟨b, off, e, hP⟩
      · subst e
        simp [vcs] at hj
      · obtain rfl := Option.some.inj e
        rw [Addr.add_lit]
        have c := evs_cells hP j u hj
        rw [(rbel_al (Below.refl w.heap.size w)).cell (p := ⟨b, off + j, none⟩) (World.block_lt_of_cell? _ _ c)]
        exact c
    have HL : Hid ((vcs f n).length = n * 3) := vcs_len f n
    have H1 : Hid (∀ u ∈ vcs f n, u.oneCell' = true) := vcs_one f n
    clear hH
    generalize vcs f n = news at *
    go_enter Tryd.func52, Tryd.ntmps52
    go_wp2_with (at_builtin; refine wpList_append_own _ rfl _ _ 40 rfl w.heap.size 46 i0 (.agg #[.int .i64 0, .int .i64 0, .int .i64 0]) 3 24 Tryd.underlying40 hi0 hz0 hz1 hz2 rfl (by decide) _ 0 [] rfl (own_emptyE w 46 3) a n cap news rfl HL.out HC.out H1.out (by unfold maxLen; omega) (by omega) (by simp) ?_)
    intro v' w1 hown' hgrow _
    have HO : Hid (w1.ownsRow w.heap.size 46 3 v' n news) := hown'
    have hw1 : Hid (Below w.heap.size w w1) := (rbel_al (Below.refl _ _)).grown hgrow (by simp) (fun j hj => ((own_emptyE w 46 3).lt j hj).1)
    clear hown' hgrow HC HL H1
    go_wp2
    go_ret
    exact ⟨_, rfl, HO.out, hw1.out⟩
section
open Go.Sort Go.Shelf
/-- An event as three numbers, and its three cells. -/
abbrev Tr := Int × Int × Int
def encE (x : Tr) : List Value := [.int .i64 x.1, .int .i64 x.2.1, .int .i64 x.2.2]
def trE (x : Ev) : Tr := (x.id, x.lo, x.hi)
def evT (x : Tr) : Ev := ⟨x.1, x.2.1, x.2.2⟩
theorem evT_trE (x : Ev) : evT (trE x) = x := rfl
def lstT (f : Nat → Ev) (n : Nat) : List Tr := (List.range n).map (fun i => trE (f i))
theorem lstT_len (f : Nat → Ev) (n : Nat) : (lstT f n).length = n := by simp [lstT]
theorem lstT_at (f : Nat → Ev) (n i : Nat) (h : i < n) : (lstT f n)[i]? = some (trE (f i)) := by simp [lstT, h]
/-- How two events are compared. -/
def cmpE (x y : Tr) : Int := Lib.compareInt x.2.1 y.2.1
set_option maxHeartbeats 400000 in
theorem longest1_any (x y : Tr) (W : World) : Calls Tryd.prog 54 #[.agg #[.int .i64 x.1, .int .i64 x.2.1, .int .i64 x.2.2], .agg #[.int .i64 y.1, .int .i64 y.2.1, .int .i64 y.2.2]] W fun e w' => e = .returned (.int .i64 (cmpE x y)) ∧ ∃ q os', w' = grow (W.drewN q) os' := by
  have hcon := fun a b W' => AnyG.cmp_Compare_int Tryd.cmpInt a b W'
  change ∀ a b W', Calls Tryd.prog 55 _ _ _ at hcon
  have d1 : ¬ (W.heap.size = W.heap.size + 1) := by omega
  unfold cmpE
  generalize Lib.compareInt = C at hcon ⊢
  generalize x.1 = x1
  generalize x.2.1 = x2
  generalize x.2.2 = x3
  generalize y.1 = y1
  generalize y.2.1 = y2
  generalize y.2.2 = y3
  have HG : Hid (∃ q os', ((W.alloc (.cells #[.int .i64 x1, .int .i64 x2, .int .i64 x3] 46)).alloc (.cells #[.int .i64 y1, .int .i64 y2, .int .i64 y3] 46)) = grow (W.drewN q) os') := ⟨0, _, by rw [alloc_eq_grow, alloc_eq_grow, grow_grow]; rfl⟩
  go_enter Tryd.func54, Tryd.ntmps54
  go_wp2_with (go_at_call 55; refine (hcon _ _ _).mono ?_; rintro e w' ⟨rfl, hw'⟩; rw [hw']; clear hw')
  go_ret
  exact ⟨rfl, HG.out⟩
theorem ltE (x y : Tr) : ltOf cmpE x y = decide (x.2.1 < y.2.1) := by
  unfold ltOf cmpE Lib.compareInt
  rcases Int.lt_trichotomy x.2.1 y.2.1 with h | h | h
  · simp [h]
  · rw [h]
    simp
  · have h1 : ¬ x.2.1 < y.2.1 := by omega
    simp [h, h1]
theorem swoE : SWO (ltOf cmpE) := ⟨fun x => by rw [ltE]; simp, fun x y z h1 h2 => by rw [ltE] at *; simp at *; omega, fun x y z h1 h2 => by rw [ltE] at *; simp at *; omega⟩
theorem sort_evs (blk cap N : Nat) (d : Array Tr) (w : World) (hN : d.size = N) (hH : HoldsK encE 3 w blk 0 d) (hblk : blk < w.heap.size) (hsz : N < 4611686018427387904) :
    Calls Tryd.prog 53 #[.slice (some ⟨blk, 0, none⟩) N cap, .func (.func 54) #[] #[]] w fun e w' => e = .returned (.tuple #[]) ∧
      ∃ d' n os, PermIn 0 d.size d d' ∧ SortedIn (ltOf cmpE) 0 d.size d' ∧ w' = sortWorldK encE 3 w blk 0 n d' os := by
  subst hN
  exact AnyQ.slices_SortFunc Tryd.sortEvent 3 Tryd.isAgg46 Tryd.sizeOf46 encE (fun _ => rfl) (fun x v hv => by simp [encE] at hv; rcases hv with rfl | rfl | rfl <;> rfl) cmpE swoE 54 #[] blk 0 cap d w
    (enters_of Tryd.func54 (by kernel_rfl) rfl) (fun _ _ _ _ x y => longest1_any x y _) hH hblk hsz
theorem sort_belowE {w0 w : World} {base blk off n : Nat} {d : Array Tr} {os : Array Obj} (h : Below base w0 w) (h1 : base ≤ blk) (h2 : base ≤ w.heap.size) : Below base w0 (sortWorldK encE 3 w blk off n d os) := by
  refine h.trans ⟨rfl, rfl, rfl, ?_, fun k hk => ?_⟩
  · exact size_sortWorldK_c encE 3 w blk off n d os
  · unfold sortWorldK grow putRowK putRow mapBlock
    simp only [Array.getElem?_append]
    rw [if_pos (by simp [Sort.ahead]; omega)]
    simp only [Array.getElem?_modify]
    rw [if_neg (by omega)]
    rfl
theorem vcs_get (f : Nat → Ev) (n t : Nat) (h : t < n * 3) : (vcs f n)[t]? = some (encE (trE (f (t / 3))))[t % 3]! := by
  obtain ⟨a, b, c⟩ := vcs_at f (show t / 3 < n by omega)
  have : t % 3 = 0 ∨ t % 3 = 1 ∨ t % 3 = 2 := by omega
  rcases this with e | e | e
  · rw [e, show t = t / 3 * 3 by omega, a]; rw [show t / 3 * 3 / 3 = t / 3 by omega]; rfl
  · rw [e, show t = t / 3 * 3 + 1 by omega, b]; rw [show (t / 3 * 3 + 1) / 3 = t / 3 by omega]; rfl
  · rw [e, show t = t / 3 * 3 + 1 + 1 by omega, c]; rw [show (t / 3 * 3 + 1 + 1) / 3 = t / 3 by omega]; rfl
theorem holds_of_ownE {w : World} {base g n cap : Nat} {e : TypeId} {f : Nat → Ev} (h : w.ownsRow base e 3 (.slice (some ⟨g, 0, none⟩) n cap) n (vcs f n)) : HoldsK encE 3 w g 0 (lstT f n).toArray := by
  intro j hj
  have sz : (lstT f n).toArray.size = n := by simp [lstT_len]
  have hj' : j < (lstT f n).toArray.size * 3 := by simpa using hj
  have e1 : (lstT f n).toArray[j / 3]! = trE (f (j / 3)) := by
    have := lstT_at f n (j / 3) (by omega)
    simp [this]
  rw [Nat.zero_add, h.cellAt j (by omega), vcs_get f n j (by omega), get_flatK _ _ _ _ hj', e1]
  exact ⟨rfl, h.frozenAt j⟩
theorem evs_of_holds {w : World} {g : Nat} {d : Array Tr} (h : HoldsK encE 3 w g 0 d) : Evs w g 0 d.size (fun i => evT d[i]!) := fun i hi => by
  have h0 := h.cell hi (show 0 < 3 by decide)
  have h1 := h.cell hi (show 1 < 3 by decide)
  have h2 := h.cell hi (show 2 < 3 by decide)
  simp [encE] at h0 h1 h2
  rw [Nat.zero_add]
  exact ⟨h0.1, h1.1, h2.1⟩
theorem lstT_arr (d : Array Tr) : lstT (fun i => evT d[i]!) d.size = d.toList := by
  apply List.ext_getElem?
  intro i
  by_cases h : i < d.size
  · rw [lstT_at _ _ _ h]
    simp [h, trE, evT]
  · rw [List.getElem?_eq_none (by rw [lstT_len]; omega), List.getElem?_eq_none (by simp; omega)]
theorem perm_of {f : Nat → Ev} {n : Nat} {d' : Array Tr} (hp : PermIn 0 n (lstT f n).toArray d') : d'.size = n ∧ (lstT (fun i => evT d'[i]!) n).Perm (lstT f n) := by
  obtain ⟨p1, _, p3⟩ := hp
  have sz : (lstT f n).toArray.size = n := by simp [lstT_len]
  have s' : d'.size = n := p1.trans sz
  refine ⟨s', ?_⟩
  have e1 : (lstT f n).toArray.extract 0 n = (lstT f n).toArray := by have l := lstT_len f n; simp; rw [List.take_of_length_le (by omega)]
  have e2 : d'.extract 0 n = d' := by rw [← s']; simp
  rw [e1, e2] at p3
  have l := lstT_arr d'
  rw [s'] at l
  rw [l]
  exact p3
end
set_option maxHeartbeats 1000000 in
theorem ins_noneE (p : Option Addr) (cap : Nat) (fv : Value) (w : World) : Calls Tryd.prog 69 #[.slice p 0 cap, .int .i64 0, .int .i64 0, fv] w fun e w' => e = .returned (.tuple #[]) ∧ w' = w := by
  go_enter Tryd.func69, Tryd.ntmps69
  go_wp2
  refine wp_loop_rounds 1 ?_
  rw [rounds_succ]
  go_wp2
  go_end0
  exact ⟨rfl, rfl⟩
set_option maxHeartbeats 1000000 in
theorem pdq_noneE (p : Option Addr) (cap : Nat) (lim : Int) (fv : Value) (w : World) : Calls Tryd.prog 63 #[.slice p 0 cap, .int .i64 0, .int .i64 0, .int .i64 lim, fv] w fun e w' => e = .returned (.tuple #[]) ∧ w' = w := by
  have hi := fun W => ins_noneE p cap fv W
  go_enter Tryd.func63, Tryd.ntmps63
  go_wp2
  refine wp_loop_rounds 1 ?_
  rw [rounds_succ]
  go_wp2_with (go_at_call 69; refine (hi _).mono ?_; rintro e w' ⟨rfl, rfl⟩)
  (try simp only [Exit.inBlock, Exit.then]); refine bodyPost_ret (results_none rfl _ _ _) rfl ?_
  exact ⟨rfl, rfl⟩
section
open Go.Sort Go.Shelf
/-- A sort of nothing. -/
theorem sort_noneE (p : Option Addr) (cap : Nat) (fv : Value) (w : World) : Calls Tryd.prog 53 #[.slice p 0 cap, fv] w fun e w' => e = .returned (.tuple #[]) ∧ w' = w := by
  have hp := fun lim W => pdq_noneE p cap lim fv W
  have hl : ∀ W, Calls Tryd.prog 64 #[.int .u64 0] W fun e w' => e = .returned (.int .i64 (Lib.bitLen 0 : Nat)) ∧ w' = W := fun W =>
    Any.bits_Len (SlLaysF0.n15.bits (P := Tryd.prog) (ρ := Tryd.sortEvent_ren) { Tryd.sortEvent with }) 0 W (by omega) (by omega)
  go_enter Tryd.func53, Tryd.ntmps53
  go_wp2_with (first | (go_at_call 64; refine (hl _).mono ?_; rintro e w' ⟨rfl, rfl⟩) | (go_at_call 63; refine (hp _ _).mono ?_; rintro e w' ⟨rfl, rfl⟩))
  go_end0
  exact ⟨rfl, rfl⟩
end
end Go.Proofs.YtbghpjmjhhjcgagDoor
