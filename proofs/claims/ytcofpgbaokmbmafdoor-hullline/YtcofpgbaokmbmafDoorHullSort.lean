/- Points sorted: X rising, of one X the highest first. -/
import Derived.Test.YtcofpgbaokmbmafDoorHullCmp
import Derived.Test.YtcofpgbaokmbmafDoorHullLay
namespace Go.Proofs.YtcofpgbaokmbmafDoor
open Go.ChangeShapes Go.WideShapes Go.ChangeAt Go.RowKit Go.Joins
set_option linter.unusedVariables false
set_option linter.unusedSimpArgs false

/-- The first of two numbers that is not 0. -/
def orI (x y : Int) : Int := if x = 0 then y else x
set_option maxHeartbeats 1000000 in
theorem or_any (b : Nat) (x y : Int) (w : World) (h0 : w.cell? ⟨b, 0, none⟩ = some (.int .i64 x)) (h1 : w.cell? ⟨b, 1, none⟩ = some (.int .i64 y)) : Calls Tryd.prog 40 #[.slice (some ⟨b, 0, none⟩) 2 2] w fun e w' => e = .returned (.int .i64 (orI x y)) ∧ w' = w := by
  unfold orI
  have h1' : w.cell? ⟨b, 0 + 1, none⟩ = some (.int .i64 y) := h1
  by_cases c : x = 0
  · subst c
    rw [if_pos rfl]
    by_cases c2 : y = 0
    · subst c2
      go_enter Tryd.func40, Tryd.ntmps40
      go_wp2
      refine wp_loop_rounds 3 ?_
      rw [rounds_succ]
      go_wp2
      rw [rounds_succ]
      go_wp2
      rw [rounds_succ]
      go_wp2
      go_ret
      exact ⟨rfl, rfl⟩
    · go_enter Tryd.func40, Tryd.ntmps40
      go_wp2
      refine wp_loop_rounds 2 ?_
      rw [rounds_succ]
      go_wp2
      rw [rounds_succ]
      go_wp2
      go_ret
      exact ⟨rfl, rfl⟩
  · rw [if_neg c]
    go_enter Tryd.func40, Tryd.ntmps40
    go_wp2
    refine wp_loop_rounds 1 ?_
    rw [rounds_succ]
    go_wp2
    go_ret
    exact ⟨rfl, rfl⟩
section
open Go.Sort Go.Shelf
/-- How two points are compared. -/
def cmpP (x y : Int × Int) : Int := orI (Lib.compareInt x.1 y.1) (Lib.compareInt y.2 x.2)
theorem drew_grow (W : World) (os : Array Obj) : (grow W os).drew = grow W.drew os := rfl
theorem orow (W : World) (A B : Obj) (x y : Value) : Row ((((W.alloc A).alloc B).alloc (.cells #[x, y] 3)).drew) (W.heap.size + 1 + 1) [x, y] := Row.dr (Row.made (W := (W.alloc A).alloc B) (vs := [x, y]) (by simp))
set_option maxHeartbeats 400000 in
theorem high1_any (x y : Int × Int) (W : World) : Calls Tryd.prog 39 #[.agg #[.int .i64 x.1, .int .i64 x.2], .agg #[.int .i64 y.1, .int .i64 y.2]] W fun e w' => e = .returned (.int .i64 (cmpP x y)) ∧ ∃ q os', w' = grow (W.drewN q) os' := by
  have hcon := fun a b W' => AnyG.cmp_Compare_int Tryd.cmpInt a b W'
  change ∀ a b W', Calls Tryd.prog 41 _ _ _ at hcon
  have d1 : ¬ (W.heap.size = W.heap.size + 1) := by omega
  unfold cmpP
  generalize Lib.compareInt = C at hcon ⊢
  generalize x.1 = x1
  generalize x.2 = x2
  generalize y.1 = y1
  generalize y.2 = y2
  have cO := or_any (W.heap.size + 1 + 1) (C x1 y1) (C y2 x2) ((((W.alloc (.cells #[.int .i64 x1, .int .i64 x2] 33)).alloc (.cells #[.int .i64 y1, .int .i64 y2] 33)).alloc (.cells #[.int .i64 (C x1 y1), .int .i64 (C y2 x2)] 3)).drew) ((orow W _ _ (.int .i64 (C x1 y1)) (.int .i64 (C y2 x2))).c 0 _ rfl) ((orow W _ _ (.int .i64 (C x1 y1)) (.int .i64 (C y2 x2))).c 1 _ rfl)
  have HG : Hid (∃ q os', ((((W.alloc (.cells #[.int .i64 x1, .int .i64 x2] 33)).alloc (.cells #[.int .i64 y1, .int .i64 y2] 33)).alloc (.cells #[.int .i64 (C x1 y1), .int .i64 (C y2 x2)] 3)).drew) = grow (W.drewN q) os') := ⟨1, _, by rw [alloc_eq_grow, alloc_eq_grow, alloc_eq_grow, grow_grow, grow_grow, drew_grow]; rfl⟩
  generalize orI (C x1 y1) (C y2 x2) = R at cO ⊢
  go_enter Tryd.func39, Tryd.ntmps39
  go_wp2
  go_region_held (fun w' => w'.cell? ⟨W.heap.size, 0, none⟩ = some (.int .i64 x1) ∧ w'.cell? ⟨W.heap.size, 1, none⟩ = some (.int .i64 x2) ∧ w'.cell? ⟨W.heap.size + 1, 0, none⟩ = some (.int .i64 y1) ∧ w'.cell? ⟨W.heap.size + 1, 1, none⟩ = some (.int .i64 y2)) (go_keep) (first | (go_at_call 41; refine (hcon _ _ _).mono ?_; rintro e w' ⟨rfl, rfl⟩) | (go_at_call 40; refine cO.mono ?_; rintro e w' ⟨rfl, hw'⟩; subst hw'))
  all_goals
    go_wp2
    go_ret
    exact ⟨rfl, HG.out⟩
/-- A point's two cells. -/
def encP (x : Int × Int) : List Value := [.int .i64 x.1, .int .i64 x.2]
theorem ltP (x y : Int × Int) : ltOf cmpP x y = decide (x.1 < y.1 ∨ (x.1 = y.1 ∧ y.2 < x.2)) := by
  unfold ltOf cmpP orI Lib.compareInt
  rcases Int.lt_trichotomy x.1 y.1 with h | h | h
  · simp [h]
  · rw [h]
    simp only [Int.lt_irrefl, if_false, gt_iff_lt, if_true, false_or, true_and]
    rcases Int.lt_trichotomy y.2 x.2 with g | g | g
    · simp [g]
    · simp [g]
    · simp [g, show ¬ y.2 < x.2 by omega]
  · have h1 : ¬ x.1 < y.1 := by omega
    have h2 : ¬ x.1 = y.1 := by omega
    simp [h, h1, h2]
theorem swoP : SWO (ltOf cmpP) := ⟨fun x => by rw [ltP]; simp, fun x y z h1 h2 => by rw [ltP] at *; simp at *; omega, fun x y z h1 h2 => by rw [ltP] at *; simp at *; omega⟩
theorem sort_pts (blk cap N : Nat) (d : Array (Int × Int)) (w : World) (hN : d.size = N) (hH : HoldsK encP 2 w blk 0 d) (hblk : blk < w.heap.size) (hsz : N < 4611686018427387904) :
    Calls Tryd.prog 38 #[.slice (some ⟨blk, 0, none⟩) N cap, .func (.func 39) #[] #[]] w fun e w' => e = .returned (.tuple #[]) ∧
      ∃ d' n os, PermIn 0 d.size d d' ∧ SortedIn (ltOf cmpP) 0 d.size d' ∧ w' = sortWorldK encP 2 w blk 0 n d' os := by
  subst hN
  exact AnyQ.slices_SortFunc Tryd.sortPoint 2 Tryd.isAgg33 Tryd.sizeOf33 encP (fun _ => rfl) (fun x v hv => by simp [encP] at hv; rcases hv with rfl | rfl <;> rfl) cmpP swoP 39 #[] blk 0 cap d w
    (enters_of Tryd.func39 (by kernel_rfl) rfl) (fun _ _ _ _ x y => high1_any x y _) hH hblk hsz
theorem sort_belowP {w0 w : World} {base blk off n : Nat} {d : Array (Int × Int)} {os : Array Obj} (h : Below base w0 w) (h1 : base ≤ blk) (h2 : base ≤ w.heap.size) : Below base w0 (sortWorldK encP 2 w blk off n d os) := by
  refine h.trans ⟨rfl, rfl, rfl, ?_, fun k hk => ?_⟩
  · exact size_sortWorldK_c encP 2 w blk off n d os
  · unfold sortWorldK grow putRowK putRow mapBlock
    simp only [Array.getElem?_append]
    rw [if_pos (by simp [Sort.ahead]; omega)]
    simp only [Array.getElem?_modify]
    rw [if_neg (by omega)]
    rfl
theorem el_getP (d : Array (Int × Int)) (i : Nat) (h : i < d.size) : d.toList[i]? = some d[i]! := by
  simp [h]
theorem pcs_get : ∀ (L : List (Int × Int)) (t : Nat) (p : Int × Int), L[t / 2]? = some p → (pcs L)[t]? = some (encP p)[t % 2]! := by
  intro L t p h
  obtain ⟨a, b⟩ := pcs_at h
  have : t % 2 = 0 ∨ t % 2 = 1 := by omega
  rcases this with e | e
  · rw [e, show t = t / 2 * 2 by omega, a]; rfl
  · rw [e, show t = t / 2 * 2 + 1 by omega, b]; rfl
theorem holds_of_ownP {w : World} {base g n cap : Nat} {e : TypeId} {d : Array (Int × Int)} (h : w.ownsRow base e 2 (.slice (some ⟨g, 0, none⟩) n cap) n (pcs d.toList)) (hn : d.size = n) : HoldsK encP 2 w g 0 d := by
  intro j hj
  have hj' : j < d.size * 2 := by simpa using hj
  rw [Nat.zero_add, h.cellAt j (by omega), pcs_get _ _ _ (el_getP d (j / 2) (by omega)), get_flatK _ _ _ _ hj']
  exact ⟨rfl, h.frozenAt j⟩
theorem wls_of_holds {w : World} {g : Nat} {d : Array (Int × Int)} (h : HoldsK encP 2 w g 0 d) : Wls w g d.size (fun i => d[i]!) := fun i hi => by
  have h0 := h.cell hi (show 0 < 2 by decide)
  have h1 := h.cell hi (show 1 < 2 by decide)
  simp [encP] at h0 h1
  exact ⟨h0, h1⟩
theorem srt_of {d' : Array (Int × Int)} {n : Nat} (hs : SortedIn (ltOf cmpP) 0 n d') : Srt (fun i => d'[i]!) n := fun i j hij hj => by
  show d'[i]!.1 < d'[j]!.1 ∨ (d'[i]!.1 = d'[j]!.1 ∧ d'[j]!.2 ≤ d'[i]!.2)
  by_cases e : i = j
  · subst e
    exact Or.inr ⟨rfl, Int.le_refl _⟩
  · have := hs i j (Nat.zero_le _) (by omega) hj
    rw [ltP] at this
    simp only [decide_eq_false_iff_not] at this
    omega
theorem lst_arr (d : Array (Int × Int)) : lst (fun i => d[i]!) d.size = d.toList := by
  apply List.ext_getElem?
  intro i
  by_cases h : i < d.size
  · rw [lst_at _ _ _ h, el_getP d i h]
  · rw [List.getElem?_eq_none (by rw [lst_len]; omega), List.getElem?_eq_none (by simp; omega)]
theorem mem_of {d d' : Array (Int × Int)} (hp : PermIn 0 d.size d d') (p : Int × Int) : p ∈ d'.toList ↔ p ∈ d.toList := by
  obtain ⟨p1, _, p3⟩ := hp
  have e1 : d.extract 0 d.size = d := by simp
  have e2 : d'.extract 0 d.size = d' := by rw [← p1]; simp
  rw [e1, e2] at p3
  exact p3.mem_iff
set_option maxHeartbeats 1000000 in
theorem ins_none (p : Option Addr) (cap : Nat) (fv : Value) (w : World) : Calls Tryd.prog 50 #[.slice p 0 cap, .int .i64 0, .int .i64 0, fv] w fun e w' => e = .returned (.tuple #[]) ∧ w' = w := by
  go_enter Tryd.func50, Tryd.ntmps50
  go_wp2
  refine wp_loop_rounds 1 ?_
  rw [rounds_succ]
  go_wp2
  go_end0
  exact ⟨rfl, rfl⟩
set_option maxHeartbeats 1000000 in
theorem pdq_none (p : Option Addr) (cap : Nat) (lim : Int) (fv : Value) (w : World) : Calls Tryd.prog 47 #[.slice p 0 cap, .int .i64 0, .int .i64 0, .int .i64 lim, fv] w fun e w' => e = .returned (.tuple #[]) ∧ w' = w := by
  have hi := fun W => ins_none p cap fv W
  go_enter Tryd.func47, Tryd.ntmps47
  go_wp2
  refine wp_loop_rounds 1 ?_
  rw [rounds_succ]
  go_wp2_with (go_at_call 50; refine (hi _).mono ?_; rintro e w' ⟨rfl, rfl⟩)
  (try simp only [Exit.inBlock, Exit.then]); refine bodyPost_ret (results_none rfl _ _ _) rfl ?_
  exact ⟨rfl, rfl⟩
/-- A sort of nothing. -/
theorem sort_none (p : Option Addr) (cap : Nat) (fv : Value) (w : World) : Calls Tryd.prog 38 #[.slice p 0 cap, fv] w fun e w' => e = .returned (.tuple #[]) ∧ w' = w := by
  have hp := fun lim W => pdq_none p cap lim fv W
  have hl : ∀ W, Calls Tryd.prog 48 #[.int .u64 0] W fun e w' => e = .returned (.int .i64 (Lib.bitLen 0 : Nat)) ∧ w' = W := fun W =>
    Any.bits_Len (SlLaysF0.n15.bits (P := Tryd.prog) (ρ := Tryd.sortPoint_ren) { Tryd.sortPoint with }) 0 W (by omega) (by omega)
  go_enter Tryd.func38, Tryd.ntmps38
  go_wp2_with (first | (go_at_call 48; refine (hl _).mono ?_; rintro e w' ⟨rfl, rfl⟩) | (go_at_call 47; refine (hp _ _).mono ?_; rintro e w' ⟨rfl, rfl⟩))
  go_end0
  exact ⟨rfl, rfl⟩
end
end Go.Proofs.YtcofpgbaokmbmafDoor
