/- The ways through the law HullHolds. -/
import Derived.Test.YtcofpgbaokmbmafHullPts
import Derived.Test.YtcofpgbaokmbmafHullOwn
import Derived.Test.YtcofpgbaokmbmafHullLine0
import Derived.Test.YtcofpgbaokmbmafHullDefC
namespace Go.Proofs.Ytcofpgbaokmbmaf.hullHolds
open Go.ChangeShapes Go.WideShapes Go.ChangeAt Go.RowKit Go.Joins
set_option linter.unusedVariables false
set_option linter.unusedSimpArgs false

abbrev threeCells : List Value := [.int .i64 0, .int .i64 0, .int .i64 2, .int .i64 5, .int .i64 4, .int .i64 0]
theorem three_handed {u : World} {b : Nat} (r : Row u b threeCells) : PHanded u (some ⟨b, 0, none⟩) 3 threeP := by
  refine ⟨by omega, Or.inr ⟨b, 0, rfl, fun i hi => ?_⟩⟩
  have : i = 0 ∨ i = 1 ∨ i = 2 := by omega
  rcases this with rfl | rfl | rfl
  · exact ⟨r.c 0 _ rfl, r.c 1 _ rfl⟩
  · exact ⟨r.c 2 _ rfl, r.c 3 _ rfl⟩
  · exact ⟨r.c 4 _ rfl, r.c 5 _ rfl⟩
theorem three_ove : OvE 3 threeP 1 3 0 := Or.inr (Or.inr (Or.inr ⟨Or.inr (Or.inr ⟨by omega, three_ok, rfl⟩), three_within, three_over, rfl⟩))
theorem pls_pcs {u : World} {b off n : Nat} {f : Nat → Int × Int} (h : Pls u b off n f) : ∀ j v, (pcs (lst f n))[j]? = some v → u.cell? ⟨b, off + j, none⟩ = some v := by
  intro j v hv
  have jl := (List.getElem?_eq_some_iff.1 hv).1
  rw [pcs_len, lst_len] at jl
  by_cases e : j % 2 = 0
  · obtain ⟨i, rfl⟩ : ∃ i, j = i * 2 := ⟨j / 2, by omega⟩
    have p := (pcs_at (lst_at f n i (by omega))).1
    rw [p] at hv
    obtain rfl := Option.some.inj hv
    exact (h i (by omega)).1
  · obtain ⟨i, rfl⟩ : ∃ i, j = i * 2 + 1 := ⟨j / 2, by omega⟩
    have p := (pcs_at (lst_at f n i (by omega))).2
    rw [p] at hv
    obtain rfl := Option.some.inj hv
    exact (h i (by omega)).2
/-- One point more. -/
def moreP (f : Nat → Int × Int) (n : Nat) (p : Int × Int) (i : Nat) : Int × Int := if i < n then f i else p
theorem more_lst (f : Nat → Int × Int) (n : Nat) (p : Int × Int) : lst (moreP f n p) (n + 1) = lst f n ++ [p] := by
  rw [lst_snoc, show moreP f n p n = p from if_neg (by omega)]
  congr 1
  unfold lst
  apply List.map_congr_left
  intro i hi
  exact if_pos (List.mem_range.1 hi)
set_option maxRecDepth 100000 in
set_option maxHeartbeats 4000000 in
theorem wrong (a : Option Addr) (n cap : Nat) (f : Nat → Int × Int) (mx my x e : Int) (w : World) (B : HlU w) (O : HlO w) (hH : PHanded w a n f) (hE : PtE n f e) (ne : e ≠ 0) :
    Calls Try.prog 3 #[.slice a n cap, .agg #[.int .i64 mx, .int .i64 my], .int .i64 x] w fun o w' => o = .returned (.bool true) ∧ Below w.heap.size w w' := by
  have c3 : Hid (∀ u b, Below w.heap.size w u → Row u b threeCells → Calls Try.prog 4 #[.slice (some ⟨b, 0, none⟩) 3 3, .int .i64 1] u fun o w' => o = .returned (.tuple #[.int .i64 3, .nilIface]) ∧ Below u.heap.size u w') := fun u b hu r => by
    have := O.over (some ⟨b, 0, none⟩) 3 3 threeP 1 3 0 u hu (three_handed r) (by decide) three_ove
    rwa [errc_zero] at this
  have cU : ∀ u, Below w.heap.size w u → Calls Try.prog 5 #[.slice a n cap] u fun o w' => ∃ ca k cc, o = .returned (.tuple #[.slice ca k cc, .iface 37 (.int .i64 e)]) ∧ Below u.heap.size u w' := fun u hu => (B.upper a n cap f e u hu (hH.on hu) hE).mono (by
    rintro o w' ⟨ca, k, cc, c, rfl, _, _, _, hb⟩
    rw [errc_not ne]
    exact ⟨ca, k, cc, rfl, hb⟩)
  have W1 : Hid (Below w.heap.size w ((w.alloc (.cells #[.int .i64 mx, .int .i64 my] 24)).alloc (.cells threeCells.toArray 24))) := rbel_al (rbel_al (Below.refl _ _))
  have cc3 := c3.out _ (w.heap.size + 1) W1.out (Row.made (by simp))
  clear B O hH hE c3
  go_enter Try.func3, Try.ntmps3
  go_wp2_with (first
    | (go_at_call 4; refine cc3.mono ?_; rintro e' u0 ⟨rfl, hb⟩; have HW0 : Hid (Below w.heap.size w u0) := rbel_on hb W1.out; clear hb)
    | (go_at_call 5; refine (cU _ HW0.out).mono ?_; rintro e' u1 ⟨ca, k, cc, rfl, hb⟩; have HW1 : Hid (Below w.heap.size w u1) := rbel_on hb HW0.out; clear hb))
  go_ret
  exact ⟨rfl, HW1.out⟩
end Go.Proofs.Ytcofpgbaokmbmaf.hullHolds
