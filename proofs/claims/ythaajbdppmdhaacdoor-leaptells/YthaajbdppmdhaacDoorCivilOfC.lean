/- What the closures of civil.Of answer, and how sort.Search finds a place with them. -/
import Derived.Test.YthaajbdppmdhaacDoorCivilPkgA
import Derived.Test.YthaajbdppmdhaacDoorCivilLay
import Derived.Shelf.SlSorted.Search
namespace Go.Proofs.YthaajbdppmdhaacDoor
open Go.ChangeShapes Go.WideShapes Go.ChangeAt Go.RowKit
set_option linter.unusedVariables false
set_option linter.unusedSimpArgs false

theorem count_first (p : Nat → Bool) : ∀ (N k : Nat), k ≤ N → (∀ i, i < k → p i = false) → (∀ i, k ≤ i → i < N → p i = true) → (List.range N).countP (fun i => !p i) = k
  | 0, k, hk, _, _ => by simp; omega
  | N + 1, k, hk, h1, h2 => by
    rw [List.range_succ, List.countP_append]
    by_cases e : k = N + 1
    · subst e
      rw [count_first p N N (Nat.le_refl _) (fun i hi => h1 i (by omega)) (fun i a b => absurd a (by omega))]
      simp [h1 N (by omega)]
    · rw [count_first p N k (by omega) h1 (fun i a b => h2 i a (by omega))]
      simp [h2 N (by omega) (by omega)]

/-- sort.Search with a closure that only reads what was there: the first place at which it says yes. -/
theorem search_at (g : Nat) (cb : Array Value) (N k : Nat) (p : Nat → Bool) (w : World) (eg : ∀ args w, (callFunc g args).run Tryd.prog w = .ok (.enter g args) w) (hN : N < 1000) (hk : k ≤ N)
    (hf : ∀ u i, Below w.heap.size w u → i < N → Calls Tryd.prog g (#[.int .i64 i] ++ cb) u fun e w' => e = .returned (.bool (p i)) ∧ ∃ q, w' = u.drewN q)
    (h1 : ∀ i, i < k → p i = false) (h2 : ∀ i, k ≤ i → i < N → p i = true) :
    Calls Tryd.prog 58 #[.int .i64 N, .func (.func g) #[] cb] w fun e w' => e = .returned (.int .i64 k) ∧ Below w.heap.size w w' := by
  have h := Any.sort_Search Tryd.search g cb N p w eg (by omega)
    (fun m os i hi => (hf _ i (below_grown_sl _ w m os (Nat.le_refl _)) hi).mono fun e w' ⟨he, q, hq⟩ => ⟨he, q, #[], by rw [hq, Go.Sort.grow_empty]⟩)
    (fun a b hab hb h => by
      by_cases c : b < k
      · have := h1 a (by omega); rw [this] at h; cases h
      · exact h2 b (by omega) hb)
  rw [count_first p N k hk h1 h2] at h
  refine h.mono ?_
  rintro e w' ⟨rfl, q, os, rfl⟩
  exact ⟨rfl, below_grown_sl _ w q os (Nat.le_refl _)⟩

set_option maxHeartbeats 1000000 in
theorem of1_any (n : Int) (i B : Nat) (w : World) (hi : i < 229) (hn : w.cell? ⟨B, 0, none⟩ = some (.int .i64 n)) :
    Calls Tryd.prog 59 (#[.int .i64 i] ++ #[.pointer (some ⟨B, 0, none⟩)]) w fun e w' => e = .returned (.bool (decide (n < yoff (i + 1)))) ∧ ∃ q, w' = w.drewN q := by
  have cN := fun u => newYear_any (1970 + (i : Int) + 1) u (by omega) (by omega)
  rw [show (1970 + (i : Int) + 1 - 1970).toNat = i + 1 by omega] at cN
  generalize yoff (i + 1) = a at *
  have w1 : IntKind.i64.wrap (1970 + (i : Int)) = 1970 + (i : Int) := IntWalk.i64_in _ (by omega)
  have w2 : IntKind.i64.wrap (1970 + (i : Int) + 1) = 1970 + (i : Int) + 1 := IntWalk.i64_in _ (by omega)
  go_enter Tryd.func59, Tryd.ntmps59
  go_wp2
  go_quiet (first | (go_at_call 53; refine Calls.quiet_of_same (cN _)))
  go_wp2
  go_ret
  exact ⟨rfl, _, rfl⟩

set_option maxHeartbeats 1000000 in
theorem of2_any (n y : Int) (i B C : Nat) (w : World) (hi : i < 11) (h1 : 1970 ≤ y) (h2 : y ≤ 2199) (hn : w.cell? ⟨B, 0, none⟩ = some (.int .i64 n)) (hy : w.cell? ⟨C, 0, none⟩ = some (.int .i64 y)) (he : EnvA w) :
    Calls Tryd.prog 60 (#[.int .i64 i] ++ #[.pointer (some ⟨B, 0, none⟩), .pointer (some ⟨C, 0, none⟩)]) w fun e w' => e = .returned (.bool (decide (n < moff y (i + 1)))) ∧ ∃ q, w' = w.drewN q := by
  have cB := fun u (hu : EnvA u) => before_m y ((i : Int) + 2) u h1 h2 (by omega) (by omega) hu
  rw [show ((i : Int) + 2 - 1).toNat = i + 1 by omega] at cB
  generalize moff y (i + 1) = a at *
  have w2 : IntKind.i64.wrap ((i : Int) + 2) = (i : Int) + 2 := IntWalk.i64_in _ (by omega)
  have HE : Hid (EnvA w) := he
  clear he
  go_enter Tryd.func60, Tryd.ntmps60
  go_wp2
  go_quiet (first | (go_at_call 54; refine Calls.quiet_of_same (cB _ (HE.out.drn _))))
  go_wp2
  go_ret
  exact ⟨rfl, _, rfl⟩

theorem of1_enters : ∀ args w, (callFunc 59 args).run Tryd.prog w = .ok (.enter 59 args) w := enters_of Tryd.func59 (by kernel_rfl) rfl
theorem of2_enters : ∀ args w, (callFunc 60 args).run Tryd.prog w = .ok (.enter 60 args) w := enters_of Tryd.func60 (by kernel_rfl) rfl

/-- The year of a number. -/
theorem search_year (n : Int) (k B : Nat) (w : World) (hk : k < 230) (h1 : yoff k ≤ n) (h2 : n < yoff (k + 1)) (hn : w.cell? ⟨B, 0, none⟩ = some (.int .i64 n)) :
    Calls Tryd.prog 58 #[.int .i64 229, .func (.func 59) #[] #[.pointer (some ⟨B, 0, none⟩)]] w fun e w' => e = .returned (.int .i64 k) ∧ Below w.heap.size w w' :=
  search_at 59 _ 229 k (fun i => decide (n < yoff (i + 1))) w of1_enters (by decide) (by omega)
    (fun u i hu hi => of1_any n i B u hi (by rw [hu.cell (World.block_lt_of_cell? _ _ hn)]; exact hn))
    (fun i hi => decide_eq_false (by have := yoff_mono (i + 1) k (by omega); omega))
    (fun i a b => decide_eq_true (by have := yoff_mono (k + 1) (i + 1) (by omega); omega))
/-- The month of a day of a year. -/
theorem search_month (n y : Int) (k B C : Nat) (w : World) (hk : k < 12) (hy1 : 1970 ≤ y) (hy2 : y ≤ 2199) (h1 : moff y k ≤ n) (h2 : n < moff y (k + 1)) (hn : w.cell? ⟨B, 0, none⟩ = some (.int .i64 n)) (hy : w.cell? ⟨C, 0, none⟩ = some (.int .i64 y)) (he : EnvA w) :
    Calls Tryd.prog 58 #[.int .i64 11, .func (.func 60) #[] #[.pointer (some ⟨B, 0, none⟩), .pointer (some ⟨C, 0, none⟩)]] w fun e w' => e = .returned (.int .i64 k) ∧ Below w.heap.size w w' :=
  search_at 60 _ 11 k (fun i => decide (n < moff y (i + 1))) w of2_enters (by decide) (by omega)
    (fun u i hu hi => of2_any n y i B C u hi hy1 hy2 (by rw [hu.cell (World.block_lt_of_cell? _ _ hn)]; exact hn) (by rw [hu.cell (World.block_lt_of_cell? _ _ hy)]; exact hy) (he.below hu))
    (fun i hi => decide_eq_false (by have := moff_mono y (i + 1) k (by omega); omega))
    (fun i a b => decide_eq_true (by have := moff_mono y (k + 1) (i + 1) (by omega); omega))
end Go.Proofs.YthaajbdppmdhaacDoor
