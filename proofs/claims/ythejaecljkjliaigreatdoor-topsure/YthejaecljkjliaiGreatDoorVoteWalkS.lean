/- What vote.walk tells to whom it is told: the closure of vote.Safe. -/
import Derived.Test.YthejaecljkjliaiGreatDoorNm18
import Derived.Deep.RegionWith
import Derived.Deep.RegionHeld
namespace Go.Proofs.YthejaecljkjliaiGreatDoor
open Go.ChangeShapes Go.WideShapes Go.ChangeAt Go.RowKit
set_option linter.unusedVariables false
set_option linter.unusedSimpArgs false

theorem holds_onK {S : Nat → Prop} {W u : World} {g : Nat} {d : Array (Int × Int)} (hb : Keeps S W u) (hn : ¬ S g) (hg : g < W.heap.size) (h : Go.Sort.HoldsK encS 2 W g 0 d) : Go.Sort.HoldsK encS 2 u g 0 d := fun j hj =>
  ⟨hb.cell hn (h j hj).1, (World.frozen?_of_block (w := W) (hb.block g hg hn)).trans (h j hj).2⟩
/-- In how many is no more than how many steps there were. -/
theorem inAt_le {q : Nat → Int × Int} {n : Nat} {L : List (Int × Int)} (h : Steps q n L) : ∀ k, k ≤ 2 * n → -(k : Int) ≤ inAt L k ∧ inAt L k ≤ k
  | 0, _ => by simp [inAt_zero]
  | k + 1, hk => by
    have ih := inAt_le h k (by omega)
    rw [inAt_succ L k (by rw [h.len]; omega)]
    obtain ⟨j, _, e | e⟩ := h.mem k (by omega) <;> rw [e] <;> simp <;> omega
theorem Steps.bounds {q : Nat → Int × Int} {n : Nat} {L : List (Int × Int)} (h : Steps q n L) (ok : ∀ i, i < n → okB (q i).1 (q i).2 = true) (k : Nat) (hk : k < 2 * n) :
    -1000000000000 ≤ (el L k).1 ∧ (el L k).1 ≤ 1000000000001 ∧ -1 ≤ (el L k).2 ∧ (el L k).2 ≤ 1 := by
  obtain ⟨j, hj, e⟩ := h.mem k hk
  have := okB_t (ok j hj)
  rcases e with e | e <;> rw [e] <;> simp <;> omega
set_option maxHeartbeats 4000000 in
set_option maxRecDepth 100000 in
theorem walk_safe {σ : Type} (T : σ → Int → Int → Int → σ) (I : σ → World → Prop) (S : Nat → Prop) (p0 p1 p2 p3 : Value) (b off n cap : Nat) (q : Nat → Int × Int) (a : σ) (w : World) (h0 : 0 < n) (h40 : n ≤ 40) (hP : Sps w b off n q) (ok : ∀ i, i < n → okB (q i).1 (q i).2 = true)
    (Ion : ∀ st u u', I st u → Below u.heap.size u u' → I st u') (hS : ∀ k, S k → k < w.heap.size) (hI : I a w)
    (tell : ∀ st lo hi k u, I st u → -1000000000000 ≤ lo → lo ≤ hi → hi ≤ 1000000000000 → Calls Tryz.prog 83 #[.agg #[.int .i64 lo, .int .i64 hi], .int .i64 k, p0, p1, p2, p3] u fun e w' => e = .returned (.tuple #[]) ∧ I (T st lo hi k) w' ∧ Keeps S u w') :
    Calls Tryz.prog 82 #[.slice (some ⟨b, off, none⟩) n cap, .func (.func 83) #[] #[p0, p1, p2, p3]] w fun e w' => e = .returned (.tuple #[]) ∧ ∃ L, Steps q n L ∧ I (toldBy T a L (2 * n - 1)) w' ∧ Keeps S w w' := by
  have hcon := steps_any b off n cap q w h0 h40 hP ok
  go_enter Tryz.func82, Tryz.ntmps82
  go_wp2_with (go_at_call 115; refine hcon.mono ?_; rintro e u1 ⟨g, cap', N, d, rfl, hN, hNc, hcm, hwg, hg, hds, hH, hst, hb1⟩; obtain ⟨M, hM⟩ : ∃ M, N = M + 1 := ⟨N - 1, by omega⟩; subst hM; have HN : Hid (M + 1 = 2 * n) := hN; clear hN; have sc1 : ¬ (cap' = 1) := (by have := HN.out; omega); have sc2 : 1 ≤ cap' := (by omega); unfold maxLen at hcm; have hM : M ≤ 79 := (by have := HN.out; omega))
  have hgS : ¬ S g := fun h => by have := hS g h; omega
  have hI1 : I a u1 := Ion a w u1 hI hb1
  have hgl : g < u1.heap.size := hg
  go_loopw [4, 13] (fun v i wr => ∃ k : Nat, k ≤ M ∧ i = .int .i64 k ∧ v = .int .i64 (inAt d.toList k) ∧ I (toldBy T a d.toList k) wr ∧ Keeps S u1 wr) (fun _ i _ => M - (intOf i).toNat)
  case atStart => exact ⟨0, Nat.zero_le _, rfl, rfl, hI1, .refl _ _⟩
  case round =>
    obtain ⟨k, hk, rfl, rfl, hIk, hw⟩ := hrel
    have zz := hw.size
    have hHk := holds_onK hw hgS hgl hH
    have zg : g < wr.heap.size := by omega
    by_cases hlt : k < M
    · have hc0 := holds_cell hHk (i := k) (by omega)
      have hc1 := holds_cell hHk (i := k + 1) (by omega)
      have e2 : (k + 1) * 2 = 2 + k * 2 := by omega
      rw [e2] at hc1
      obtain ⟨x0, x1⟩ := hc0
      obtain ⟨y0, y1⟩ := hc1
      have il := inAt_le hst k (by have := HN.out; omega)
      have bk := hst.bounds ok k (by have := HN.out; omega)
      have bk1 := hst.bounds ok (k + 1) (by have := HN.out; omega)
      have is : Hid (inAt d.toList (k + 1) = inAt d.toList k + (el d.toList k).2) := inAt_succ _ _ (by rw [hst.len]; have := HN.out; omega)
      have ts : Hid (toldBy T a d.toList (k + 1) = if (el d.toList k).1 < (el d.toList (k + 1)).1 then T (toldBy T a d.toList k) (el d.toList k).1 ((el d.toList (k + 1)).1 - 1) (inAt d.toList (k + 1)) else toldBy T a d.toList k) := rfl
      clear hHk hH hst hds hcon hP ok hI1 hI e2
      obtain ⟨il1, il2⟩ := il
      obtain ⟨b1, b2, b3, b4⟩ := bk
      obtain ⟨b5, b6, b7, b8⟩ := bk1
      have ng : ¬ (g = wr.heap.size) := by omega
      have hnS : ¬ S wr.heap.size := fun h => by have := hS _ h; have := hb1.size; omega
      have ng2 : ¬ (wr.heap.size = g) := by omega
      by_cases c : (el d.toList k).1 < (el d.toList (k + 1)).1
      · have cd : decide ((el d.toList k).1 < (el d.toList (k + 1)).1) = true := decide_eq_true c
        have e1 : IntKind.i64.wrap ((el d.toList (k + 1)).1 - 1) = (el d.toList (k + 1)).1 - 1 := IntWalk.i64_in _ (by omega)
        have v0 : Hid ((wr.alloc (.cells #[.int .i64 (el d.toList (k + 1)).1, .int .i64 (el d.toList (k + 1)).2] 210)).cell? ⟨g, k * 2, none⟩ = some (.int .i64 (el d.toList k).1)) := (World.cell?_alloc_past _ _ _ zg).trans x0
        have v1 : Hid ((wr.alloc (.cells #[.int .i64 (el d.toList (k + 1)).1, .int .i64 (el d.toList (k + 1)).2] 210)).cell? ⟨wr.heap.size, 0, none⟩ = some (.int .i64 (el d.toList (k + 1)).1)) := (World.cell?_alloc_at _ _ _ _ rfl).trans rfl
        go_wp2
        go_region
        all_goals
          go_wp2
          go_region_held (fun w' => w'.cell? ⟨g, k * 2, none⟩ = some (.int .i64 (el d.toList k).1) ∧ w'.cell? ⟨wr.heap.size, 0, none⟩ = some (.int .i64 (el d.toList (k + 1)).1)) (go_keep) (first | (go_at_call 83; refine (tell (toldBy T a d.toList k) (el d.toList k).1 ((el d.toList (k + 1)).1 - 1) (inAt d.toList k + (el d.toList k).2) _ (Ion _ wr _ hIk (by repeat (first | exact Below.refl _ _ | exact (Below.refl _ _).alloc (Nat.le_refl _) _ | apply Below.drew | apply rbel_drn))) b1 (by omega) (by omega)).mono ?_; rintro e u2 ⟨rfl, hI2, hk2⟩; have v2 := hk2.cell (p := ⟨g, k * 2, none⟩) hgS v0.out; have v3 := hk2.cell (p := ⟨wr.heap.size, 0, none⟩) hnS v1.out))
          go_wp2
          go_roundw
          case rel => exact ⟨k + 1, by omega, by go_num, by rw [is.out], by rw [ts.out, if_pos c, is.out]; exact hI2, hw.al.dr.dr.trans hk2⟩
          case measure => simp [intOf]; omega
      · have cd : decide ((el d.toList k).1 < (el d.toList (k + 1)).1) = false := decide_eq_false c
        go_wp2
        go_region
        all_goals
          go_wp2
          go_roundw
          case rel => exact ⟨k + 1, by omega, by go_num, by rw [is.out], by rw [ts.out, if_neg (Int.not_lt.2 c)]; exact Ion _ wr _ hIk ((Below.refl _ _).alloc (Nat.le_refl _) _).drew, hw.al.dr⟩
          case measure => simp [intOf]; omega
    · have kM : k = M := by omega
      subst kM
      go_wp2
      go_end0
      have e : 2 * n - 1 = k := by have := HN.out; omega
      exact ⟨rfl, d.toList, hst, by rw [e]; exact hIk, (Keeps.of hb1).trans hw⟩
end Go.Proofs.YthejaecljkjliaiGreatDoor
