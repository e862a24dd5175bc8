/- What vote.steps makes of spans: the numbers at which they begin, and behind which they end, sorted. -/
import Derived.Test.YthejaecljkjliabDoorVoteChk
import Derived.Test.YthejaecljkjliabDoorVoteSort
import Derived.Test.YthejaecljkjliabDoorVoteLay
namespace Go.Proofs.YthejaecljkjliabDoor
open Go.ChangeShapes Go.WideShapes Go.ChangeAt Go.RowKit
set_option linter.unusedVariables false
set_option linter.unusedSimpArgs false

section
open Go.Sort Go.Shelf
set_option maxHeartbeats 1000000 in
theorem steps1 (x y : Int × Int) (W : World) : Calls Tryd.prog 53 #[.agg #[.int .i64 x.1, .int .i64 x.2], .agg #[.int .i64 y.1, .int .i64 y.2]] W fun e w' => e = .returned (.int .i64 (Lib.compareInt x.1 y.1)) ∧ ∃ q os', w' = grow (W.drewN q) os' := by
  have hcon := fun W' => AnyG.cmp_Compare_int Tryd.cmpInt x.1 y.1 W'
  change ∀ W', Calls Tryd.prog 54 _ _ _ at hcon
  generalize Lib.compareInt x.1 y.1 = r at hcon ⊢
  go_enter Tryd.func53, Tryd.ntmps53
  go_wp2_with (go_at_call 54; refine (hcon _).mono ?_; rintro e w' ⟨rfl, rfl⟩)
  go_ret
  exact ⟨rfl, 0, _, by rw [alloc_eq_grow, alloc_eq_grow, grow_grow]; rfl⟩

theorem sort_step (blk cap N : Nat) (d : Array (Int × Int)) (w : World) (hN : d.size = N) (hH : HoldsK encS 2 w blk 0 d) (hblk : blk < w.heap.size) (hsz : N < 4611686018427387904) :
    Calls Tryd.prog 52 #[.slice (some ⟨blk, 0, none⟩) N cap, .func (.func 53) #[] #[]] w fun e w' => e = .returned (.tuple #[]) ∧
      ∃ d' n os, PermIn 0 d.size d d' ∧ SortedIn (ltOf fun x y : Int × Int => Lib.compareInt x.1 y.1) 0 d.size d' ∧ w' = sortWorldK encS 2 w blk 0 n d' os := by
  subst hN
  exact AnyQ.slices_SortFunc Tryd.sortStep 2 Tryd.isAgg78 Tryd.sizeOf78 encS (fun _ => rfl) (fun x v hv => by simp [encS] at hv; rcases hv with rfl | rfl <;> rfl) (fun x y => Lib.compareInt x.1 y.1) swoS 53 #[] blk 0 cap d w
    (enters_of Tryd.func53 (by kernel_rfl) rfl) (fun _ _ _ _ x y => steps1 x y _) hH hblk hsz
end
theorem infoStep : (Tryd.prog.info? 78).map (fun i => (i.zero, i.size, i.bytes)) = some (some (.agg #[.int .i64 0, .int .i64 0]), 2, 16) := by kernel_rfl

set_option maxHeartbeats 4000000 in
set_option maxRecDepth 100000 in
theorem steps_any (b off n cap : Nat) (q : Nat → Int × Int) (w : World) (h0 : 0 < n) (h40 : n ≤ 40) (hP : Sps w b off n q) (ok : ∀ i, i < n → okB (q i).1 (q i).2 = true) :
    Calls Tryd.prog 47 #[.slice (some ⟨b, off, none⟩) n cap] w fun e w' => ∃ (g cap' N : Nat) (d : Array (Int × Int)), e = .returned (.slice (some ⟨g, 0, none⟩) N cap') ∧ N = 2 * n ∧ N ≤ cap' ∧ cap' ≤ maxLen ∧ w.heap.size ≤ g ∧ g < w'.heap.size ∧ d.size = N ∧ Go.Sort.HoldsK encS 2 w' g 0 d ∧
      Steps q n d.toList ∧ Below w.heap.size w w' := by
  obtain ⟨i0, hi, hz0, hz1, hz2⟩ := info_parts infoStep
  have hbl : b < w.heap.size := World.block_lt_of_cell? _ _ (hP 0 h0).1
  go_enter Tryd.func47, Tryd.ntmps47
  go_wp2
  go_loopw [3, 9] (fun v i wr => ∃ k : Nat, k ≤ n ∧ i = .int .i64 k ∧ wr.ownsRow w.heap.size 78 2 v (2 * k) (cellsOf (stepsOf q k)) ∧ Below w.heap.size w wr) (fun _ i _ => n - (intOf i).toNat)
  case atStart =>
    exact ⟨0, Nat.zero_le _, rfl, own_empty w _ 2, rbel_al (Below.refl _ _)⟩
  case round =>
    obtain ⟨k, hk, rfl, hown, hw⟩ := hrel
    have zz := hw.size
    by_cases hlt : k < n
    · obtain ⟨x0, x1⟩ := (hP.on hw) k hlt
      have okk := okB_t (ok k hlt)
      obtain ⟨o1, o2, o3⟩ := okk
      have nb : ¬ (b = wr.heap.size) := by omega
      have nb2 : ¬ (b = wr.heap.size + 1) := by omega
      clear hP ok
      go_wp2_with (at_builtin; refine wpList_append_own _ rfl _ _ 75 rfl w.heap.size 78 i0 (.agg #[.int .i64 0, .int .i64 0]) 2 16 Tryd.underlying75 hi hz0 hz1 hz2 rfl (by decide) _ _ _ rfl ((hown.alloc _).alloc _) ⟨wr.heap.size + 1, 0, none⟩ 2 2 [.int .i64 (q k).1, .int .i64 1, .int .i64 ((q k).2 + 1), .int .i64 (-1)] rfl rfl ?c1 ?c2 ?c3 ?c4 ?c5 ?_)
      case c1 =>
        intro j u hj
        rw [Addr.add_lit, World.cell?_alloc_at _ _ _ _ (by simp)]
        simpa using hj
      case c2 =>
        intro u hu
        simp at hu
        rcases hu with rfl | rfl | rfl | rfl <;> rfl
      case c3 => unfold maxLen; omega
      case c4 => omega
      case c5 => simp; omega
      intro v' w1 hown' hgrow _
      have hown1 : Hid (w1.ownsRow w.heap.size 78 2 v' (2 * (k + 1)) (cellsOf (stepsOf q (k + 1)))) := by
        show w1.ownsRow w.heap.size 78 2 v' (2 * k + 2) (cellsOf (stepsOf q k ++ [((q k).1, 1), ((q k).2 + 1, -1)]))
        rw [cellsOf_append]
        exact hown'
      have hw1 : Below w.heap.size w w1 := (rbel_al (rbel_al hw)).grown hgrow (by simp; omega) (fun j hj => (hown.lt j hj).1)
      clear hown' hgrow hown
      go_wp2
      go_roundw
      case rel => exact ⟨k + 1, by omega, by go_num, hown1.out, hw1⟩
      case measure => simp [intOf]; omega
    · have kn : k = n := by omega
      subst kn
      have hL : (cellsOf (stepsOf q k)).length = 2 * k * 2 := hown.1
      obtain ⟨g, cap', cur, rfl, hg, hh, hcc, hcm, hcs, htk⟩ : ∃ g cap' cur, u3 = .slice (some ⟨g, 0, none⟩) (2 * k) cap' ∧ w.heap.size ≤ g ∧ wr.heap[g]? = some (.cells cur 78 (0, 0)) ∧ 2 * k ≤ cap' ∧ cap' ≤ maxLen ∧ cur.size = cap' * 2 ∧ cur.toList.take (2 * k * 2) = cellsOf (stepsOf q k) := by
        rcases hown.2 with ⟨_, e⟩ | h
        · omega
        · exact h
      have hds : (stepsOf q k).toArray.size = 2 * k := by simp [stepsOf_length]
      have hH := holds_of_own (d := (stepsOf q k).toArray) hown hds
      have hgl : g < wr.heap.size := (hown.lt g rfl).2
      obtain ⟨N, hN⟩ : ∃ N, N = 2 * k := ⟨_, rfl⟩
      rw [← hN] at hds hcc
      rw [← hN]
      have HN : Hid (N = 2 * k) := hN
      have hcon := sort_step g cap' N _ wr hds hH hgl (by omega)
      have HH : Hid (Go.Sort.HoldsK encS 2 wr g 0 (stepsOf q k).toArray) := hH
      clear hN hown hH hlt hk htk hh hcs hL hP ok
      go_wp2_with (go_at_call 52; refine hcon.mono ?_; rintro e w1 ⟨rfl, d', m, os, hp, hs, rfl⟩)
      go_ret
      exact ⟨g, cap', N, d', rfl, HN.out, hcc, hcm, hg, Nat.lt_of_lt_of_le hgl (size_sortWorldK_c encS 2 wr g 0 m d' os), hp.1.trans hds, holdsK_sortWorldK_c encS 2 wr g 0 (stepsOf q k).toArray d' m os HH.out hgl hp.1,
        steps_of (by simp) hp hs, sort_below hw hg zz⟩
end Go.Proofs.YthejaecljkjliabDoor
