/- The ways through the law VoteAll. -/
import Derived.Test.YthejaecljkjliacDoorVoteLiars
import Derived.Test.YthejaecljkjliacDoorVoteMore
import Derived.Test.YthejaecljkjliacDoorTold
import Derived.Lib.SmallJoins
import Derived.WalkKit
import Derived.ProofKit
import Derived.OpenShut
import Derived.Outline
import Derived.ShutString
import Derived.ChangeOld
import Derived.Below
import Derived.IntWalk
import Derived.WalkLawsBesides
namespace Go.Proofs.YthejaecljkjliacDoor.voteAll
open Go.ChangeShapes Go.WideShapes Go.ChangeAt Go.RowKit Go.Joins Go.Proofs.YthejaecljkjliacDoor.told
set_option linter.unusedVariables false
set_option linter.unusedSimpArgs false

theorem all_cnt (s : Int × Int) (x : Int) : ∀ n : Nat, cnt (fun _ => s) n x = n * inn s x
  | 0 => by simp [cnt]
  | n + 1 => by
    have ih := all_cnt s x n
    simp only [cnt, ih]
    have : ((n + 1 : Nat) : Int) * inn s x = n * inn s x + inn s x := by rw [Int.natCast_add, Int.add_mul]; simp
    omega
theorem all_in (s : Int × Int) (x : Int) (n : Nat) (h : s.1 ≤ x ∧ x ≤ s.2) : cnt (fun _ => s) n x = n := by
  rw [all_cnt, (inn_one s x).2 h]; simp
theorem all_out (s : Int × Int) (x : Int) (n : Nat) (h : ¬ (s.1 ≤ x ∧ x ≤ s.2)) : cnt (fun _ => s) n x = 0 := by
  rw [all_cnt]; unfold inn; rw [if_neg h]; simp
theorem all_most (s : Int × Int) (n : Nat) (h : s.1 ≤ s.2) (h0 : 0 < n) : IsMost (cnt (fun _ => s) n) s.1 s.2 n := by
  have key : ∀ x, cnt (fun _ => s) n x ≤ n := fun x => (cnt_le _ x n).2
  refine ⟨by omega, h, key, fun x h1 h2 => all_in s x n ⟨h1, h2⟩, fun x hx => ?_, ?_⟩
  · rw [all_out s x n (by omega)]; omega
  · rw [all_out s _ n (by omega)]; omega
theorem all_safe (s : Int × Int) (n : Nat) (K : Int) (h : s.1 ≤ s.2) (h0 : 0 < n) (h1 : 1 ≤ K) (h2 : K ≤ n) : IsSafe (cnt (fun _ => s) n) K s.1 s.2 := by
  refine ⟨by rw [all_in s _ n ⟨Int.le_refl _, h⟩]; exact h2, by rw [all_in s _ n ⟨h, Int.le_refl _⟩]; exact h2, fun x hx => ?_⟩
  apply Classical.byContradiction
  intro hn
  rw [all_out s x n hn] at hx
  omega
theorem all_liars (s : Int × Int) (h : s.1 ≤ s.2) : ∀ n : Nat, liars s.1 s.2 (fun _ => s) n = []
  | 0 => rfl
  | n + 1 => by
    have ih := all_liars s h n
    have e : lies s.1 s.2 s = false := decide_eq_false (by omega)
    simp only [liars, e, ih]; simp
theorem infoSpan : (Tryd.prog.info? 23).map (fun i => (i.zero, i.size, i.bytes)) = some (some (.agg #[.int .i64 0, .int .i64 0]), 2, 16) := by kernel_rfl
theorem el_rep (n i : Nat) (s : Int × Int) (h : i < n) : el (List.replicate n s) i = s := by simp [el, List.getD, h]
theorem sps_of {w : World} {base g n cap : Nat} {e : TypeId} {s : Int × Int} (h : w.ownsRow base e 2 (.slice (some ⟨g, 0, none⟩) n cap) n (cellsOf (List.replicate n s))) : Sps w g 0 n (fun _ => s) := fun i hi => by
  constructor
  · rw [h.cellAt (0 + i * 2) (by omega), cellsOf_get _ _ (by simp; omega), show (0 + i * 2) / 2 = i by omega, show (0 + i * 2) % 2 = 0 by omega, el_rep n i s hi]; rfl
  · rw [h.cellAt (0 + i * 2 + 1) (by omega), cellsOf_get _ _ (by simp; omega), show (0 + i * 2 + 1) / 2 = i by omega, show (0 + i * 2 + 1) % 2 = 1 by omega, el_rep n i s hi]; rfl

set_option maxHeartbeats 2000000 in
theorem bad1 (lo hi n : Int) (w : World) (hg : Hid (EnvE w)) (no : okB lo hi = false) :
    Calls Tryd.prog 3 #[.agg #[.int .i64 lo, .int .i64 hi], .int .i64 n] w fun e w' => e = .returned (.bool true) ∧ Below w.heap.size w w' := by
  have cN : ∀ u, Calls Tryd.prog 9 #[.slice none 0 0] u fun e w' => e = .returned (.tuple #[.agg #[.int .i64 0, .int .i64 0], .iface 81 (.int .i64 5)]) ∧ Below u.heap.size u w' := fun u => by
    have h := vmeet_any none 0 0 (fun _ => (0, 0)) 0 0 5 u ⟨by omega, Or.inl rfl⟩ (Or.inl ⟨by decide, rfl, rfl, rfl⟩)
    rwa [errn_not (by decide)] at h
  have cnt : Mark 0 := .mk _
  go_enter Tryd.func3, Tryd.ntmps3
  go_wp2_with (first | (go_at_call 8; have cq : Mark 0 := cnt; refine (check_no _ _ _ no).mono ?_; clear cq cnt; have cnt : Mark 1 := .mk _; rintro e u0 ⟨rfl, hb⟩; replace hw : Below w.heap.size w u0 := rbel_on hb (rbel_al (Below.refl _ _)); replace PS : Row u0 (w.heap.size) [.int .i64 lo, .int .i64 hi] := Row.on hb (Row.made (by simp)); replace cS0 := PS.c 0 _ rfl; replace cS1 := PS.c 1 _ rfl; replace zS := PS.lt; clear hb) | (go_at_call 9; have cq : Mark 1 := cnt; refine (cN _).mono ?_; clear cq cnt; have cnt : Mark 2 := .mk _; rintro e u1 ⟨rfl, hb⟩; replace hw : Below w.heap.size w u1 := rbel_on hb (hw); replace PS : Row u1 (w.heap.size) [.int .i64 lo, .int .i64 hi] := Row.on hb (PS); replace cS0 := PS.c 0 _ rfl; replace cS1 := PS.c 1 _ rfl; replace zS := PS.lt; have y1_S_0 : w.heap.size < u1.heap.size := (by omega); have n1_S_0 : ¬ (u1.heap.size = w.heap.size) := (by omega); have m1_S_0 : ¬ (w.heap.size = u1.heap.size) := (by omega); clear hb) | (go_at_call 10; have cq : Mark 2 := cnt; refine (error_errno 5 _ (hg.out.below (rbel_al (hw)))).mono ?_; clear cq cnt; have cnt : Mark 3 := .mk _; rintro e u2 ⟨rfl, hb⟩; replace hw : Below w.heap.size w u2 := rbel_on hb (rbel_al (hw)); replace PS : Row u2 (w.heap.size) [.int .i64 lo, .int .i64 hi] := Row.on hb (Row.al (PS)); replace cS0 := PS.c 0 _ rfl; replace cS1 := PS.c 1 _ rfl; replace zS := PS.lt; replace PA : Row u2 (u1.heap.size) [.int .i64 0, .int .i64 0] := Row.on hb (Row.made (by simp)); replace cA0 := PA.c 0 _ rfl; replace cA1 := PA.c 1 _ rfl; replace zA := PA.lt; clear hb))
  go_ret
  exact ⟨rfl, hw⟩

set_option maxHeartbeats 2000000 in
theorem bad2 (lo hi n : Int) (w : World) (hg : Hid (EnvE w)) (ok : okB lo hi = true) (h1 : n < 1) :
    Calls Tryd.prog 3 #[.agg #[.int .i64 lo, .int .i64 hi], .int .i64 n] w fun e w' => e = .returned (.bool true) ∧ Below w.heap.size w w' := by
  have cN : ∀ u, Calls Tryd.prog 9 #[.slice none 0 0] u fun e w' => e = .returned (.tuple #[.agg #[.int .i64 0, .int .i64 0], .iface 81 (.int .i64 5)]) ∧ Below u.heap.size u w' := fun u => by
    have h := vmeet_any none 0 0 (fun _ => (0, 0)) 0 0 5 u ⟨by omega, Or.inl rfl⟩ (Or.inl ⟨by decide, rfl, rfl, rfl⟩)
    rwa [errn_not (by decide)] at h
  have cnt : Mark 0 := .mk _
  go_enter Tryd.func3, Tryd.ntmps3
  go_wp2_with (first | (go_at_call 8; have cq : Mark 0 := cnt; refine (check_ok _ _ _ ok).mono ?_; clear cq cnt; have cnt : Mark 1 := .mk _; rintro e u0 ⟨rfl, hb⟩; replace hw : Below w.heap.size w u0 := rbel_on hb (rbel_al (Below.refl _ _)); replace PS : Row u0 (w.heap.size) [.int .i64 lo, .int .i64 hi] := Row.on hb (Row.made (by simp)); replace cS0 := PS.c 0 _ rfl; replace cS1 := PS.c 1 _ rfl; replace zS := PS.lt; clear hb) | (go_at_call 9; have cq : Mark 1 := cnt; refine (cN _).mono ?_; clear cq cnt; have cnt : Mark 2 := .mk _; rintro e u1 ⟨rfl, hb⟩; replace hw : Below w.heap.size w u1 := rbel_on hb (hw); replace PS : Row u1 (w.heap.size) [.int .i64 lo, .int .i64 hi] := Row.on hb (PS); replace cS0 := PS.c 0 _ rfl; replace cS1 := PS.c 1 _ rfl; replace zS := PS.lt; have y1_S_0 : w.heap.size < u1.heap.size := (by omega); have n1_S_0 : ¬ (u1.heap.size = w.heap.size) := (by omega); have m1_S_0 : ¬ (w.heap.size = u1.heap.size) := (by omega); clear hb) | (go_at_call 10; have cq : Mark 2 := cnt; refine (error_errno 5 _ (hg.out.below (rbel_al (hw)))).mono ?_; clear cq cnt; have cnt : Mark 3 := .mk _; rintro e u2 ⟨rfl, hb⟩; replace hw : Below w.heap.size w u2 := rbel_on hb (rbel_al (hw)); replace PS : Row u2 (w.heap.size) [.int .i64 lo, .int .i64 hi] := Row.on hb (Row.al (PS)); replace cS0 := PS.c 0 _ rfl; replace cS1 := PS.c 1 _ rfl; replace zS := PS.lt; replace PA : Row u2 (u1.heap.size) [.int .i64 0, .int .i64 0] := Row.on hb (Row.made (by simp)); replace cA0 := PA.c 0 _ rfl; replace cA1 := PA.c 1 _ rfl; replace zA := PA.lt; clear hb))
  go_ret
  exact ⟨rfl, hw⟩

set_option maxHeartbeats 2000000 in
theorem bad3 (lo hi n : Int) (w : World) (hg : Hid (EnvE w)) (ok : okB lo hi = true) (h1 : ¬ n < 1) (h2 : 40 < n) :
    Calls Tryd.prog 3 #[.agg #[.int .i64 lo, .int .i64 hi], .int .i64 n] w fun e w' => e = .returned (.bool true) ∧ Below w.heap.size w w' := by
  have cN : ∀ u, Calls Tryd.prog 9 #[.slice none 0 0] u fun e w' => e = .returned (.tuple #[.agg #[.int .i64 0, .int .i64 0], .iface 81 (.int .i64 5)]) ∧ Below u.heap.size u w' := fun u => by
    have h := vmeet_any none 0 0 (fun _ => (0, 0)) 0 0 5 u ⟨by omega, Or.inl rfl⟩ (Or.inl ⟨by decide, rfl, rfl, rfl⟩)
    rwa [errn_not (by decide)] at h
  have cnt : Mark 0 := .mk _
  go_enter Tryd.func3, Tryd.ntmps3
  go_wp2_with (first | (go_at_call 8; have cq : Mark 0 := cnt; refine (check_ok _ _ _ ok).mono ?_; clear cq cnt; have cnt : Mark 1 := .mk _; rintro e u0 ⟨rfl, hb⟩; replace hw : Below w.heap.size w u0 := rbel_on hb (rbel_al (Below.refl _ _)); replace PS : Row u0 (w.heap.size) [.int .i64 lo, .int .i64 hi] := Row.on hb (Row.made (by simp)); replace cS0 := PS.c 0 _ rfl; replace cS1 := PS.c 1 _ rfl; replace zS := PS.lt; clear hb) | (go_at_call 9; have cq : Mark 1 := cnt; refine (cN _).mono ?_; clear cq cnt; have cnt : Mark 2 := .mk _; rintro e u1 ⟨rfl, hb⟩; replace hw : Below w.heap.size w u1 := rbel_on hb (hw); replace PS : Row u1 (w.heap.size) [.int .i64 lo, .int .i64 hi] := Row.on hb (PS); replace cS0 := PS.c 0 _ rfl; replace cS1 := PS.c 1 _ rfl; replace zS := PS.lt; have y1_S_0 : w.heap.size < u1.heap.size := (by omega); have n1_S_0 : ¬ (u1.heap.size = w.heap.size) := (by omega); have m1_S_0 : ¬ (w.heap.size = u1.heap.size) := (by omega); clear hb) | (go_at_call 10; have cq : Mark 2 := cnt; refine (error_errno 5 _ (hg.out.below (rbel_al (hw)))).mono ?_; clear cq cnt; have cnt : Mark 3 := .mk _; rintro e u2 ⟨rfl, hb⟩; replace hw : Below w.heap.size w u2 := rbel_on hb (rbel_al (hw)); replace PS : Row u2 (w.heap.size) [.int .i64 lo, .int .i64 hi] := Row.on hb (Row.al (PS)); replace cS0 := PS.c 0 _ rfl; replace cS1 := PS.c 1 _ rfl; replace zS := PS.lt; replace PA : Row u2 (u1.heap.size) [.int .i64 0, .int .i64 0] := Row.on hb (Row.made (by simp)); replace cA0 := PA.c 0 _ rfl; replace cA1 := PA.c 1 _ rfl; replace zA := PA.lt; clear hb))
  go_ret
  exact ⟨rfl, hw⟩

set_option maxRecDepth 100000 in
set_option maxHeartbeats 4000000 in
theorem long (lo hi : Int) (n : Nat) (w : World) (ok : okB lo hi = true) (h0 : 0 < n) (h40 : n ≤ 40) :
    Calls Tryd.prog 3 #[.agg #[.int .i64 lo, .int .i64 hi], .int .i64 n] w fun e w' => e = .returned (.bool true) ∧ Below w.heap.size w w' := by
  obtain ⟨i0, hi0, hz0, hz1, hz2⟩ := info_parts infoSpan
  have cnt : Mark 0 := .mk _
  go_enter Tryd.func3, Tryd.ntmps3
  go_wp2_with (first | (go_at_call 8; have cq : Mark 0 := cnt; refine (check_ok _ _ _ ok).mono ?_; clear cq cnt; have cnt : Mark 1 := .mk _; rintro e u0 ⟨rfl, hb⟩; replace hw : Below w.heap.size w u0 := rbel_on hb (rbel_al (Below.refl _ _)); replace PS : Row u0 (w.heap.size) [.int .i64 lo, .int .i64 hi] := Row.on hb (Row.made (by simp)); replace cS0 := PS.c 0 _ rfl; replace cS1 := PS.c 1 _ rfl; replace zS := PS.lt; clear hb))
  go_loopw [7, 8] (fun v i wr => ∃ k : Nat, k ≤ n ∧ i = .int .i64 k ∧ wr.ownsRow u0.heap.size 23 2 v k (cellsOf (List.replicate k (lo, hi))) ∧ Below u0.heap.size u0 wr) (fun _ i _ => n - (intOf i).toNat)
  case atStart => exact ⟨0, Nat.zero_le _, rfl, World.ownsRow_nil _ _ _ _, Below.refl _ _⟩
  case round =>
    obtain ⟨k, hk, rfl, hown, hb⟩ := hrel
    replace PS := Row.on hb PS
    replace cS0 := PS.c 0 _ rfl
    replace cS1 := PS.c 1 _ rfl
    have zz := hb.size
    replace hw := rbel_on hb hw
    by_cases hlt : k < n
    · clear hw
      go_wp2_with (at_builtin; refine wpList_append_own _ rfl _ _ 30 rfl u0.heap.size 23 i0 (.agg #[.int .i64 0, .int .i64 0]) 2 16 Tryd.underlying30 hi0 hz0 hz1 hz2 rfl (by decide) _ _ _ rfl (hown.alloc _) ⟨wr.heap.size, 0, none⟩ 1 1 [.int .i64 lo, .int .i64 hi] rfl rfl ?c1 ?c2 ?c3 ?c4 ?c5 ?_)
      case c1 =>
        intro j u hj
        rw [Addr.add_lit, World.cell?_alloc_at _ _ _ _ (by simp)]
        simpa using hj
      case c2 =>
        intro u hu
        simp at hu
        rcases hu with rfl | rfl <;> rfl
      case c3 => unfold maxLen; omega
      case c4 => omega
      case c5 => simp; omega
      intro v' w1 hown' hgrow _
      have hown1 : Hid (w1.ownsRow u0.heap.size 23 2 v' (k + 1) (cellsOf (List.replicate (k + 1) (lo, hi)))) := by
        show w1.ownsRow u0.heap.size 23 2 v' (k + 1) _
        rw [List.replicate_succ', cellsOf_append]
        exact hown'
      have hb1 : Below u0.heap.size u0 w1 := (rbel_al hb).grown hgrow (by simp; omega) (fun j hj => (hown.lt j hj).1)
      clear hown' hgrow hown
      go_wp2
      go_roundw
      case rel => exact ⟨k + 1, by omega, by go_num, hown1.out, hb1⟩
      case measure => simp [intOf]; omega
    · have kn : k = n := by omega
      subst kn
      obtain ⟨g, cap, rfl⟩ : ∃ g cap, u7 = .slice (some ⟨g, 0, none⟩) k cap := by
        rcases hown.2 with ⟨_, e⟩ | ⟨g, cap, cur, h, _⟩
        · omega
        · exact ⟨g, cap, h⟩
      have hP := sps_of hown
      have okk := okB_t ok
      have v0 : vE (fun _ => (lo, hi)) k = 0 := vE_ok h0 h40 (fun _ _ => ok)
      have cA : ∀ u, Below wr.heap.size wr u → Calls Tryd.prog 9 #[.slice (some ⟨g, 0, none⟩) k cap] u fun e w' => e = .returned (.tuple #[.agg #[.int .i64 lo, .int .i64 hi], .nilIface]) ∧ Below u.heap.size u w' := fun u hu => by
        have h := vmeet_any (some ⟨g, 0, none⟩) k cap _ lo hi 0 u ⟨by omega, Or.inr ⟨g, 0, rfl, hP.on hu⟩⟩ (Or.inr (Or.inr (Or.inr ⟨v0, by omega, by omega, rfl, all_safe (lo, hi) k _ okk.1 h0 (by omega) (by omega)⟩)))
        rwa [errn_zero] at h
      have cB : ∀ u, Below wr.heap.size wr u → Calls Tryd.prog 11 #[.slice (some ⟨g, 0, none⟩) k cap] u fun e w' => e = .returned (.tuple #[.agg #[.int .i64 lo, .int .i64 hi], .int .i64 k, .nilIface]) ∧ Below u.heap.size u w' := fun u hu => by
        have h := most_any (some ⟨g, 0, none⟩) k cap _ lo hi k 0 u ⟨by omega, Or.inr ⟨g, 0, rfl, hP.on hu⟩⟩ (Or.inr ⟨v0, rfl, all_most (lo, hi) k okk.1 h0⟩)
        rwa [errn_zero] at h
      have cL : ∀ u, Below wr.heap.size wr u → Calls Tryd.prog 12 #[.slice (some ⟨g, 0, none⟩) k cap] u fun e w' => (∃ a c, e = .returned (.tuple #[.slice a 0 c, .nilIface])) ∧ Below u.heap.size u w' := fun u hu => by
        refine (liars_any g 0 k cap lo hi k _ u (hP.on hu) v0 (all_most (lo, hi) k okk.1 h0)).mono ?_
        rintro e w' ⟨v, rfl, ho, hbb⟩
        rw [all_liars (lo, hi) okk.1] at ho
        obtain ⟨a, c, rfl⟩ := own_slice ho
        exact ⟨⟨a, c, rfl⟩, hbb⟩
      have cD : ∀ u, Below wr.heap.size wr u → Calls Tryd.prog 13 #[.slice (some ⟨g, 0, none⟩) k cap, .int .i64 (k - 1)] u fun e w' => e = .returned (.tuple #[.agg #[.int .i64 lo, .int .i64 hi], .nilIface]) ∧ Below u.heap.size u w' := fun u hu => by
        have h := safe_any (some ⟨g, 0, none⟩) k cap _ (k - 1) lo hi 0 u ⟨by omega, Or.inr ⟨g, 0, rfl, hP.on hu⟩⟩ (Or.inr (Or.inr (Or.inr ⟨v0, by omega, by omega, rfl, all_safe (lo, hi) k _ okk.1 h0 (by omega) (by omega)⟩)))
        rwa [errn_zero] at h
      clear hown hP v0 okk ok
      clear cnt
      have cnt : Mark 10 := .mk _
      have ht : Below wr.heap.size wr wr := Below.refl _ _
      have zS : w.heap.size < wr.heap.size := PS.lt
      go_wp2_with (first | (go_at_call 9; have cq : Mark 10 := cnt; refine (cA _ (ht)).mono ?_; clear cq cnt; have cnt : Mark 11 := .mk _; rintro e u10 ⟨rfl, hb⟩; replace hw : Below w.heap.size w u10 := rbel_on hb (hw); replace PS : Row u10 (w.heap.size) [.int .i64 lo, .int .i64 hi] := Row.on hb (PS); replace cS0 := PS.c 0 _ rfl; replace cS1 := PS.c 1 _ rfl; replace zS := PS.lt; have y10_S_0 : w.heap.size < u10.heap.size := (by omega); have n10_S_0 : ¬ (u10.heap.size = w.heap.size) := (by omega); have m10_S_0 : ¬ (w.heap.size = u10.heap.size) := (by omega); replace ht : Below wr.heap.size wr u10 := rbel_on hb (ht); clear hb) | (go_at_call 11; have cq : Mark 11 := cnt; refine (cB _ (rbel_al (ht))).mono ?_; clear cq cnt; have cnt : Mark 12 := .mk _; rintro e u11 ⟨rfl, hb⟩; replace hw : Below w.heap.size w u11 := rbel_on hb (rbel_al (hw)); replace PS : Row u11 (w.heap.size) [.int .i64 lo, .int .i64 hi] := Row.on hb (Row.al (PS)); replace cS0 := PS.c 0 _ rfl; replace cS1 := PS.c 1 _ rfl; replace zS := PS.lt; replace PA : Row u11 (u10.heap.size) [.int .i64 lo, .int .i64 hi] := Row.on hb (Row.made (by simp)); replace cA0 := PA.c 0 _ rfl; replace cA1 := PA.c 1 _ rfl; replace zA := PA.lt; have y11_S_0 : w.heap.size < u11.heap.size := (by omega); have n11_S_0 : ¬ (u11.heap.size = w.heap.size) := (by omega); have m11_S_0 : ¬ (w.heap.size = u11.heap.size) := (by omega); have y11_A_0 : u10.heap.size < u11.heap.size := (by omega); have n11_A_0 : ¬ (u11.heap.size = u10.heap.size) := (by omega); have m11_A_0 : ¬ (u10.heap.size = u11.heap.size) := (by omega); replace ht : Below wr.heap.size wr u11 := rbel_on hb (rbel_al (ht)); clear hb) | (go_at_call 12; have cq : Mark 12 := cnt; refine (cL _ (rbel_al (ht))).mono ?_; clear cq cnt; have cnt : Mark 13 := .mk _; rintro e u12 ⟨⟨la, lc, rfl⟩, hb⟩; replace hw : Below w.heap.size w u12 := rbel_on hb (rbel_al (hw)); replace PS : Row u12 (w.heap.size) [.int .i64 lo, .int .i64 hi] := Row.on hb (Row.al (PS)); replace cS0 := PS.c 0 _ rfl; replace cS1 := PS.c 1 _ rfl; replace zS := PS.lt; replace PA : Row u12 (u10.heap.size) [.int .i64 lo, .int .i64 hi] := Row.on hb (Row.al (PA)); replace cA0 := PA.c 0 _ rfl; replace cA1 := PA.c 1 _ rfl; replace zA := PA.lt; replace PB : Row u12 (u11.heap.size) [.int .i64 lo, .int .i64 hi] := Row.on hb (Row.made (by simp)); replace cB0 := PB.c 0 _ rfl; replace cB1 := PB.c 1 _ rfl; replace zB := PB.lt; replace ht : Below wr.heap.size wr u12 := rbel_on hb (rbel_al (ht)); clear hb) | (go_at_call 13; have cq : Mark 13 := cnt; refine (cD _ (ht)).mono ?_; clear cq cnt; have cnt : Mark 14 := .mk _; rintro e u13 ⟨rfl, hb⟩; replace hw : Below w.heap.size w u13 := rbel_on hb (hw); replace PS : Row u13 (w.heap.size) [.int .i64 lo, .int .i64 hi] := Row.on hb (PS); replace cS0 := PS.c 0 _ rfl; replace cS1 := PS.c 1 _ rfl; replace zS := PS.lt; replace PA : Row u13 (u10.heap.size) [.int .i64 lo, .int .i64 hi] := Row.on hb (PA); replace cA0 := PA.c 0 _ rfl; replace cA1 := PA.c 1 _ rfl; replace zA := PA.lt; replace PB : Row u13 (u11.heap.size) [.int .i64 lo, .int .i64 hi] := Row.on hb (PB); replace cB0 := PB.c 0 _ rfl; replace cB1 := PB.c 1 _ rfl; replace zB := PB.lt; have y13_S_0 : w.heap.size < u13.heap.size := (by omega); have n13_S_0 : ¬ (u13.heap.size = w.heap.size) := (by omega); have m13_S_0 : ¬ (w.heap.size = u13.heap.size) := (by omega); have y13_A_0 : u10.heap.size < u13.heap.size := (by omega); have n13_A_0 : ¬ (u13.heap.size = u10.heap.size) := (by omega); have m13_A_0 : ¬ (u10.heap.size = u13.heap.size) := (by omega); have y13_B_0 : u11.heap.size < u13.heap.size := (by omega); have n13_B_0 : ¬ (u13.heap.size = u11.heap.size) := (by omega); have m13_B_0 : ¬ (u11.heap.size = u13.heap.size) := (by omega); replace ht : Below wr.heap.size wr u13 := rbel_on hb (ht); clear hb))
      go_ret
      exact ⟨rfl, rbel_al (hw)⟩
end Go.Proofs.YthejaecljkjliacDoor.voteAll
