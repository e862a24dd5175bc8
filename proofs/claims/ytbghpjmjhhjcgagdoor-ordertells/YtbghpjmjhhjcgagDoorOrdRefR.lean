/- What the document's own reckoning (package noonref2) answers of events: Rank. -/
import Derived.Test.YtbghpjmjhhjcgagDoorOrdDef
import Derived.Lib.SmallJoins
import Derived.BigQuiet
import Derived.Deep.QuietTactic
import Derived.IntWalk
namespace Go.Proofs.YtbghpjmjhhjcgagDoor
open Go.ChangeShapes Go.WideShapes Go.ChangeAt Go.RowKit Go.Joins
set_option linter.unusedVariables false
set_option linter.unusedSimpArgs false

theorem maxO_yes {p : Nat → Bool} {g : Nat → Int} {m : Nat} (h : p m = true) (l : maxO p g m < g m) : maxO p g (m + 1) = g m := if_pos ⟨h, l⟩
theorem maxO_no {p : Nat → Bool} {g : Nat → Int} {m : Nat} (h : p m = true → ¬ maxO p g m < g m) : maxO p g (m + 1) = maxO p g m := if_neg (fun q => h q.1 q.2)
set_option maxRecDepth 100000 in
set_option maxHeartbeats 4000000 in
theorem rrank_all (ad : Option Addr) (n cap : Nat) (f : Nat → Ev) (hn : n ≤ 12) (hok : ∀ j, j < n → okAt f j) : ∀ (m i : Nat), i < n → erl f n i ≤ m → ∀ w : World, VHanded w ad n f → Calls Tryd.prog 25 #[.slice ad n cap, .int .i64 i] w fun e w' => e = .returned (.int .i64 (rkO f n i)) ∧ Below w.heap.size w w' := by
  intro m
  induction m using Nat.strongRecOn with
  | _ m ih =>
    intro i hi hm w hH
    have HI : Hid (∀ k, k < n → sur f k i = true → ∀ u : World, VHanded u ad n f → Calls Tryd.prog 25 #[.slice ad n cap, .int .i64 k] u fun e w' => e = .returned (.int .i64 (rkO f n k)) ∧ Below u.heap.size u w') := fun k hk s u hu => by
      have := erl_lt hok hk s
      exact ih (erl f n k) (by omega) k hk (Nat.le_refl _) u hu
    have HE : Hid (rkO f n i = maxO (fun k => sur f k i) (rkO f n) n + 1) := rkO_eq hok hi
    have HL : Hid (∀ k, k < n → 1 ≤ rkO f n k ∧ rkO f n k ≤ 13) := fun k hk => by
      have a := (rkO_is hok k hk).1
      have b := rkO_le hok k hk
      have c := cntN_le n (fun j => decide ((f j).lo < (f k).lo))
      unfold erl at b
      exact ⟨a, by omega⟩
    have HB : Hid (∀ k, k ≤ n → 0 ≤ maxO (fun k => sur f k i) (rkO f n) k ∧ maxO (fun k => sur f k i) (rkO f n) k ≤ 13) := fun k hk => by
      refine ⟨maxO_ge.1, ?_⟩
      rcases maxO_at (p := fun k => sur f k i) (g := rkO f n) (m := k) with e | ⟨q, hq, _, e⟩
      · omega
      · have := (HL.out q (by omega)).2
        omega
    obtain ⟨b, off, rfl, hP⟩ : ∃ b off : Nat, ad = some ⟨b, off, none⟩ ∧ Evs w b off n f := by
      rcases hH.2 with e | h
      · omega
      · exact h
    have HP : Hid (Evs w b off n f) := hP
    have hiI : (i : Int) < n := by omega
    clear ih hH hP hok hm
    go_enter Tryd.func25, Tryd.ntmps25
    go_wp2
    go_loopw [5, 6] (fun v vk wr => ∃ k : Nat, k ≤ n ∧ vk = .int .i64 k ∧ v = .int .i64 (maxO (fun k => sur f k i) (rkO f n) k) ∧ Below w.heap.size w wr) (fun _ k _ => n - (intOf k).toNat)
    case atStart => exact ⟨0, Nat.zero_le _, rfl, rfl, Below.refl _ _⟩
    case round =>
      obtain ⟨k, hk, rfl, rfl, hw⟩ := hrel
      have HW : Hid (Below w.heap.size w wr) := hw
      by_cases hlt : k < n
      · have hl3 : (k : Int) < n := by omega
        obtain ⟨_, _, x2⟩ := (HP.out.on hw) k hlt
        obtain ⟨_, y1, _⟩ := (HP.out.on hw) i hi
        have zb : b < wr.heap.size := World.block_lt_of_cell? _ _ x2
        by_cases s : (f k).hi < (f i).lo
        · have cR := HI.out k hlt (decide_eq_true s)
          have hV : Hid (∀ u, Below w.heap.size w u → VHanded u (some ⟨b, off, none⟩) n f) := fun u hu => ⟨by omega, Or.inr ⟨b, off, rfl, HP.out.on hu⟩⟩
          have sT : sur f k i = true := decide_eq_true s
          have cR' : Hid (∀ u, Below w.heap.size w u → Calls Tryd.prog 25 #[.slice (some ⟨b, off, none⟩) n cap, .int .i64 k] u fun e w' => e = .returned (.int .i64 (rkO f n k)) ∧ Below u.heap.size u w') := fun u hu => cR u (hV.out u hu)
          clear cR hV hw HP HI
          by_cases l : maxO (fun k => sur f k i) (rkO f n) k < rkO f n k
          · have HN : Hid (maxO (fun k => sur f k i) (rkO f n) (k + 1) = rkO f n k) := maxO_yes sT l
            clear HE HL HB sT
            generalize maxO (fun k => sur f k i) (rkO f n) k = M at *
            generalize rkO f n k = R at *
            generalize (f k).hi = fh at *
            generalize (f i).lo = fl at *
            go_wp2
            go_quiet (fail)
            go_wp2_with (go_at_call 25; refine (cR'.out _ (rbel_drn HW.out)).mono ?_; rintro e u0 ⟨rfl, hb⟩; have HW0 : Hid (Below w.heap.size w u0) := rbel_on hb (rbel_drn HW.out); clear hb)
            go_roundw
            case rel => exact ⟨k + 1, by omega, by go_num, by rw [HN.out], HW0.out⟩
            case measure => simp [intOf]; omega
          · have HN : Hid (maxO (fun k => sur f k i) (rkO f n) (k + 1) = maxO (fun k => sur f k i) (rkO f n) k) := maxO_no (fun _ => l)
            have HM : Hid (maxO (fun k => sur f k i) (rkO f n) (k + 1) = maxO (fun k => sur f k i) (rkO f n) k) := HN.out
            obtain ⟨M, hM⟩ : ∃ M, M = maxO (fun k => sur f k i) (rkO f n) k := ⟨_, rfl⟩
            have HM2 : Hid (maxO (fun k => sur f k i) (rkO f n) (k + 1) = M) := by rw [hM]; exact HN.out
            rw [← hM] at l
            rw [← hM]
            clear HE HL HB sT HN HM hM
            generalize rkO f n k = R at *
            generalize (f k).hi = fh at *
            generalize (f i).lo = fl at *
            go_wp2
            go_quiet (fail)
            go_wp2_with (go_at_call 25; refine (cR'.out _ (rbel_drn HW.out)).mono ?_; rintro e u0 ⟨rfl, hb⟩; have HW0 : Hid (Below w.heap.size w u0) := rbel_on hb (rbel_drn HW.out); clear hb)
            go_roundw
            case rel => exact ⟨k + 1, by omega, by go_num, by rw [HM2.out], HW0.out⟩
            case measure => simp [intOf]; omega
        · have sF : sur f k i = false := decide_eq_false s
          obtain ⟨M, hM⟩ : ∃ M, M = maxO (fun k => sur f k i) (rkO f n) k := ⟨_, rfl⟩
          have HM2 : Hid (maxO (fun k => sur f k i) (rkO f n) (k + 1) = M) := by
            rw [hM]
            exact maxO_no (fun q => by have q' : sur f k i = true := q; rw [sF] at q'; cases q')
          rw [← hM]
          clear HE HL HB HI HP hw hM sF
          generalize (f k).hi = fh at *
          generalize (f i).lo = fl at *
          go_wp2
          go_quiet (fail)
          go_wp2
          go_roundw
          case rel => exact ⟨k + 1, by omega, by go_num, by rw [HM2.out], rbel_drn HW.out⟩
          case measure => simp [intOf]; omega
      · have hl3 : ¬ ((k : Int) < n) := by omega
        have e : k = n := by omega
        subst e
        obtain ⟨m1, m2⟩ := HB.out k (Nat.le_refl _)
        obtain ⟨M, hM⟩ : ∃ M, M = maxO (fun j => sur f j i) (rkO f k) k := ⟨_, rfl⟩
        have HF : Hid (rkO f k i = M + 1) := by rw [hM]; exact HE.out
        rw [← hM]
        have wM : IntKind.i64.wrap (M + 1) = M + 1 := IntWalk.i64_in _ (by omega)
        clear HE HL HB HI HP hw hM
        go_wp2
        go_ret
        exact ⟨by rw [HF.out]; rfl, HW.out⟩
theorem rrank_any (ad : Option Addr) (n cap i : Nat) (f : Nat → Ev) (w : World) (hn : n ≤ 12) (hok : ∀ j, j < n → okAt f j) (hi : i < n) (hH : VHanded w ad n f) : Calls Tryd.prog 25 #[.slice ad n cap, .int .i64 i] w fun e w' => e = .returned (.int .i64 (rkO f n i)) ∧ Below w.heap.size w w' :=
  rrank_all ad n cap f hn hok _ i hi (Nat.le_refl _) w hH
end Go.Proofs.YtbghpjmjhhjcgagDoor
