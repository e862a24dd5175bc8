/- What the document's own reckoning (package noonref2) answers of events: ready. -/
import Derived.Test.YtbghpjmjhhjcgagDoorOrdDef
import Derived.Lib.SmallJoins
import Derived.BigQuiet
import Derived.BigRegion
import Derived.Deep.QuietTactic
import Derived.IntWalk
namespace Go.Proofs.YtbghpjmjhhjcgagDoor
open Go.ChangeShapes Go.WideShapes Go.ChangeAt Go.RowKit Go.Joins
set_option linter.unusedVariables false
set_option linter.unusedSimpArgs false

theorem half_pow (T k : Nat) : T / 2 ^ k / 2 = T / 2 ^ (k + 1) := by rw [Nat.div_div_eq_div_mul, Nat.pow_succ]
set_option maxRecDepth 100000 in
set_option maxHeartbeats 4000000 in
theorem rready_any (ad : Option Addr) (n cap T i : Nat) (f : Nat → Ev) (w : World) (hn : n ≤ 12) (hT : T < 4096) (hi : i < n) (hH : VHanded w ad n f) : Calls Tryd.prog 43 #[.slice ad n cap, .int .i64 T, .int .i64 i] w fun e w' => e = .returned (.bool (rdyB f n (bit T) i)) ∧ Below w.heap.size w w' := by
  obtain ⟨b, off, rfl, hP⟩ : ∃ b off : Nat, ad = some ⟨b, off, none⟩ ∧ Evs w b off n f := by
    rcases hH.2 with e | h
    · omega
    · exact h
  have HP : Hid (Evs w b off n f) := hP
  have hiI : (i : Int) < n := by omega
  clear hH hP
  go_enter Tryd.func43, Tryd.ntmps43
  go_wp2
  go_loopw [1, 7] (fun v vk wr => ∃ k X : Nat, k ≤ n ∧ vk = .int .i64 k ∧ v = .int .i64 X ∧ X = T / 2 ^ k ∧ (∀ j, j < k → sur f j i = true → bit T j = true) ∧ Below w.heap.size w wr) (fun _ k _ => n - (intOf k).toNat)
  case atStart => exact ⟨0, T, Nat.zero_le _, rfl, rfl, by simp, fun j hj => by omega, Below.refl _ _⟩
  case round =>
    obtain ⟨k, X, hk, rfl, rfl, hX, hd, hw⟩ := hrel
    have HW : Hid (Below w.heap.size w wr) := hw
    have HD : Hid (∀ j, j < k → sur f j i = true → bit T j = true) := hd
    have HX : Hid (X = T / 2 ^ k) := hX
    have xl : X < 4096 := by rw [hX]; exact Nat.lt_of_le_of_lt (Nat.div_le_self _ _) hT
    clear hX hd
    by_cases hlt : k < n
    · have hl3 : (k : Int) < n := by omega
      obtain ⟨_, _, x2⟩ := (HP.out.on hw) k hlt
      obtain ⟨_, y1, _⟩ := (HP.out.on hw) i hi
      have zb : b < wr.heap.size := World.block_lt_of_cell? _ _ x2
      have q2 : (X : Int).tdiv 2 = ((X / 2 : Nat) : Int) := by rw [Int.tdiv_eq_ediv_of_nonneg (by omega)]; omega
      have r2 : (X : Int).tmod 2 = ((X % 2 : Nat) : Int) := by rw [Int.tmod_eq_emod_of_nonneg (by omega)]; omega
      have wq : IntKind.i64.wrap ((X / 2 : Nat) : Int) = ((X / 2 : Nat) : Int) := IntWalk.i64_in _ (by omega)
      have HN : Hid ((sur f k i = true → bit T k = true) → ∀ j, j < k + 1 → sur f j i = true → bit T j = true) := fun h j hj s => by
        by_cases q : j = k
        · rw [q] at s ⊢; exact h s
        · exact HD.out j (by omega) s
      have HY : Hid (X / 2 = T / 2 ^ (k + 1)) := by rw [HX.out]; exact half_pow T k
      have HBt : Hid (bit T k = decide (X % 2 = 1)) := by unfold bit; rw [HX.out]; rfl
      clear hw
      by_cases s : (f k).hi < (f i).lo
      · have ds : decide ((f k).hi < (f i).lo) = true := decide_eq_true s
        by_cases o : X % 2 = 0
        · have HR : Hid (rdyB f n (bit T) i = false) := by
            cases e : rdyB f n (bit T) i with
            | false => rfl
            | true =>
              have := rdyB_t.1 e k hlt (decide_eq_true s)
              rw [HBt.out, o] at this
              cases this
          rw [o] at r2
          clear HN HY HBt HD HX HP s o wq q2
          generalize (f k).hi = fh at *
          generalize (f i).lo = fl at *
          go_wp2
          go_quiet (fail)
          go_wp2
          go_ret
          exact ⟨by rw [HR.out]; rfl, rbel_drn HW.out⟩
        · have o1 : X % 2 = 1 := by omega
          have HM : Hid (∀ j, j < k + 1 → sur f j i = true → bit T j = true) := HN.out (fun _ => by rw [HBt.out, o1]; rfl)
          rw [o1] at r2
          clear HN HBt HD HX HP s o o1
          generalize (f k).hi = fh at *
          generalize (f i).lo = fl at *
          go_wp2
          go_quiet (fail)
          go_wp2
          go_roundw
          case rel => exact ⟨k + 1, X / 2, by omega, by go_num, by first | rfl | go_num, HY.out, HM.out, rbel_drn HW.out⟩
          case measure => simp [intOf]; omega
      · have ds : decide ((f k).hi < (f i).lo) = false := decide_eq_false s
        have HM : Hid (∀ j, j < k + 1 → sur f j i = true → bit T j = true) := HN.out (fun q => absurd (of_decide_eq_true q) s)
        clear HN HBt HD HX HP s
        generalize (f k).hi = fh at *
        generalize (f i).lo = fl at *
        go_wp2
        go_quiet (fail)
        go_wp2
        go_roundw
        case rel => exact ⟨k + 1, X / 2, by omega, by go_num, by first | rfl | go_num, HY.out, HM.out, rbel_drn HW.out⟩
        case measure => simp [intOf]; omega
    · have hl3 : ¬ ((k : Int) < n) := by omega
      have HR : Hid (rdyB f n (bit T) i = true) := rdyB_t.2 (fun j hj s => HD.out j (by omega) s)
      clear HP HD HX hw
      go_wp2
      go_ret
      exact ⟨by rw [HR.out]; rfl, HW.out⟩
end Go.Proofs.YtbghpjmjhhjcgagDoor
