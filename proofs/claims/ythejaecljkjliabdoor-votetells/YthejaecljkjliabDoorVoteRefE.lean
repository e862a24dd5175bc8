/- What the document's own reckoning (package noonref1) answers of spans: Safe. -/
import Derived.Test.YthejaecljkjliabDoorVoteRefC
import Derived.Deep.RegionWith
import Derived.Deep.RegionHeld
import Derived.BigQuiet
namespace Go.Proofs.YthejaecljkjliabDoor
open Go.ChangeShapes Go.WideShapes Go.ChangeAt Go.RowKit Go.Joins
set_option linter.unusedVariables false
set_option linter.unusedSimpArgs false

set_option maxHeartbeats 8000000 in
set_option maxRecDepth 100000 in
theorem rsafe_any (b off n cap : Nat) (q : Nat → Int × Int) (m : Int) (w : World) (h0 : 0 < n) (h40 : n ≤ 40) (hP : Sps w b off n q) :
    Calls Tryd.prog 22 #[.slice (some ⟨b, off, none⟩) n cap, .int .i64 m] w fun e w' => e = .returned (.tuple #[.agg #[.int .i64 (sf q n m n).2, .int .i64 (sg q n m n).2], .bool (sf q n m n).1]) ∧ Below w.heap.size w w' := by
  have cH : ∀ u x, Below w.heap.size w u → Calls Tryd.prog 36 #[.slice (some ⟨b, off, none⟩) n cap, .int .i64 x] u fun e w' => e = .returned (.int .i64 (cnt q n x)) ∧ w' = u := fun u x hu =>
    rhas_any b off n cap q x u h40 (hP.on hu)
  have HP : Hid (Sps w b off n q) := hP
  clear hP
  have hbl : b < w.heap.size := World.block_lt_of_cell? _ _ (HP.out 0 h0).1
  go_enter Tryd.func22, Tryd.ntmps22
  go_wp2
  go_loopw [6, 8] (fun f i wr => ∃ k : Nat, k ≤ n ∧ i = .int .i64 k ∧ f = .bool (sf q n m k).1 ∧ Row wr w.heap.size [.int .i64 0, .int .i64 0] ∧ Row wr (w.heap.size + 1) [.int .i64 (sf q n m k).2, .int .i64 0] ∧ Below w.heap.size w wr) (fun _ i _ => n - (intOf i).toNat)
  case atStart => exact ⟨0, Nat.zero_le _, rfl, rfl, Row.al (Row.made rfl), Row.made (by simp), rbel_al (rbel_al (Below.refl _ _))⟩
  case round =>
    obtain ⟨k, hk, rfl, rfl, PR, PS, hw⟩ := hrel
    have zz := hw.size
    by_cases hlt : k < n
    · obtain ⟨x0, x1⟩ := (HP.out.on hw) k hlt
      have cS0 := PS.c 0 _ rfl
      have cS1 := PS.c 1 _ rfl
      have fS0 := PS.f 0 _ rfl
      have zS := PS.lt
      have MT : Hid (∀ fl, sf q n m k = fl → sf q n m (k + 1) = if m ≤ cnt q n (q k).1 ∧ (fl.1 = false ∨ (q k).1 < fl.2) then (true, (q k).1) else fl) := fun fl h => by subst h; rfl
      generalize hfl : sf q n m k = fl at *
      obtain ⟨f, l⟩ := fl
      have MT0 := MT.out _ rfl
      clear MT
      simp only at MT0 cS0 PS
      have MT : Hid (sf q n m (k + 1) = if m ≤ cnt q n (q k).1 ∧ (f = false ∨ (q k).1 < l) then (true, (q k).1) else (f, l)) := MT0
      clear MT0
      by_cases c1 : m ≤ cnt q n (q k).1
      · cases f with
        | false =>
          replace MT : Hid (sf q n m (k + 1) = (true, (q k).1)) := MT.out.trans (if_pos ⟨c1, Or.inl rfl⟩)
          go_wp2
          go_quiet (first | (go_at_call 36; refine Calls.quiet_of_same (cH _ _ ?_); exact rbel_drn hw))
          all_goals
            go_wp2
            go_roundw
            case rel => exact ⟨k + 1, by omega, by go_num, by rw [MT.out], Row.far (by omega) (Row.drn PR), by rw [MT.out]; exact Row.put 0 (Row.drn PS), rbel_put (by omega) (rbel_drn hw)⟩
            case measure => simp [intOf]; omega
        | true =>
          by_cases c2 : (q k).1 < l
          · replace MT : Hid (sf q n m (k + 1) = (true, (q k).1)) := MT.out.trans (if_pos ⟨c1, Or.inr c2⟩)
            go_wp2
            go_quiet (first | (go_at_call 36; refine Calls.quiet_of_same (cH _ _ ?_); exact rbel_drn hw))
            all_goals
              go_wp2
              go_roundw
              case rel => exact ⟨k + 1, by omega, by go_num, by rw [MT.out], Row.far (by omega) (Row.drn PR), by rw [MT.out]; exact Row.put 0 (Row.drn PS), rbel_put (by omega) (rbel_drn hw)⟩
              case measure => simp [intOf]; omega
          · replace MT : Hid (sf q n m (k + 1) = (true, l)) := MT.out.trans (if_neg (fun h => h.2.elim (by decide) c2))
            have d2 : decide ((q k).1 < l) = false := decide_eq_false c2
            go_wp2
            go_quiet (first | (go_at_call 36; refine Calls.quiet_of_same (cH _ _ ?_); exact rbel_drn hw))
            all_goals
              go_wp2
              go_roundw
              case rel => exact ⟨k + 1, by omega, by go_num, by rw [MT.out], (Row.drn PR), by rw [MT.out]; exact (Row.drn PS), (rbel_drn hw)⟩
              case measure => simp [intOf]; omega
      · replace MT : Hid (sf q n m (k + 1) = (f, l)) := MT.out.trans (if_neg (fun h => c1 h.1))
        have d1 : decide (m ≤ cnt q n (q k).1) = false := decide_eq_false c1
        go_wp2
        go_quiet (first | (go_at_call 36; refine Calls.quiet_of_same (cH _ _ ?_); exact rbel_drn hw))
        all_goals
          go_wp2
          go_roundw
          case rel => exact ⟨k + 1, by omega, by go_num, by rw [MT.out], (Row.drn PR), by rw [MT.out]; exact (Row.drn PS), (rbel_drn hw)⟩
          case measure => simp [intOf]; omega
    · have kn : k = n := by omega
      subst kn
      clear hlt hk
      go_wp2
      go_loopw [9, 10] (fun f i wr => ∃ j : Nat, j ≤ k ∧ i = .int .i64 j ∧ f = .bool (sg q k m j).1 ∧ Row wr w.heap.size [.int .i64 0, .int .i64 0] ∧ Row wr (w.heap.size + 1) [.int .i64 (sf q k m k).2, .int .i64 (sg q k m j).2] ∧ Below w.heap.size w wr) (fun _ i _ => k - (intOf i).toNat)
      case atStart => exact ⟨0, Nat.zero_le _, rfl, rfl, PR, PS, hw⟩
      case round =>
        clear PR PS hw zz
        obtain ⟨j, hj, rfl, rfl, PR, PS, hw⟩ := hrel
        have zz := hw.size
        by_cases hlt : j < k
        · obtain ⟨x0, x1⟩ := (HP.out.on hw) j hlt
          have cS0 := PS.c 0 _ rfl
          have cS1 := PS.c 1 _ rfl
          have fS1 := PS.f 1 _ rfl
          have zS := PS.lt
          have MT : Hid (∀ fl, sg q k m j = fl → sg q k m (j + 1) = if m ≤ cnt q k (q j).2 ∧ (fl.1 = true ∨ fl.2 < (q j).2) then (false, (q j).2) else fl) := fun fl h => by subst h; rfl
          generalize hfl : sg q k m j = fl at *
          obtain ⟨f, l⟩ := fl
          have MT0 := MT.out _ rfl
          clear MT
          simp only at MT0 cS1 PS
          have MT : Hid (sg q k m (j + 1) = if m ≤ cnt q k (q j).2 ∧ (f = true ∨ l < (q j).2) then (false, (q j).2) else (f, l)) := MT0
          clear MT0
          by_cases c1 : m ≤ cnt q k (q j).2
          · cases f with
            | true =>
              replace MT : Hid (sg q k m (j + 1) = (false, (q j).2)) := MT.out.trans (if_pos ⟨c1, Or.inl rfl⟩)
              go_wp2
              go_quiet (first | (go_at_call 36; refine Calls.quiet_of_same (cH _ _ ?_); exact rbel_drn hw))
              all_goals
                go_wp2
                go_roundw
                case rel => exact ⟨j + 1, by omega, by go_num, by rw [MT.out], Row.far (by omega) (Row.drn PR), by rw [MT.out]; exact Row.put 1 (Row.drn PS), rbel_put (by omega) (rbel_drn hw)⟩
                case measure => simp [intOf]; omega
            | false =>
              by_cases c2 : l < (q j).2
              · replace MT : Hid (sg q k m (j + 1) = (false, (q j).2)) := MT.out.trans (if_pos ⟨c1, Or.inr c2⟩)
                go_wp2
                go_quiet (first | (go_at_call 36; refine Calls.quiet_of_same (cH _ _ ?_); exact rbel_drn hw))
                all_goals
                  go_wp2
                  go_roundw
                  case rel => exact ⟨j + 1, by omega, by go_num, by rw [MT.out], Row.far (by omega) (Row.drn PR), by rw [MT.out]; exact Row.put 1 (Row.drn PS), rbel_put (by omega) (rbel_drn hw)⟩
                  case measure => simp [intOf]; omega
              · replace MT : Hid (sg q k m (j + 1) = (false, l)) := MT.out.trans (if_neg (fun h => h.2.elim (by decide) c2))
                have d2 : decide (l < (q j).2) = false := decide_eq_false c2
                go_wp2
                go_quiet (first | (go_at_call 36; refine Calls.quiet_of_same (cH _ _ ?_); exact rbel_drn hw))
                all_goals
                  go_wp2
                  go_roundw
                  case rel => exact ⟨j + 1, by omega, by go_num, by rw [MT.out], (Row.drn PR), by rw [MT.out]; exact (Row.drn PS), (rbel_drn hw)⟩
                  case measure => simp [intOf]; omega
          · replace MT : Hid (sg q k m (j + 1) = (f, l)) := MT.out.trans (if_neg (fun h => c1 h.1))
            have d1 : decide (m ≤ cnt q k (q j).2) = false := decide_eq_false c1
            go_wp2
            go_quiet (first | (go_at_call 36; refine Calls.quiet_of_same (cH _ _ ?_); exact rbel_drn hw))
            all_goals
              go_wp2
              go_roundw
              case rel => exact ⟨j + 1, by omega, by go_num, by rw [MT.out], (Row.drn PR), by rw [MT.out]; exact (Row.drn PS), (rbel_drn hw)⟩
              case measure => simp [intOf]; omega
        · have jn : j = k := by omega
          subst jn
          have cS0 := PS.c 0 _ rfl
          have cS1 := PS.c 1 _ rfl
          have cR0 := PR.c 0 _ rfl
          have cR1 := PR.c 1 _ rfl
          have fR0 := PR.f 0 _ rfl
          have fR1 := PR.f 1 _ rfl
          have zS := PS.lt
          go_wp2
          exact bodyPost_ret (v := _) (by simp [results, Tryd.results22, go_sem, *]) rfl ⟨rfl, by (repeat (first | assumption | refine Below.setCell ?_ (by first | (simp; done) | (simp; omega) | omega) _ | apply Below.drew))⟩
end Go.Proofs.YthejaecljkjliabDoor
