/- What the document's own reckoning (package noonref1) answers of spans: all. -/
import Derived.Test.YthejaecljkjliabDoorVoteRefB
import Derived.Test.YthejaecljkjliabDoorVoteMath2
import Derived.Deep.RegionWith
import Derived.Deep.RegionHeld
import Derived.BigQuiet
namespace Go.Proofs.YthejaecljkjliabDoor
open Go.ChangeShapes Go.WideShapes Go.ChangeAt Go.RowKit Go.Joins
set_option linter.unusedVariables false
set_option linter.unusedSimpArgs false

def goodAt (q : Nat → Int × Int) (n : Nat) (lo hi m : Int) (i : Nat) : Prop := (lo ≤ (q i).1 → (q i).1 ≤ hi → cnt q n (q i).1 = m) ∧ (lo ≤ (q i).2 + 1 → (q i).2 + 1 ≤ hi → cnt q n ((q i).2 + 1) = m)
theorem ne_b {a b : Int} (h : ¬ a = b) : (a == b) = false := by simpa using h
theorem no_true {R : Bool} {p : Prop} (hR : Hid (R = true ↔ p)) (h : ¬ p) : R = false := Bool.eq_false_iff.2 (fun e => h (hR.out.1 e))

set_option maxHeartbeats 4000000 in
set_option maxRecDepth 100000 in
theorem rall_any (b off n cap : Nat) (q : Nat → Int × Int) (lo hi m : Int) (z : Bool) (w : World) (h40 : n ≤ 40) (hP : Sps w b off n q) (ok : ∀ i, i < n → okB (q i).1 (q i).2 = true) (hR : z = true ↔ allC q n lo hi m) :
    Calls Tryd.prog 37 #[.slice (some ⟨b, off, none⟩) n cap, .int .i64 lo, .int .i64 hi, .int .i64 m] w fun e w' => e = .returned (.bool z) ∧ w' = w := by
  have cH : ∀ x y, Hid (cnt q n x = y) → Calls Tryd.prog 36 #[.slice (some ⟨b, off, none⟩) n cap, .int .i64 x] w fun e w' => e = .returned (.int .i64 y) ∧ w' = w := fun x y e => by
    rw [← e.out]; exact rhas_any b off n cap q x w h40 hP
  have HR : Hid (z = true ↔ allC q n lo hi m) := hR
  clear hR
  have mk : Mark 0 := .mk _
  by_cases e1 : cnt q n lo = m
  · have E1 : Hid (cnt q n lo = m) := e1
    clear e1
    by_cases e2 : cnt q n hi = m
    · have E2 : Hid (cnt q n hi = m) := e2
      clear e2
      go_enter Tryd.func37, Tryd.ntmps37
      go_wp2_with (first | (go_at_call 36; have cq : Mark 0 := mk; refine (cH lo m E1).mono ?_; clear cq mk; have mk : Mark 1 := .mk _; rintro e u ⟨rfl, hu⟩; rw [hu]; clear hu) | (go_at_call 36; have cq : Mark 1 := mk; refine (cH hi m E2).mono ?_; clear cq mk; have mk : Mark 2 := .mk _; rintro e u ⟨rfl, hu⟩; rw [hu]; clear hu))
      go_loopw [9] (fun i wr => ∃ k : Nat, k ≤ n ∧ i = .int .i64 k ∧ wr = w ∧ ∀ j, j < k → goodAt q n lo hi m j) (fun i _ => n - (intOf i).toNat)
      case atStart => exact ⟨0, Nat.zero_le _, rfl, rfl, fun j hj => by omega⟩
      case round =>
        clear mk
        have mk : Mark 0 := .mk _
        obtain ⟨k, hk, rfl, rfl, hG⟩ := hrel
        have HG : Hid (∀ j, j < k → goodAt q n lo hi m j) := hG
        clear hG
        by_cases hlt : k < n
        · obtain ⟨x0, x1⟩ := hP k hlt
          have okk := okB_t (ok k hlt)
          obtain ⟨o1, o2, o3⟩ := okk
          have NG : Hid (goodAt q n lo hi m k → ∀ j, j < k + 1 → goodAt q n lo hi m j) := fun g j hj => by
            by_cases e : j = k
            · rw [e]; exact g
            · exact HG.out j (by omega)
          have NO : Hid (¬ goodAt q n lo hi m k → z = false) := fun g => no_true HR (fun a => g (a.2.2 k hlt))
          clear hP ok HR HG E1 E2
          by_cases r1 : lo ≤ (q k).1
          · by_cases r2 : (q k).1 ≤ hi
            · by_cases r3 : cnt q n (q k).1 = m
              · have R3 : Hid (cnt q n (q k).1 = m) := r3
                clear r3
                have s1 : lo ≤ (q k).2 + 1 := by omega
                by_cases s2 : (q k).2 + 1 ≤ hi
                · by_cases s3 : cnt q n ((q k).2 + 1) = m
                  · have S3 : Hid (cnt q n ((q k).2 + 1) = m) := s3
                    clear s3
                    go_wp2_with (first | (go_at_call 36; have cq : Mark 0 := mk; refine (cH _ m R3).mono ?_; clear cq mk; have mk : Mark 1 := .mk _; rintro e u ⟨rfl, hu⟩; rw [hu]; clear hu) | (go_at_call 36; have cq : Mark 1 := mk; refine (cH _ m S3).mono ?_; clear cq mk; have mk : Mark 2 := .mk _; rintro e u ⟨rfl, hu⟩; rw [hu]; clear hu))
                    go_roundw
                    case rel => exact ⟨k + 1, by omega, by go_num, trivial, NG.out ⟨fun _ _ => R3.out, fun _ _ => S3.out⟩⟩
                    case measure => simp [intOf]; omega
                  · have S3 : Hid (¬ cnt q n ((q k).2 + 1) = m) := s3
                    have s4 := ne_b s3
                    clear s3
                    go_wp2_with (first | (go_at_call 36; have cq : Mark 0 := mk; refine (cH _ m R3).mono ?_; clear cq mk; have mk : Mark 1 := .mk _; rintro e u ⟨rfl, hu⟩; rw [hu]; clear hu) | (go_at_call 36; have cq : Mark 1 := mk; refine (cH _ _ rfl).mono ?_; clear cq mk; have mk : Mark 2 := .mk _; rintro e u ⟨rfl, hu⟩; rw [hu]; clear hu))
                    go_ret
                    exact ⟨by rw [NO.out (fun g => S3.out (g.2 s1 s2))]; rfl, rfl⟩
                · have d2 : decide ((q k).2 + 1 ≤ hi) = false := decide_eq_false s2
                  go_wp2_with (first | (go_at_call 36; have cq : Mark 0 := mk; refine (cH _ m R3).mono ?_; clear cq mk; have mk : Mark 1 := .mk _; rintro e u ⟨rfl, hu⟩; rw [hu]; clear hu))
                  go_roundw
                  case rel => exact ⟨k + 1, by omega, by go_num, trivial, NG.out ⟨fun _ _ => R3.out, fun _ h => absurd h (by omega)⟩⟩
                  case measure => simp [intOf]; omega
              · have R3 : Hid (¬ cnt q n (q k).1 = m) := r3
                have r4 := ne_b r3
                clear r3
                go_wp2_with (first | (go_at_call 36; have cq : Mark 0 := mk; refine (cH _ _ rfl).mono ?_; clear cq mk; have mk : Mark 1 := .mk _; rintro e u ⟨rfl, hu⟩; rw [hu]; clear hu))
                go_ret
                exact ⟨by rw [NO.out (fun g => R3.out (g.1 r1 r2))]; rfl, rfl⟩
            · have d1 : decide ((q k).1 ≤ hi) = false := decide_eq_false r2
              have s1 : lo ≤ (q k).2 + 1 := by omega
              have s2 : ¬ (q k).2 + 1 ≤ hi := by omega
              have d2 : decide ((q k).2 + 1 ≤ hi) = false := decide_eq_false s2
              go_wp2
              go_roundw
              case rel => exact ⟨k + 1, by omega, by go_num, trivial, NG.out ⟨fun _ h => absurd h (by omega), fun _ h => absurd h (by omega)⟩⟩
              case measure => simp [intOf]; omega
          · by_cases s1 : lo ≤ (q k).2 + 1
            · by_cases s2 : (q k).2 + 1 ≤ hi
              · by_cases s3 : cnt q n ((q k).2 + 1) = m
                · have S3 : Hid (cnt q n ((q k).2 + 1) = m) := s3
                  clear s3
                  go_wp2_with (first | (go_at_call 36; have cq : Mark 0 := mk; refine (cH _ m S3).mono ?_; clear cq mk; have mk : Mark 1 := .mk _; rintro e u ⟨rfl, hu⟩; rw [hu]; clear hu))
                  go_roundw
                  case rel => exact ⟨k + 1, by omega, by go_num, trivial, NG.out ⟨fun h _ => absurd h (by omega), fun _ _ => S3.out⟩⟩
                  case measure => simp [intOf]; omega
                · have S3 : Hid (¬ cnt q n ((q k).2 + 1) = m) := s3
                  have s4 := ne_b s3
                  clear s3
                  go_wp2_with (first | (go_at_call 36; have cq : Mark 0 := mk; refine (cH _ _ rfl).mono ?_; clear cq mk; have mk : Mark 1 := .mk _; rintro e u ⟨rfl, hu⟩; rw [hu]; clear hu))
                  go_ret
                  exact ⟨by rw [NO.out (fun g => S3.out (g.2 s1 s2))]; rfl, rfl⟩
              · have d2 : decide ((q k).2 + 1 ≤ hi) = false := decide_eq_false s2
                go_wp2
                go_roundw
                case rel => exact ⟨k + 1, by omega, by go_num, trivial, NG.out ⟨fun h _ => absurd h (by omega), fun _ h => absurd h (by omega)⟩⟩
                case measure => simp [intOf]; omega
            · go_wp2
              go_roundw
              case rel => exact ⟨k + 1, by omega, by go_num, trivial, NG.out ⟨fun h _ => absurd h (by omega), fun h _ => absurd h (by omega)⟩⟩
              case measure => simp [intOf]; omega
        · have zt : z = true := HR.out.2 ⟨E1.out, E2.out, fun i hi => HG.out i (by omega)⟩
          subst zt
          go_wp2
          go_ret
          exact ⟨rfl, rfl⟩
    · have zf : z = false := no_true HR (fun a => e2 a.2.1)
      subst zf
      have e3 := ne_b e2
      go_enter Tryd.func37, Tryd.ntmps37
      go_wp2_with (first | (go_at_call 36; have cq : Mark 0 := mk; refine (cH lo m E1).mono ?_; clear cq mk; have mk : Mark 1 := .mk _; rintro e u ⟨rfl, hu⟩; rw [hu]; clear hu) | (go_at_call 36; have cq : Mark 1 := mk; refine (cH hi _ rfl).mono ?_; clear cq mk; have mk : Mark 2 := .mk _; rintro e u ⟨rfl, hu⟩; rw [hu]; clear hu))
      go_ret
      exact ⟨rfl, rfl⟩
  · have zf : z = false := no_true HR (fun a => e1 a.1)
    subst zf
    have e3 := ne_b e1
    go_enter Tryd.func37, Tryd.ntmps37
    go_wp2_with (first | (go_at_call 36; have cq : Mark 0 := mk; refine (cH lo _ rfl).mono ?_; clear cq mk; have mk : Mark 1 := .mk _; rintro e u ⟨rfl, hu⟩; rw [hu]; clear hu))
    go_ret
    exact ⟨rfl, rfl⟩
end Go.Proofs.YthejaecljkjliabDoor
