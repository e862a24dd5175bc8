/- What the document's own reckoning (package noonref1) answers of spans: Most. -/
import Derived.Test.YthejaecljkjliabDoorVoteRefC
import Derived.Deep.RegionWith
import Derived.Deep.RegionHeld
import Derived.BigQuiet
namespace Go.Proofs.YthejaecljkjliabDoor
open Go.ChangeShapes Go.WideShapes Go.ChangeAt Go.RowKit Go.Joins
set_option linter.unusedVariables false
set_option linter.unusedSimpArgs false

def boolOf : Value → Nat | .bool true => 1 | _ => 0
set_option maxHeartbeats 8000000 in
set_option maxRecDepth 100000 in
theorem rmost_any (b off n cap : Nat) (q : Nat → Int × Int) (lo hi m : Int) (w : World) (h0 : 0 < n) (h40 : n ≤ 40) (hP : Sps w b off n q) (ok : ∀ i, i < n → okB (q i).1 (q i).2 = true) (hM : IsMost (cnt q n) lo hi m) :
    Calls Tryd.prog 18 #[.slice (some ⟨b, off, none⟩) n cap] w fun e w' => e = .returned (.tuple #[.agg #[.int .i64 lo, .int .i64 hi], .int .i64 m]) ∧ Below w.heap.size w w' := by
  have cH : ∀ u x y, Below w.heap.size w u → Hid (cnt q n x = y) → Calls Tryd.prog 36 #[.slice (some ⟨b, off, none⟩) n cap, .int .i64 x] u fun e w' => e = .returned (.int .i64 y) ∧ w' = u := fun u x y hu e => by
    rw [← e.out]; exact rhas_any b off n cap q x u h40 (hP.on hu)
  have cA : ∀ u lo hi m z, Below w.heap.size w u → Hid (z = true ↔ allC q n lo hi m) → Calls Tryd.prog 37 #[.slice (some ⟨b, off, none⟩) n cap, .int .i64 lo, .int .i64 hi, .int .i64 m] u fun e w' => e = .returned (.bool z) ∧ w' = u := fun u lo hi m z hu e =>
    rall_any b off n cap q lo hi m z u h40 (hP.on hu) ok e
  have okl : Hid (∀ i, i < n → (q i).1 ≤ (q i).2) := fun i hi => (okB_t (ok i hi)).1
  have okh : Hid (∀ i, i < n → (q i).2 ≤ 1000000000000) := fun i hi => (okB_t (ok i hi)).2.2
  have HM : Hid (IsMost (cnt q n) lo hi m) := hM
  have HP : Hid (Sps w b off n q) := hP
  clear hM ok hP
  have hbl : b < w.heap.size := World.block_lt_of_cell? _ _ (HP.out 0 h0).1
  go_enter Tryd.func18, Tryd.ntmps18
  go_wp2
  go_loopw [4, 5, 6] (fun t a i wr => ∃ k : Nat, k ≤ n ∧ i = .int .i64 k ∧ t = .int .i64 (mt q n k).1 ∧ a = .int .i64 (mt q n k).2 ∧ Row wr w.heap.size [.int .i64 0, .int .i64 0] ∧ Below w.heap.size w wr) (fun _ _ i _ => n - (intOf i).toNat)
  case atStart => exact ⟨0, Nat.zero_le _, rfl, rfl, rfl, Row.made rfl, rbel_al (Below.refl _ _)⟩
  case round =>
    obtain ⟨k, hk, rfl, rfl, rfl, PR, hw⟩ := hrel
    have zz := hw.size
    have mk : Mark 0 := .mk _
    by_cases hlt : k < n
    · obtain ⟨x0, x1⟩ := (HP.out.on hw) k hlt
      have MT : Hid (mt q n (k + 1) = if (mt q n k).1 < cnt q n (q k).1 ∨ (cnt q n (q k).1 = (mt q n k).1 ∧ (q k).1 < (mt q n k).2) then (cnt q n (q k).1, (q k).1) else mt q n k) := rfl
      by_cases c1 : (mt q n k).1 < cnt q n (q k).1
      · replace MT : Hid (mt q n (k + 1) = (cnt q n (q k).1, (q k).1)) := MT.out.trans (if_pos (Or.inl c1))
        go_wp2_with (first | (go_at_call 36; have cq : Mark 0 := mk; refine (cH _ _ _ hw rfl).mono ?_; clear cq mk; have mk : Mark 1 := .mk _; rintro e u ⟨rfl, hu⟩; rw [hu]; clear hu))
        go_roundw
        case rel => exact ⟨k + 1, by omega, by go_num, by rw [MT.out], by rw [MT.out], PR, hw⟩
        case measure => simp [intOf]; omega
      · by_cases c2 : cnt q n (q k).1 = (mt q n k).1
        · have C2 : Hid (cnt q n (q k).1 = (mt q n k).1) := c2
          by_cases c3 : (q k).1 < (mt q n k).2
          · replace MT : Hid (mt q n (k + 1) = ((mt q n k).1, (q k).1)) := MT.out.trans ((if_pos (Or.inr ⟨c2, c3⟩)).trans (by rw [c2]))
            clear c1 c2
            go_wp2_with (first | (go_at_call 36; have cq : Mark 0 := mk; refine (cH _ _ _ hw C2).mono ?_; clear cq mk; have mk : Mark 1 := .mk _; rintro e u ⟨rfl, hu⟩; rw [hu]; clear hu))
            go_roundw
            case rel => exact ⟨k + 1, by omega, by go_num, by rw [MT.out], by rw [MT.out], PR, hw⟩
            case measure => simp [intOf]; omega
          · replace MT : Hid (mt q n (k + 1) = mt q n k) := MT.out.trans (if_neg (fun h => h.elim c1 (fun h => c3 h.2)))
            clear c1 c2
            have d3 : decide ((q k).1 < (mt q n k).2) = false := decide_eq_false c3
            go_wp2_with (first | (go_at_call 36; have cq : Mark 0 := mk; refine (cH _ _ _ hw C2).mono ?_; clear cq mk; have mk : Mark 1 := .mk _; rintro e u ⟨rfl, hu⟩; rw [hu]; clear hu))
            go_roundw
            case rel => exact ⟨k + 1, by omega, by go_num, by rw [MT.out], by rw [MT.out], PR, hw⟩
            case measure => simp [intOf]; omega
        · replace MT : Hid (mt q n (k + 1) = mt q n k) := MT.out.trans (if_neg (fun h => h.elim c1 (fun h => c2 h.1)))
          have c4 := ne_b c2
          clear c2
          go_wp2_with (first | (go_at_call 36; have cq : Mark 0 := mk; refine (cH _ _ _ hw rfl).mono ?_; clear cq mk; have mk : Mark 1 := .mk _; rintro e u ⟨rfl, hu⟩; rw [hu]; clear hu))
          go_roundw
          case rel => exact ⟨k + 1, by omega, by go_num, by rw [MT.out], by rw [MT.out], PR, hw⟩
          case measure => simp [intOf]; omega
    · have kn : k = n := by omega
      subst kn
      clear hlt hk mk
      have mb := mt_best okl.out h0
      have ME : Hid (cnt q k (mt q k k).2 = (mt q k k).1) := mb.2.1
      have MF : Hid (∀ hh, (mt q k k).2 ≤ hh → (∀ x, (mt q k k).2 ≤ x → x ≤ hh → cnt q k x = (mt q k k).1) → (∀ i, i < k → hh < (q i).2 → ¬ allC q k (mt q k k).2 (q i).2 (mt q k k).1) → lo = (mt q k k).2 ∧ hi = hh ∧ m = (mt q k k).1) := fun hh h1 h2 h3 => HM.out.same (most_ref okl.out h0 hh h1 h2 h3)
      have LB : (mt q k k).2 ≤ 1000000000000 := by
        rcases mt_inv okl.out k (Nat.le_refl _) with ⟨e, _⟩ | ⟨_, ⟨i, hi', e, _⟩, _⟩
        · omega
        · have := okl.out i hi'; have := okh.out i hi'; omega
      clear mb HM
      generalize (mt q k k).2 = lo' at *
      generalize (mt q k k).1 = m' at *
      go_wp2
      go_loopw [8, 9] (fun h g wr => ∃ (hh : Int) (gg : Bool), h = .int .i64 hh ∧ g = .bool gg ∧ lo' ≤ hh ∧ hh ≤ 1000000000000 ∧ (∀ x, lo' ≤ x → x ≤ hh → cnt q k x = m') ∧ (gg = false → ∀ i, i < k → hh < (q i).2 → ¬ allC q k lo' (q i).2 m') ∧ Row wr w.heap.size [.int .i64 0, .int .i64 0] ∧ Below w.heap.size w wr) (fun h g _ => (1000000000000 - intOf h).toNat + boolOf g)
      case atStart => exact ⟨lo', true, rfl, rfl, Int.le_refl _, LB, fun x h1 h2 => by rw [show x = lo' by omega]; exact ME.out, fun h => (by cases h), PR, hw⟩
      case round =>
        clear PR hw zz
        obtain ⟨h1, g1, rfl, rfl, hl1, hb1, hon, hno, PR, hw⟩ := hrel
        have HON : Hid (∀ x, lo' ≤ x → x ≤ h1 → cnt q k x = m') := hon
        have HNO : Hid (g1 = false → ∀ i, i < k → h1 < (q i).2 → ¬ allC q k lo' (q i).2 m') := hno
        clear hon hno
        have zz := hw.size
        cases g1 with
        | false =>
          obtain ⟨rfl, rfl, rfl⟩ := MF.out h1 hl1 HON.out (HNO.out rfl)
          have cR0 := PR.c 0 _ rfl
          have cR1 := PR.c 1 _ rfl
          have fR0 := PR.f 0 _ rfl
          have fR1 := PR.f 1 _ rfl
          go_wp2
          exact bodyPost_ret (v := _) (by simp [results, Tryd.results18, go_sem, *]) rfl ⟨rfl, by (repeat (first | assumption | refine Below.setCell ?_ (by first | (simp; done) | (simp; omega) | omega) _ | apply Below.drew))⟩
        | true =>
          clear HNO
          go_wp2
          go_loopw [8, 9, 10] (fun h g i wr => ∃ (hh : Int) (gg : Bool) (j : Nat), h = .int .i64 hh ∧ g = .bool gg ∧ i = .int .i64 j ∧ j ≤ k ∧ h1 ≤ hh ∧ hh ≤ 1000000000000 ∧ (∀ x, lo' ≤ x → x ≤ hh → cnt q k x = m') ∧ (gg = true → h1 < hh) ∧ (gg = false → hh = h1 ∧ ∀ i, i < j → h1 < (q i).2 → ¬ allC q k lo' (q i).2 m') ∧ Row wr w.heap.size [.int .i64 0, .int .i64 0] ∧ Below w.heap.size w wr) (fun _ _ i _ => k - (intOf i).toNat)
          case atStart => exact ⟨h1, false, 0, rfl, rfl, rfl, Nat.zero_le _, Int.le_refl _, hb1, HON.out, fun h => (by cases h), fun _ => ⟨rfl, fun i hi => (by omega)⟩, PR, hw⟩
          case round =>
            clear PR hw zz HON
            obtain ⟨h2, g2, j, rfl, rfl, rfl, hj, hl2, hb2, hon, ht, hf, PR, hw⟩ := hrel
            have HON : Hid (∀ x, lo' ≤ x → x ≤ h2 → cnt q k x = m') := hon
            have HT : Hid (g2 = true → h1 < h2) := ht
            have HF : Hid (g2 = false → h2 = h1 ∧ ∀ i, i < j → h1 < (q i).2 → ¬ allC q k lo' (q i).2 m') := hf
            clear hon ht hf
            have zz := hw.size
            have mk : Mark 0 := .mk _
            by_cases hlt : j < k
            · obtain ⟨x0, x1⟩ := (HP.out.on hw) j hlt
              have bj := okh.out j hlt
              by_cases c1 : h2 < (q j).2
              · by_cases c2 : allC q k lo' (q j).2 m'
                · have C2 : Hid (allC q k lo' (q j).2 m') := c2
                  clear c2
                  go_wp2_with (first | (go_at_call 37; have cq : Mark 0 := mk; refine (cA _ lo' (q j).2 m' true hw ⟨fun _ => C2.out, fun _ => rfl⟩).mono ?_; clear cq mk; have mk : Mark 1 := .mk _; rintro e u ⟨rfl, hu⟩; rw [hu]; clear hu))
                  go_roundw
                  case rel => exact ⟨(q j).2, true, j + 1, rfl, rfl, by go_num, by omega, by omega, bj, (allC_iff _ _ _ (by omega)).1 C2.out, fun _ => (by omega), fun h => (by cases h), PR, hw⟩
                  case measure => simp [intOf]; omega
                · have C2 : Hid (¬ allC q k lo' (q j).2 m') := c2
                  clear c2
                  go_wp2_with (first | (go_at_call 37; have cq : Mark 0 := mk; refine (cA _ lo' (q j).2 m' false hw ⟨fun h => absurd h (by decide), fun h => absurd h C2.out⟩).mono ?_; clear cq mk; have mk : Mark 1 := .mk _; rintro e u ⟨rfl, hu⟩; rw [hu]; clear hu))
                  go_roundw
                  case rel => exact ⟨h2, g2, j + 1, rfl, rfl, by go_num, by omega, hl2, hb2, HON.out, HT.out, fun h => ⟨(HF.out h).1, fun i hi hx => by
                    by_cases e : i = j
                    · rw [e]; exact C2.out
                    · exact (HF.out h).2 i (by omega) hx⟩, PR, hw⟩
                  case measure => simp [intOf]; omega
              · go_wp2
                go_roundw
                case rel => exact ⟨h2, g2, j + 1, rfl, rfl, by go_num, by omega, hl2, hb2, HON.out, HT.out, fun h => ⟨(HF.out h).1, fun i hi hx => by
                  by_cases e : i = j
                  · rw [e] at hx; have := (HF.out h).1; omega
                  · exact (HF.out h).2 i (by omega) hx⟩, PR, hw⟩
                case measure => simp [intOf]; omega
            · have jn : j = k := by omega
              subst jn
              clear hlt hj
              cases g2 with
              | false =>
                obtain ⟨rfl, hno⟩ := HF.out rfl
                have HNO : Hid (∀ i, i < j → h2 < (q i).2 → ¬ allC q j lo' (q i).2 m') := hno
                clear hno
                go_wp2
                go_roundw
                case rel => exact ⟨h2, false, rfl, rfl, hl1, hb2, HON.out, fun _ => HNO.out, PR, hw⟩
                case measure => simp [intOf, boolOf]
              | true =>
                have lt := HT.out rfl
                go_wp2
                go_roundw
                case rel => exact ⟨h2, true, rfl, rfl, by omega, hb2, HON.out, fun h => (by cases h), PR, hw⟩
                case measure => simp [intOf, boolOf]; omega
end Go.Proofs.YthejaecljkjliabDoor
