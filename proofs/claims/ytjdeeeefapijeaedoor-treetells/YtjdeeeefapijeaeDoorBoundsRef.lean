/- What the document's own reckoning (package noonref1) answers of edges: Edges. -/
import Derived.Test.YtjdeeeefapijeaeDoorBoundsSpn
import Derived.Test.YtjdeeeefapijeaeDoorRefSpan
import Derived.Deep.QuietTactic
import Derived.BigQuiet
import Derived.IntWalk
namespace Go.Proofs.YtjdeeeefapijeaeDoor
open Go.ChangeShapes Go.WideShapes Go.ChangeAt Go.RowKit Go.Joins
set_option linter.unusedVariables false
set_option linter.unusedSimpArgs false

set_option maxHeartbeats 400000 in
theorem redges_low (n : Int) (a : Option Addr) (m cap : Nat) (w : World) (h : n < 1) :
    Calls Tryd.prog 9 #[.int .i64 n, .slice a m cap] w fun e w' => e = .returned (.int .i64 1) ∧ Below w.heap.size w w' := by
  go_enter Tryd.func9, Tryd.ntmps9
  go_wp2
  go_ret
  exact ⟨rfl, Below.refl _ _⟩
set_option maxHeartbeats 400000 in
theorem redges_high (n : Int) (a : Option Addr) (m cap : Nat) (w : World) (h1 : ¬ n < 1) (h : 6 < n) :
    Calls Tryd.prog 9 #[.int .i64 n, .slice a m cap] w fun e w' => e = .returned (.int .i64 1) ∧ Below w.heap.size w w' := by
  go_enter Tryd.func9, Tryd.ntmps9
  go_wp2
  go_ret
  exact ⟨rfl, Below.refl _ _⟩
set_option maxHeartbeats 400000 in
theorem redges_full (n : Int) (a : Option Addr) (m cap : Nat) (w : World) (h1 : ¬ n < 1) (h2 : ¬ 6 < n) (h : 40 < m) (hm : m ≤ 9223372036854775807) :
    Calls Tryd.prog 9 #[.int .i64 n, .slice a m cap] w fun e w' => e = .returned (.int .i64 4) ∧ Below w.heap.size w w' := by
  have h3 : (40 : Int) < m := by omega
  go_enter Tryd.func9, Tryd.ntmps9
  go_wp2
  go_ret
  exact ⟨rfl, Below.refl _ _⟩
set_option maxHeartbeats 400000 in
theorem redges_none (n : Int) (a : Option Addr) (cap : Nat) (w : World) (h1 : ¬ n < 1) (h2 : ¬ 6 < n) :
    Calls Tryd.prog 9 #[.int .i64 n, .slice a 0 cap] w fun e w' => e = .returned (.int .i64 0) ∧ Below w.heap.size w w' := by
  go_enter Tryd.func9, Tryd.ntmps9
  go_wp2
  refine wp_loop_rounds 1 ?_
  rw [rounds_succ]
  go_wp2
  go_ret
  exact ⟨rfl, Below.refl _ _⟩
set_option maxRecDepth 100000 in
set_option maxHeartbeats 8000000 in
theorem redges_row (n : Int) (b off m cap K : Nat) (q : Nat → Eg) (R : Int) (w : World) (h1 : ¬ n < 1) (h2 : ¬ 6 < n) (h40 : m ≤ 40) (hP : Esp w b off m q) (hK : K ≤ m) (hg : ∀ i, i < K → eEr n q i = 0) (hR : (K = m ∧ R = 0) ∨ (K < m ∧ eEr n q K ≠ 0 ∧ R = eEr n q K)) :
    Calls Tryd.prog 9 #[.int .i64 n, .slice (some ⟨b, off, none⟩) m cap] w fun e w' => e = .returned (.int .i64 R) ∧ Below w.heap.size w w' := by
  have HP : Hid (Esp w b off m q) := hP
  have HG : Hid (∀ i, i < K → eEr n q i = 0) := hg
  have HR : Hid _ := hR
  have cS := fun x y u => rspan_any x y u
  clear hP hg hR
  go_enter Tryd.func9, Tryd.ntmps9
  go_wp2
  go_loopw [5] (fun i wr => ∃ k : Nat, k ≤ K ∧ i = .int .i64 k ∧ Below w.heap.size w wr) (fun i _ => m - (intOf i).toNat)
  case atStart => exact ⟨0, Nat.zero_le _, rfl, Below.refl _ _⟩
  case round =>
    obtain ⟨k, hk, rfl, hw⟩ := hrel
    by_cases hlt : k < m
    · obtain ⟨x0, x1, x2, x3⟩ := (HP.out.on hw) k hlt
      have hl3 : (k : Int) < m := by omega
      by_cases hkK : k < K
      · obtain ⟨⟨a1, a2, a3, a4⟩, ne, ok⟩ := eEr_zero (HG.out k hkK)
        have ne' : ((q k).a == (q k).b) = false := by simpa using ne
        have cO := cS (q k).lo (q k).hi
        rw [ok] at cO
        generalize (q k).a = qa at *
        generalize (q k).b = qb at *
        generalize (q k).lo = ql at *
        generalize (q k).hi = qh at *
        clear HP HG HR cS ok ne
        go_wp2
        go_quiet (fail)
        go_wp2_with (go_at_call 21; refine (cO _).mono ?_; rintro e u0 ⟨rfl, hb⟩; have hw1 : Below w.heap.size w u0 := rbel_on hb (rbel_drn hw); clear hb)
        go_roundw
        case rel => exact ⟨k + 1, by omega, by go_num, hw1⟩
        case measure => simp [intOf]; omega
      · have kK : k = K := by omega
        subst kK
        rcases HR.out with ⟨e, _⟩ | ⟨_, hne, hRe⟩
        · omega
        · have cO := cS (q k).lo (q k).hi
          have HE : Hid (R = if (q k).a < 0 ∨ n ≤ (q k).a ∨ (q k).b < 0 ∨ n ≤ (q k).b then 1 else if (q k).a = (q k).b then 3 else if okB (q k).lo (q k).hi = true then 0 else 1) := hRe
          have HNE : Hid (R ≠ 0) := by show R ≠ 0; rw [hRe]; exact hne
          generalize (q k).a = qa at *
          generalize (q k).b = qb at *
          generalize (q k).lo = ql at *
          generalize (q k).hi = qh at *
          clear HP HG HR cS hne hRe
          by_cases d1 : qa < 0
          · obtain rfl : R = 1 := HE.out.trans (if_pos (Or.inl d1))
            clear HE HNE
            go_wp2
            go_ret
            exact ⟨rfl, hw⟩
          by_cases d2 : n ≤ qa
          · obtain rfl : R = 1 := HE.out.trans (if_pos (Or.inr (Or.inl d2)))
            clear HE HNE
            go_wp2
            go_ret
            exact ⟨rfl, hw⟩
          by_cases d3 : qb < 0
          · obtain rfl : R = 1 := HE.out.trans (if_pos (Or.inr (Or.inr (Or.inl d3))))
            clear HE HNE
            go_wp2
            go_ret
            exact ⟨rfl, hw⟩
          by_cases d4 : n ≤ qb
          · obtain rfl : R = 1 := HE.out.trans (if_pos (Or.inr (Or.inr (Or.inr d4))))
            clear HE HNE
            go_wp2
            go_ret
            exact ⟨rfl, hw⟩
          by_cases d5 : qa = qb
          · obtain rfl : R = 3 := HE.out.trans ((if_neg (by omega)).trans (if_pos d5))
            clear HE HNE
            subst d5
            go_wp2
            go_quiet (fail)
            go_wp2
            go_ret
            exact ⟨rfl, rbel_drn hw⟩
          · have d5' : (qa == qb) = false := by simpa using d5
            cases o : okB ql qh with
            | true => exact absurd (HE.out.trans ((if_neg (by omega)).trans ((if_neg d5).trans (if_pos o)))) HNE.out
            | false =>
              obtain rfl : R = 1 := HE.out.trans ((if_neg (by omega)).trans ((if_neg d5).trans (if_neg (by rw [o]; decide))))
              rw [o] at cO
              clear HE HNE o d5
              go_wp2
              go_quiet (fail)
              go_wp2_with (go_at_call 21; refine (cO _).mono ?_; rintro e u0 ⟨rfl, hb⟩; have hw1 : Below w.heap.size w u0 := rbel_on hb (rbel_drn hw); clear hb)
              go_ret
              exact ⟨rfl, hw1⟩
    · have km : k = m := by omega
      rcases HR.out with ⟨_, rfl⟩ | ⟨e, _⟩
      · have hl3 : ¬ ((k : Int) < m) := by omega
        clear HP HG HR cS
        go_wp2
        go_ret
        exact ⟨rfl, hw⟩
      · omega
theorem redges_any (n : Int) (a : Option Addr) (m cap : Nat) (q : Nat → Eg) (w : World) (hH : EHanded w a m q) :
    Calls Tryd.prog 9 #[.int .i64 n, .slice a m cap] w fun e w' => e = .returned (.int .i64 (eE n q m)) ∧ Below w.heap.size w w' := by
  obtain ⟨hm, hH⟩ := hH
  by_cases h1 : n < 1
  · rw [show eE n q m = 1 from if_pos (Or.inl h1)]; exact redges_low n a m cap w h1
  by_cases h2 : 6 < n
  · rw [show eE n q m = 1 from if_pos (Or.inr h2)]; exact redges_high n a m cap w h1 h2
  by_cases h3 : 40 < m
  · rw [show eE n q m = 4 from (if_neg (by omega)).trans (if_pos h3)]; exact redges_full n a m cap w h1 h2 h3 hm
  · rw [show eE n q m = eFr n q m from (if_neg (by omega)).trans (if_neg h3)]
    rcases hH with rfl | ⟨b, off, rfl, hP⟩
    · exact redges_none n a cap w h1 h2
    · rcases first_eEr n q m with g | ⟨K, k1, k2, k3⟩
      · rw [eFr_ok g]; exact redges_row n b off m cap m q 0 w h1 h2 (by omega) hP (Nat.le_refl _) g (Or.inl ⟨rfl, rfl⟩)
      · rw [eFr_first k3 k2 m k1]; exact redges_row n b off m cap K q _ w h1 h2 (by omega) hP (by omega) k3 (Or.inr ⟨k1, k2, rfl⟩)
end Go.Proofs.YtjdeeeefapijeaeDoor
