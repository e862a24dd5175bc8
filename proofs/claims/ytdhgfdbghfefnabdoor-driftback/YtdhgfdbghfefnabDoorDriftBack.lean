/- While true time passes by n a clock goes by some m of the span that is told, n among them; and n is in what is told of each such m, or next to it: the function DriftBack answers true, whatever the numbers. Condition: errors.errorType holds what the program's text lays there (the card ties it). -/
import Derived.Test.YtdhgfdbghfefnabDoorDriftTwo
import Derived.Test.YtdhgfdbghfefnabDoorTold
import Derived.Test.YtdhgfdbghfefnabDoorCards
import Derived.Test.YtdhgfdbghfefnabDoorTie
import Derived.Deep.DeepHandedRow
import Derived.Deep.DeepWitnessRowRef
import Derived.LaidMore
import Derived.MakeChecks
import Derived.WalkKit
import Derived.ProofKit
import Derived.OpenShut
import Derived.Outline
import Derived.ChangeOld
import Derived.Below
import Derived.WalkLawsBesides
import Derived.Lib.SmallJoins
namespace Go.Proofs.YtdhgfdbghfefnabDoor.driftBack
open Go.ChangeShapes Go.WideShapes Go.ChangeAt Go.RowKit Go.Joins Go.Proofs.YtdhgfdbghfefnabDoor.told
set_option linter.unusedVariables false
set_option linter.unusedSimpArgs false

theorem local_at (n p x y : Int) (w : World) (h : rdy n p = true) (k : okB x y = true) (hx : Hid (x = n * (1000000 - p) / 1000000)) (hy : Hid (y = (n * (1000000 + p) + 1000000 - 1) / 1000000)) :
    Calls Tryd.prog 5 #[.int .i64 n, .int .i64 p] w fun e w' => e = .returned (.tuple #[.agg #[.int .i64 x, .int .i64 y], .nilIface]) ∧ Below w.heap.size w w' := by
  have ex := hx.out
  have ey := hy.out
  subst ex ey
  exact local_ok n p w h k
theorem true_at (n p x y : Int) (w : World) (h : rdy n p = true) (k : okB x y = true) (hx : Hid (x = n * 1000000 / (1000000 + p))) (hy : Hid (y = (n * 1000000 + (1000000 - p) - 1) / (1000000 - p))) :
    Calls Tryd.prog 6 #[.int .i64 n, .int .i64 p] w fun e w' => e = .returned (.tuple #[.agg #[.int .i64 x, .int .i64 y], .nilIface]) ∧ Below w.heap.size w w' := by
  have ex := hx.out
  have ey := hy.out
  subst ex ey
  exact true_ok n p w h k
theorem local_fact (w : World) : Calls Tryd.prog 5 #[.int .i64 1000000, .int .i64 100] w fun e w' => e = .returned (.tuple #[.agg #[.int .i64 999900, .int .i64 1000100], .nilIface]) ∧ Below w.heap.size w w' :=
  local_at 1000000 100 999900 1000100 w (by decide) (by decide) (show _ = _ by decide) (show _ = _ by decide)

theorem local_holds {n p x y : Int} (h : rdy n p = true) (hx : x = n * (1000000 - p) / 1000000) (hy : y = (n * (1000000 + p) + 1000000 - 1) / 1000000) : 0 ≤ x ∧ x ≤ n ∧ n ≤ y := by
  obtain ⟨h1, h2, h3, h4⟩ := rdy_t h
  have e1 : n * (1000000 - p) = 1000000 * n - n * p := by rw [Int.mul_sub]; omega
  have e2 : n * (1000000 + p) = 1000000 * n + n * p := by rw [Int.mul_add]; omega
  have b := np_b h1 h2 h3 h4
  have c := nm_b h1 h2 h3 h4
  rw [e2] at hy
  rw [e1] at hx c
  omega

theorem back {n p x y m : Int} (h : rdy n p = true) (hx : x = n * (1000000 - p) / 1000000) (hy : y = (n * (1000000 + p) + 1000000 - 1) / 1000000) (h5 : x ≤ m) (h6 : m ≤ y) : m * 1000000 / (1000000 + p) ≤ n + 1 ∧ n - 1 ≤ (m * 1000000 + (1000000 - p) - 1) / (1000000 - p) := by
  obtain ⟨h1, h2, h3, h4⟩ := rdy_t h
  have e1 : n * (1000000 - p) = 1000000 * n - n * p := by rw [Int.mul_sub]; omega
  have e2 : n * (1000000 + p) = 1000000 * n + n * p := by rw [Int.mul_add]; omega
  have e3 : (n + 1) * (1000000 + p) = 1000000 * n + n * p + 1000000 + p := by rw [Int.add_mul, e2]; omega
  have e4 : (n - 1) * (1000000 - p) = 1000000 * n - n * p - 1000000 + p := by rw [Int.sub_mul, e1]; omega
  have b := np_b h1 h2 h3 h4
  have c := nm_b h1 h2 h3 h4
  rw [e2] at hy
  rw [e1] at hx c
  constructor
  · refine Int.ediv_le_of_le_mul (by omega) ?_
    rw [e3]; omega
  · refine Int.le_ediv_of_mul_le (by omega) ?_
    rw [e4]; omega

theorem part_b {x y r : Int} (h1 : 0 ≤ x) (h2 : x ≤ y) (h3 : y ≤ 1000000000000) (h4 : 0 ≤ r) (h5 : r ≤ 100) : 0 ≤ (y - x) * r ∧ (y - x) * r ≤ (y - x) * 100 :=
  ⟨mul_low (by omega) h4, mul_high (a := y - x) (by omega) h4 (Int.le_refl _) h5⟩

set_option maxRecDepth 100000 in
set_option maxHeartbeats 2000000 in
theorem wA (n p r : Int) (w : World) (h : rdy n p = false) :
    Calls Tryd.prog 3 #[.int .i64 n, .int .i64 p, .int .i64 r] w fun e w' => e = .returned (.bool true) ∧ Below w.heap.size w w' := by
  have cnt : Mark 0 := .mk _
  go_enter Tryd.func3, Tryd.ntmps3
  go_wp2_with (first | (go_at_call 5; have cq : Mark 0 := cnt; refine (local_fact _).mono ?_; clear cq cnt; have cnt : Mark 1 := .mk _; rintro e u0 ⟨rfl, hb0⟩; obtain ⟨hc0, hf0⟩ := bcell hb0; have hz0 := hb0.size; have hw0 : Below w.heap.size w u0 := below_tr hb0 (by (repeat (first | assumption | exact Below.refl _ _ | refine Below.alloc ?_ (by first | (simp; done) | (simp; omega) | omega) _ | refine Below.setCell ?_ (by first | (simp; done) | (simp; omega) | omega) _ | apply Below.drew | refine below_tr (by assumption) ?_))); (try simp only [World.size_alloc] at hz0); (try simp only [World.size_setCell] at hz0); (try simp only [Nat.add_one_le_iff] at hz0); (try (have zb0_0 : w.heap.size < u0.heap.size := by omega)); (try (have zb1_0 : w.heap.size + 1 < u0.heap.size := by omega))) | (go_at_call 5; have cq : Mark 1 := cnt; refine (local_no n p _ h).mono ?_; clear cq cnt; have cnt : Mark 2 := .mk _; rintro e u1 ⟨rfl, hb1⟩; obtain ⟨hc1, hf1⟩ := bcell hb1; have hz1 := hb1.size; have hw1 : Below w.heap.size w u1 := below_tr hb1 (by (repeat (first | assumption | exact Below.refl _ _ | refine Below.alloc ?_ (by first | (simp; done) | (simp; omega) | omega) _ | refine Below.setCell ?_ (by first | (simp; done) | (simp; omega) | omega) _ | apply Below.drew | refine below_tr (by assumption) ?_))); (try simp only [World.size_alloc] at hz1); (try simp only [World.size_setCell] at hz1); (try simp only [Nat.add_one_le_iff] at hz1); (try (have zb0_1 : w.heap.size < u1.heap.size := by omega)); (try (have zb1_1 : w.heap.size + 1 < u1.heap.size := by omega)); (try (have zz0_1 : u0.heap.size < u1.heap.size := by omega)); (try (have zy1 : u0.heap.size + 1 < u1.heap.size := by omega)); (try (have hd1 : Below u0.heap.size u0 u1 := below_tr hb1 (by first | exact Below.refl _ _ | exact (Below.refl _ _).alloc (Nat.le_refl _) _ | exact ((Below.refl _ _).alloc (Nat.le_refl _) _).alloc (by simp) _ | exact (((Below.refl _ _).alloc (Nat.le_refl _) _).alloc (by simp) _).alloc (by first | (simp; done) | (simp; omega) | omega) _); obtain ⟨hcc1, hff1⟩ := bcell hd1; clear hd1))))
  go_ret
  exact ⟨rfl, by (repeat (first | assumption | exact Below.refl _ _ | refine Below.alloc ?_ (by first | (simp; done) | (simp; omega) | omega) _ | refine Below.setCell ?_ (by first | (simp; done) | (simp; omega) | omega) _ | apply Below.drew | refine below_tr (by assumption) ?_))⟩

set_option maxRecDepth 100000 in
set_option maxHeartbeats 2000000 in
theorem wB (n p r : Int) (w : World) (h : rdy n p = true) (k : okB (n * (1000000 - p) / 1000000) ((n * (1000000 + p) + 1000000 - 1) / 1000000) = false) :
    Calls Tryd.prog 3 #[.int .i64 n, .int .i64 p, .int .i64 r] w fun e w' => e = .returned (.bool true) ∧ Below w.heap.size w w' := by
  have cnt : Mark 0 := .mk _
  go_enter Tryd.func3, Tryd.ntmps3
  go_wp2_with (first | (go_at_call 5; have cq : Mark 0 := cnt; refine (local_fact _).mono ?_; clear cq cnt; have cnt : Mark 1 := .mk _; rintro e u0 ⟨rfl, hb0⟩; obtain ⟨hc0, hf0⟩ := bcell hb0; have hz0 := hb0.size; have hw0 : Below w.heap.size w u0 := below_tr hb0 (by (repeat (first | assumption | exact Below.refl _ _ | refine Below.alloc ?_ (by first | (simp; done) | (simp; omega) | omega) _ | refine Below.setCell ?_ (by first | (simp; done) | (simp; omega) | omega) _ | apply Below.drew | refine below_tr (by assumption) ?_))); (try simp only [World.size_alloc] at hz0); (try simp only [World.size_setCell] at hz0); (try simp only [Nat.add_one_le_iff] at hz0); (try (have zb0_0 : w.heap.size < u0.heap.size := by omega)); (try (have zb1_0 : w.heap.size + 1 < u0.heap.size := by omega))) | (go_at_call 5; have cq : Mark 1 := cnt; refine (local_out n p _ h k).mono ?_; clear cq cnt; have cnt : Mark 2 := .mk _; rintro e u1 ⟨rfl, hb1⟩; obtain ⟨hc1, hf1⟩ := bcell hb1; have hz1 := hb1.size; have hw1 : Below w.heap.size w u1 := below_tr hb1 (by (repeat (first | assumption | exact Below.refl _ _ | refine Below.alloc ?_ (by first | (simp; done) | (simp; omega) | omega) _ | refine Below.setCell ?_ (by first | (simp; done) | (simp; omega) | omega) _ | apply Below.drew | refine below_tr (by assumption) ?_))); (try simp only [World.size_alloc] at hz1); (try simp only [World.size_setCell] at hz1); (try simp only [Nat.add_one_le_iff] at hz1); (try (have zb0_1 : w.heap.size < u1.heap.size := by omega)); (try (have zb1_1 : w.heap.size + 1 < u1.heap.size := by omega)); (try (have zz0_1 : u0.heap.size < u1.heap.size := by omega)); (try (have zy1 : u0.heap.size + 1 < u1.heap.size := by omega)); (try (have hd1 : Below u0.heap.size u0 u1 := below_tr hb1 (by first | exact Below.refl _ _ | exact (Below.refl _ _).alloc (Nat.le_refl _) _ | exact ((Below.refl _ _).alloc (Nat.le_refl _) _).alloc (by simp) _ | exact (((Below.refl _ _).alloc (Nat.le_refl _) _).alloc (by simp) _).alloc (by first | (simp; done) | (simp; omega) | omega) _); obtain ⟨hcc1, hff1⟩ := bcell hd1; clear hd1))))
  go_ret
  exact ⟨rfl, by (repeat (first | assumption | exact Below.refl _ _ | refine Below.alloc ?_ (by first | (simp; done) | (simp; omega) | omega) _ | refine Below.setCell ?_ (by first | (simp; done) | (simp; omega) | omega) _ | apply Below.drew | refine below_tr (by assumption) ?_))⟩

set_option maxRecDepth 100000 in
set_option maxHeartbeats 2000000 in
theorem wC (n p r : Int) (w : World) (x y : Int) (h : rdy n p = true) (k : okB x y = true) (hx : Hid (x = n * (1000000 - p) / 1000000)) (hy : Hid (y = (n * (1000000 + p) + 1000000 - 1) / 1000000)) (b0 : n ≤ 1000000000000) (b1 : 0 ≤ x) (b2 : x ≤ n) (b3 : n ≤ y) (b4 : y ≤ 1000000000000) (h5 : r < 0) :
    Calls Tryd.prog 3 #[.int .i64 n, .int .i64 p, .int .i64 r] w fun e w' => e = .returned (.bool true) ∧ Below w.heap.size w w' := by
  have cnt : Mark 0 := .mk _
  go_enter Tryd.func3, Tryd.ntmps3
  go_wp2_with (first | (go_at_call 5; have cq : Mark 0 := cnt; refine (local_fact _).mono ?_; clear cq cnt; have cnt : Mark 1 := .mk _; rintro e u0 ⟨rfl, hb0⟩; obtain ⟨hc0, hf0⟩ := bcell hb0; have hz0 := hb0.size; have hw0 : Below w.heap.size w u0 := below_tr hb0 (by (repeat (first | assumption | exact Below.refl _ _ | refine Below.alloc ?_ (by first | (simp; done) | (simp; omega) | omega) _ | refine Below.setCell ?_ (by first | (simp; done) | (simp; omega) | omega) _ | apply Below.drew | refine below_tr (by assumption) ?_))); (try simp only [World.size_alloc] at hz0); (try simp only [World.size_setCell] at hz0); (try simp only [Nat.add_one_le_iff] at hz0); (try (have zb0_0 : w.heap.size < u0.heap.size := by omega)); (try (have zb1_0 : w.heap.size + 1 < u0.heap.size := by omega))) | (go_at_call 5; have cq : Mark 1 := cnt; refine (local_at n p x y _ h k hx hy).mono ?_; clear cq cnt; have cnt : Mark 2 := .mk _; rintro e u1 ⟨rfl, hb1⟩; obtain ⟨hc1, hf1⟩ := bcell hb1; have hz1 := hb1.size; have hw1 : Below w.heap.size w u1 := below_tr hb1 (by (repeat (first | assumption | exact Below.refl _ _ | refine Below.alloc ?_ (by first | (simp; done) | (simp; omega) | omega) _ | refine Below.setCell ?_ (by first | (simp; done) | (simp; omega) | omega) _ | apply Below.drew | refine below_tr (by assumption) ?_))); (try simp only [World.size_alloc] at hz1); (try simp only [World.size_setCell] at hz1); (try simp only [Nat.add_one_le_iff] at hz1); (try (have zb0_1 : w.heap.size < u1.heap.size := by omega)); (try (have zb1_1 : w.heap.size + 1 < u1.heap.size := by omega)); (try (have zz0_1 : u0.heap.size < u1.heap.size := by omega)); (try (have zy1 : u0.heap.size + 1 < u1.heap.size := by omega)); (try (have hd1 : Below u0.heap.size u0 u1 := below_tr hb1 (by first | exact Below.refl _ _ | exact (Below.refl _ _).alloc (Nat.le_refl _) _ | exact ((Below.refl _ _).alloc (Nat.le_refl _) _).alloc (by simp) _ | exact (((Below.refl _ _).alloc (Nat.le_refl _) _).alloc (by simp) _).alloc (by first | (simp; done) | (simp; omega) | omega) _); obtain ⟨hcc1, hff1⟩ := bcell hd1; clear hd1))))
  go_ret
  exact ⟨rfl, by (repeat (first | assumption | exact Below.refl _ _ | refine Below.alloc ?_ (by first | (simp; done) | (simp; omega) | omega) _ | refine Below.setCell ?_ (by first | (simp; done) | (simp; omega) | omega) _ | apply Below.drew | refine below_tr (by assumption) ?_))⟩

set_option maxRecDepth 100000 in
set_option maxHeartbeats 2000000 in
theorem wD (n p r : Int) (w : World) (x y : Int) (h : rdy n p = true) (k : okB x y = true) (hx : Hid (x = n * (1000000 - p) / 1000000)) (hy : Hid (y = (n * (1000000 + p) + 1000000 - 1) / 1000000)) (b0 : n ≤ 1000000000000) (b1 : 0 ≤ x) (b2 : x ≤ n) (b3 : n ≤ y) (b4 : y ≤ 1000000000000) (h5 : 0 ≤ r) (h6 : 100 < r) :
    Calls Tryd.prog 3 #[.int .i64 n, .int .i64 p, .int .i64 r] w fun e w' => e = .returned (.bool true) ∧ Below w.heap.size w w' := by
  have cnt : Mark 0 := .mk _
  go_enter Tryd.func3, Tryd.ntmps3
  go_wp2_with (first | (go_at_call 5; have cq : Mark 0 := cnt; refine (local_fact _).mono ?_; clear cq cnt; have cnt : Mark 1 := .mk _; rintro e u0 ⟨rfl, hb0⟩; obtain ⟨hc0, hf0⟩ := bcell hb0; have hz0 := hb0.size; have hw0 : Below w.heap.size w u0 := below_tr hb0 (by (repeat (first | assumption | exact Below.refl _ _ | refine Below.alloc ?_ (by first | (simp; done) | (simp; omega) | omega) _ | refine Below.setCell ?_ (by first | (simp; done) | (simp; omega) | omega) _ | apply Below.drew | refine below_tr (by assumption) ?_))); (try simp only [World.size_alloc] at hz0); (try simp only [World.size_setCell] at hz0); (try simp only [Nat.add_one_le_iff] at hz0); (try (have zb0_0 : w.heap.size < u0.heap.size := by omega)); (try (have zb1_0 : w.heap.size + 1 < u0.heap.size := by omega))) | (go_at_call 5; have cq : Mark 1 := cnt; refine (local_at n p x y _ h k hx hy).mono ?_; clear cq cnt; have cnt : Mark 2 := .mk _; rintro e u1 ⟨rfl, hb1⟩; obtain ⟨hc1, hf1⟩ := bcell hb1; have hz1 := hb1.size; have hw1 : Below w.heap.size w u1 := below_tr hb1 (by (repeat (first | assumption | exact Below.refl _ _ | refine Below.alloc ?_ (by first | (simp; done) | (simp; omega) | omega) _ | refine Below.setCell ?_ (by first | (simp; done) | (simp; omega) | omega) _ | apply Below.drew | refine below_tr (by assumption) ?_))); (try simp only [World.size_alloc] at hz1); (try simp only [World.size_setCell] at hz1); (try simp only [Nat.add_one_le_iff] at hz1); (try (have zb0_1 : w.heap.size < u1.heap.size := by omega)); (try (have zb1_1 : w.heap.size + 1 < u1.heap.size := by omega)); (try (have zz0_1 : u0.heap.size < u1.heap.size := by omega)); (try (have zy1 : u0.heap.size + 1 < u1.heap.size := by omega)); (try (have hd1 : Below u0.heap.size u0 u1 := below_tr hb1 (by first | exact Below.refl _ _ | exact (Below.refl _ _).alloc (Nat.le_refl _) _ | exact ((Below.refl _ _).alloc (Nat.le_refl _) _).alloc (by simp) _ | exact (((Below.refl _ _).alloc (Nat.le_refl _) _).alloc (by simp) _).alloc (by first | (simp; done) | (simp; omega) | omega) _); obtain ⟨hcc1, hff1⟩ := bcell hd1; clear hd1))))
  go_ret
  exact ⟨rfl, by (repeat (first | assumption | exact Below.refl _ _ | refine Below.alloc ?_ (by first | (simp; done) | (simp; omega) | omega) _ | refine Below.setCell ?_ (by first | (simp; done) | (simp; omega) | omega) _ | apply Below.drew | refine below_tr (by assumption) ?_))⟩

set_option maxRecDepth 100000 in
set_option maxHeartbeats 2000000 in
theorem wE (n p r : Int) (w : World) (x y : Int) (h : rdy n p = true) (k : okB x y = true) (hx : Hid (x = n * (1000000 - p) / 1000000)) (hy : Hid (y = (n * (1000000 + p) + 1000000 - 1) / 1000000)) (b0 : n ≤ 1000000000000) (b1 : 0 ≤ x) (b2 : x ≤ n) (b3 : n ≤ y) (b4 : y ≤ 1000000000000) (h5 : 0 ≤ r) (h6 : r ≤ 100) (c1 : 0 ≤ (y - x) * r) (c2 : (y - x) * r ≤ (y - x) * 100) (k2 : rdy (x + (y - x) * r / 100) p = true) (k3 : okB ((x + (y - x) * r / 100) * 1000000 / (1000000 + p)) (((x + (y - x) * r / 100) * 1000000 + (1000000 - p) - 1) / (1000000 - p)) = false) (hg : Hid (EnvE w)) :
    Calls Tryd.prog 3 #[.int .i64 n, .int .i64 p, .int .i64 r] w fun e w' => e = .returned (.bool true) ∧ Below w.heap.size w w' := by
  have cnt : Mark 0 := .mk _
  go_enter Tryd.func3, Tryd.ntmps3
  go_wp2_with (first | (go_at_call 5; have cq : Mark 0 := cnt; refine (local_fact _).mono ?_; clear cq cnt; have cnt : Mark 1 := .mk _; rintro e u0 ⟨rfl, hb0⟩; obtain ⟨hc0, hf0⟩ := bcell hb0; have hz0 := hb0.size; have hw0 : Below w.heap.size w u0 := below_tr hb0 (by (repeat (first | assumption | exact Below.refl _ _ | refine Below.alloc ?_ (by first | (simp; done) | (simp; omega) | omega) _ | refine Below.setCell ?_ (by first | (simp; done) | (simp; omega) | omega) _ | apply Below.drew | refine below_tr (by assumption) ?_))); (try simp only [World.size_alloc] at hz0); (try simp only [World.size_setCell] at hz0); (try simp only [Nat.add_one_le_iff] at hz0); (try (have zb0_0 : w.heap.size < u0.heap.size := by omega)); (try (have zb1_0 : w.heap.size + 1 < u0.heap.size := by omega))) | (go_at_call 5; have cq : Mark 1 := cnt; refine (local_at n p x y _ h k hx hy).mono ?_; clear cq cnt; have cnt : Mark 2 := .mk _; rintro e u1 ⟨rfl, hb1⟩; obtain ⟨hc1, hf1⟩ := bcell hb1; have hz1 := hb1.size; have hw1 : Below w.heap.size w u1 := below_tr hb1 (by (repeat (first | assumption | exact Below.refl _ _ | refine Below.alloc ?_ (by first | (simp; done) | (simp; omega) | omega) _ | refine Below.setCell ?_ (by first | (simp; done) | (simp; omega) | omega) _ | apply Below.drew | refine below_tr (by assumption) ?_))); (try simp only [World.size_alloc] at hz1); (try simp only [World.size_setCell] at hz1); (try simp only [Nat.add_one_le_iff] at hz1); (try (have zb0_1 : w.heap.size < u1.heap.size := by omega)); (try (have zb1_1 : w.heap.size + 1 < u1.heap.size := by omega)); (try (have zz0_1 : u0.heap.size < u1.heap.size := by omega)); (try (have zy1 : u0.heap.size + 1 < u1.heap.size := by omega)); (try (have hd1 : Below u0.heap.size u0 u1 := below_tr hb1 (by first | exact Below.refl _ _ | exact (Below.refl _ _).alloc (Nat.le_refl _) _ | exact ((Below.refl _ _).alloc (Nat.le_refl _) _).alloc (by simp) _ | exact (((Below.refl _ _).alloc (Nat.le_refl _) _).alloc (by simp) _).alloc (by first | (simp; done) | (simp; omega) | omega) _); obtain ⟨hcc1, hff1⟩ := bcell hd1; clear hd1))) | (go_at_call 6; have cq : Mark 2 := cnt; refine (true_out (x + (y - x) * r / 100) p _ k2 k3).mono ?_; clear cq cnt; have cnt : Mark 3 := .mk _; rintro e u2 ⟨rfl, hb2⟩; obtain ⟨hc2, hf2⟩ := bcell hb2; have hz2 := hb2.size; have hw2 : Below w.heap.size w u2 := below_tr hb2 (by (repeat (first | assumption | exact Below.refl _ _ | refine Below.alloc ?_ (by first | (simp; done) | (simp; omega) | omega) _ | refine Below.setCell ?_ (by first | (simp; done) | (simp; omega) | omega) _ | apply Below.drew | refine below_tr (by assumption) ?_))); (try simp only [World.size_alloc] at hz2); (try simp only [World.size_setCell] at hz2); (try simp only [Nat.add_one_le_iff] at hz2); (try (have zb0_2 : w.heap.size < u2.heap.size := by omega)); (try (have zb1_2 : w.heap.size + 1 < u2.heap.size := by omega)); (try (have zz0_2 : u0.heap.size < u2.heap.size := by omega)); (try (have zz1_2 : u1.heap.size < u2.heap.size := by omega)); (try (have zy2 : u1.heap.size + 1 < u2.heap.size := by omega)); (try (have hd2 : Below u1.heap.size u1 u2 := below_tr hb2 (by first | exact Below.refl _ _ | exact (Below.refl _ _).alloc (Nat.le_refl _) _ | exact ((Below.refl _ _).alloc (Nat.le_refl _) _).alloc (by simp) _ | exact (((Below.refl _ _).alloc (Nat.le_refl _) _).alloc (by simp) _).alloc (by first | (simp; done) | (simp; omega) | omega) _); obtain ⟨hcc2, hff2⟩ := bcell hd2; clear hd2))) | (go_at_call 7; have cq : Mark 3 := cnt; refine (error_errno 1 _ (hg.out.below (by (repeat (first | assumption | exact Below.refl _ _ | refine Below.alloc ?_ (by first | (simp; done) | (simp; omega) | omega) _ | refine Below.setCell ?_ (by first | (simp; done) | (simp; omega) | omega) _ | apply Below.drew | refine below_tr (by assumption) ?_))))).mono ?_; clear cq cnt; have cnt : Mark 4 := .mk _; rintro e u3 ⟨rfl, hb3⟩; obtain ⟨hc3, hf3⟩ := bcell hb3; have hz3 := hb3.size; have hw3 : Below w.heap.size w u3 := below_tr hb3 (by (repeat (first | assumption | exact Below.refl _ _ | refine Below.alloc ?_ (by first | (simp; done) | (simp; omega) | omega) _ | refine Below.setCell ?_ (by first | (simp; done) | (simp; omega) | omega) _ | apply Below.drew | refine below_tr (by assumption) ?_))); (try simp only [World.size_alloc] at hz3); (try simp only [World.size_setCell] at hz3); (try simp only [Nat.add_one_le_iff] at hz3); (try (have zb0_3 : w.heap.size < u3.heap.size := by omega)); (try (have zb1_3 : w.heap.size + 1 < u3.heap.size := by omega)); (try (have zz0_3 : u0.heap.size < u3.heap.size := by omega)); (try (have zz1_3 : u1.heap.size < u3.heap.size := by omega)); (try (have zz2_3 : u2.heap.size < u3.heap.size := by omega)); (try (have zy3 : u2.heap.size + 1 < u3.heap.size := by omega)); (try (have hd3 : Below u2.heap.size u2 u3 := below_tr hb3 (by first | exact Below.refl _ _ | exact (Below.refl _ _).alloc (Nat.le_refl _) _ | exact ((Below.refl _ _).alloc (Nat.le_refl _) _).alloc (by simp) _ | exact (((Below.refl _ _).alloc (Nat.le_refl _) _).alloc (by simp) _).alloc (by first | (simp; done) | (simp; omega) | omega) _); obtain ⟨hcc3, hff3⟩ := bcell hd3; clear hd3))))
  go_ret
  exact ⟨rfl, by (repeat (first | assumption | exact Below.refl _ _ | refine Below.alloc ?_ (by first | (simp; done) | (simp; omega) | omega) _ | refine Below.setCell ?_ (by first | (simp; done) | (simp; omega) | omega) _ | apply Below.drew | refine below_tr (by assumption) ?_))⟩

set_option maxRecDepth 100000 in
set_option maxHeartbeats 2000000 in
theorem wF (n p r : Int) (w : World) (x y : Int) (h : rdy n p = true) (k : okB x y = true) (hx : Hid (x = n * (1000000 - p) / 1000000)) (hy : Hid (y = (n * (1000000 + p) + 1000000 - 1) / 1000000)) (b0 : n ≤ 1000000000000) (b1 : 0 ≤ x) (b2 : x ≤ n) (b3 : n ≤ y) (b4 : y ≤ 1000000000000) (h5 : 0 ≤ r) (h6 : r ≤ 100) (c1 : 0 ≤ (y - x) * r) (c2 : (y - x) * r ≤ (y - x) * 100) (k2 : rdy (x + (y - x) * r / 100) p = true) (u v : Int) (k3 : okB u v = true) (hu : Hid (u = (x + (y - x) * r / 100) * 1000000 / (1000000 + p))) (hv : Hid (v = ((x + (y - x) * r / 100) * 1000000 + (1000000 - p) - 1) / (1000000 - p))) (c3 : u ≤ n + 1) (c4 : n - 1 ≤ v) :
    Calls Tryd.prog 3 #[.int .i64 n, .int .i64 p, .int .i64 r] w fun e w' => e = .returned (.bool true) ∧ Below w.heap.size w w' := by
  have cnt : Mark 0 := .mk _
  go_enter Tryd.func3, Tryd.ntmps3
  go_wp2_with (first | (go_at_call 5; have cq : Mark 0 := cnt; refine (local_fact _).mono ?_; clear cq cnt; have cnt : Mark 1 := .mk _; rintro e u0 ⟨rfl, hb0⟩; obtain ⟨hc0, hf0⟩ := bcell hb0; have hz0 := hb0.size; have hw0 : Below w.heap.size w u0 := below_tr hb0 (by (repeat (first | assumption | exact Below.refl _ _ | refine Below.alloc ?_ (by first | (simp; done) | (simp; omega) | omega) _ | refine Below.setCell ?_ (by first | (simp; done) | (simp; omega) | omega) _ | apply Below.drew | refine below_tr (by assumption) ?_))); (try simp only [World.size_alloc] at hz0); (try simp only [World.size_setCell] at hz0); (try simp only [Nat.add_one_le_iff] at hz0); (try (have zb0_0 : w.heap.size < u0.heap.size := by omega)); (try (have zb1_0 : w.heap.size + 1 < u0.heap.size := by omega))) | (go_at_call 5; have cq : Mark 1 := cnt; refine (local_at n p x y _ h k hx hy).mono ?_; clear cq cnt; have cnt : Mark 2 := .mk _; rintro e u1 ⟨rfl, hb1⟩; obtain ⟨hc1, hf1⟩ := bcell hb1; have hz1 := hb1.size; have hw1 : Below w.heap.size w u1 := below_tr hb1 (by (repeat (first | assumption | exact Below.refl _ _ | refine Below.alloc ?_ (by first | (simp; done) | (simp; omega) | omega) _ | refine Below.setCell ?_ (by first | (simp; done) | (simp; omega) | omega) _ | apply Below.drew | refine below_tr (by assumption) ?_))); (try simp only [World.size_alloc] at hz1); (try simp only [World.size_setCell] at hz1); (try simp only [Nat.add_one_le_iff] at hz1); (try (have zb0_1 : w.heap.size < u1.heap.size := by omega)); (try (have zb1_1 : w.heap.size + 1 < u1.heap.size := by omega)); (try (have zz0_1 : u0.heap.size < u1.heap.size := by omega)); (try (have zy1 : u0.heap.size + 1 < u1.heap.size := by omega)); (try (have hd1 : Below u0.heap.size u0 u1 := below_tr hb1 (by first | exact Below.refl _ _ | exact (Below.refl _ _).alloc (Nat.le_refl _) _ | exact ((Below.refl _ _).alloc (Nat.le_refl _) _).alloc (by simp) _ | exact (((Below.refl _ _).alloc (Nat.le_refl _) _).alloc (by simp) _).alloc (by first | (simp; done) | (simp; omega) | omega) _); obtain ⟨hcc1, hff1⟩ := bcell hd1; clear hd1))) | (go_at_call 6; have cq : Mark 2 := cnt; refine (true_at (x + (y - x) * r / 100) p u v _ k2 k3 hu hv).mono ?_; clear cq cnt; have cnt : Mark 3 := .mk _; rintro e u2 ⟨rfl, hb2⟩; obtain ⟨hc2, hf2⟩ := bcell hb2; have hz2 := hb2.size; have hw2 : Below w.heap.size w u2 := below_tr hb2 (by (repeat (first | assumption | exact Below.refl _ _ | refine Below.alloc ?_ (by first | (simp; done) | (simp; omega) | omega) _ | refine Below.setCell ?_ (by first | (simp; done) | (simp; omega) | omega) _ | apply Below.drew | refine below_tr (by assumption) ?_))); (try simp only [World.size_alloc] at hz2); (try simp only [World.size_setCell] at hz2); (try simp only [Nat.add_one_le_iff] at hz2); (try (have zb0_2 : w.heap.size < u2.heap.size := by omega)); (try (have zb1_2 : w.heap.size + 1 < u2.heap.size := by omega)); (try (have zz0_2 : u0.heap.size < u2.heap.size := by omega)); (try (have zz1_2 : u1.heap.size < u2.heap.size := by omega)); (try (have zy2 : u1.heap.size + 1 < u2.heap.size := by omega)); (try (have hd2 : Below u1.heap.size u1 u2 := below_tr hb2 (by first | exact Below.refl _ _ | exact (Below.refl _ _).alloc (Nat.le_refl _) _ | exact ((Below.refl _ _).alloc (Nat.le_refl _) _).alloc (by simp) _ | exact (((Below.refl _ _).alloc (Nat.le_refl _) _).alloc (by simp) _).alloc (by first | (simp; done) | (simp; omega) | omega) _); obtain ⟨hcc2, hff2⟩ := bcell hd2; clear hd2))))
  go_ret
  exact ⟨rfl, by (repeat (first | assumption | exact Below.refl _ _ | refine Below.alloc ?_ (by first | (simp; done) | (simp; omega) | omega) _ | refine Below.setCell ?_ (by first | (simp; done) | (simp; omega) | omega) _ | apply Below.drew | refine below_tr (by assumption) ?_))⟩

theorem walk (n p r : Int) (w : World) (wn : (Lit.int .i64 n).wf = true) (wp : (Lit.int .i64 p).wf = true) (wr : (Lit.int .i64 r).wf = true) (he : EnvE w) :
    Calls Tryd.prog 3 #[.int .i64 n, .int .i64 p, .int .i64 r] w fun e w' => e = .returned (.bool true) ∧ Below w.heap.size w w' := by
  cases h : rdy n p with
  | false => exact wA n p r w h
  | true =>
  obtain ⟨x, hx⟩ : ∃ x, x = n * (1000000 - p) / 1000000 := ⟨_, rfl⟩
  obtain ⟨y, hy⟩ : ∃ y, y = (n * (1000000 + p) + 1000000 - 1) / 1000000 := ⟨_, rfl⟩
  obtain ⟨b1, b2, b3⟩ := local_holds h hx hy
  have q := rdy_t h
  cases k : okB x y with
  | false => rw [hx, hy] at k; exact wB n p r w h k
  | true =>
  have q2 := okB_t k
  by_cases h5 : r < 0
  · exact wC n p r w x y h k hx hy (by omega) b1 b2 b3 (by omega) h5
  by_cases h6 : 100 < r
  · exact wD n p r w x y h k hx hy (by omega) b1 b2 b3 (by omega) (by omega) h6
  obtain ⟨c1, c2⟩ := part_b (x := x) (y := y) (r := r) b1 (by omega) (by omega) (by omega) (by omega)
  have m1 : x ≤ x + (y - x) * r / 100 := by omega
  have m2 : x + (y - x) * r / 100 ≤ y := by omega
  have k2 : rdy (x + (y - x) * r / 100) p = true := decide_eq_true (by omega)
  obtain ⟨u, hu⟩ : ∃ u, u = (x + (y - x) * r / 100) * 1000000 / (1000000 + p) := ⟨_, rfl⟩
  obtain ⟨v, hv⟩ : ∃ v, v = ((x + (y - x) * r / 100) * 1000000 + (1000000 - p) - 1) / (1000000 - p) := ⟨_, rfl⟩
  obtain ⟨c3, c4⟩ := back h hx hy m1 m2
  rw [← hu] at c3
  rw [← hv] at c4
  cases k3 : okB u v with
  | false => rw [hu, hv] at k3; exact wE n p r w x y h k hx hy (by omega) b1 b2 b3 (by omega) (by omega) (by omega) c1 c2 k2 k3 he
  | true => exact wF n p r w x y h k hx hy (by omega) b1 b2 b3 (by omega) (by omega) (by omega) c1 c2 k2 u v k3 hu hv c3 c4

theorem own : ownKnob Tryd.prog.godebug = none := by kernel_rfl
theorem laidOut : laidOutB Tryd.prog = true := by kernel_rfl
theorem et : Tryd.prog.globalNamed "errors.errorType" = some 0 := by kernel_rfl
theorem rt : (Tryd.prog.cutTypes.find? (·.1 == "internal/reflectlite.rtype")).map (·.2) = some 67 := by kernel_rfl
theorem oneRow : ((List.range 110).filter fun t => Tryd.prog.rowNamed t [101, 114, 114, 111, 114]) = [25] := by kernel_rfl
theorem nTypes : Tryd.prog.types.size = 110 := by kernel_rfl

/-- What the condition on the listed variables gives: the handle of the type error. -/
theorem handle_of {W : World} (h : handlesMet Tryd.prog [("errors.errorType", Rows.laid_errors_errorType)] W) : EnvE W := by
  obtain ⟨name, u, ty, e1, e2, e3, e4, e5⟩ := h _ (List.mem_singleton.2 rfl)
  have en : name = [101, 114, 114, 111, 114] := (Option.some.inj e1).symm
  subst en
  obtain rfl := Option.some.inj (rt.symm.trans e2)
  have hm : ty ∈ (List.range 110).filter fun t => Tryd.prog.rowNamed t [101, 114, 114, 111, 114] := List.mem_filter.2 ⟨List.mem_range.2 (by rw [← nTypes]; exact e3), e4⟩
  rw [oneRow] at hm
  obtain rfl := List.mem_singleton.1 hm
  have hh : typeHandle Tryd.prog 25 = .pointer (some ⟨1, 25, none⟩) := by kernel_rfl
  rw [hh] at e5
  unfold EnvE
  simpa using World.var?_cell et e5 0

theorem env_of {W : World} (hL : laidMetH Tryd.prog Rows.driftBackRow.laid W) : EnvE W := by
  have h' : laidMet Tryd.prog [] W ∧ handlesMet Tryd.prog [("errors.errorType", Rows.laid_errors_errorType)] W := hL
  exact handle_of h'.2

set_option maxRecDepth 100000 in
theorem contract (H : Type) (enc : TypeId × Value → H) (W : World) (base : Nat) (args : Array Value) (ds gs : List (DataW H)) (before : List MemPlace)
    (hval : ∀ (j : Nat) t v, Tryd.f3.params[j]? = some t → args[j]? = some v → Value.okWide Tryd.prog W .any base t v)
    (hW : DataW.Whole enc Tryd.prog Tryd.f3.params.toList Rows.driftBackSpec.vars false W args.toList ds gs before) (hL : laidMetH Tryd.prog Rows.driftBackRow.laid W) (hsh : W.ShapedOpen Tryd.prog) :
    Calls Tryd.prog 3 args W fun e W' => ∃ v, e = .returned v ∧ Rows.driftBackSpec.post enc Tryd.prog Tryd.f3 false true false false W args v W' := by
  have he := env_of hL
  have hW' := hW
  obtain ⟨p, q, hA0, hV, rfl, hfz, hnd⟩ := hW
  have hA : DataW.TrodAll enc Tryd.prog W 0 (fun _ => true) true Tryd.f3.params.toList args.toList ds p := hA0
  rw [Tryd.params3] at hA hval
  obtain ⟨v0, vs0, d0, ds0, p0, q0, hargs, rfl, rfl, h0, r0⟩ := trodAll_cons hA
  obtain ⟨v1, vs1, d1, ds1, p1, q1, rfl, rfl, rfl, h1, r1⟩ := trodAll_cons r0
  obtain ⟨v2, vs2, d2, ds2, p2, q2, rfl, rfl, rfl, h2, r2⟩ := trodAll_cons r1
  obtain ⟨rfl, rfl, rfl⟩ := trodAll_nil r2
  obtain rfl : args = #[v0, v1, v2] := by cases args; simp_all
  obtain ⟨rfl, rfl⟩ := trodVars_none hV
  have k0 := h0
  have lt0 : ∀ x ∈ p0, x.block < W.heap.size := by obtain ⟨m, hm⟩ := k0; exact DataW.trod_lt m _ _ _ hm
  have k1 := h1
  have lt1 : ∀ x ∈ p1, x.block < W.heap.size := by obtain ⟨m, hm⟩ := k1; exact DataW.trod_lt m _ _ _ hm
  have k2 := h2
  have lt2 : ∀ x ∈ p2, x.block < W.heap.size := by obtain ⟨m, hm⟩ := k2; exact DataW.trod_lt m _ _ _ hm
  obtain ⟨n0, rfl, rfl, rfl, wf0⟩ := open_int Tryd.underlying3 (hval 0 3 v0 rfl rfl) h0
  obtain ⟨n1, rfl, rfl, rfl, wf1⟩ := open_int Tryd.underlying3 (hval 1 3 v1 rfl rfl) h1
  obtain ⟨n2, rfl, rfl, rfl, wf2⟩ := open_int Tryd.underlying3 (hval 2 3 v2 rfl rfl) h2
  clear hA0
  refine (walk n0 n1 n2 W wf0 wf1 wf2 he).mono fun e W' ⟨hee, bel⟩ => ?_
  subst hee
  exact ⟨_, rfl, _, _, _, [], _, [], hW', trodAll_mk1 (shut_bool Tryd.underlying4 _), (trodAll_cons_mk (Below.trod laidOut (by kernel_rfl) (of_decide_eq_true (by kernel_rfl)) k0 bel lt0) (trodAll_cons_mk (Below.trod laidOut (by kernel_rfl) (of_decide_eq_true (by kernel_rfl)) k1 bel lt1) (trodAll_cons_mk (Below.trod laidOut (by kernel_rfl) (of_decide_eq_true (by kernel_rfl)) k2 bel lt2) trodAll_mk0))), rfl, bel.frame _, fun h => by cases h⟩

theorem laid_met (os : Os) : laidMetH Tryd.prog Rows.driftBackRow.laid ((World.doorLaid Tryd.prog 16 os).forCall (fun _ _ => 0) ⟨#[], #[.int .i64 0, .int .i64 0, .int .i64 0], []⟩).memory :=
  laidMetH_of_parts (laidMet_nil _ _) (by kernel_rfl)

set_option maxRecDepth 100000 in
theorem lifted (os : Os) (started : os.Started) (H : Type) (enc : TypeId × Value → H) (F : Stop.Interp) :
    ReturnsInHanded {} Tryd.checked os 3 .any ((OpenSpec.ofChange Rows.driftBackSpec).preRow enc Tryd.prog Tryd.f3 Rows.driftBackRow.domain false Rows.driftBackRow.laid) (((OpenSpec.ofChange Rows.driftBackSpec).at F).post enc Tryd.prog Tryd.f3 false true false false) := by
  refine returnsInHanded_of_row (C := Tryd.checked) (s := OpenSpec.ofChange Rows.driftBackSpec) own started (by kernel_rfl) Tryd.func3
    (witness_row_atRef (enc := enc) (C := Tryd.checked) false (World.doorLaid Tryd.prog 16 os) #[.int .i64 0, .int .i64 0, .int .i64 0] rfl (by kernel_rfl) (by kernel_rfl) (by kernel_rfl)
      (OpenSpec.preRow_of_B rfl 8 (by kernel_rfl) (by kernel_rfl) (laid_met os))) ?_
  intro W base args ds gs before hval hW _ hcond _ hL hsh _
  exact contract H enc W base args ds gs before hval hW hL hsh

theorem said : Rows.DriftBackSaid :=
  OpenClaim.holds_of_cond 3 Tryd.f3 rfl rfl rfl rfl rfl rfl rfl ⟨rfl, rfl, rfl, rfl, rfl⟩ rfl rfl rfl rfl rfl (by kernel_rfl) Tryd.func3 (by kernel_rfl)
    (of_decide_eq_true (by kernel_rfl)) (by unfold Func.isWrapper; first | (rw [if_pos (by decide +kernel)]; kernel_rfl) | (rw [if_neg (by decide +kernel)]; exact ⟨rfl, rfl⟩))
    (fun os started H enc _ F => by rw [OpenClaim.pre_eq_preRow]; exact lifted os started H enc F)

theorem plain (f : FuncId) (fn : Func) (hf : Tryd.pinned.checked.prog.funcNamed "noonmark/noonlaw1.DriftBack" = some f) (hfn : Tryd.pinned.checked.prog.funcs[f]? = some fn) :
    true = Tryd.pinned.checked.prog.looks [] ∧ ∀ (j : Nat) t, fn.params[j]? = some t → Tryd.pinned.checked.prog.wantsStandIn t = false := by
  obtain rfl : f = 3 := Option.some.inj ((show Tryd.prog.funcNamed "noonmark/noonlaw1.DriftBack" = some 3 by kernel_rfl).symm.trans hf) |>.symm
  obtain rfl : fn = Tryd.f3 := (Option.some.inj (Tryd.func3.symm.trans hfn)).symm
  refine ⟨by kernel_rfl, fun j t ht => ?_⟩
  rw [Tryd.params3] at ht
  have hm := Array.mem_of_getElem? ht
  have all : ∀ t ∈ (#[3, 3, 3] : Array Nat), Tryd.prog.wantsStandIn t = false := by
    intro t ht
    simp only [List.mem_toArray, List.mem_cons, List.not_mem_nil, or_false] at ht
    rcases ht with rfl | rfl | rfl <;> kernel_rfl
  exact all t hm

theorem card : Rows.DriftBackCardSaid :=
  Claim7.holds_tied_plain_at .later [] _ _ _ _ said (fun _ h => by cases h) (by kernel_rfl) (fun _ h => by cases h) driftBack_row_tie rfl ⟨rfl, rfl⟩ (by kernel_rfl) rfl plain (by kernel_rfl)
end Go.Proofs.YtdhgfdbghfefnabDoor.driftBack
namespace Go.Proofs.YtdhgfdbghfefnabDoor
theorem driftBack_holds : Rows.DriftBackCardSaid := driftBack.card
#print axioms driftBack_holds
end Go.Proofs.YtdhgfdbghfefnabDoor
