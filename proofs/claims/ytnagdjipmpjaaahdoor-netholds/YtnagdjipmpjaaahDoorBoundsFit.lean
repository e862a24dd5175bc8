/- What bounds.Fits answers, of any edges and any clocks. -/
import Derived.Test.YtnagdjipmpjaaahDoorBoundsChk
import Derived.Test.YtnagdjipmpjaaahDoorBoundsAnyF
namespace Go.Proofs.YtnagdjipmpjaaahDoor
open Go.ChangeShapes Go.WideShapes Go.ChangeAt Go.RowKit Go.Joins
set_option linter.unusedVariables false
set_option linter.unusedSimpArgs false

def outB (c : Int) : Bool := decide (c < -1000000000000 ∨ 1000000000000 < c)
theorem fits1_any (c : Int) (w : World) : Calls Tryd.prog 61 #[.int .i64 c] w fun e w' => e = .returned (.bool (outB c)) ∧ Below w.heap.size w w' := by
  by_cases h1 : c < -1000000000000
  · rw [show outB c = true from decide_eq_true (Or.inl h1)]
    go_enter Tryd.func61, Tryd.ntmps61
    go_wp2
    go_ret
    exact ⟨rfl, Below.refl _ _⟩
  · have d1 : decide (c < -1000000000000) = false := decide_eq_false h1
    by_cases h2 : 1000000000000 < c
    · rw [show outB c = true from decide_eq_true (Or.inr h2)]
      have d2 : decide (1000000000000 < c) = true := decide_eq_true h2
      go_enter Tryd.func61, Tryd.ntmps61
      go_wp2
      go_ret
      exact ⟨rfl, Below.refl _ _⟩
    · rw [show outB c = false from decide_eq_false (by omega)]
      have d2 : decide (1000000000000 < c) = false := decide_eq_false h2
      go_enter Tryd.func61, Tryd.ntmps61
      go_wp2
      go_ret
      exact ⟨rfl, Below.refl _ _⟩
def inB (lo hi d : Int) : Bool := decide (lo ≤ d) && decide (d ≤ hi)
set_option maxRecDepth 100000 in
set_option maxHeartbeats 4000000 in
theorem fits2_any (A B : Nat) (lo hi : Int) (g cb co k cc : Nat) (x y : Int) (w : World) (hg : w.cell? ⟨g, 0, none⟩ = some (.slice (some ⟨cb, co, none⟩) k cc)) (hA : A < k) (hB : B < k) (hx : w.cell? ⟨cb, co + A, none⟩ = some (.int .i64 x)) (hy : w.cell? ⟨cb, co + B, none⟩ = some (.int .i64 y)) (bx : -1000000000000 ≤ x ∧ x ≤ 1000000000000) (by' : -1000000000000 ≤ y ∧ y ≤ 1000000000000) :
    Calls Tryd.prog 63 #[.agg #[.int .i64 A, .int .i64 B, .int .i64 lo, .int .i64 hi], .pointer (some ⟨g, 0, none⟩)] w fun e w' => e = .returned (.bool (!inB lo hi (y - x))) ∧ Below w.heap.size w w' := by
  have hA3 : (A : Int) < k := by omega
  have hB3 : (B : Int) < k := by omega
  have wd : IntKind.i64.wrap (y - x) = y - x := IntWalk.i64_in _ (by omega)
  have l1 := World.block_lt_of_cell? _ _ hg
  have l2 := World.block_lt_of_cell? _ _ hx
  have n1 : ¬ (g = w.heap.size) := Nat.ne_of_lt l1
  have n2 : ¬ (cb = w.heap.size) := Nat.ne_of_lt l2
  clear bx by'
  by_cases h1 : y - x < lo
  · have d1 : decide (y - x < lo) = true := decide_eq_true h1
    rw [show inB lo hi (y - x) = false by unfold inB; rw [decide_eq_false (by omega)]; rfl]
    go_enter Tryd.func63, Tryd.ntmps63
    go_wp2
    go_quiet (fail)
    go_wp2
    go_ret
    exact ⟨rfl, rbel_drn (rbel_al (Below.refl _ _))⟩
  · have d1 : decide (y - x < lo) = false := decide_eq_false h1
    by_cases h2 : hi < y - x
    · have d2 : decide (hi < y - x) = true := decide_eq_true h2
      rw [show inB lo hi (y - x) = false by unfold inB; rw [decide_eq_false (show ¬ (y - x ≤ hi) by omega), Bool.and_false]]
      go_enter Tryd.func63, Tryd.ntmps63
      go_wp2
      go_quiet (fail)
      go_wp2
      go_ret
      exact ⟨rfl, rbel_drn (rbel_al (Below.refl _ _))⟩
    · have d2 : decide (hi < y - x) = false := decide_eq_false h2
      rw [show inB lo hi (y - x) = true by unfold inB; rw [decide_eq_true (show lo ≤ y - x by omega), decide_eq_true (show y - x ≤ hi by omega)]; rfl]
      go_enter Tryd.func63, Tryd.ntmps63
      go_wp2
      go_quiet (fail)
      go_wp2
      go_ret
      exact ⟨rfl, rbel_drn (rbel_al (Below.refl _ _))⟩
theorem badC_any (c : Nat → Int) (k : Nat) : anyB (fun i => outB (c i)) k = true ↔ badC c k := by
  rw [anyB_iff]
  constructor
  · rintro ⟨i, h1, h2⟩; exact ⟨i, h1, of_decide_eq_true h2⟩
  · rintro ⟨i, h1, h2⟩; exact ⟨i, h1, decide_eq_true h2⟩
theorem fitB_any (q : Nat → Eg) (c : Nat → Int) : ∀ m, (!anyB (fun i => !inB (q i).lo (q i).hi (c (q i).b.toNat - c (q i).a.toNat)) m) = fitB q c m
  | 0 => rfl
  | m + 1 => by
    simp only [anyB, fitB]
    rw [← fitB_any q c m, Bool.not_or, Bool.not_not]
    rfl
set_option maxRecDepth 100000 in
set_option maxHeartbeats 4000000 in
theorem fits_any (z : Int) (a : Option Addr) (m cap : Nat) (q : Nat → Eg) (ca : Option Addr) (k cc : Nat) (c : Nat → Int) (b : Bool) (e : Int) (w : World) (hH : EHanded w a m q) (hK : NHanded w ca k c) (hz : In64 z) (hF : FitA z q m k c b e) :
    Calls Tryd.prog 35 #[.int .i64 z, .slice a m cap, .slice ca k cc] w fun r w' => r = .returned (.tuple #[.bool b, errc e]) ∧ Below w.heap.size w w' := by
  have hmf : ∀ (fn : Go.Fn) (first cap : Array Value) (w : World), (Instr.makeFunc fn first cap).run Tryd.prog w = .ok (.func fn first cap) w := fun _ _ _ _ => rfl
  have cC := fun u (hu : Below w.heap.size w u) => check_any z a m cap q u (hH.on hu)
  have hk := hK.1
  have HH : Hid (EHanded w a m q) := hH
  have HK : Hid (NHanded w ca k c) := hK
  clear hH hK
  rcases hF with ⟨h0, rfl, rfl⟩ | ⟨h0, h1, rfl, rfl⟩ | ⟨h0, h1, h2, rfl, rfl⟩ | ⟨h0, h1, h2, rfl, rfl⟩
  · rw [errc_not h0] at cC ⊢
    generalize eE z q m = er at *
    clear h0
    go_enter Tryd.func35, Tryd.ntmps35
    go_wp2_with (go_at_call 59; refine (cC _ (rbel_al (Below.refl _ _))).mono ?_; rintro e u0 ⟨rfl, hb⟩; have HB : Hid _ := hb; clear hb)
    go_ret2
    exact ⟨rfl, rbel_on HB.out (rbel_al (Below.refl _ _))⟩
  · rw [h0, errc_zero] at cC
    rw [errc_not (by decide)]
    have ne : ((k : Int) == z) = false := by simpa using h1
    clear h0 h1
    go_enter Tryd.func35, Tryd.ntmps35
    go_wp2_with (go_at_call 59; refine (cC _ (rbel_al (Below.refl _ _))).mono ?_; rintro e u0 ⟨rfl, hb⟩; have HB : Hid _ := hb; have r0 := (Row.on hb (Row.made (W := w) (vs := [.slice ca k cc]) rfl)).c 0 _ rfl; clear hb)
    go_ret2
    exact ⟨rfl, rbel_on HB.out (rbel_al (Below.refl _ _))⟩
  · rw [h0, errc_zero] at cC
    rw [errc_not (by decide)]
    have cA := fun u (hu : Below w.heap.size w u) => any_ints ca k cc c (fun i => outB (c i)) u hk (HK.out.on hu).2 (fun i u' _ _ => fits1_any (c i) u')
    rw [(badC_any c k).2 h2] at cA
    subst h1
    clear h0 h2
    go_enter Tryd.func35, Tryd.ntmps35
    go_wp2_with (first
      | (go_at_call 59; refine (cC _ (rbel_al (Below.refl _ _))).mono ?_; rintro e u0 ⟨rfl, hb⟩; have HB : Hid _ := hb; have r0 := (Row.on hb (Row.made (W := w) (vs := [.slice ca k cc]) rfl)).c 0 _ rfl; clear hb)
      | (go_at_call 60; refine (cA _ (rbel_on HB.out (rbel_al (Below.refl _ _)))).mono ?_; rintro e u1 ⟨rfl, hb⟩; have HB1 : Hid _ := hb; clear hb))
    go_ret2
    exact ⟨rfl, rbel_on HB1.out (rbel_on HB.out (rbel_al (Below.refl _ _)))⟩
  · rw [h0, errc_zero] at cC
    rw [errc_zero]
    have hE := eE_zero h0
    have cA := fun u (hu : Below w.heap.size w u) => any_ints ca k cc c (fun i => outB (c i)) u hk (HK.out.on hu).2 (fun i u' _ _ => fits1_any (c i) u')
    rw [show anyB (fun i => outB (c i)) k = false by
      cases e : anyB (fun i => outB (c i)) k with
      | false => rfl
      | true => exact absurd ((badC_any c k).1 e) h2] at cA
    have k0 : k ≠ 0 := by have := hE.n1; omega
    obtain ⟨cb, co, rfl, hN⟩ : ∃ cb co : Nat, ca = some ⟨cb, co, none⟩ ∧ Nrd w cb co k c := by
      rcases HK.out.2 with e | h
      · exact absurd e k0
      · exact h
    have cl : ∀ i, i < k → -1000000000000 ≤ c i ∧ c i ≤ 1000000000000 := fun i hi => by
      apply Classical.byContradiction
      intro no
      exact h2 ⟨i, hi, by omega⟩
    have cB := fun u (hu : Below w.heap.size w u) (r : u.cell? ⟨w.heap.size, 0, none⟩ = some (.slice (some ⟨cb, co, none⟩) k cc)) =>
      any_edgs a m cap (.pointer (some ⟨w.heap.size, 0, none⟩)) q (fun i => !inB (q i).lo (q i).hi (c (q i).b.toNat - c (q i).a.toNat)) u HH.out.1 (HH.out.on hu).2 (fun i u' hi hu' => by
        obtain ⟨⟨a1, a2, a3, a4⟩, _, _⟩ := hE.each i hi
        have hA : (q i).a.toNat < k := by omega
        have hB : (q i).b.toNat < k := by omega
        have nr := (hN.on hu).on hu'
        have := fits2_any (q i).a.toNat (q i).b.toNat (q i).lo (q i).hi w.heap.size cb co k cc _ _ u' (by rw [hu'.cell (World.block_lt_of_cell? _ _ r)]; exact r) hA hB (nr _ hA) (nr _ hB) (cl _ hA) (cl _ hB)
        rw [Int.toNat_of_nonneg a1, Int.toNat_of_nonneg a3] at this
        exact this)
    have FB := fitB_any q c m
    generalize anyB (fun i => !inB (q i).lo (q i).hi (c (q i).b.toNat - c (q i).a.toNat)) m = fb at *
    rw [← FB]
    subst h1
    clear h0 h2 hE hN cl FB k0
    go_enter Tryd.func35, Tryd.ntmps35
    go_wp2_with (first
      | (go_at_call 59; refine (cC _ (rbel_al (Below.refl _ _))).mono ?_; rintro e u0 ⟨rfl, hb⟩; have HB : Hid _ := hb; have r0 := (Row.on hb (Row.made (W := w) (vs := [.slice (some ⟨cb, co, none⟩) k cc]) rfl)).c 0 _ rfl; clear hb)
      | (go_at_call 60; refine (cA _ (rbel_on HB.out (rbel_al (Below.refl _ _)))).mono ?_; rintro e u1 ⟨rfl, hb⟩; have HB1 : Hid _ := hb; have r1 : u1.cell? ⟨w.heap.size, 0, none⟩ = some (.slice (some ⟨cb, co, none⟩) k cc) := (by rw [hb.cell (World.block_lt_of_cell? _ _ r0)]; exact r0); clear hb)
      | (go_at_call 62; refine (cB _ (rbel_on HB1.out (rbel_on HB.out (rbel_al (Below.refl _ _)))) r1).mono ?_; rintro e u2 ⟨rfl, hb⟩; have HB2 : Hid _ := hb; clear hb))
    go_ret2
    exact ⟨rfl, rbel_on HB2.out (rbel_on HB1.out (rbel_on HB.out (rbel_al (Below.refl _ _))))⟩
end Go.Proofs.YtnagdjipmpjaaahDoor
