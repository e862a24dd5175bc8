/- What the document's own keeper (package noonref2) answers: Read. -/
import Derived.Test.YtigcliepeapcpajDoorKeeperDef
import Derived.Test.YtigcliepeapcpajDoorBoundsTab
import Derived.Lib.SmallJoins
import Derived.IntWalk
namespace Go.Proofs.YtigcliepeapcpajDoor
open Go.ChangeShapes Go.WideShapes Go.ChangeAt Go.RowKit Go.Joins
set_option linter.unusedVariables false
set_option linter.unusedSimpArgs false

/-- The document's keeper in memory. -/
def kpL (c : Kp) : List Value := [.int .i64 c.a, .int .i64 c.l, .int .i64 c.k, .int .i64 c.s]
def RK (u : World) (b : Nat) (c : Kp) : Prop := Blk u 31 b (kpL c)
set_option maxRecDepth 100000 in
set_option maxHeartbeats 4000000 in
theorem rkread_any (b : Nat) (c : Kp) (m : Nat) (x : Int) (u : World) (hR : RK u b c) (hI : c.I m) (hm : m ≤ 1000) :
    Calls Tryd.prog 7 #[.pointer (some ⟨b, 0, none⟩), .int .i64 x] u fun o w' => o = .returned (.tuple #[.int .i64 (c.readN x), .int .i64 (c.readE x)]) ∧ RK w' b (c.readC x) ∧ Keeps (fun k => k = b) u w' := by
  have HR : Hid (RK u b c) := hR
  by_cases hx : x < 0 ∨ 1000000000000 < x
  · have e : c.readE x = 1 := by unfold Kp.readE; rw [if_pos hx]
    have ec : c.readC x = c := by unfold Kp.readC; rw [if_neg (by rw [e]; decide)]
    have en : c.readN x = 0 := by unfold Kp.readN; rw [if_neg (by rw [e]; decide)]
    rw [e, ec, en]
    have hx2 : x < 0 ∨ (¬ x < 0 ∧ 1000000000000 < x) := by omega
    clear hx e ec en hR hI
    rcases hx2 with d1 | ⟨d1, d2⟩
    all_goals
      go_enter Tryd.func7, Tryd.ntmps7
      go_wp2
      go_ret2
      exact ⟨rfl, HR.out, Keeps.refl _ _⟩
  · have d1 : ¬ (x < 0) := by omega
    have d2 : ¬ (1000000000000 < x) := by omega
    obtain ⟨a0, a1, l0, lk, l1, k1, s0, s1⟩ := hI
    have c0 := Blk.c hR 0 _ rfl
    have c1 := Blk.c hR 1 _ rfl
    have c2 := Blk.c hR 2 _ rfl
    have c3 := Blk.c hR 3 _ rfl
    have f1 := Blk.f hR 1
    have f2 := Blk.f hR 2
    have f3 := Blk.f hR 3
    obtain ⟨l, hl⟩ : ∃ l, l = c.l := ⟨_, rfl⟩
    obtain ⟨ka, hka⟩ : ∃ k, k = c.k := ⟨_, rfl⟩
    obtain ⟨s, hs⟩ : ∃ s, s = c.s := ⟨_, rfl⟩
    obtain ⟨a, ha⟩ : ∃ a, a = c.a := ⟨_, rfl⟩
    have nn : c.n x = if l + 1 < x then x else l + 1 := by rw [hl]; rfl
    rw [← ha] at c0 a0 a1
    rw [← hl] at c1 l0 lk l1
    rw [← hka] at c2 lk k1
    rw [← hs] at c3 s0 s1
    have w1 : IntKind.i64.wrap (l + 1) = l + 1 := IntWalk.i64_in _ (by omega)
    obtain ⟨n, hn⟩ : ∃ n, n = c.n x := ⟨_, rfl⟩
    have HRow : Hid (RK u b ⟨a, l, ka, s⟩) := by
      show RK u b ⟨a, l, ka, s⟩
      rw [ha, hl, hka, hs]
      exact HR.out
    by_cases hb : 1000000000000 < n
    · have e : c.readE x = 4 := by unfold Kp.readE; rw [if_neg hx, ← hn, if_pos hb]
      have ec : c.readC x = c := by unfold Kp.readC; rw [if_neg (by rw [e]; decide)]
      have en : c.readN x = 0 := by unfold Kp.readN; rw [if_neg (by rw [e]; decide)]
      rw [e, ec, en]
      rw [← hn] at nn
      clear hx e ec en hR hn hl hka hs ha
      by_cases q : l + 1 < x
      · rw [if_pos q] at nn
        omega
      · rw [if_neg q] at nn
        subst nn
        go_enter Tryd.func7, Tryd.ntmps7
        go_wp2
        go_ret2
        exact ⟨rfl, HR.out, Keeps.refl _ _⟩
    · have e : c.readE x = 0 := by unfold Kp.readE; rw [if_neg hx, ← hn, if_neg hb]
      have en : c.readN x = n := by unfold Kp.readN; rw [if_pos e, hn]
      have ec : c.readC x = if n < ka then ⟨a, n, ka, s⟩ else ⟨a, n, n + a, s + 1⟩ := by
        unfold Kp.readC
        rw [if_pos e, ← hn, ha, hka, hs]
      rw [e, ec, en]
      rw [← hn] at nn
      have n0 : 0 ≤ n := by rw [nn]; split <;> omega
      have w2 : IntKind.i64.wrap (n + a) = n + a := IntWalk.i64_in _ (by omega)
      have w3 : IntKind.i64.wrap (s + 1) = s + 1 := IntWalk.i64_in _ (by omega)
      clear hx e ec en hR hn hl hka hs ha HR
      by_cases hk : n < ka
      · rw [if_pos hk]
        have hk2 : ¬ (ka ≤ n) := by omega
        by_cases q : l + 1 < x
        · rw [if_pos q] at nn
          subst nn
          go_enter Tryd.func7, Tryd.ntmps7
          go_wp2
          go_ret2
          exact ⟨rfl, Blk.put 1 HRow.out, Keeps.put (S := fun k => k = b) rfl (Keeps.refl _ _)⟩
        · rw [if_neg q] at nn
          subst nn
          go_enter Tryd.func7, Tryd.ntmps7
          go_wp2
          go_ret2
          exact ⟨rfl, Blk.put 1 HRow.out, Keeps.put (S := fun k => k = b) rfl (Keeps.refl _ _)⟩
      · rw [if_neg hk]
        have hk2 : ka ≤ n := by omega
        by_cases q : l + 1 < x
        · rw [if_pos q] at nn
          subst nn
          go_enter Tryd.func7, Tryd.ntmps7
          go_wp2
          go_ret2
          exact ⟨rfl, Blk.put 1 (Blk.put 3 (Blk.put 2 HRow.out)), Keeps.put (S := fun k => k = b) rfl (Keeps.put (S := fun k => k = b) rfl (Keeps.put (S := fun k => k = b) rfl (Keeps.refl _ _)))⟩
        · rw [if_neg q] at nn
          subst nn
          go_enter Tryd.func7, Tryd.ntmps7
          go_wp2
          go_ret2
          exact ⟨rfl, Blk.put 1 (Blk.put 3 (Blk.put 2 HRow.out)), Keeps.put (S := fun k => k = b) rfl (Keeps.put (S := fun k => k = b) rfl (Keeps.put (S := fun k => k = b) rfl (Keeps.refl _ _)))⟩
end Go.Proofs.YtigcliepeapcpajDoor
