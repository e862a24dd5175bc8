/- What the document's own reckoning (package noonref1) answers of loops: Room. -/
import Derived.Test.YtiebojccnaelbaeDoorLoopsMath
import Derived.Lib.SmallJoins
import Derived.Deep.CutRange
import Derived.BigRegion
import Derived.IntWalk
namespace Go.Proofs.YtiebojccnaelbaeDoor
open Go.ChangeShapes Go.WideShapes Go.ChangeAt Go.RowKit Go.Joins
set_option linter.unusedVariables false
set_option linter.unusedSimpArgs false

theorem rmS_in {q : Nat → Eg} {m n k : Nat} {s : Nat → Int} (hE : Egs n q m) (ok : ∀ i, i < k → okS m (s i)) : ∀ j : Nat, j ≤ k → -((j : Int) * 1000000000000) ≤ rmS q s j ∧ rmS q s j ≤ (j : Int) * 1000000000000
  | 0, _ => by simp [rmS]
  | j + 1, h => by
    have i1 := rmS_in hE ok j (by omega)
    have i2 := coS_in hE (ok j (by omega))
    simp only [rmS]
    omega
set_option maxRecDepth 100000 in
set_option maxHeartbeats 8000000 in
theorem rroom_any (n : Nat) (a : Option Addr) (m cap : Nat) (q : Nat → Eg) (la : Option Addr) (k lc : Nat) (s : Nat → Int) (r e : Int) (w : World) (hE : Egs n q m) (hH : EHanded w a m q) (hL : NHanded w la k s) (hR : RmR q m k s r e) :
    Calls Tryd.prog 7 #[.slice a m cap, .slice la k lc] w fun o w' => o = .returned (.tuple #[.int .i64 r, .int .i64 e]) ∧ Below w.heap.size w w' := by
  have hk := hL.1
  have h40 := hE.m40
  have HE : Hid (Egs n q m) := hE
  have HH : Hid (m = 0 ∨ ∃ b off : Nat, a = some ⟨b, off, none⟩ ∧ Esp w b off m q) := hH.2
  have HL : Hid (k = 0 ∨ ∃ b off : Nat, la = some ⟨b, off, none⟩ ∧ Nrd w b off k s) := hL.2
  clear hE hH hL
  by_cases k0 : k = 0
  · obtain ⟨rfl, rfl⟩ : r = 0 ∧ e = 5 := by
      rcases hR with ⟨_, h1, h2⟩ | ⟨h, _⟩ | ⟨h, _⟩ | ⟨h, _⟩ | ⟨h, _⟩
      · exact ⟨h1, h2⟩
      all_goals omega
    subst k0
    clear hR
    go_enter Tryd.func7, Tryd.ntmps7
    go_wp2
    go_ret2
    exact ⟨rfl, Below.refl _ _⟩
  have k0' : ((k : Int) == 0) = false := by simpa using k0
  by_cases k40 : 40 < k
  · obtain ⟨rfl, rfl⟩ : r = 0 ∧ e = 4 := by
      rcases hR with ⟨h, _⟩ | ⟨_, h1, h2⟩ | ⟨h, _⟩ | ⟨h, _⟩ | ⟨h, _⟩
      · omega
      · exact ⟨h1, h2⟩
      all_goals omega
    have k4 : (40 : Int) < k := by omega
    clear hR
    go_enter Tryd.func7, Tryd.ntmps7
    go_wp2
    go_ret2
    exact ⟨rfl, Below.refl _ _⟩
  have k4 : ¬ ((40 : Int) < k) := by omega
  obtain ⟨lb, lo, rfl, hN⟩ : ∃ b off : Nat, la = some ⟨b, off, none⟩ ∧ Nrd w b off k s := by
    rcases HL.out with h | h
    · exact absurd h k0
    · exact h
  have HN : Hid (Nrd w lb lo k s) := hN
  have hR2 : ((∃ i, i < k ∧ ¬ okS m (s i)) ∧ r = 0 ∧ e = 1) ∨ ((∀ i, i < k → okS m (s i)) ∧ (∃ i, i < k ∧ ¬ joS q s k i) ∧ r = 0 ∧ e = 3) ∨ ((∀ i, i < k → okS m (s i)) ∧ (∀ i, i < k → joS q s k i) ∧ r = rmS q s k ∧ e = 0) := by
    rcases hR with ⟨h, _⟩ | ⟨h, _⟩ | ⟨_, h⟩ | ⟨_, h⟩ | ⟨_, h⟩
    · exact absurd h k0
    · exact absurd h k40
    · exact Or.inl h
    · exact Or.inr (Or.inl h)
    · exact Or.inr (Or.inr h)
  have HR : Hid _ := hR2
  have wm : IntKind.i64.wrap (-(m : Int)) = -(m : Int) := IntWalk.i64_in _ (by omega)
  clear hR hR2 HL hN
  go_enter Tryd.func7, Tryd.ntmps7
  go_wp2
  go_loopw [6] (fun i wr => ∃ j : Nat, j ≤ k ∧ i = .int .i64 j ∧ wr = w ∧ ∀ i, i < j → okS m (s i)) (fun i _ => k - (intOf i).toNat)
  case atStart => exact ⟨0, Nat.zero_le _, rfl, rfl, fun i hi => by omega⟩
  case round =>
    obtain ⟨j, hj, rfl, rfl, hok⟩ := hrel
    have HK : Hid (∀ i, i < j → okS m (s i)) := hok
    clear hok
    by_cases hlt : j < k
    · have hl3 : (j : Int) < k := by omega
      have x0 := HN.out j hlt
      by_cases o : okS m (s j)
      · have HK2 : Hid (∀ i, i < j + 1 → okS m (s i)) := fun i hi => by
          by_cases e' : i = j
          · rw [e']; exact o
          · exact HK.out i (by omega)
        obtain ⟨o1, o2, o3⟩ := o
        have d1 : (s j == 0) = false := by simpa using o1
        have d2 : decide ((m : Int) < s j) = false := decide_eq_false (by omega)
        have d3 : decide (s j < -(m : Int)) = false := decide_eq_false (by omega)
        generalize s j = x at *
        clear HR HH HE HK
        as_aux_lemma =>
          go_wp2
          go_roundw
          case rel => exact ⟨j + 1, by omega, by go_num, trivial, HK2.out⟩
          case measure => simp [intOf]; omega
      · obtain ⟨rfl, rfl⟩ : r = 0 ∧ e = 1 := by
          rcases HR.out with ⟨_, h1, h2⟩ | ⟨h, _⟩ | ⟨h, _⟩
          · exact ⟨h1, h2⟩
          · exact absurd (h j hlt) o
          · exact absurd (h j hlt) o
        have o' : s j = 0 ∨ (m : Int) < s j ∨ s j < -(m : Int) := by
          apply Classical.byContradiction
          intro c
          exact o ⟨by omega, by omega, by omega⟩
        generalize s j = x at *
        clear HR HH HE HK o
        by_cases z0 : x = 0
        · subst z0
          as_aux_lemma =>
            go_wp2
            go_ret2
            exact ⟨rfl, Below.refl _ _⟩
        have d1 : (x == 0) = false := by simpa using z0
        by_cases z1 : (m : Int) < x
        · have d2 : decide ((m : Int) < x) = true := decide_eq_true z1
          as_aux_lemma =>
            go_wp2
            go_ret2
            exact ⟨rfl, Below.refl _ _⟩
        · have d2 : decide ((m : Int) < x) = false := decide_eq_false z1
          have d3 : decide (x < -(m : Int)) = true := decide_eq_true (by omega)
          as_aux_lemma =>
            go_wp2
            go_ret2
            exact ⟨rfl, Below.refl _ _⟩
    · have hl3 : ¬ ((j : Int) < k) := by omega
      have OK : Hid (∀ i, i < k → okS m (s i)) := fun i hi => HK.out i (by omega)
      have HR3 : Hid (((∃ i, i < k ∧ ¬ joS q s k i) ∧ r = 0 ∧ e = 3) ∨ ((∀ i, i < k → joS q s k i) ∧ r = rmS q s k ∧ e = 0)) := by
        rcases HR.out with ⟨⟨i, h1, h2⟩, _⟩ | ⟨_, h⟩ | ⟨_, h⟩
        · exact absurd (OK.out i h1) h2
        · exact Or.inl h
        · exact Or.inr h
      clear HR HK wm
      go_wp2
      go_loopw [7, 8] (fun v i wr2 => ∃ j : Nat, j ≤ k ∧ i = .int .i64 j ∧ v = .int .i64 (rmS q s j) ∧ wr2 = wr ∧ ∀ i, i < j → joS q s k i) (fun _ i _ => k - (intOf i).toNat)
      case atStart => exact ⟨0, Nat.zero_le _, rfl, rfl, rfl, fun i hi => by omega⟩
      case round =>
        obtain ⟨i, hi, rfl, rfl, rfl, hjo⟩ := hrel
        have HJ : Hid (∀ j, j < i → joS q s k j) := hjo
        clear hjo
        by_cases hlt2 : i < k
        · have hl4 : (i : Int) < k := by omega
          have hn1 := mod_next i k hlt2
          obtain ⟨j2, ej⟩ : ∃ j2, j2 = (i + 1) % k := ⟨_, rfl⟩
          have hj2 : j2 < k := by rw [ej]; exact Nat.mod_lt _ (by omega)
          have hj3 : (j2 : Int) < k := by omega
          rw [← ej] at hn1
          have wn : IntKind.i64.wrap ((i : Int) + 1) = (i : Int) + 1 := IntWalk.i64_in _ (by omega)
          have x0 := HN.out i hlt2
          have y0 := HN.out j2 hj2
          have ox := OK.out i hlt2
          have oy := OK.out j2 hj2
          have rb := rmS_in HE.out OK.out i (by omega)
          have cb := coS_in HE.out ox
          have ix := ixS_lt ox
          have iy := ixS_lt oy
          have rs : Hid (rmS q s (i + 1) = rmS q s i + coS q (s i)) := rfl
          have js : Hid (joS q s k i ↔ toS q (s i) = frS q (s j2)) := by show joS q s k i ↔ _; unfold joS; rw [← ej]
          obtain ⟨b, off, rfl, hP⟩ : ∃ b off : Nat, a = some ⟨b, off, none⟩ ∧ Esp wr b off m q := by
            rcases HH.out with e' | h
            · omega
            · exact h
          obtain ⟨p0, p1, p2, p3⟩ := hP _ ix
          obtain ⟨q0, q1, q2, q3⟩ := hP _ iy
          obtain ⟨ox1, ox2, ox3⟩ := ox
          obtain ⟨oy1, oy2, oy3⟩ := oy
          clear ej hP
          have Ix3 : ((ixS (s i) : Nat) : Int) < m := by omega
          have Iy3 : ((ixS (s j2) : Nat) : Int) < m := by omega
          by_cases hx : 0 < s i
          · by_cases hy : 0 < s j2
            · have sx : 0 < s i := hx
              have sy : 0 < s j2 := hy
              have dx : decide (0 < s i) = true := decide_eq_true hx
              have dy : decide (0 < s j2) = true := decide_eq_true hy
              have wx1 : IntKind.i64.wrap (s i - 1) = ((ixS (s i) : Nat) : Int) := by rw [show s i - 1 = ((ixS (s i) : Nat) : Int) by unfold ixS; rw [if_pos sx]; omega]; exact IntWalk.i64_in _ (by omega)
              have wy1 : IntKind.i64.wrap (s j2 - 1) = ((ixS (s j2) : Nat) : Int) := by rw [show s j2 - 1 = ((ixS (s j2) : Nat) : Int) by unfold ixS; rw [if_pos sy]; omega]; exact IntWalk.i64_in _ (by omega)
              have ce : coS q (s i) = (q (ixS (s i))).hi := by unfold coS; exact if_pos sx
              have te : toS q (s i) = (q (ixS (s i))).b := by unfold toS; exact if_pos sx
              have fe : frS q (s j2) = (q (ixS (s j2))).a := by unfold frS; exact if_pos sy
              have ws : IntKind.i64.wrap (rmS q s i + (q (ixS (s i))).hi) = rmS q s i + (q (ixS (s i))).hi := IntWalk.i64_in _ (by omega)
              have RS : Hid (rmS q s (i + 1) = rmS q s i + (q (ixS (s i))).hi) := by show rmS q s (i + 1) = _; rw [rs.out, ce]
              by_cases jj : (q (ixS (s j2))).a = (q (ixS (s i))).b
              · have HJ2 : Hid (∀ j, j < i + 1 → joS q s k j) := fun j h => by
                  by_cases e' : j = i
                  · rw [e']; exact js.out.2 (by rw [te, fe, jj])
                  · exact HJ.out j (by omega)
                clear HJ HR3
                have jb : (((q (ixS (s j2))).a == (q (ixS (s i))).b) : Bool) = true := by simpa using jj
                clear jj
                as_aux_lemma =>
                  clear ce te fe rs js sx sy cb ix iy ox1 ox2 ox3 oy1 oy2 oy3 HE HH HN OK
                  generalize rmS q s i = rr at *
                  generalize (q (ixS (s i))).a = xa at *
                  generalize (q (ixS (s i))).b = xb at *
                  generalize (q (ixS (s i))).lo = xl at *
                  generalize (q (ixS (s i))).hi = xh at *
                  generalize (q (ixS (s j2))).a = ya at *
                  generalize (q (ixS (s j2))).b = yb at *
                  generalize (q (ixS (s j2))).lo = yl at *
                  generalize (q (ixS (s j2))).hi = yh at *
                  generalize ixS (s i) = I at *
                  generalize ixS (s j2) = J at *
                  generalize hsx : s i = x at *
                  generalize hsy : s j2 = y at *
                  clear hsx hsy
                  go_wp2
                  go_roundw
                  case rel => exact ⟨i + 1, by omega, by go_num, by rw [RS.out], trivial, HJ2.out⟩
                  case measure => simp [intOf]; omega
              · obtain ⟨rfl, rfl⟩ : r = 0 ∧ e = 3 := by
                  rcases HR3.out with ⟨_, h1, h2⟩ | ⟨h, _⟩
                  · exact ⟨h1, h2⟩
                  · exact absurd (by have := js.out.1 (h i hlt2); rw [te, fe] at this; exact this.symm) jj
                clear HJ HR3
                have jb : (((q (ixS (s j2))).a == (q (ixS (s i))).b) : Bool) = false := by simpa using jj
                clear jj
                as_aux_lemma =>
                  clear ce te fe rs js sx sy cb ix iy ox1 ox2 ox3 oy1 oy2 oy3 HE HH HN OK
                  generalize rmS q s i = rr at *
                  generalize (q (ixS (s i))).a = xa at *
                  generalize (q (ixS (s i))).b = xb at *
                  generalize (q (ixS (s i))).lo = xl at *
                  generalize (q (ixS (s i))).hi = xh at *
                  generalize (q (ixS (s j2))).a = ya at *
                  generalize (q (ixS (s j2))).b = yb at *
                  generalize (q (ixS (s j2))).lo = yl at *
                  generalize (q (ixS (s j2))).hi = yh at *
                  generalize ixS (s i) = I at *
                  generalize ixS (s j2) = J at *
                  generalize hsx : s i = x at *
                  generalize hsy : s j2 = y at *
                  clear hsx hsy
                  go_wp2
                  go_ret2
                  exact ⟨rfl, Below.refl _ _⟩
            · have sx : 0 < s i := hx
              have sy : ¬ (0 < s j2) := hy
              have dx : decide (0 < s i) = true := decide_eq_true hx
              have dy : decide (0 < s j2) = false := decide_eq_false hy
              have wx1 : IntKind.i64.wrap (s i - 1) = ((ixS (s i) : Nat) : Int) := by rw [show s i - 1 = ((ixS (s i) : Nat) : Int) by unfold ixS; rw [if_pos sx]; omega]; exact IntWalk.i64_in _ (by omega)
              have wy0 : IntKind.i64.wrap (-(s j2)) = -(s j2) := IntWalk.i64_in _ (by omega)
              have wy1 : IntKind.i64.wrap (-(s j2) - 1) = ((ixS (s j2) : Nat) : Int) := by rw [show -(s j2) - 1 = ((ixS (s j2) : Nat) : Int) by unfold ixS; rw [if_neg sy]; omega]; exact IntWalk.i64_in _ (by omega)
              have ce : coS q (s i) = (q (ixS (s i))).hi := by unfold coS; exact if_pos sx
              have te : toS q (s i) = (q (ixS (s i))).b := by unfold toS; exact if_pos sx
              have fe : frS q (s j2) = (q (ixS (s j2))).b := by unfold frS; exact if_neg sy
              have ws : IntKind.i64.wrap (rmS q s i + (q (ixS (s i))).hi) = rmS q s i + (q (ixS (s i))).hi := IntWalk.i64_in _ (by omega)
              have RS : Hid (rmS q s (i + 1) = rmS q s i + (q (ixS (s i))).hi) := by show rmS q s (i + 1) = _; rw [rs.out, ce]
              by_cases jj : (q (ixS (s j2))).b = (q (ixS (s i))).b
              · have HJ2 : Hid (∀ j, j < i + 1 → joS q s k j) := fun j h => by
                  by_cases e' : j = i
                  · rw [e']; exact js.out.2 (by rw [te, fe, jj])
                  · exact HJ.out j (by omega)
                clear HJ HR3
                have jb : (((q (ixS (s j2))).b == (q (ixS (s i))).b) : Bool) = true := by simpa using jj
                clear jj
                as_aux_lemma =>
                  clear ce te fe rs js sx sy cb ix iy ox1 ox2 ox3 oy1 oy2 oy3 HE HH HN OK
                  generalize rmS q s i = rr at *
                  generalize (q (ixS (s i))).a = xa at *
                  generalize (q (ixS (s i))).b = xb at *
                  generalize (q (ixS (s i))).lo = xl at *
                  generalize (q (ixS (s i))).hi = xh at *
                  generalize (q (ixS (s j2))).a = ya at *
                  generalize (q (ixS (s j2))).b = yb at *
                  generalize (q (ixS (s j2))).lo = yl at *
                  generalize (q (ixS (s j2))).hi = yh at *
                  generalize ixS (s i) = I at *
                  generalize ixS (s j2) = J at *
                  generalize hsx : s i = x at *
                  generalize hsy : s j2 = y at *
                  clear hsx hsy
                  go_wp2
                  go_roundw
                  case rel => exact ⟨i + 1, by omega, by go_num, by rw [RS.out], trivial, HJ2.out⟩
                  case measure => simp [intOf]; omega
              · obtain ⟨rfl, rfl⟩ : r = 0 ∧ e = 3 := by
                  rcases HR3.out with ⟨_, h1, h2⟩ | ⟨h, _⟩
                  · exact ⟨h1, h2⟩
                  · exact absurd (by have := js.out.1 (h i hlt2); rw [te, fe] at this; exact this.symm) jj
                clear HJ HR3
                have jb : (((q (ixS (s j2))).b == (q (ixS (s i))).b) : Bool) = false := by simpa using jj
                clear jj
                as_aux_lemma =>
                  clear ce te fe rs js sx sy cb ix iy ox1 ox2 ox3 oy1 oy2 oy3 HE HH HN OK
                  generalize rmS q s i = rr at *
                  generalize (q (ixS (s i))).a = xa at *
                  generalize (q (ixS (s i))).b = xb at *
                  generalize (q (ixS (s i))).lo = xl at *
                  generalize (q (ixS (s i))).hi = xh at *
                  generalize (q (ixS (s j2))).a = ya at *
                  generalize (q (ixS (s j2))).b = yb at *
                  generalize (q (ixS (s j2))).lo = yl at *
                  generalize (q (ixS (s j2))).hi = yh at *
                  generalize ixS (s i) = I at *
                  generalize ixS (s j2) = J at *
                  generalize hsx : s i = x at *
                  generalize hsy : s j2 = y at *
                  clear hsx hsy
                  go_wp2
                  go_ret2
                  exact ⟨rfl, Below.refl _ _⟩
          · by_cases hy : 0 < s j2
            · have sx : ¬ (0 < s i) := hx
              have sy : 0 < s j2 := hy
              have dx : decide (0 < s i) = false := decide_eq_false hx
              have dy : decide (0 < s j2) = true := decide_eq_true hy
              have wx0 : IntKind.i64.wrap (-(s i)) = -(s i) := IntWalk.i64_in _ (by omega)
              have wx1 : IntKind.i64.wrap (-(s i) - 1) = ((ixS (s i) : Nat) : Int) := by rw [show -(s i) - 1 = ((ixS (s i) : Nat) : Int) by unfold ixS; rw [if_neg sx]; omega]; exact IntWalk.i64_in _ (by omega)
              have wy1 : IntKind.i64.wrap (s j2 - 1) = ((ixS (s j2) : Nat) : Int) := by rw [show s j2 - 1 = ((ixS (s j2) : Nat) : Int) by unfold ixS; rw [if_pos sy]; omega]; exact IntWalk.i64_in _ (by omega)
              have ce : coS q (s i) = -(q (ixS (s i))).lo := by unfold coS; exact if_neg sx
              have te : toS q (s i) = (q (ixS (s i))).a := by unfold toS; exact if_neg sx
              have fe : frS q (s j2) = (q (ixS (s j2))).a := by unfold frS; exact if_pos sy
              have ws : IntKind.i64.wrap (rmS q s i - (q (ixS (s i))).lo) = rmS q s i - (q (ixS (s i))).lo := IntWalk.i64_in _ (by omega)
              have RS : Hid (rmS q s (i + 1) = rmS q s i - (q (ixS (s i))).lo) := by show rmS q s (i + 1) = _; rw [rs.out, ce]; omega
              by_cases jj : (q (ixS (s j2))).a = (q (ixS (s i))).a
              · have HJ2 : Hid (∀ j, j < i + 1 → joS q s k j) := fun j h => by
                  by_cases e' : j = i
                  · rw [e']; exact js.out.2 (by rw [te, fe, jj])
                  · exact HJ.out j (by omega)
                clear HJ HR3
                have jb : (((q (ixS (s j2))).a == (q (ixS (s i))).a) : Bool) = true := by simpa using jj
                clear jj
                as_aux_lemma =>
                  clear ce te fe rs js sx sy cb ix iy ox1 ox2 ox3 oy1 oy2 oy3 HE HH HN OK
                  generalize rmS q s i = rr at *
                  generalize (q (ixS (s i))).a = xa at *
                  generalize (q (ixS (s i))).b = xb at *
                  generalize (q (ixS (s i))).lo = xl at *
                  generalize (q (ixS (s i))).hi = xh at *
                  generalize (q (ixS (s j2))).a = ya at *
                  generalize (q (ixS (s j2))).b = yb at *
                  generalize (q (ixS (s j2))).lo = yl at *
                  generalize (q (ixS (s j2))).hi = yh at *
                  generalize ixS (s i) = I at *
                  generalize ixS (s j2) = J at *
                  generalize hsx : s i = x at *
                  generalize hsy : s j2 = y at *
                  clear hsx hsy
                  go_wp2
                  go_roundw
                  case rel => exact ⟨i + 1, by omega, by go_num, by rw [RS.out], trivial, HJ2.out⟩
                  case measure => simp [intOf]; omega
              · obtain ⟨rfl, rfl⟩ : r = 0 ∧ e = 3 := by
                  rcases HR3.out with ⟨_, h1, h2⟩ | ⟨h, _⟩
                  · exact ⟨h1, h2⟩
                  · exact absurd (by have := js.out.1 (h i hlt2); rw [te, fe] at this; exact this.symm) jj
                clear HJ HR3
                have jb : (((q (ixS (s j2))).a == (q (ixS (s i))).a) : Bool) = false := by simpa using jj
                clear jj
                as_aux_lemma =>
                  clear ce te fe rs js sx sy cb ix iy ox1 ox2 ox3 oy1 oy2 oy3 HE HH HN OK
                  generalize rmS q s i = rr at *
                  generalize (q (ixS (s i))).a = xa at *
                  generalize (q (ixS (s i))).b = xb at *
                  generalize (q (ixS (s i))).lo = xl at *
                  generalize (q (ixS (s i))).hi = xh at *
                  generalize (q (ixS (s j2))).a = ya at *
                  generalize (q (ixS (s j2))).b = yb at *
                  generalize (q (ixS (s j2))).lo = yl at *
                  generalize (q (ixS (s j2))).hi = yh at *
                  generalize ixS (s i) = I at *
                  generalize ixS (s j2) = J at *
                  generalize hsx : s i = x at *
                  generalize hsy : s j2 = y at *
                  clear hsx hsy
                  go_wp2
                  go_ret2
                  exact ⟨rfl, Below.refl _ _⟩
            · have sx : ¬ (0 < s i) := hx
              have sy : ¬ (0 < s j2) := hy
              have dx : decide (0 < s i) = false := decide_eq_false hx
              have dy : decide (0 < s j2) = false := decide_eq_false hy
              have wx0 : IntKind.i64.wrap (-(s i)) = -(s i) := IntWalk.i64_in _ (by omega)
              have wx1 : IntKind.i64.wrap (-(s i) - 1) = ((ixS (s i) : Nat) : Int) := by rw [show -(s i) - 1 = ((ixS (s i) : Nat) : Int) by unfold ixS; rw [if_neg sx]; omega]; exact IntWalk.i64_in _ (by omega)
              have wy0 : IntKind.i64.wrap (-(s j2)) = -(s j2) := IntWalk.i64_in _ (by omega)
              have wy1 : IntKind.i64.wrap (-(s j2) - 1) = ((ixS (s j2) : Nat) : Int) := by rw [show -(s j2) - 1 = ((ixS (s j2) : Nat) : Int) by unfold ixS; rw [if_neg sy]; omega]; exact IntWalk.i64_in _ (by omega)
              have ce : coS q (s i) = -(q (ixS (s i))).lo := by unfold coS; exact if_neg sx
              have te : toS q (s i) = (q (ixS (s i))).a := by unfold toS; exact if_neg sx
              have fe : frS q (s j2) = (q (ixS (s j2))).b := by unfold frS; exact if_neg sy
              have ws : IntKind.i64.wrap (rmS q s i - (q (ixS (s i))).lo) = rmS q s i - (q (ixS (s i))).lo := IntWalk.i64_in _ (by omega)
              have RS : Hid (rmS q s (i + 1) = rmS q s i - (q (ixS (s i))).lo) := by show rmS q s (i + 1) = _; rw [rs.out, ce]; omega
              by_cases jj : (q (ixS (s j2))).b = (q (ixS (s i))).a
              · have HJ2 : Hid (∀ j, j < i + 1 → joS q s k j) := fun j h => by
                  by_cases e' : j = i
                  · rw [e']; exact js.out.2 (by rw [te, fe, jj])
                  · exact HJ.out j (by omega)
                clear HJ HR3
                have jb : (((q (ixS (s j2))).b == (q (ixS (s i))).a) : Bool) = true := by simpa using jj
                clear jj
                as_aux_lemma =>
                  clear ce te fe rs js sx sy cb ix iy ox1 ox2 ox3 oy1 oy2 oy3 HE HH HN OK
                  generalize rmS q s i = rr at *
                  generalize (q (ixS (s i))).a = xa at *
                  generalize (q (ixS (s i))).b = xb at *
                  generalize (q (ixS (s i))).lo = xl at *
                  generalize (q (ixS (s i))).hi = xh at *
                  generalize (q (ixS (s j2))).a = ya at *
                  generalize (q (ixS (s j2))).b = yb at *
                  generalize (q (ixS (s j2))).lo = yl at *
                  generalize (q (ixS (s j2))).hi = yh at *
                  generalize ixS (s i) = I at *
                  generalize ixS (s j2) = J at *
                  generalize hsx : s i = x at *
                  generalize hsy : s j2 = y at *
                  clear hsx hsy
                  go_wp2
                  go_roundw
                  case rel => exact ⟨i + 1, by omega, by go_num, by rw [RS.out], trivial, HJ2.out⟩
                  case measure => simp [intOf]; omega
              · obtain ⟨rfl, rfl⟩ : r = 0 ∧ e = 3 := by
                  rcases HR3.out with ⟨_, h1, h2⟩ | ⟨h, _⟩
                  · exact ⟨h1, h2⟩
                  · exact absurd (by have := js.out.1 (h i hlt2); rw [te, fe] at this; exact this.symm) jj
                clear HJ HR3
                have jb : (((q (ixS (s j2))).b == (q (ixS (s i))).a) : Bool) = false := by simpa using jj
                clear jj
                as_aux_lemma =>
                  clear ce te fe rs js sx sy cb ix iy ox1 ox2 ox3 oy1 oy2 oy3 HE HH HN OK
                  generalize rmS q s i = rr at *
                  generalize (q (ixS (s i))).a = xa at *
                  generalize (q (ixS (s i))).b = xb at *
                  generalize (q (ixS (s i))).lo = xl at *
                  generalize (q (ixS (s i))).hi = xh at *
                  generalize (q (ixS (s j2))).a = ya at *
                  generalize (q (ixS (s j2))).b = yb at *
                  generalize (q (ixS (s j2))).lo = yl at *
                  generalize (q (ixS (s j2))).hi = yh at *
                  generalize ixS (s i) = I at *
                  generalize ixS (s j2) = J at *
                  generalize hsx : s i = x at *
                  generalize hsy : s j2 = y at *
                  clear hsx hsy
                  go_wp2
                  go_ret2
                  exact ⟨rfl, Below.refl _ _⟩
        · have hl4 : ¬ ((i : Int) < k) := by omega
          have ik : i = k := by omega
          obtain ⟨h1, rfl⟩ : r = rmS q s k ∧ e = 0 := by
            rcases HR3.out with ⟨⟨j, h1, h2⟩, _⟩ | ⟨_, h⟩
            · exact absurd (HJ.out j (by omega)) h2
            · exact h
          have HV : Hid (rmS q s i = r) := by show rmS q s i = r; rw [ik, h1]
          clear h1 ik HR3 HJ
          generalize rmS q s i = rr at *
          go_wp2
          go_ret2
          exact ⟨by have h := HV.out; subst h; rfl, Below.refl _ _⟩
end Go.Proofs.YtiebojccnaelbaeDoor
