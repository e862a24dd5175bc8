/- What the document's own reckoning (package noonref1) answers of points: Points, corner, Over. -/
import Derived.Test.YtcofpgbaokmbmafDoorHullOv
import Derived.Lib.SmallJoins
import Derived.Deep.CutRange
import Derived.BigRegion
import Derived.BigQuiet
import Derived.Deep.QuietTactic
import Derived.IntWalk
namespace Go.Proofs.YtcofpgbaokmbmafDoor
open Go.ChangeShapes Go.WideShapes Go.ChangeAt Go.RowKit Go.Joins
set_option linter.unusedVariables false
set_option linter.unusedSimpArgs false

set_option maxHeartbeats 4000000 in
theorem rpoints_full (a : Option Addr) (n cap : Nat) (w : World) (h : 60 < n) (hm : n ≤ 9223372036854775807) :
    Calls Tryd.prog 5 #[.slice a n cap] w fun o w' => o = .returned (.int .i64 4) ∧ Below w.heap.size w w' := by
  have h3 : (60 : Int) < n := by omega
  go_enter Tryd.func5, Tryd.ntmps5
  go_wp2
  go_ret
  exact ⟨rfl, Below.refl _ _⟩
set_option maxRecDepth 100000 in
set_option maxHeartbeats 8000000 in
theorem rpoints_row (ad : Option Addr) (n cap : Nat) (f : Nat → Int × Int) (e : Int) (w : World) (h : n ≤ 60) (hP : n = 0 ∨ ∃ b off : Nat, ad = some ⟨b, off, none⟩ ∧ Pls w b off n f) (hE : ((∃ i, i < n ∧ ¬ okP (f i)) ∧ e = 1) ∨ ((∀ i, i < n → okP (f i)) ∧ e = 0)) :
    Calls Tryd.prog 5 #[.slice ad n cap] w fun o w' => o = .returned (.int .i64 e) ∧ Below w.heap.size w w' := by
  have h3 : ¬ ((60 : Int) < n) := by omega
  have HA : Hid (n = 0 ∨ ∃ b off : Nat, ad = some ⟨b, off, none⟩ ∧ Pls w b off n f) := hP
  have HE : Hid _ := hE
  clear hP hE
  go_enter Tryd.func5, Tryd.ntmps5
  go_wp2
  go_loopw [3] (fun i wr => ∃ k : Nat, k ≤ n ∧ i = .int .i64 k ∧ Below w.heap.size w wr ∧ ∀ j, j < k → okP (f j)) (fun i _ => n - (intOf i).toNat)
  case atStart => exact ⟨0, Nat.zero_le _, rfl, Below.refl _ _, fun j hj => by omega⟩
  case round =>
    obtain ⟨k, hk, rfl, hw, hg⟩ := hrel
    have HG : Hid (∀ j, j < k → okP (f j)) := hg
    have HW : Hid (Below w.heap.size w wr) := hw
    clear hg
    by_cases hlt : k < n
    · have hl3 : (k : Int) < n := by omega
      obtain ⟨b, off, rfl, hP⟩ : ∃ b off : Nat, ad = some ⟨b, off, none⟩ ∧ Pls w b off n f := by
        rcases HA.out with e | h
        · omega
        · exact h
      obtain ⟨x0, x1⟩ := (hP.on hw) k hlt
      have HB : Hid (¬ okP (f k) → e = 1) := fun nk => by
        rcases HE.out with ⟨_, h⟩ | ⟨g, _⟩
        · exact h
        · exact absurd (g k hlt) nk
      have HY : Hid (okP (f k) → ∀ j, j < k + 1 → okP (f j)) := fun o j hj => by
        by_cases q : j = k
        · rw [q]; exact o
        · exact HG.out j (by omega)
      have HK : Hid (okP (f k) ↔ (-1000000 ≤ (f k).1 ∧ (f k).1 ≤ 1000000) ∧ (-1000000 ≤ (f k).2 ∧ (f k).2 ≤ 1000000)) := Iff.rfl
      clear HA HG hP hw HE
      generalize (f k).1 = px at *
      generalize (f k).2 = py at *
      by_cases c1 : px < -1000000
      · have d1 : decide (px < -1000000) = true := decide_eq_true c1
        have E1 : Hid (e = 1) := HB.out (fun o => by have := (HK.out.1 o).1.1; omega)
        clear HB HY HK
        as_aux_lemma =>
          go_wp2
          go_ret
          exact ⟨by rw [E1.out]; rfl, HW.out⟩
      · have d1 : decide (px < -1000000) = false := decide_eq_false c1
        by_cases c2 : 1000000 < px
        · have d2 : decide (1000000 < px) = true := decide_eq_true c2
          have E1 : Hid (e = 1) := HB.out (fun o => by have := (HK.out.1 o).1.2; omega)
          clear HB HY HK
          as_aux_lemma =>
            go_wp2
            go_ret
            exact ⟨by rw [E1.out]; rfl, HW.out⟩
        · have d2 : decide (1000000 < px) = false := decide_eq_false c2
          by_cases c3 : py < -1000000
          · have d3 : decide (py < -1000000) = true := decide_eq_true c3
            have E1 : Hid (e = 1) := HB.out (fun o => by have := (HK.out.1 o).2.1; omega)
            clear HB HY HK
            as_aux_lemma =>
              go_wp2
              go_ret
              exact ⟨by rw [E1.out]; rfl, HW.out⟩
          · have d3 : decide (py < -1000000) = false := decide_eq_false c3
            by_cases c4 : 1000000 < py
            · have d4 : decide (1000000 < py) = true := decide_eq_true c4
              have E1 : Hid (e = 1) := HB.out (fun o => by have := (HK.out.1 o).2.2; omega)
              clear HB HY HK
              as_aux_lemma =>
                go_wp2
                go_ret
                exact ⟨by rw [E1.out]; rfl, HW.out⟩
            · have d4 : decide (1000000 < py) = false := decide_eq_false c4
              have Y1 : Hid (∀ j, j < k + 1 → okP (f j)) := HY.out (HK.out.2 ⟨⟨by omega, by omega⟩, by omega, by omega⟩)
              clear HB HY HK
              as_aux_lemma =>
                go_wp2
                go_roundw
                case rel => exact ⟨k + 1, by omega, by go_num, HW.out, Y1.out⟩
                case measure => simp [intOf]; omega
    · have hl3 : ¬ ((k : Int) < n) := by omega
      have E0 : Hid (e = 0) := by
        show e = 0
        rcases HE.out with ⟨⟨i, hi, ni⟩, _⟩ | ⟨_, h⟩
        · exact absurd (HG.out i (by omega)) ni
        · exact h
      clear HA HG hw HE
      go_wp2
      go_ret
      exact ⟨by rw [E0.out]; rfl, HW.out⟩
theorem rpoints_any (a : Option Addr) (n cap : Nat) (f : Nat → Int × Int) (e : Int) (w : World) (hH : PHanded w a n f) (hE : PtE n f e) :
    Calls Tryd.prog 5 #[.slice a n cap] w fun o w' => o = .returned (.int .i64 e) ∧ Below w.heap.size w w' := by
  rcases hE with ⟨h, rfl⟩ | ⟨h, g, rfl⟩ | ⟨h, g, rfl⟩
  · exact rpoints_full a n cap w h hH.1
  · exact rpoints_row a n cap f 1 w h hH.2 (Or.inl ⟨g, rfl⟩)
  · exact rpoints_row a n cap f 0 w h hH.2 (Or.inr ⟨g, rfl⟩)
/-- What of a point's being a corner is shown by the first i. -/
def CorI (f : Nat → Int × Int) (n i : Nat) (p : Int × Int) : Prop := (∀ j, j < i → (f j).1 = p.1 → (f j).2 ≤ p.2) ∧ ∀ j, j < i → ∀ k, k < n → (f j).1 < p.1 → p.1 < (f k).1 → 0 < hgt (f j) (f k) p
def CorK (f : Nat → Int × Int) (i k : Nat) (p : Int × Int) : Prop := ∀ k', k' < k → (f i).1 < p.1 → p.1 < (f k').1 → 0 < hgt (f i) (f k') p
theorem corI_next {f : Nat → Int × Int} {n i : Nat} {p : Int × Int} (h : CorI f n i p) (h1 : (f i).1 = p.1 → (f i).2 ≤ p.2) (h2 : CorK f i n p) : CorI f n (i + 1) p :=
  ⟨fun j hj e => by
    by_cases q : j = i
    · subst q; exact h1 e
    · exact h.1 j (by omega) e, fun j hj k hk a b => by
    by_cases q : j = i
    · subst q; exact h2 k hk a b
    · exact h.2 j (by omega) k hk a b⟩
theorem corI_all {f : Nat → Int × Int} {n : Nat} {p : Int × Int} (hp : p ∈ lst f n) (h : CorI f n n p) : Cor (lst f n) p :=
  ⟨hp, fun i hi e => by obtain ⟨j, hj, rfl⟩ := mem_lst.1 hi; exact h.1 j hj e, fun a ha b hb la lb => by
    obtain ⟨j, hj, rfl⟩ := mem_lst.1 ha
    obtain ⟨k, hk, rfl⟩ := mem_lst.1 hb
    exact h.2 j hj k hk la lb⟩
def CoR (f : Nat → Int × Int) (n : Nat) (p : Int × Int) (w : World) (o : Ending) (w' : World) : Prop := ((o = .returned (.bool true) ∧ Cor (lst f n) p) ∨ (o = .returned (.bool false) ∧ ¬ Cor (lst f n) p)) ∧ Below w.heap.size w w'
set_option maxRecDepth 100000 in
set_option maxHeartbeats 8000000 in
theorem rcorner_any (b off n cap : Nat) (f : Nat → Int × Int) (p : Int × Int) (w : World) (h60 : n ≤ 60) (hP : Pls w b off n f) (hok : ∀ i, i < n → okP (f i)) (hp : p ∈ lst f n) :
    Calls Tryd.prog 20 #[.slice (some ⟨b, off, none⟩) n cap, .agg #[.int .i64 p.1, .int .i64 p.2]] w fun o w' => CoR f n p w o w' := by
  have okp : okP p := by obtain ⟨j, hj, rfl⟩ := mem_lst.1 hp; exact hok j hj
  have HP : Hid (Pls w b off n f) := hP
  have HO : Hid (∀ i, i < n → okP (f i)) := hok
  have HM : Hid (p ∈ lst f n) := hp
  have HOP : Hid (okP p) := okp
  clear hP hok hp okp
  go_enter Tryd.func20, Tryd.ntmps20
  go_wp2
  go_loopw [5] (fun vi wr => ∃ i : Nat, i ≤ n ∧ vi = .int .i64 i ∧ Row wr w.heap.size [.int .i64 p.1, .int .i64 p.2] ∧ Below w.heap.size w wr ∧ CorI f n i p) (fun i _ => n - (intOf i).toNat)
  case atStart => exact ⟨0, Nat.zero_le _, rfl, Row.made rfl, rbel_al (Below.refl _ _), fun j hj => by omega, fun j hj => by omega⟩
  case round =>
    obtain ⟨i, hi, rfl, hR, hw, hC⟩ := hrel
    have p0 := hR.c 0 _ rfl
    have p1 := hR.c 1 _ rfl
    have zp := hR.lt
    have HR : Hid (Row wr w.heap.size [.int .i64 p.1, .int .i64 p.2]) := hR
    have HW : Hid (Below w.heap.size w wr) := hw
    have HC : Hid (CorI f n i p) := hC
    by_cases hlt : i < n
    · have hl3 : (i : Int) < n := by omega
      obtain ⟨x0, x1⟩ := (HP.out.on hw) i hlt
      have zb : b < wr.heap.size := World.block_lt_of_cell? _ _ x0
      clear hR hw hC
      by_cases c0 : (f i).1 = p.1 ∧ p.2 < (f i).2
      · have HN : Hid (¬ Cor (lst f n) p) := fun h => by have := h.2.1 _ (lst_in hlt) c0.1; omega
        have d1 : ((f i).1 == p.1) = true := beq_iff_eq.2 c0.1
        have d2 : decide (p.2 < (f i).2) = true := decide_eq_true c0.2
        clear c0 HC HOP HO HP HM
        generalize (f i).1 = ax at *
        generalize (f i).2 = ay at *
        generalize p.1 = px at *
        generalize p.2 = py at *
        as_aux_lemma =>
          go_wp2
          go_quiet (fail)
          go_wp2
          go_ret
          exact ⟨Or.inr ⟨rfl, HN.out⟩, rbel_drn HW.out⟩
      · have H1 : Hid ((f i).1 = p.1 → (f i).2 ≤ p.2) := fun e => by apply Classical.byContradiction; intro n; exact c0 ⟨e, by omega⟩
        have hd : (((f i).1 == p.1) = false) ∨ (((f i).1 == p.1) = true ∧ decide (p.2 < (f i).2) = false) := by
          by_cases e : (f i).1 = p.1
          · exact Or.inr ⟨beq_iff_eq.2 e, decide_eq_false (fun lt => c0 ⟨e, lt⟩)⟩
          · exact Or.inl (by simpa using e)
        clear c0
        rcases hd with d1 | ⟨d1, d2⟩
        all_goals
          go_wp2
          go_quiet (fail)
          go_wp2
          go_loopw [6] (fun vk wr' => ∃ k : Nat, k ≤ n ∧ vk = .int .i64 k ∧ Row wr' w.heap.size [.int .i64 p.1, .int .i64 p.2] ∧ Below w.heap.size w wr' ∧ CorK f i k p) (fun k _ => n - (intOf k).toNat)
          case atStart => exact ⟨0, Nat.zero_le _, rfl, HR.out.drn, rbel_drn HW.out, fun k' hk' => by omega⟩
          case round =>
            clear HR HW p0 p1 zp x0 x1 zb d1
            (try clear d2)
            obtain ⟨k, hk, rfl, hR, hw, hK⟩ := hrel
            have p0 := hR.c 0 _ rfl
            have p1 := hR.c 1 _ rfl
            have zp := hR.lt
            have HR : Hid (Row wr w.heap.size [.int .i64 p.1, .int .i64 p.2]) := hR
            have HW : Hid (Below w.heap.size w wr) := hw
            have HK : Hid (CorK f i k p) := hK
            by_cases hlk : k < n
            · have hl4 : (k : Int) < n := by omega
              obtain ⟨x0, x1⟩ := (HP.out.on hw) i hlt
              obtain ⟨y0, y1⟩ := (HP.out.on hw) k hlk
              have zb : b < wr.heap.size := World.block_lt_of_cell? _ _ x0
              obtain ⟨⟨a1, a2⟩, a3, a4⟩ := HO.out i hlt
              obtain ⟨⟨b1, b2⟩, b3, b4⟩ := HO.out k hlk
              obtain ⟨⟨q1, q2⟩, q3, q4⟩ := HOP.out
              obtain ⟨u1, hu1⟩ : ∃ u, u = p.2 - (f i).2 := ⟨_, rfl⟩
              obtain ⟨u2, hu2⟩ : ∃ u, u = (f k).1 - (f i).1 := ⟨_, rfl⟩
              obtain ⟨u3, hu3⟩ : ∃ u, u = (f k).2 - (f i).2 := ⟨_, rfl⟩
              obtain ⟨u4, hu4⟩ : ∃ u, u = p.1 - (f i).1 := ⟨_, rfl⟩
              have w1 : IntKind.i64.wrap (p.2 - (f i).2) = u1 := by rw [hu1]; exact IntWalk.i64_in _ (by omega)
              have w2 : IntKind.i64.wrap ((f k).1 - (f i).1) = u2 := by rw [hu2]; exact IntWalk.i64_in _ (by omega)
              have w3 : IntKind.i64.wrap ((f k).2 - (f i).2) = u3 := by rw [hu3]; exact IntWalk.i64_in _ (by omega)
              have w4 : IntKind.i64.wrap (p.1 - (f i).1) = u4 := by rw [hu4]; exact IntWalk.i64_in _ (by omega)
              have m1 := mul_in (u := u1) (v := u2) (by omega) (by omega) (by omega) (by omega)
              have m2 := mul_in (u := u3) (v := u4) (by omega) (by omega) (by omega) (by omega)
              obtain ⟨M1, hM1⟩ : ∃ u, u = u1 * u2 := ⟨_, rfl⟩
              obtain ⟨M2, hM2⟩ : ∃ u, u = u3 * u4 := ⟨_, rfl⟩
              have w5 : IntKind.i64.wrap (u1 * u2) = M1 := by rw [hM1]; exact IntWalk.i64_in _ (by omega)
              have w6 : IntKind.i64.wrap (u3 * u4) = M2 := by rw [hM2]; exact IntWalk.i64_in _ (by omega)
              have HG : Hid (hgt (f i) (f k) p = M1 - M2) := by show hgt _ _ _ = _; rw [hM1, hM2, hu1, hu2, hu3, hu4]; rfl
              have HX : Hid ((¬ ((f i).1 < p.1 ∧ p.1 < (f k).1) ∨ 0 < hgt (f i) (f k) p) → CorK f i (k + 1) p) := fun h k' hk' la lb => by
                by_cases e : k' = k
                · subst e
                  rcases h with h | h
                  · exact absurd ⟨la, lb⟩ h
                  · exact h
                · exact HK.out k' (by omega) la lb
              have HN : Hid ((f i).1 < p.1 → p.1 < (f k).1 → ¬ 0 < hgt (f i) (f k) p → ¬ Cor (lst f n) p) := fun la lb h c => h (c.2.2 _ (lst_in hlt) _ (lst_in hlk) la lb)
              clear hR hw hK HK HP HO HOP HM HC H1 m1 m2 a1 a2 a3 a4 b1 b2 b3 b4 q1 q2 q3 q4 hu1 hu2 hu3 hu4 hM1 hM2
              generalize hgt (f i) (f k) p = hh at *
              generalize (f i).1 = ax at *
              generalize (f i).2 = ay at *
              generalize (f k).1 = bx at *
              generalize (f k).2 = by' at *
              by_cases c1 : ax < p.1
              · have d1 : decide (ax < p.1) = true := decide_eq_true c1
                by_cases c2 : p.1 < bx
                · have d2 : decide (p.1 < bx) = true := decide_eq_true c2
                  by_cases c3 : M1 ≤ M2
                  · have d3 : decide (M1 ≤ M2) = true := decide_eq_true c3
                    have HNo : Hid (¬ Cor (lst f n) p) := HN.out c1 c2 (by have := HG.out; omega)
                    clear HX HN HG c1 c2 c3
                    as_aux_lemma =>
                      go_wp2
                      go_ret
                      exact ⟨Or.inr ⟨rfl, HNo.out⟩, rbel_al (rbel_al HW.out)⟩
                  · have d3 : decide (M1 ≤ M2) = false := decide_eq_false c3
                    have HX2 : Hid (CorK f i (k + 1) p) := HX.out (Or.inr (by have := HG.out; omega))
                    clear HX HN HG c1 c2 c3
                    as_aux_lemma =>
                      go_wp2
                      go_roundw
                      case rel => exact ⟨k + 1, by omega, by go_num, HR.out.al.al, rbel_al (rbel_al HW.out), HX2.out⟩
                      case measure => simp [intOf]; omega
                · have d2 : decide (p.1 < bx) = false := decide_eq_false c2
                  have HX2 : Hid (CorK f i (k + 1) p) := HX.out (Or.inl (fun h => c2 h.2))
                  clear HX HN HG c1 c2
                  as_aux_lemma =>
                    go_wp2
                    go_roundw
                    case rel => exact ⟨k + 1, by omega, by go_num, HR.out.al.al, rbel_al (rbel_al HW.out), HX2.out⟩
                    case measure => simp [intOf]; omega
              · have d1 : decide (ax < p.1) = false := decide_eq_false c1
                have HX2 : Hid (CorK f i (k + 1) p) := HX.out (Or.inl (fun h => c1 h.1))
                clear HX HN HG c1
                as_aux_lemma =>
                  go_wp2
                  go_roundw
                  case rel => exact ⟨k + 1, by omega, by go_num, HR.out.al.al, rbel_al (rbel_al HW.out), HX2.out⟩
                  case measure => simp [intOf]; omega
            · have hl4 : ¬ ((k : Int) < n) := by omega
              have e : k = n := by omega
              have HC2 : Hid (CorI f n (i + 1) p) := by show CorI f n (i + 1) p; rw [e] at hK; exact corI_next HC.out H1.out hK
              clear hR hw hK HK e HP HO HOP HM HC H1
              go_wp2
              go_roundw
              case rel => exact ⟨i + 1, by omega, by go_num, HR.out, HW.out, HC2.out⟩
              case measure => simp [intOf]; omega
    · have hl3 : ¬ ((i : Int) < n) := by omega
      have e : i = n := by omega
      have HCo : Hid (Cor (lst f n) p) := by show Cor (lst f n) p; rw [e] at hC; exact corI_all HM.out hC
      clear hR hw hC e HC HP HO HOP HM
      go_wp2
      go_ret
      exact ⟨Or.inl ⟨rfl, HCo.out⟩, HW.out⟩
end Go.Proofs.YtcofpgbaokmbmafDoor
