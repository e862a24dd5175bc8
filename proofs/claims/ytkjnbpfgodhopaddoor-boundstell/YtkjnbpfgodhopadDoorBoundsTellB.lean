/- The ways through the law BoundsTell, of edges as they may be, over any answers that are the same. -/
import Derived.Test.YtkjnbpfgodhopadDoorBoundsDef
import Derived.Test.YtkjnbpfgodhopadDoorBoundsTight
import Derived.Test.YtkjnbpfgodhopadDoorTold
import Derived.Deep.CutRange
import Derived.Deep.CutBlock
import Derived.BigRegion
import Derived.WalkKit
import Derived.ProofKit
import Derived.OpenShut
import Derived.Outline
import Derived.Below
import Derived.IntWalk
import Derived.Deep.QuietTactic
import Derived.BigQuiet
import Derived.WalkLawsBesides
namespace Go.Proofs.YtkjnbpfgodhopadDoor.boundsTell
open Go.ChangeShapes Go.WideShapes Go.ChangeAt Go.RowKit Go.Joins Go.Proofs.YtkjnbpfgodhopadDoor.told
set_option linter.unusedVariables false
set_option linter.unusedSimpArgs false

/-- The document's own table, in memory. -/
abbrev DTab (q : Nat → Eg) (m n : Nat) (d h : Value) (u : World) : Prop := ∃ (gd cd gh ch : Nat) (Db Hb : Nat → Nat) (S : Tb), d = .slice (some ⟨gd, 0, none⟩) n cd ∧ h = .slice (some ⟨gh, 0, none⟩) n ch ∧ Tab u gd gh n Db Hb S ∧ IsT q m n S
theorem DTab.on {q : Nat → Eg} {m n : Nat} {d h : Value} {W u : World} (hb : Below W.heap.size W u) (t : DTab q m n d h W) : DTab q m n d h u := by
  obtain ⟨gd, cd, gh, ch, Db, Hb, S, e1, e2, TB, IT⟩ := t
  exact ⟨gd, cd, gh, ch, Db, Hb, S, e1, e2, TB.on hb, IT⟩
/-- The first clock that is no time; none: as many as there are. -/
theorem first_bad (c : Nat → Int) : ∀ k, ∃ j, j ≤ k ∧ (∀ i, i < j → timeB (c i) = true) ∧ (j < k → timeB (c j) = false)
  | 0 => ⟨0, Nat.le_refl _, fun i hi => by omega, fun h => by omega⟩
  | k + 1 => by
    obtain ⟨j, h1, h2, h3⟩ := first_bad c k
    by_cases e : j < k
    · exact ⟨j, by omega, h2, fun _ => h3 e⟩
    · obtain rfl : j = k := by omega
      cases b : timeB (c j) with
      | true => exact ⟨j + 1, Nat.le_refl _, fun i hi => by
          by_cases e' : i = j
          · rw [e']; exact b
          · exact h2 i (by omega), fun h => by omega⟩
      | false => exact ⟨j, by omega, h2, fun _ => b⟩
theorem badC_of {c : Nat → Int} {j k : Nat} (h : j < k) (b : timeB (c j) = false) : badC c k := by
  refine ⟨j, h, ?_⟩
  unfold timeB at b
  have := of_decide_eq_false b
  omega
theorem not_badC {c : Nat → Int} {k : Nat} (h : ∀ i, i < k → timeB (c i) = true) : ¬ badC c k := by
  rintro ⟨i, hi, g⟩
  have := h i hi
  unfold timeB at this
  have := of_decide_eq_true this
  omega
set_option maxRecDepth 100000 in
set_option maxHeartbeats 8000000 in
theorem good (n : Nat) (a : Option Addr) (m cap : Nat) (q : Nat → Eg) (x y : Int) (ca : Option Addr) (k cc : Nat) (c : Nat → Int) (fb : Bool) (fe : Int) (w : World) (hg : Hid (EnvE w)) (hE : Egs n q m) (hZ : eE n q m = 0) (hH : EHanded w a m q) (hK : NHanded w ca k c) (hF : FitA n q m k c fb fe) (ae : Int) (T : Tb) (hA : AllA q m n ae T) (lo hi be : Int) (hB : BetA n q m x y lo hi be)
    (cE : ∀ u, Below w.heap.size w u → Calls Tryd.prog 15 #[.int .i64 n, .slice a m cap] u fun e w' => e = .returned (.int .i64 0) ∧ Below u.heap.size u w')
    (cC : ∀ u, Below w.heap.size w u → Calls Tryd.prog 17 #[.int .i64 n, .slice a m cap] u fun e w' => e = .returned (errv 0) ∧ Below u.heap.size u w')
    (cF : ∀ u, Below w.heap.size w u → Calls Tryd.prog 19 #[.int .i64 n, .slice a m cap, .slice ca k cc] u fun e w' => e = .returned (.tuple #[.bool fb, errv fe]) ∧ Below u.heap.size u w')
    (cA : ∀ u, Below w.heap.size w u → Calls Tryd.prog 21 #[.int .i64 n, .slice a m cap] u fun e w' => ∃ s h, e = .returned (.tuple #[s, h, errv ae]) ∧ (ae = 0 → STab w' s h n T) ∧ Below u.heap.size u w')
    (cB : ∀ u, Below w.heap.size w u → Calls Tryd.prog 22 #[.int .i64 n, .slice a m cap, .int .i64 x, .int .i64 y] u fun e w' => e = .returned (.tuple #[sp lo hi, errv be]) ∧ Below u.heap.size u w') :
    Calls Tryd.prog 5 #[.int .i64 n, .slice a m cap, .int .i64 x, .int .i64 y, .slice ca k cc] w fun e w' => e = .returned (.bool true) ∧ Below w.heap.size w w' := by
  have hn1 := hE.n1
  have hn6 := hE.n6
  have hm40 := hE.m40
  have kmax := hK.1
  have HF : Hid ((¬ (k : Int) = n ∧ fb = false ∧ fe = 3) ∨ ((k : Int) = n ∧ badC c k ∧ fb = false ∧ fe = 1) ∨ ((k : Int) = n ∧ ¬ badC c k ∧ fb = fitB q c m ∧ fe = 0)) := by
    rcases hF with ⟨h, _⟩ | ⟨_, h1, h2, h3⟩ | ⟨_, h1, h2, h3, h4⟩ | ⟨_, h1, h2, h3, h4⟩
    · exact absurd hZ h
    · exact Or.inl ⟨h1, h2, h3⟩
    · exact Or.inr (Or.inl ⟨h1, h2, h3, h4⟩)
    · exact Or.inr (Or.inr ⟨h1, h2, h3, h4⟩)
  have HE : Hid (Egs n q m) := hE
  have HH : Hid (EHanded w a m q) := hH
  have HK : Hid (NHanded w ca k c) := hK
  have cT := fun (v : Int) (u : World) => rtime_any v u
  have cRn : Neg (Arc q m) n → ∀ u, Below w.heap.size w u → Calls Tryd.prog 20 #[.int .i64 n, .slice a m cap] u fun e w' => e = .returned (.tuple #[.slice none 0 0, .slice none 0 0, .bool false]) ∧ Below u.heap.size u w' := fun hN u hu =>
    (rtight_any n a m cap q u hE (hH.on hu)).mono fun e w' ⟨h, hb⟩ => by
      rcases h with ⟨_, rfl⟩ | ⟨hN', _⟩
      · exact ⟨rfl, hb⟩
      · exact absurd hN hN'
  have cRt : ¬ Neg (Arc q m) n → ∀ u, Below w.heap.size w u → Calls Tryd.prog 20 #[.int .i64 n, .slice a m cap] u fun e w' => ∃ (gd cd gh ch : Nat) (Db Hb : Nat → Nat) (S : Tb), e = .returned (.tuple #[.slice (some ⟨gd, 0, none⟩) n cd, .slice (some ⟨gh, 0, none⟩) n ch, .bool true]) ∧ Tab w' gd gh n Db Hb S ∧ IsT q m n S ∧ Below u.heap.size u w' := fun hN u hu =>
    (rtight_any n a m cap q u hE (hH.on hu)).mono fun e w' ⟨h, hb⟩ => by
      rcases h with ⟨hN', _⟩ | ⟨_, gd, cd, gh, ch, Db, Hb, S, rfl, TB, IT⟩
      · exact absurd hN' hN
      · exact ⟨gd, cd, gh, ch, Db, Hb, S, rfl, TB, IT, hb⟩
  have HA : Hid (AllA q m n ae T) := hA
  have HB : Hid ((x < 0 ∧ lo = 0 ∧ hi = 0 ∧ be = 1) ∨ (0 ≤ x ∧ (n : Int) ≤ x ∧ lo = 0 ∧ hi = 0 ∧ be = 1) ∨ (0 ≤ x ∧ x < n ∧ y < 0 ∧ lo = 0 ∧ hi = 0 ∧ be = 1) ∨ (0 ≤ x ∧ x < n ∧ 0 ≤ y ∧ (n : Int) ≤ y ∧ lo = 0 ∧ hi = 0 ∧ be = 1) ∨
      (0 ≤ x ∧ x < n ∧ 0 ≤ y ∧ y < n ∧ ae ≠ 0 ∧ lo = 0 ∧ hi = 0 ∧ be = ae) ∨ (0 ≤ x ∧ x < n ∧ 0 ≤ y ∧ y < n ∧ ae = 0 ∧ T x.toNat y.toNat = none ∧ lo = 0 ∧ hi = 0 ∧ be = 5) ∨
      (0 ≤ x ∧ x < n ∧ 0 ≤ y ∧ y < n ∧ ae = 0 ∧ (∃ z, T x.toNat y.toNat = some z) ∧ lo = spLo T x.toNat y.toNat ∧ hi = spHi T x.toNat y.toNat ∧ be = 0)) := by
    rcases hB with ⟨h, _⟩ | ⟨_, h, h1, h2, h3⟩ | ⟨_, ⟨i1, i2, i3, i4⟩, f, T', hA', h⟩
    · exact absurd hZ h
    · by_cases c1 : x < 0
      · exact Or.inl ⟨c1, h1, h2, h3⟩
      · by_cases c2 : (n : Int) ≤ x
        · exact Or.inr (Or.inl ⟨by omega, c2, h1, h2, h3⟩)
        · by_cases c3 : y < 0
          · exact Or.inr (Or.inr (Or.inl ⟨by omega, by omega, c3, h1, h2, h3⟩))
          · exact Or.inr (Or.inr (Or.inr (Or.inl ⟨by omega, by omega, by omega, by omega, h1, h2, h3⟩)))
    · have e := AllA.e_one hA hA'
      have sm : ae = 0 → ∀ i k, i < n → T i k = T' i k := fun e0 i k hi => by
        rcases hA with ⟨_, q1⟩ | ⟨_, t1, _⟩
        · rw [e0] at q1; cases q1
        · rcases hA' with ⟨_, q2⟩ | ⟨_, t2, _⟩
          · rw [← e, e0] at q2; cases q2
          · exact t1.one t2 hi k
      rcases h with ⟨g1, g2, g3, g4⟩ | ⟨g1, g2, g3, g4, g5⟩ | ⟨g1, g2, g3, g4, g5⟩
      · exact Or.inr (Or.inr (Or.inr (Or.inr (Or.inl ⟨i1, i2, i3, i4, by rw [e]; exact g1, g2, g3, by rw [e]; exact g4⟩))))
      · refine Or.inr (Or.inr (Or.inr (Or.inr (Or.inr (Or.inl ⟨i1, i2, i3, i4, by rw [e]; exact g1, ?_, g3, g4, g5⟩)))))
        rw [sm (by rw [e]; exact g1) _ _ (by omega)]; exact g2
      · refine Or.inr (Or.inr (Or.inr (Or.inr (Or.inr (Or.inr ⟨i1, i2, i3, i4, by rw [e]; exact g1, ?_, ?_, ?_, g5⟩)))))
        · rw [sm (by rw [e]; exact g1) _ _ (by omega)]; exact g2
        · rw [g3]; unfold spLo; rw [sm (by rw [e]; exact g1) x.toNat y.toNat (by omega), sm (by rw [e]; exact g1) y.toNat x.toNat (by omega)]
        · rw [g4]; unfold spHi; rw [sm (by rw [e]; exact g1) x.toNat y.toNat (by omega)]
  have HRn : Hid (Neg (Arc q m) n → ∀ u, Below w.heap.size w u → Calls Tryd.prog 20 #[.int .i64 n, .slice a m cap] u fun e w' => e = .returned (.tuple #[.slice none 0 0, .slice none 0 0, .bool false]) ∧ Below u.heap.size u w') := cRn
  have HRt : Hid (¬ Neg (Arc q m) n → ∀ u, Below w.heap.size w u → Calls Tryd.prog 20 #[.int .i64 n, .slice a m cap] u fun e w' => ∃ (gd cd gh ch : Nat) (Db Hb : Nat → Nat) (S : Tb), e = .returned (.tuple #[.slice (some ⟨gd, 0, none⟩) n cd, .slice (some ⟨gh, 0, none⟩) n ch, .bool true]) ∧ Tab w' gd gh n Db Hb S ∧ IsT q m n S ∧ Below u.heap.size u w') := cRt
  clear hF hE hH hK hZ hA hB cRn cRt
  have cnt : Mark 0 := .mk _
  go_enter Tryd.func5, Tryd.ntmps5
  go_upto_if 55 with (first | (go_at_call 15; have cq : Mark 0 := cnt; refine (cE _ (Below.refl _ _)).mono ?_; clear cq cnt; have cnt : Mark 1 := .mk _; rintro e u0 ⟨rfl, hb⟩; replace hw : Below w.heap.size w u0 := rbel_on hb (Below.refl _ _); have hs0 := hw.size; clear hb) | (go_at_call 17; have cq : Mark 1 := cnt; refine (cC _ (hw)).mono ?_; clear cq cnt; have cnt : Mark 2 := .mk _; rintro e u1 ⟨rfl, hb⟩; replace hw : Below w.heap.size w u1 := rbel_on hb (hw); have hs1 := hw.size; clear hb) | (go_at_call 16; have cq : Mark 2 := cnt; refine (error_same 0 _ (hg.out.below (hw))).mono ?_; clear cq cnt; have cnt : Mark 3 := .mk _; rintro e u2 ⟨rfl, hb⟩; replace hw : Below w.heap.size w u2 := rbel_on hb (hw); have hs2 := hw.size; clear hb))
  go_cut [13] from 48 to 55 (fun f w' => f = .int .i64 (if (k : Int) = n then 0 else 3) ∧ u2 = w')
  case first =>
    by_cases hk : (k : Int) = n
    · have d1 : ((k : Int) != n) = false := by simpa using hk
      go_wp2
      go_meet
      case rel => exact ⟨by rw [if_pos hk], rfl⟩
    · have d1 : ((k : Int) != n) = true := by simpa using hk
      go_wp2
      go_meet
      case rel => exact ⟨by rw [if_neg hk], rfl⟩
  case rest =>
  obtain ⟨rfl, rfl⟩ := hcut
  go_upto_block 0 with (fail)
  go_cut [13, 15, 16] from 56 to 72 (fun f i o w' => f = .int .i64 fe ∧ u2 = w')
  case first =>
    as_aux_lemma =>
    rcases HF.out with ⟨hk, _, rfl⟩ | ⟨hk, hbad, _, rfl⟩ | ⟨hk, hbad, _, rfl⟩
    · rw [if_neg hk]
      by_cases h0 : (0 : Int) < k
      · have d0 : decide ((0 : Int) < k) = true := decide_eq_true h0
        go_wp2
        refine wp_loop_rounds 1 ?_
        rw [rounds_succ]
        go_wp2
        go_meet
        case rel => exact ⟨rfl, rfl⟩
      · have d0 : decide ((0 : Int) < k) = false := decide_eq_false h0
        go_wp2
        refine wp_loop_rounds 1 ?_
        rw [rounds_succ]
        go_wp2
        go_meet
        case rel => exact ⟨rfl, rfl⟩
    · rw [if_pos hk]
      obtain ⟨j, hj, hgd, hbd⟩ := first_bad c k
      have jk : j < k := by
        apply Classical.byContradiction
        intro h
        exact not_badC (fun i hi => hgd i (by omega)) hbad
      have GD : Hid (∀ i, i < j → timeB (c i) = true) := hgd
      have BD := hbd jk
      clear hgd hbd hbad
      go_wp2
      go_loopw [13, 15, 16] (fun f i o wr => wr = u2 ∧ ((∃ p : Nat, p ≤ j ∧ i = .int .i64 p ∧ f = .int .i64 0) ∨ (i = .int .i64 ((j : Int) + 1) ∧ f = .int .i64 1))) (fun _ i _ _ => k + 1 - (intOf i).toNat)
      case atStart => exact ⟨rfl, Or.inl ⟨0, Nat.zero_le _, rfl, rfl⟩⟩
      case round =>
        obtain ⟨rfl, ⟨p, hp, rfl, rfl⟩ | ⟨rfl, rfl⟩⟩ := hrel
        · by_cases hlt : p < j
          · have tb := GD.out p hlt
            have pk : (p : Int) < k := by omega
            obtain ⟨b, off, rfl, hP⟩ : ∃ b off : Nat, ca = some ⟨b, off, none⟩ ∧ Nrd w b off k c := by
              rcases HK.out.2 with e | h
              · omega
              · exact h
            have x0 := (hP.on hw) p (by omega)
            clear hP
            have d0 : decide ((p : Int) < k) = true := decide_eq_true pk
            have cV := cT (c p)
            rw [tb] at cV
            go_wp2_with (go_at_call 18; refine (cV _).mono ?_; rintro e v ⟨rfl, hv⟩; rw [hv]; clear hv)
            go_roundw
            case rel => exact ⟨trivial, Or.inl ⟨p + 1, by omega, by go_num, rfl⟩⟩
            case measure => simp [intOf]; omega
          · have pj : p = j := by omega
            subst pj
            have pk : (p : Int) < k := by omega
            obtain ⟨b, off, rfl, hP⟩ : ∃ b off : Nat, ca = some ⟨b, off, none⟩ ∧ Nrd w b off k c := by
              rcases HK.out.2 with e | h
              · omega
              · exact h
            have x0 := (hP.on hw) p (by omega)
            clear hP
            have d0 : decide ((p : Int) < k) = true := decide_eq_true pk
            have cV := cT (c p)
            rw [BD] at cV
            go_wp2_with (go_at_call 18; refine (cV _).mono ?_; rintro e v ⟨rfl, hv⟩; rw [hv]; clear hv)
            go_roundw
            case rel => exact ⟨trivial, Or.inr ⟨by go_num, rfl⟩⟩
            case measure => simp [intOf]; omega
        · by_cases hl : (j : Int) + 1 < k
          · have d0 : decide ((j : Int) + 1 < k) = true := decide_eq_true hl
            go_wp2
            go_meet
            case rel => exact ⟨rfl, rfl⟩
          · have d0 : decide ((j : Int) + 1 < k) = false := decide_eq_false hl
            go_wp2
            go_meet
            case rel => exact ⟨rfl, rfl⟩
    · rw [if_pos hk]
      obtain ⟨j, hj, hgd, hbd⟩ := first_bad c k
      have jk : j = k := by
        apply Classical.byContradiction
        intro h
        exact hbad (badC_of (show j < k by omega) (hbd (by omega)))
      have GD : Hid (∀ i, i < j → timeB (c i) = true) := hgd
      clear hgd hbd hbad
      go_wp2
      go_loopw [13, 15, 16] (fun f i o wr => wr = u2 ∧ ((∃ p : Nat, p ≤ j ∧ i = .int .i64 p ∧ f = .int .i64 0))) (fun _ i _ _ => k + 1 - (intOf i).toNat)
      case atStart => exact ⟨rfl, ⟨0, Nat.zero_le _, rfl, rfl⟩⟩
      case round =>
        obtain ⟨rfl, p, hp, rfl, rfl⟩ := hrel
        by_cases hlt : p < j
        · have tb := GD.out p hlt
          have pk : (p : Int) < k := by omega
          obtain ⟨b, off, rfl, hP⟩ : ∃ b off : Nat, ca = some ⟨b, off, none⟩ ∧ Nrd w b off k c := by
            rcases HK.out.2 with e | h
            · omega
            · exact h
          have x0 := (hP.on hw) p (by omega)
          clear hP
          have d0 : decide ((p : Int) < k) = true := decide_eq_true pk
          have cV := cT (c p)
          rw [tb] at cV
          go_wp2_with (go_at_call 18; refine (cV _).mono ?_; rintro e v ⟨rfl, hv⟩; rw [hv]; clear hv)
          go_roundw
          case rel => exact ⟨trivial, ⟨p + 1, by omega, by go_num, rfl⟩⟩
          case measure => simp [intOf]; omega
        · have pj : p = k := by omega
          have d0 : decide ((p : Int) < k) = false := decide_eq_false (by omega)
          go_wp2
          go_meet
          case rel => exact ⟨rfl, rfl⟩
  case rest =>
  obtain ⟨rfl, rfl⟩ := hcut
  go_upto_block 2 with (fail)
  go_cut [14, 17, 18] from 73 to 120 (fun t i d w' => (∃ tb : Bool, t = .bool tb ∧ (fe = 0 → tb = fb)) ∧ Below w.heap.size w w')
  case first =>
    as_aux_lemma =>
    rcases HF.out with ⟨hk, _, rfl⟩ | ⟨hk, hbad, _, rfl⟩ | ⟨hk, hbad, efb, rfl⟩
    · by_cases h0 : (0 : Int) < m
      · have d0 : decide ((0 : Int) < m) = true := decide_eq_true h0
        go_wp2
        refine wp_loop_rounds 1 ?_
        rw [rounds_succ]
        go_wp2
        go_meet
        case rel => exact ⟨⟨true, rfl, fun h => absurd h (by decide)⟩, hw⟩
      · have d0 : decide ((0 : Int) < m) = false := decide_eq_false h0
        go_wp2
        refine wp_loop_rounds 1 ?_
        rw [rounds_succ]
        go_wp2
        go_meet
        case rel => exact ⟨⟨true, rfl, fun h => absurd h (by decide)⟩, hw⟩
    · by_cases h0 : (0 : Int) < m
      · have d0 : decide ((0 : Int) < m) = true := decide_eq_true h0
        go_wp2
        refine wp_loop_rounds 1 ?_
        rw [rounds_succ]
        go_wp2
        go_meet
        case rel => exact ⟨⟨true, rfl, fun h => absurd h (by decide)⟩, hw⟩
      · have d0 : decide ((0 : Int) < m) = false := decide_eq_false h0
        go_wp2
        refine wp_loop_rounds 1 ?_
        rw [rounds_succ]
        go_wp2
        go_meet
        case rel => exact ⟨⟨true, rfl, fun h => absurd h (by decide)⟩, hw⟩
    · have NB : Hid (∀ i, i < k → -1000000000000 ≤ c i ∧ c i ≤ 1000000000000) := fun i hi => by
        apply Classical.byContradiction
        intro h
        exact hbad ⟨i, hi, by omega⟩
      have EF : Hid (fb = fitB q c m) := efb
      clear hbad efb
      go_wp2
      go_loopw [14, 17, 18] (fun t i d wr => ∃ p : Nat, p ≤ m ∧ i = .int .i64 p ∧ t = .bool (fitB q c p) ∧ Below w.heap.size w wr) (fun _ i _ _ => m - (intOf i).toNat)
      case atStart => exact ⟨0, Nat.zero_le _, rfl, rfl, hw⟩
      case round =>
        clear hw
        obtain ⟨p, hp, rfl, rfl, hw⟩ := hrel
        by_cases hlt : p < m
        · have hl : (p : Int) < m := by omega
          have d0 : decide ((p : Int) < m) = true := decide_eq_true hl
          obtain ⟨b, off, rfl, hP⟩ : ∃ b off : Nat, a = some ⟨b, off, none⟩ ∧ Esp w b off m q := by
            rcases HH.out.2 with e | h
            · omega
            · exact h
          obtain ⟨x0, x1, x2, x3⟩ := (hP.on hw) p hlt
          obtain ⟨⟨a1, a2, a3, a4⟩, nab, okk⟩ := HE.out.each p hlt
          obtain ⟨o1, o2, o3⟩ := okB_t okk
          obtain ⟨A, eqA⟩ : ∃ A : Nat, (q p).a = A := ⟨(q p).a.toNat, by omega⟩
          obtain ⟨B, eqB⟩ : ∃ B : Nat, (q p).b = B := ⟨(q p).b.toNat, by omega⟩
          have hAk : A < k := by omega
          have hBk : B < k := by omega
          have hA3 : (A : Int) < k := by omega
          have hB3 : (B : Int) < k := by omega
          obtain ⟨b2, off2, rfl, hQ⟩ : ∃ b off : Nat, ca = some ⟨b, off, none⟩ ∧ Nrd w b off k c := by
            rcases HK.out.2 with e | h
            · omega
            · exact h
          have cA := (hQ.on hw) A hAk
          have cB := (hQ.on hw) B hBk
          obtain ⟨l1, l2⟩ := NB.out A hAk
          obtain ⟨l3, l4⟩ := NB.out B hBk
          have NX : Hid (fitB q c (p + 1) = (fitB q c p && (decide ((q p).lo ≤ c B - c A) && decide (c B - c A ≤ (q p).hi)))) := by
            show fitB q c (p + 1) = _
            simp only [fitB]
            rw [eqA, eqB]
            rfl
          rw [eqA] at x0
          rw [eqB] at x1
          have wd : IntKind.i64.wrap (c B - c A) = c B - c A := IntWalk.i64_in _ (by omega)
          clear hP hQ a1 a2 a3 a4 nab okk
          generalize c A = va at *
          generalize c B = vb at *
          cases ft : fitB q c p with
          | false =>
            go_wp2
            go_quiet (fail)
            go_wp2
            go_roundw
            case rel => exact ⟨p + 1, by omega, by go_num, by rw [NX.out, ft]; first | rfl | (simp; done), rbel_drn hw⟩
            case measure => simp [intOf]; omega
          | true =>
            by_cases c1 : (q p).lo ≤ vb - va
            · have e1 : decide ((q p).lo ≤ vb - va) = true := decide_eq_true c1
              by_cases c2 : vb - va ≤ (q p).hi
              · have e2 : decide (vb - va ≤ (q p).hi) = true := decide_eq_true c2
                go_wp2
                go_quiet (fail)
                go_wp2
                go_roundw
                case rel => exact ⟨p + 1, by omega, by go_num, by rw [NX.out, ft, e1, e2]; first | rfl | (simp; done), rbel_drn hw⟩
                case measure => simp [intOf]; omega
              · have e2 : decide (vb - va ≤ (q p).hi) = false := decide_eq_false c2
                go_wp2
                go_quiet (fail)
                go_wp2
                go_roundw
                case rel => exact ⟨p + 1, by omega, by go_num, by rw [NX.out, ft, e1, e2]; first | rfl | (simp; done), rbel_drn hw⟩
                case measure => simp [intOf]; omega
            · have e1 : decide ((q p).lo ≤ vb - va) = false := decide_eq_false c1
              go_wp2
              go_quiet (fail)
              go_wp2
              go_roundw
              case rel => exact ⟨p + 1, by omega, by go_num, by rw [NX.out, ft, e1]; first | rfl | (simp; done), rbel_drn hw⟩
              case measure => simp [intOf]; omega
        · have pm : p = m := by omega
          have d0 : decide ((p : Int) < m) = false := decide_eq_false (by omega)
          have EP : Hid (fitB q c p = fb) := by show _ = _; rw [pm]; exact EF.out.symm
          clear pm
          go_wp2
          go_meet
          case rel => exact ⟨⟨_, rfl, fun _ => EP.out⟩, hw⟩
  case rest =>
  clear hw
  obtain ⟨⟨tb, rfl, htb⟩, hw⟩ := hcut
  have HT : Hid (fe = 0 → tb = fb) := htb
  clear htb
  go_upto_region 19 with (first | (go_at_call 19; have cq : Mark 3 := cnt; refine (cF _ (hw)).mono ?_; clear cq cnt; have cnt : Mark 4 := .mk _; rintro e u3 ⟨rfl, hb⟩; replace hw : Below w.heap.size w u3 := rbel_on hb (hw); have hs3 := hw.size; clear hb))
  go_cut [21] from 128 to 139 (fun t w' => t = .bool true ∧ Below w.heap.size w w')
  case first =>
    as_aux_lemma =>
    rcases HF.out with ⟨_, rfl, rfl⟩ | ⟨_, _, rfl, rfl⟩ | ⟨_, _, hx, rfl⟩
    · go_wp2_with (first | (go_at_call 16; have cq : Mark 4 := cnt; refine (error_same 3 _ (hg.out.below (hw))).mono ?_; clear cq cnt; have cnt : Mark 5 := .mk _; rintro e u4 ⟨rfl, hb⟩; replace hw : Below w.heap.size w u4 := rbel_on hb (hw); have hs4 := hw.size; clear hb))
      go_meet
      case rel => exact ⟨rfl, hw⟩
    · go_wp2_with (first | (go_at_call 16; have cq : Mark 4 := cnt; refine (error_same 1 _ (hg.out.below (hw))).mono ?_; clear cq cnt; have cnt : Mark 5 := .mk _; rintro e u4 ⟨rfl, hb⟩; replace hw : Below w.heap.size w u4 := rbel_on hb (hw); have hs4 := hw.size; clear hb))
      go_meet
      case rel => exact ⟨rfl, hw⟩
    · clear hx HF
      obtain rfl := HT.out rfl
      clear HT
      cases tb with
      | false =>
        go_wp2_with (first | (go_at_call 16; have cq : Mark 4 := cnt; refine (error_same 0 _ (hg.out.below (hw))).mono ?_; clear cq cnt; have cnt : Mark 5 := .mk _; rintro e u4 ⟨rfl, hb⟩; replace hw : Below w.heap.size w u4 := rbel_on hb (hw); have hs4 := hw.size; clear hb))
        go_meet
        case rel => exact ⟨rfl, hw⟩
      | true =>
        go_wp2_with (first | (go_at_call 16; have cq : Mark 4 := cnt; refine (error_same 0 _ (hg.out.below (hw))).mono ?_; clear cq cnt; have cnt : Mark 5 := .mk _; rintro e u4 ⟨rfl, hb⟩; replace hw : Below w.heap.size w u4 := rbel_on hb (hw); have hs4 := hw.size; clear hb))
        go_meet
        case rel => exact ⟨rfl, hw⟩
  case rest =>
  clear hw
  obtain ⟨rfl, hw⟩ := hcut
  clear cnt
  have cnt : Mark 10 := .mk _
  go_upto_if 142 with (fail)
  go_cut [13, 22, 23, 24, 25, 26] from 143 to 153 (fun f d h d' h' o w' => Below w.heap.size w w' ∧ ((Neg (Arc q m) n ∧ f = .int .i64 7) ∨ (¬ Neg (Arc q m) n ∧ f = .int .i64 0 ∧ ∃ (gd cd gh ch : Nat) (Db Hb : Nat → Nat) (S : Tb), d = .slice (some ⟨gd, 0, none⟩) n cd ∧ h = .slice (some ⟨gh, 0, none⟩) n ch ∧ Tab w' gd gh n Db Hb S ∧ IsT q m n S)))
  case first =>
    as_aux_lemma =>
    by_cases hN : Neg (Arc q m) n
    · go_wp2_with (first | (go_at_call 20; have cq : Mark 10 := cnt; refine ((HRn.out hN) _ (hw)).mono ?_; clear cq cnt; have cnt : Mark 11 := .mk _; rintro e u10 ⟨rfl, hb⟩; replace hw : Below w.heap.size w u10 := rbel_on hb (hw); have hs10 := hw.size; clear hb))
      go_meet
      case rel => exact ⟨hw, Or.inl ⟨hN, rfl⟩⟩
    · go_wp2_with (first | (go_at_call 20; have cq : Mark 10 := cnt; refine ((HRt.out hN) _ (hw)).mono ?_; clear cq cnt; have cnt : Mark 11 := .mk _; rintro e u10 ⟨gd, cd, gh, ch, Db, Hb, S, rfl, TB, IT, hb⟩; replace hw : Below w.heap.size w u10 := rbel_on hb (hw); have hs10 := hw.size; clear hb))
      go_meet
      case rel => exact ⟨hw, Or.inr ⟨hN, rfl, gd, cd, gh, ch, Db, Hb, S, rfl, rfl, TB, IT⟩⟩
  case rest =>
  clear hw
  obtain ⟨hw, hD⟩ := hcut
  have HD : Hid _ := hD
  clear hD HRn HRt HF HT
  go_upto_block 4 with (fail)
  go_cut [13, 27, 28, 29] from 154 to 190 (fun f i r o w' => f = .int .i64 ae ∧ Below w.heap.size w w' ∧ (ae = 0 → DTab q m n u22 u23 w'))
  case first =>
    as_aux_lemma =>
    rcases HD.out with ⟨hN, rfl⟩ | ⟨hN, rfl, gd, cd, gh, ch, Db, Hb, S, rfl, rfl, TB, IT⟩
    · have e7 : ae = 7 := by
        rcases HA.out with ⟨_, h⟩ | ⟨h, _⟩
        · exact h
        · exact absurd hN h
      have d0 : decide ((0 : Int) < n) = true := decide_eq_true (by omega)
      clear HA
      subst e7
      go_wp2
      refine wp_loop_rounds 1 ?_
      rw [rounds_succ]
      go_wp2
      go_meet
      case rel => exact ⟨rfl, hw, fun h => absurd h (by decide)⟩
    · have FA : Hid ((Far n S → ae = 1) ∧ (¬ Far n S → ae = 0)) := by
        show _ ∧ _
        rcases HA.out with ⟨h, _⟩ | ⟨_, IT2, h⟩
        · exact absurd h hN
        · rcases h with ⟨f, e⟩ | ⟨f, e⟩
          · exact ⟨fun _ => e, fun g => absurd (f.same IT2 IT) g⟩
          · exact ⟨fun g => absurd (g.same IT IT2) f, fun _ => e⟩
      have d00 : (0 : Int) < n := by omega
      clear HA
      go_wp2
      go_loopw [13, 27, 28, 29] (fun f i r o wr => wr = wc ∧ ((∃ p : Nat, p ≤ n ∧ i = .int .i64 p ∧ f = .int .i64 0 ∧ (∀ i' k' z, i' < p → k' < n → S i' k' = some z → timeB z = true)) ∨ (∃ p : Nat, p ≤ n ∧ i = .int .i64 p ∧ f = .int .i64 1 ∧ Far n S))) (fun _ i _ _ _ => n - (intOf i).toNat)
      case atStart => exact ⟨rfl, Or.inl ⟨0, Nat.zero_le _, rfl, rfl, fun i' k' z h => by omega⟩⟩
      case round =>
        obtain ⟨rfl, ⟨p, hp, rfl, rfl, hok⟩ | ⟨p, hp, rfl, rfl, hfar⟩⟩ := hrel
        · have OK : Hid (∀ i' k' z, i' < p → k' < n → S i' k' = some z → timeB z = true) := hok
          clear hok
          by_cases hlt : p < n
          · have hl : (p : Int) < n := by omega
            have d0 : decide ((p : Int) < n) = true := decide_eq_true hl
            have oD := TB.outD p hlt
            have oH := TB.outH p hlt
            go_wp2
            go_loopw [13, 28, 29] (fun f r o wr2 => wr2 = wr ∧ ((∃ g : Nat, g ≤ n ∧ r = .int .i64 g ∧ f = .int .i64 0 ∧ ∀ k' z, k' < g → S p k' = some z → timeB z = true) ∨ (∃ g : Nat, g ≤ n ∧ r = .int .i64 g ∧ f = .int .i64 1 ∧ Far n S))) (fun _ r _ _ => n - (intOf r).toNat)
            case atStart => exact ⟨rfl, Or.inl ⟨0, Nat.zero_le _, rfl, rfl, fun k' z h => by omega⟩⟩
            case round =>
              obtain ⟨rfl, ⟨g, hg2, rfl, rfl, hin⟩ | ⟨g, hg2, rfl, rfl, hfar⟩⟩ := hrel
              · have IN : Hid (∀ k' z, k' < g → S p k' = some z → timeB z = true) := hin
                clear hin
                by_cases hlg : g < n
                · have hl2 : (g : Int) < n := by omega
                  have e0 : decide ((g : Int) < n) = true := decide_eq_true hl2
                  have dC := (TB.inD p hlt).c g _ (rowD_at _ _ _ _ hlg)
                  have bC := (TB.inH p hlt).c g _ (rowH_at _ _ _ _ hlg)
                  have cV := cT ((S p g).getD 0)
                  cases eS : S p g with
                  | none =>
                    rw [eS] at dC bC cV
                    have dC2 : wr.cell? ⟨Db p, g, none⟩ = some (.int .i64 0) := dC
                    have bC2 : wr.cell? ⟨Hb p, g, none⟩ = some (.bool false) := bC
                    have cV2 : ∀ u, Calls Tryd.prog 18 #[.int .i64 0] u fun e w' => e = .returned (.bool true) ∧ w' = u := cV
                    clear cV dC bC
                    have cV := cV2
                    go_wp2_with (go_at_call 18; refine (cV _).mono ?_; rintro e v ⟨rfl, hv⟩; rw [hv]; clear hv)
                    go_roundw
                    case rel => exact ⟨trivial, Or.inl ⟨g + 1, by omega, by go_num, rfl, fun k' z h e => by
                      by_cases c : k' = g
                      · rw [c, eS] at e; cases e
                      · exact IN.out k' z (by omega) e⟩⟩
                    case measure => simp [intOf]; omega
                  | some z =>
                    rw [eS] at dC bC cV
                    have dC2 : wr.cell? ⟨Db p, g, none⟩ = some (.int .i64 z) := dC
                    have bC2 : wr.cell? ⟨Hb p, g, none⟩ = some (.bool true) := bC
                    have cV2 : ∀ u, Calls Tryd.prog 18 #[.int .i64 z] u fun e w' => e = .returned (.bool (timeB z)) ∧ w' = u := cV
                    clear cV dC bC
                    have cV := cV2
                    cases tz : timeB z with
                    | true =>
                      rw [tz] at cV
                      go_wp2_with (go_at_call 18; refine (cV _).mono ?_; rintro e v ⟨rfl, hv⟩; rw [hv]; clear hv)
                      go_roundw
                      case rel => exact ⟨trivial, Or.inl ⟨g + 1, by omega, by go_num, rfl, fun k' z' h e => by
                        by_cases c : k' = g
                        · rw [c, eS] at e; obtain rfl := Option.some.inj e; exact tz
                        · exact IN.out k' z' (by omega) e⟩⟩
                      case measure => simp [intOf]; omega
                    | false =>
                      rw [tz] at cV
                      have FR : Hid (Far n S) := ⟨p, g, z, hlt, hlg, eS, by unfold timeB at tz; have := of_decide_eq_false tz; omega⟩
                      go_wp2_with (go_at_call 18; refine (cV _).mono ?_; rintro e v ⟨rfl, hv⟩; rw [hv]; clear hv)
                      go_roundw
                      case rel => exact ⟨trivial, Or.inr ⟨g + 1, by omega, by go_num, rfl, FR.out⟩⟩
                      case measure => simp [intOf]; omega
                · have gn : g = n := by omega
                  have e0 : decide ((g : Int) < n) = false := decide_eq_false (by omega)
                  have NX : Hid (∀ i' k' z, i' < p + 1 → k' < n → S i' k' = some z → timeB z = true) := fun i' k' z h1 h2 e => by
                    by_cases c : i' = p
                    · rw [c] at e; exact IN.out k' z (by omega) e
                    · exact OK.out i' k' z (by omega) h2 e
                  clear gn
                  go_wp2
                  go_roundw
                  case rel => exact ⟨trivial, Or.inl ⟨p + 1, by omega, by go_num, rfl, NX.out⟩⟩
                  case measure => simp [intOf]; omega
              · have FR : Hid (Far n S) := hfar
                clear hfar
                by_cases hlg : (g : Int) < n
                · have e0 : decide ((g : Int) < n) = true := decide_eq_true hlg
                  go_wp2
                  go_roundw
                  case rel => exact ⟨trivial, Or.inr ⟨p + 1, by omega, by go_num, rfl, FR.out⟩⟩
                  case measure => simp [intOf]; omega
                · have e0 : decide ((g : Int) < n) = false := decide_eq_false hlg
                  go_wp2
                  go_roundw
                  case rel => exact ⟨trivial, Or.inr ⟨p + 1, by omega, by go_num, rfl, FR.out⟩⟩
                  case measure => simp [intOf]; omega
          · have pn : p = n := by omega
            have d0 : decide ((p : Int) < n) = false := decide_eq_false (by omega)
            have e0 : ae = 0 := FA.out.2 (by
              rintro ⟨i, r, z, h1, h2, h3, h4⟩
              have := OK.out i r z (by omega) h2 h3
              unfold timeB at this
              have := of_decide_eq_true this
              omega)
            clear pn FA
            subst e0
            go_wp2
            go_meet
            case rel => exact ⟨rfl, hw, fun _ => ⟨gd, cd, gh, ch, Db, Hb, S, rfl, rfl, TB, IT⟩⟩
        · have e1 : ae = 1 := FA.out.1 hfar
          clear FA hfar
          subst e1
          by_cases hlt : (p : Int) < n
          · have d0 : decide ((p : Int) < n) = true := decide_eq_true hlt
            go_wp2
            go_meet
            case rel => exact ⟨rfl, hw, fun h => absurd h (by decide)⟩
          · have d0 : decide ((p : Int) < n) = false := decide_eq_false hlt
            go_wp2
            go_meet
            case rel => exact ⟨rfl, hw, fun h => absurd h (by decide)⟩
  case rest =>
  clear hw HD
  obtain ⟨rfl, hw, hR⟩ := hcut
  have HR : Hid (ae = 0 → DTab q m n u22 u23 wc) := hR
  clear hR
  go_upto_region 40 with (first | (go_at_call 21; have cq : Mark 10 := cnt; refine (cA _ (hw)).mono ?_; clear cq cnt; have cnt : Mark 11 := .mk _; rintro e u10 ⟨sA, hA, rfl, hST, hb⟩; replace HR : Hid (ae = 0 → DTab q m n u22 u23 u10) := fun h => (HR.out h).on hb; have HS : Hid (ae = 0 → STab u10 sA hA n T) := hST; clear hST; replace hw : Below w.heap.size w u10 := rbel_on hb (hw); clear hb) | (go_at_call 16; have cq : Mark 11 := cnt; refine (error_same ae _ (hg.out.below (hw))).mono ?_; clear cq cnt; have cnt : Mark 12 := .mk _; rintro e u11 ⟨rfl, hb⟩; replace HR : Hid (ae = 0 → DTab q m n u22 u23 u11) := fun h => (HR.out h).on hb; replace HS : Hid (ae = 0 → STab u11 sA hA n T) := fun h => (HS.out h).on hb; replace hw : Below w.heap.size w u11 := rbel_on hb (hw); clear hb))
  go_cut [205] from 201 to 205 (fun c w' => c = .bool (ae == 0) ∧ u11 = w')
  case first =>
    by_cases e0 : ae = 0
    · have d0 : (ae == 0) = true := by simpa using e0
      clear e0
      go_wp2
      go_meet
      case rel => exact ⟨by rw [d0], rfl⟩
    · have d0 : (ae == 0) = false := by simpa using e0
      go_wp2
      go_meet
      case rel => exact ⟨by rw [d0], rfl⟩
  case rest =>
  obtain ⟨rfl, rfl⟩ := hcut
  go_upto_if 205 with (fail)
  go_cut [33, 34, 35] from 206 to 290 (fun i r p w' => Below w.heap.size w w' ∧ (ae = 0 → DTab q m n u22 u23 w'))
  case first =>
    as_aux_lemma =>
    by_cases e0 : ae = 0
    · subst e0
      obtain ⟨gd, cd, gh, ch, Db, Hb, S, rfl, rfl, TB, IT⟩ := HR.out rfl
      obtain ⟨sb, so, sc, tb2, tq, tc, rb, ro, rc, gb, go, gc, rfl, rfl, r1, r2⟩ := HS.out rfl
      have IT2 : IsT q m n T := by
        rcases HA.out with ⟨_, h⟩ | ⟨_, h, _⟩
        · cases h
        · exact h
      have R1 : Hid (∀ u, Below u11.heap.size u11 u → ∀ i, i < n → u.cell? ⟨sb, so + i, none⟩ = some (.slice (some ⟨rb i, ro i, none⟩) n (rc i)) ∧ u.cell? ⟨tb2, tq + i, none⟩ = some (.slice (some ⟨gb i, go i, none⟩) n (gc i))) := fun u hu i hi => by
        obtain ⟨h1, h2⟩ := r1 i hi
        exact ⟨by rw [hu.cell (World.block_lt_of_cell? _ _ h1)]; exact h1, by rw [hu.cell (World.block_lt_of_cell? _ _ h2)]; exact h2⟩
      have R2 : Hid (∀ u, Below u11.heap.size u11 u → ∀ i r, i < n → r < n → u.cell? ⟨rb i, ro i + r * 2, none⟩ = some (.int .i64 (spLo T i r)) ∧ u.cell? ⟨rb i, ro i + r * 2 + 1, none⟩ = some (.int .i64 (spHi T i r)) ∧ u.cell? ⟨gb i, go i + r, none⟩ = some (.bool (T i r).isSome)) := fun u hu i r hi hr => by
        obtain ⟨h1, h2, h3⟩ := r2 i r hi hr
        exact ⟨by rw [hu.cell (World.block_lt_of_cell? _ _ h1)]; exact h1, by rw [hu.cell (World.block_lt_of_cell? _ _ h2)]; exact h2, by rw [hu.cell (World.block_lt_of_cell? _ _ h3)]; exact h3⟩
      have TBu : Hid (Tab u11 gd gh n Db Hb S) := TB
      have ES : Hid (∀ i r, i < n → S i r = T i r) := fun i r hi => IT.one IT2 hi r
      have BK : Hid (∀ i r z, i < n → r < n → S i r = some z → ∃ z2, S r i = some z2) := fun i r z hi hr e => IT.back hi hr e
      have NF : Hid (∀ i r z, i < n → r < n → T i r = some z → -1000000000000 ≤ z ∧ z ≤ 1000000000000) := by
        rcases HA.out with ⟨_, h⟩ | ⟨_, _, ⟨_, h⟩ | ⟨h, _⟩⟩
        · cases h
        · cases h
        · exact fun i r z hi hr e => not_far h hi hr e
      have nn : ((n : Int) != n) = false := by simp
      have HW : Hid (∀ u, Below u11.heap.size u11 u → Below w.heap.size w u ∧ ((0 : Int) = 0 → DTab q m n (.slice (some ⟨gd, 0, none⟩) n cd) (.slice (some ⟨gh, 0, none⟩) n ch) u)) := fun u hu => ⟨rbel_on hu hw, fun _ => ⟨gd, cd, gh, ch, Db, Hb, S, rfl, rfl, TB.on hu, IT⟩⟩
      clear HR HS HA r1 r2 TB IT IT2
      go_wp2
      go_loopw [33, 34, 35] (fun i r p wr => ∃ g : Nat, g ≤ n ∧ i = .int .i64 g ∧ Below u11.heap.size u11 wr) (fun i _ _ _ => n - (intOf i).toNat)
      case atStart => exact ⟨0, Nat.zero_le _, rfl, Below.refl _ _⟩
      case round =>
        obtain ⟨g, hgn, rfl, hb⟩ := hrel
        by_cases hlg : g < n
        · have hl : (g : Int) < n := by omega
          obtain ⟨y1, y2⟩ := R1.out wr hb g hlg
          go_wp2
          go_loopw [34, 35] (fun r p wr2 => ∃ h : Nat, h ≤ n ∧ r = .int .i64 h ∧ Below u11.heap.size u11 wr2) (fun r _ _ => n - (intOf r).toNat)
          case atStart => exact ⟨0, Nat.zero_le _, rfl, hb⟩
          case round =>
            clear hb y1 y2
            obtain ⟨h, hhn, rfl, hb⟩ := hrel
            by_cases hlh : h < n
            · have hl2 : (h : Int) < n := by omega
              have Y1 : ∀ ob, (wr.alloc ob).cell? ⟨sb, so + g, none⟩ = some (.slice (some ⟨rb g, ro g, none⟩) n (rc g)) := fun ob => (R1.out _ (rbel_al hb) g hlg).1
              have Y2 : ∀ ob, (wr.alloc ob).cell? ⟨tb2, tq + g, none⟩ = some (.slice (some ⟨gb g, go g, none⟩) n (gc g)) := fun ob => (R1.out _ (rbel_al hb) g hlg).2
              have V1 : ∀ ob, (wr.alloc ob).cell? ⟨rb g, ro g + h * 2, none⟩ = some (.int .i64 (spLo T g h)) := fun ob => (R2.out _ (rbel_al hb) g h hlg hlh).1
              have V2 : ∀ ob, (wr.alloc ob).cell? ⟨rb g, ro g + h * 2 + 1, none⟩ = some (.int .i64 (spHi T g h)) := fun ob => (R2.out _ (rbel_al hb) g h hlg hlh).2.1
              have V3 : ∀ ob, (wr.alloc ob).cell? ⟨gb g, go g + h, none⟩ = some (.bool (T g h).isSome) := fun ob => (R2.out _ (rbel_al hb) g h hlg hlh).2.2
              have OD : ∀ ob, (wr.alloc ob).cell? ⟨gd, g, none⟩ = some (.slice (some ⟨Db g, 0, none⟩) n n) := fun ob => (TBu.out.on (rbel_al hb)).outD g hlg
              have OE : ∀ ob, (wr.alloc ob).cell? ⟨gd, h, none⟩ = some (.slice (some ⟨Db h, 0, none⟩) n n) := fun ob => (TBu.out.on (rbel_al hb)).outD h hlh
              have OH : ∀ ob, (wr.alloc ob).cell? ⟨gh, g, none⟩ = some (.slice (some ⟨Hb g, 0, none⟩) n n) := fun ob => (TBu.out.on (rbel_al hb)).outH g hlg
              have DC : ∀ ob, (wr.alloc ob).cell? ⟨Db g, h, none⟩ = some (.int .i64 ((S g h).getD 0)) := fun ob => ((TBu.out.on (rbel_al hb)).inD g hlg).c h _ (rowD_at _ _ _ _ hlh)
              have BC : ∀ ob, (wr.alloc ob).cell? ⟨Hb g, h, none⟩ = some (.bool (S g h).isSome) := fun ob => ((TBu.out.on (rbel_al hb)).inH g hlg).c h _ (rowH_at _ _ _ _ hlh)
              have DB : ∀ ob, (wr.alloc ob).cell? ⟨Db h, g, none⟩ = some (.int .i64 ((S h g).getD 0)) := fun ob => ((TBu.out.on (rbel_al hb)).inD h hlh).c g _ (rowD_at _ _ _ _ hlg)
              have eST := ES.out g h hlg
              have eTS := ES.out h g hlh
              cases eS : S g h with
              | none =>
                have q1 : spLo T g h = 0 := by unfold spLo; rw [← eST, eS]
                have q2 : spHi T g h = 0 := by unfold spHi; rw [← eST, eS]; rfl
                have q3 : (T g h).isSome = false := by rw [← eST, eS]; rfl
                have q4 : (S g h).isSome = false := by rw [eS]; rfl
                rw [q1] at V1
                rw [q2] at V2
                rw [q3] at V3
                rw [q4] at BC
                clear q1 q2 q3 q4 eST eTS eS DC DB
                go_wp2
                go_quiet (fail)
                go_wp2
                go_roundw
                case rel => exact ⟨h + 1, by omega, by go_num, rbel_drn (rbel_al hb)⟩
                case measure => simp [intOf]; omega
              | some z =>
                obtain ⟨z2, eZ⟩ := BK.out g h z hlg hlh eS
                have q1 : spLo T g h = -z2 := by unfold spLo; rw [← eST, eS, ← eTS, eZ]; rfl
                have q2 : spHi T g h = z := by unfold spHi; rw [← eST, eS]; rfl
                have q3 : (T g h).isSome = true := by rw [← eST, eS]; rfl
                have q4 : (S g h).isSome = true := by rw [eS]; rfl
                have q5 : (S g h).getD 0 = z := by rw [eS]; rfl
                have q6 : (S h g).getD 0 = z2 := by rw [eZ]; rfl
                rw [q1] at V1
                rw [q2] at V2
                rw [q3] at V3
                rw [q4] at BC
                rw [q5] at DC
                rw [q6] at DB
                obtain ⟨zl, zh⟩ := NF.out h g z2 hlh hlg (by rw [← eTS]; exact eZ)
                have wz : IntKind.i64.wrap (-z2) = -z2 := IntWalk.i64_in _ (by omega)
                clear q1 q2 q3 q4 q5 q6 eST eTS eS eZ
                go_upto_region 53 with (fail)
                go_region_held (fun w' => w'.cell? ⟨gd, h, none⟩ = some (.slice (some ⟨Db h, 0, none⟩) n n) ∧ w'.cell? ⟨Db h, g, none⟩ = some (.int .i64 z2) ∧ w'.cell? ⟨gd, g, none⟩ = some (.slice (some ⟨Db g, 0, none⟩) n n) ∧ w'.cell? ⟨Db g, h, none⟩ = some (.int .i64 z)) (first | exact ⟨OE _, DB _, OD _, DC _⟩ | go_keep) (fail)
                all_goals
                  go_wp2
                  go_quiet (fail)
                  go_wp2
                  go_roundw
                  case rel => exact ⟨h + 1, by omega, by go_num, rbel_drn (rbel_al hb)⟩
                  case measure => simp [intOf]; omega
            · have hn3 : ¬ ((h : Int) < n) := by omega
              go_wp2
              go_roundw
              case rel => exact ⟨g + 1, by omega, by go_num, hb⟩
              case measure => simp [intOf]; omega
        · have hn3 : ¬ ((g : Int) < n) := by omega
          go_wp2
          go_meet
          case rel => exact HW.out _ hb
    · have d0 : (ae == 0) = false := by simpa using e0
      clear HA HS
      go_wp2
      go_meet
      case rel => exact ⟨hw, fun h => absurd h e0⟩
  case rest =>
  clear hw HR HS
  obtain ⟨hw, hR⟩ := hcut
  have HR : Hid (ae = 0 → DTab q m n u22 u23 wc) := hR
  clear hR
  have zc := hw.size
  clear cnt
  have cnt : Mark 30 := .mk _
  rcases HB.out with ⟨x1, rfl, rfl, rfl⟩ | ⟨x1, x2, rfl, rfl, rfl⟩ | ⟨x1, x2, y1, rfl, rfl, rfl⟩ | ⟨x1, x2, y1, y2, rfl, rfl, rfl⟩ | ⟨x1, x2, y1, y2, a0, rfl, rfl, rfl⟩ | ⟨x1, x2, y1, y2, rfl, tn, rfl, rfl, rfl⟩ | ⟨x1, x2, y1, y2, rfl, ⟨z, tz⟩, rfl, rfl, rfl⟩
  · as_aux_lemma =>
      have D0 : decide (x < 0) = true := decide_eq_true (by omega)
      clear HB HA HR
      go_wp2_with (first | (go_at_call 22; have cq : Mark 30 := cnt; refine (cB _ (rbel_al (hw))).mono ?_; clear cq cnt; have cnt : Mark 31 := .mk _; rintro e u30 ⟨rfl, hb⟩; replace hw : Below w.heap.size w u30 := rbel_on hb (rbel_al (hw)); replace PO : Row u30 (wc.heap.size) [.int .i64 0, .int .i64 0] := Row.on hb (Row.made (by simp)); replace cO0 := PO.c 0 _ rfl; replace cO1 := PO.c 1 _ rfl; replace zO := PO.lt; replace fO0 := PO.f 0 _ rfl; replace fO1 := PO.f 1 _ rfl; have y30_O_0 : wc.heap.size < u30.heap.size := (by omega); have n30_O_0 : ¬ (u30.heap.size = wc.heap.size) := (by omega); have m30_O_0 : ¬ (wc.heap.size = u30.heap.size) := (by omega); have hs30 := hw.size; clear hb) | (go_at_call 16; have cq : Mark 31 := cnt; refine (error_same 1 _ (hg.out.below (rbel_al (hw)))).mono ?_; clear cq cnt; have cnt : Mark 32 := .mk _; rintro e u31 ⟨rfl, hb⟩; replace hw : Below w.heap.size w u31 := rbel_on hb (rbel_al (hw)); replace PO : Row u31 (wc.heap.size) [.int .i64 0, .int .i64 0] := Row.on hb (Row.al (PO)); replace cO0 := PO.c 0 _ rfl; replace cO1 := PO.c 1 _ rfl; replace zO := PO.lt; replace fO0 := PO.f 0 _ rfl; replace fO1 := PO.f 1 _ rfl; replace PX : Row u31 (u30.heap.size) [.int .i64 0, .int .i64 0] := Row.on hb (Row.made (by simp)); replace cX0 := PX.c 0 _ rfl; replace cX1 := PX.c 1 _ rfl; replace zX := PX.lt; replace fX0 := PX.f 0 _ rfl; replace fX1 := PX.f 1 _ rfl; have hs31 := hw.size; clear hb))
      go_ret
      exact ⟨rfl, hw⟩
  · as_aux_lemma =>
      have D0 : decide (x < 0) = false := decide_eq_false (by omega)
      have D1 : decide ((n : Int) ≤ x) = true := decide_eq_true (by omega)
      clear HB HA HR
      go_wp2_with (first | (go_at_call 22; have cq : Mark 30 := cnt; refine (cB _ (rbel_al (hw))).mono ?_; clear cq cnt; have cnt : Mark 31 := .mk _; rintro e u30 ⟨rfl, hb⟩; replace hw : Below w.heap.size w u30 := rbel_on hb (rbel_al (hw)); replace PO : Row u30 (wc.heap.size) [.int .i64 0, .int .i64 0] := Row.on hb (Row.made (by simp)); replace cO0 := PO.c 0 _ rfl; replace cO1 := PO.c 1 _ rfl; replace zO := PO.lt; replace fO0 := PO.f 0 _ rfl; replace fO1 := PO.f 1 _ rfl; have y30_O_0 : wc.heap.size < u30.heap.size := (by omega); have n30_O_0 : ¬ (u30.heap.size = wc.heap.size) := (by omega); have m30_O_0 : ¬ (wc.heap.size = u30.heap.size) := (by omega); have hs30 := hw.size; clear hb) | (go_at_call 16; have cq : Mark 31 := cnt; refine (error_same 1 _ (hg.out.below (rbel_al (hw)))).mono ?_; clear cq cnt; have cnt : Mark 32 := .mk _; rintro e u31 ⟨rfl, hb⟩; replace hw : Below w.heap.size w u31 := rbel_on hb (rbel_al (hw)); replace PO : Row u31 (wc.heap.size) [.int .i64 0, .int .i64 0] := Row.on hb (Row.al (PO)); replace cO0 := PO.c 0 _ rfl; replace cO1 := PO.c 1 _ rfl; replace zO := PO.lt; replace fO0 := PO.f 0 _ rfl; replace fO1 := PO.f 1 _ rfl; replace PX : Row u31 (u30.heap.size) [.int .i64 0, .int .i64 0] := Row.on hb (Row.made (by simp)); replace cX0 := PX.c 0 _ rfl; replace cX1 := PX.c 1 _ rfl; replace zX := PX.lt; replace fX0 := PX.f 0 _ rfl; replace fX1 := PX.f 1 _ rfl; have hs31 := hw.size; clear hb))
      go_ret
      exact ⟨rfl, hw⟩
  · as_aux_lemma =>
      have D0 : decide (x < 0) = false := decide_eq_false (by omega)
      have D1 : decide ((n : Int) ≤ x) = false := decide_eq_false (by omega)
      have D2 : decide (y < 0) = true := decide_eq_true (by omega)
      clear HB HA HR
      go_wp2_with (first | (go_at_call 22; have cq : Mark 30 := cnt; refine (cB _ (rbel_al (hw))).mono ?_; clear cq cnt; have cnt : Mark 31 := .mk _; rintro e u30 ⟨rfl, hb⟩; replace hw : Below w.heap.size w u30 := rbel_on hb (rbel_al (hw)); replace PO : Row u30 (wc.heap.size) [.int .i64 0, .int .i64 0] := Row.on hb (Row.made (by simp)); replace cO0 := PO.c 0 _ rfl; replace cO1 := PO.c 1 _ rfl; replace zO := PO.lt; replace fO0 := PO.f 0 _ rfl; replace fO1 := PO.f 1 _ rfl; have y30_O_0 : wc.heap.size < u30.heap.size := (by omega); have n30_O_0 : ¬ (u30.heap.size = wc.heap.size) := (by omega); have m30_O_0 : ¬ (wc.heap.size = u30.heap.size) := (by omega); have hs30 := hw.size; clear hb) | (go_at_call 16; have cq : Mark 31 := cnt; refine (error_same 1 _ (hg.out.below (rbel_al (hw)))).mono ?_; clear cq cnt; have cnt : Mark 32 := .mk _; rintro e u31 ⟨rfl, hb⟩; replace hw : Below w.heap.size w u31 := rbel_on hb (rbel_al (hw)); replace PO : Row u31 (wc.heap.size) [.int .i64 0, .int .i64 0] := Row.on hb (Row.al (PO)); replace cO0 := PO.c 0 _ rfl; replace cO1 := PO.c 1 _ rfl; replace zO := PO.lt; replace fO0 := PO.f 0 _ rfl; replace fO1 := PO.f 1 _ rfl; replace PX : Row u31 (u30.heap.size) [.int .i64 0, .int .i64 0] := Row.on hb (Row.made (by simp)); replace cX0 := PX.c 0 _ rfl; replace cX1 := PX.c 1 _ rfl; replace zX := PX.lt; replace fX0 := PX.f 0 _ rfl; replace fX1 := PX.f 1 _ rfl; have hs31 := hw.size; clear hb))
      go_ret
      exact ⟨rfl, hw⟩
  · as_aux_lemma =>
      have D0 : decide (x < 0) = false := decide_eq_false (by omega)
      have D1 : decide ((n : Int) ≤ x) = false := decide_eq_false (by omega)
      have D2 : decide (y < 0) = false := decide_eq_false (by omega)
      have D3 : decide ((n : Int) ≤ y) = true := decide_eq_true (by omega)
      clear HB HA HR
      go_wp2_with (first | (go_at_call 22; have cq : Mark 30 := cnt; refine (cB _ (rbel_al (hw))).mono ?_; clear cq cnt; have cnt : Mark 31 := .mk _; rintro e u30 ⟨rfl, hb⟩; replace hw : Below w.heap.size w u30 := rbel_on hb (rbel_al (hw)); replace PO : Row u30 (wc.heap.size) [.int .i64 0, .int .i64 0] := Row.on hb (Row.made (by simp)); replace cO0 := PO.c 0 _ rfl; replace cO1 := PO.c 1 _ rfl; replace zO := PO.lt; replace fO0 := PO.f 0 _ rfl; replace fO1 := PO.f 1 _ rfl; have y30_O_0 : wc.heap.size < u30.heap.size := (by omega); have n30_O_0 : ¬ (u30.heap.size = wc.heap.size) := (by omega); have m30_O_0 : ¬ (wc.heap.size = u30.heap.size) := (by omega); have hs30 := hw.size; clear hb) | (go_at_call 16; have cq : Mark 31 := cnt; refine (error_same 1 _ (hg.out.below (rbel_al (hw)))).mono ?_; clear cq cnt; have cnt : Mark 32 := .mk _; rintro e u31 ⟨rfl, hb⟩; replace hw : Below w.heap.size w u31 := rbel_on hb (rbel_al (hw)); replace PO : Row u31 (wc.heap.size) [.int .i64 0, .int .i64 0] := Row.on hb (Row.al (PO)); replace cO0 := PO.c 0 _ rfl; replace cO1 := PO.c 1 _ rfl; replace zO := PO.lt; replace fO0 := PO.f 0 _ rfl; replace fO1 := PO.f 1 _ rfl; replace PX : Row u31 (u30.heap.size) [.int .i64 0, .int .i64 0] := Row.on hb (Row.made (by simp)); replace cX0 := PX.c 0 _ rfl; replace cX1 := PX.c 1 _ rfl; replace zX := PX.lt; replace fX0 := PX.f 0 _ rfl; replace fX1 := PX.f 1 _ rfl; have hs31 := hw.size; clear hb))
      go_ret
      exact ⟨rfl, hw⟩
  · as_aux_lemma =>
      have D0 : decide (x < 0) = false := decide_eq_false (by omega)
      have D1 : decide ((n : Int) ≤ x) = false := decide_eq_false (by omega)
      have D2 : decide (y < 0) = false := decide_eq_false (by omega)
      have D3 : decide ((n : Int) ≤ y) = false := decide_eq_false (by omega)
      have d0 : (be == 0) = false := by simpa using a0
      clear HB HA HR
      go_wp2_with (first | (go_at_call 22; have cq : Mark 30 := cnt; refine (cB _ (rbel_al (hw))).mono ?_; clear cq cnt; have cnt : Mark 31 := .mk _; rintro e u30 ⟨rfl, hb⟩; replace hw : Below w.heap.size w u30 := rbel_on hb (rbel_al (hw)); replace PO : Row u30 (wc.heap.size) [.int .i64 0, .int .i64 0] := Row.on hb (Row.made (by simp)); replace cO0 := PO.c 0 _ rfl; replace cO1 := PO.c 1 _ rfl; replace zO := PO.lt; replace fO0 := PO.f 0 _ rfl; replace fO1 := PO.f 1 _ rfl; have y30_O_0 : wc.heap.size < u30.heap.size := (by omega); have n30_O_0 : ¬ (u30.heap.size = wc.heap.size) := (by omega); have m30_O_0 : ¬ (wc.heap.size = u30.heap.size) := (by omega); have hs30 := hw.size; clear hb) | (go_at_call 16; have cq : Mark 31 := cnt; refine (error_same be _ (hg.out.below (rbel_al (hw)))).mono ?_; clear cq cnt; have cnt : Mark 32 := .mk _; rintro e u31 ⟨rfl, hb⟩; replace hw : Below w.heap.size w u31 := rbel_on hb (rbel_al (hw)); replace PO : Row u31 (wc.heap.size) [.int .i64 0, .int .i64 0] := Row.on hb (Row.al (PO)); replace cO0 := PO.c 0 _ rfl; replace cO1 := PO.c 1 _ rfl; replace zO := PO.lt; replace fO0 := PO.f 0 _ rfl; replace fO1 := PO.f 1 _ rfl; replace PX : Row u31 (u30.heap.size) [.int .i64 0, .int .i64 0] := Row.on hb (Row.made (by simp)); replace cX0 := PX.c 0 _ rfl; replace cX1 := PX.c 1 _ rfl; replace zX := PX.lt; replace fX0 := PX.f 0 _ rfl; replace fX1 := PX.f 1 _ rfl; have hs31 := hw.size; clear hb))
      go_ret
      exact ⟨rfl, hw⟩
  · as_aux_lemma =>
      obtain ⟨gd, cd, gh, ch, Db, Hb, S, rfl, rfl, TB, IT⟩ := HR.out rfl
      have IT2 : IsT q m n T := by
        rcases HA.out with ⟨_, h⟩ | ⟨_, h, _⟩
        · cases h
        · exact h
      obtain ⟨g, rfl⟩ : ∃ g : Nat, x = g := ⟨x.toNat, by omega⟩
      obtain ⟨h, rfl⟩ : ∃ h : Nat, y = h := ⟨y.toNat, by omega⟩
      have hlg : g < n := by omega
      have hlh : h < n := by omega
      rw [show ((g : Int)).toNat = g from rfl, show ((h : Int)).toNat = h from rfl] at tn
      have eS : S g h = none := by rw [IT.one IT2 hlg h]; exact tn
      have BC : ∀ ob, (wc.alloc ob).cell? ⟨Hb g, h, none⟩ = some (.bool (S g h).isSome) := fun ob => ((TB.on (rbel_al (Below.refl _ _))).inH g hlg).c h _ (rowH_at _ _ _ _ hlh)
      have OH : ∀ ob, (wc.alloc ob).cell? ⟨gh, g, none⟩ = some (.slice (some ⟨Hb g, 0, none⟩) n n) := fun ob => (TB.on (rbel_al (Below.refl _ _))).outH g hlg
      have D0 : decide ((g : Int) < 0) = false := decide_eq_false (by omega)
      have D1 : decide ((n : Int) ≤ (g : Int)) = false := decide_eq_false (by omega)
      have D2 : decide ((h : Int) < 0) = false := decide_eq_false (by omega)
      have D3 : decide ((n : Int) ≤ (h : Int)) = false := decide_eq_false (by omega)
      have q4 : (S g h).isSome = false := by rw [eS]; rfl
      rw [q4] at BC
      clear HB HA HR TB IT IT2 eS tn q4
      go_wp2_with (first | (go_at_call 22; have cq : Mark 30 := cnt; refine (cB _ (rbel_al (hw))).mono ?_; clear cq cnt; have cnt : Mark 31 := .mk _; rintro e u30 ⟨rfl, hb⟩; replace hw : Below w.heap.size w u30 := rbel_on hb (rbel_al (hw)); replace PO : Row u30 (wc.heap.size) [.int .i64 0, .int .i64 0] := Row.on hb (Row.made (by simp)); replace cO0 := PO.c 0 _ rfl; replace cO1 := PO.c 1 _ rfl; replace zO := PO.lt; replace fO0 := PO.f 0 _ rfl; replace fO1 := PO.f 1 _ rfl; have y30_O_0 : wc.heap.size < u30.heap.size := (by omega); have n30_O_0 : ¬ (u30.heap.size = wc.heap.size) := (by omega); have m30_O_0 : ¬ (wc.heap.size = u30.heap.size) := (by omega); have hs30 := hw.size; clear hb) | (go_at_call 16; have cq : Mark 31 := cnt; refine (error_same 5 _ (hg.out.below (rbel_al (hw)))).mono ?_; clear cq cnt; have cnt : Mark 32 := .mk _; rintro e u31 ⟨rfl, hb⟩; replace hw : Below w.heap.size w u31 := rbel_on hb (rbel_al (hw)); replace PO : Row u31 (wc.heap.size) [.int .i64 0, .int .i64 0] := Row.on hb (Row.al (PO)); replace cO0 := PO.c 0 _ rfl; replace cO1 := PO.c 1 _ rfl; replace zO := PO.lt; replace fO0 := PO.f 0 _ rfl; replace fO1 := PO.f 1 _ rfl; replace PX : Row u31 (u30.heap.size) [.int .i64 0, .int .i64 0] := Row.on hb (Row.made (by simp)); replace cX0 := PX.c 0 _ rfl; replace cX1 := PX.c 1 _ rfl; replace zX := PX.lt; replace fX0 := PX.f 0 _ rfl; replace fX1 := PX.f 1 _ rfl; have hs31 := hw.size; clear hb))
      go_ret
      exact ⟨rfl, hw⟩
  · as_aux_lemma =>
      obtain ⟨gd, cd, gh, ch, Db, Hb, S, rfl, rfl, TB, IT⟩ := HR.out rfl
      have IT2 : IsT q m n T := by
        rcases HA.out with ⟨_, h⟩ | ⟨_, h, _⟩
        · cases h
        · exact h
      obtain ⟨g, rfl⟩ : ∃ g : Nat, x = g := ⟨x.toNat, by omega⟩
      obtain ⟨h, rfl⟩ : ∃ h : Nat, y = h := ⟨y.toNat, by omega⟩
      have hlg : g < n := by omega
      have hlh : h < n := by omega
      rw [show ((g : Int)).toNat = g from rfl, show ((h : Int)).toNat = h from rfl] at tz
      have eS : S g h = some z := by rw [IT.one IT2 hlg h]; exact tz
      have BC : ∀ ob, (wc.alloc ob).cell? ⟨Hb g, h, none⟩ = some (.bool (S g h).isSome) := fun ob => ((TB.on (rbel_al (Below.refl _ _))).inH g hlg).c h _ (rowH_at _ _ _ _ hlh)
      have OH : ∀ ob, (wc.alloc ob).cell? ⟨gh, g, none⟩ = some (.slice (some ⟨Hb g, 0, none⟩) n n) := fun ob => (TB.on (rbel_al (Below.refl _ _))).outH g hlg
      have D0 : decide ((g : Int) < 0) = false := decide_eq_false (by omega)
      have D1 : decide ((n : Int) ≤ (g : Int)) = false := decide_eq_false (by omega)
      have D2 : decide ((h : Int) < 0) = false := decide_eq_false (by omega)
      have D3 : decide ((n : Int) ≤ (h : Int)) = false := decide_eq_false (by omega)
      obtain ⟨z2, eZ⟩ := IT.back hlg hlh eS
      have OD : ∀ ob, (wc.alloc ob).cell? ⟨gd, g, none⟩ = some (.slice (some ⟨Db g, 0, none⟩) n n) := fun ob => (TB.on (rbel_al (Below.refl _ _))).outD g hlg
      have OE : ∀ ob, (wc.alloc ob).cell? ⟨gd, h, none⟩ = some (.slice (some ⟨Db h, 0, none⟩) n n) := fun ob => (TB.on (rbel_al (Below.refl _ _))).outD h hlh
      have DC : ∀ ob, (wc.alloc ob).cell? ⟨Db g, h, none⟩ = some (.int .i64 ((S g h).getD 0)) := fun ob => ((TB.on (rbel_al (Below.refl _ _))).inD g hlg).c h _ (rowD_at _ _ _ _ hlh)
      have DB : ∀ ob, (wc.alloc ob).cell? ⟨Db h, g, none⟩ = some (.int .i64 ((S h g).getD 0)) := fun ob => ((TB.on (rbel_al (Below.refl _ _))).inD h hlh).c g _ (rowD_at _ _ _ _ hlg)
      have tz2 : T h g = some z2 := by rw [← IT.one IT2 hlh g]; exact eZ
      have q1 : spLo T g h = -z2 := by unfold spLo; rw [tz, tz2]; rfl
      have q2 : spHi T g h = z := by unfold spHi; rw [tz]; rfl
      rw [show ((g : Int)).toNat = g from rfl, show ((h : Int)).toNat = h from rfl, q1, q2] at cB
      have q4 : (S g h).isSome = true := by rw [eS]; rfl
      have q5 : (S g h).getD 0 = z := by rw [eS]; rfl
      have q6 : (S h g).getD 0 = z2 := by rw [eZ]; rfl
      rw [q4] at BC
      rw [q5] at DC
      rw [q6] at DB
      have NF : -1000000000000 ≤ z2 ∧ z2 ≤ 1000000000000 := by
        rcases HA.out with ⟨_, k⟩ | ⟨_, _, ⟨_, k⟩ | ⟨k, _⟩⟩
        · cases k
        · cases k
        · exact not_far k hlh hlg tz2
      obtain ⟨zl, zh⟩ := NF
      have wz : IntKind.i64.wrap (-z2) = -z2 := IntWalk.i64_in _ (by omega)
      clear HB HA HR TB IT IT2 eS eZ tz tz2 q1 q2 q4 q5 q6
      go_upto_region 64 with (fail)
      go_region_held (fun w' => w'.cell? ⟨gd, h, none⟩ = some (.slice (some ⟨Db h, 0, none⟩) n n) ∧ w'.cell? ⟨Db h, g, none⟩ = some (.int .i64 z2) ∧ w'.cell? ⟨gd, g, none⟩ = some (.slice (some ⟨Db g, 0, none⟩) n n) ∧ w'.cell? ⟨Db g, h, none⟩ = some (.int .i64 z)) (first | exact ⟨OE _, DB _, OD _, DC _⟩ | go_keep) (fail)
      all_goals
        go_wp2_with (first | (go_at_call 22; have cq : Mark 30 := cnt; refine (cB _ (rbel_dr (rbel_al (hw)))).mono ?_; clear cq cnt; have cnt : Mark 31 := .mk _; rintro e u30 ⟨rfl, hb⟩; replace hw : Below w.heap.size w u30 := rbel_on hb (rbel_dr (rbel_al (hw))); replace PO : Row u30 (wc.heap.size) [.int .i64 (-z2), .int .i64 z] := Row.on hb (Row.dr (Row.made (by simp))); replace cO0 := PO.c 0 _ rfl; replace cO1 := PO.c 1 _ rfl; replace zO := PO.lt; replace fO0 := PO.f 0 _ rfl; replace fO1 := PO.f 1 _ rfl; have y30_O_0 : wc.heap.size < u30.heap.size := (by omega); have n30_O_0 : ¬ (u30.heap.size = wc.heap.size) := (by omega); have m30_O_0 : ¬ (wc.heap.size = u30.heap.size) := (by omega); have hs30 := hw.size; clear hb) | (go_at_call 16; have cq : Mark 31 := cnt; refine (error_same 0 _ (hg.out.below (rbel_al (hw)))).mono ?_; clear cq cnt; have cnt : Mark 32 := .mk _; rintro e u31 ⟨rfl, hb⟩; replace hw : Below w.heap.size w u31 := rbel_on hb (rbel_al (hw)); replace PO : Row u31 (wc.heap.size) [.int .i64 (-z2), .int .i64 z] := Row.on hb (Row.al (PO)); replace cO0 := PO.c 0 _ rfl; replace cO1 := PO.c 1 _ rfl; replace zO := PO.lt; replace fO0 := PO.f 0 _ rfl; replace fO1 := PO.f 1 _ rfl; replace PX : Row u31 (u30.heap.size) [.int .i64 (-z2), .int .i64 z] := Row.on hb (Row.made (by simp)); replace cX0 := PX.c 0 _ rfl; replace cX1 := PX.c 1 _ rfl; replace zX := PX.lt; replace fX0 := PX.f 0 _ rfl; replace fX1 := PX.f 1 _ rfl; have hs31 := hw.size; clear hb))
        go_ret
        exact ⟨rfl, hw⟩
end Go.Proofs.YtkjnbpfgodhopadDoor.boundsTell
