/- The ways through the law StatBetween. -/
import Derived.Test.YthejaecljkjliakStatDef
import Derived.Lib.SmallJoins
import Derived.IntWalk
import Derived.Deep.CutRange
import Derived.Deep.CutBlock
namespace Go.Proofs.Ythejaecljkjliak.statBetween
open Go.ChangeShapes Go.WideShapes Go.ChangeAt Go.RowKit Go.Joins
set_option linter.unusedVariables false
set_option linter.unusedSimpArgs false

/-- The law's own numbers. -/
def zO : Nat → Int
  | 0 => 9
  | 1 => 1
  | 2 => 5
  | 3 => 7
  | _ => 0
theorem zO_row {W : World} {B : Nat} (r : Row W B [.int .i64 9, .int .i64 1, .int .i64 5, .int .i64 7]) : NHanded W (some ⟨B, 0, none⟩) 4 zO := ⟨by omega, Or.inr ⟨B, 0, rfl, fun i hi => by
  have : i = 0 ∨ i = 1 ∨ i = 2 ∨ i = 3 := by omega
  rcases this with rfl | rfl | rfl | rfl
  · exact r.c 0 _ rfl
  · exact r.c 1 _ rfl
  · exact r.c 2 _ rfl
  · exact r.c 3 _ rfl⟩⟩
theorem zO_ok : NmE 4 zO 0 := Or.inr (Or.inr (Or.inr ⟨by decide, by decide, fun i hi => by
  have : i = 0 ∨ i = 1 ∨ i = 2 ∨ i = 3 := by omega
  rcases this with rfl | rfl | rfl | rfl <;> (show okT _; unfold okT; decide), rfl⟩))
theorem zO_mid : IsMid (lsN zO 4) ((4 - 1) / 2) 5 := by
  show IsMid [9, 1, 5, 7] 1 5
  unfold IsMid
  decide
/-- How many are below, above. -/
def blw (z : Nat → Int) (v : Int) (i : Nat) : Int := ((lsN z i).countP (fun x => decide (x < v)) : Nat)
def abv (z : Nat → Int) (v : Int) (i : Nat) : Int := ((lsN z i).countP (fun x => decide (v < x)) : Nat)
def isn (z : Nat → Int) (v : Int) (i : Nat) : Bool := (lsN z i).any (fun x => decide (x = v))
theorem blw_next (z : Nat → Int) (v : Int) (i : Nat) : blw z v (i + 1) = blw z v i + if z i < v then 1 else 0 := by
  unfold blw
  rw [lsN_snoc, List.countP_append]
  by_cases c : z i < v <;> simp [c]
theorem abv_next (z : Nat → Int) (v : Int) (i : Nat) : abv z v (i + 1) = abv z v i + if v < z i then 1 else 0 := by
  unfold abv
  rw [lsN_snoc, List.countP_append]
  by_cases c : v < z i <;> simp [c]
theorem isn_next (z : Nat → Int) (v : Int) (i : Nat) : isn z v (i + 1) = (isn z v i || decide (z i = v)) := by
  unfold isn
  rw [lsN_snoc, List.any_append]
  simp
theorem blw_b (z : Nat → Int) (v : Int) (i : Nat) : 0 ≤ blw z v i ∧ blw z v i ≤ i := by
  have := List.countP_le_length (p := fun x => decide (x < v)) (l := lsN z i)
  rw [lsN_len] at this
  unfold blw
  omega
theorem abv_b (z : Nat → Int) (v : Int) (i : Nat) : 0 ≤ abv z v i ∧ abv z v i ≤ i := by
  have := List.countP_le_length (p := fun x => decide (v < x)) (l := lsN z i)
  rw [lsN_len] at this
  unfold abv
  omega
theorem mid_all {z : Nat → Int} {n : Nat} {v : Int} (hn : 0 < n) (h : IsMid (lsN z n) ((n - 1) / 2) v) : isn z v n = true ∧ 2 * blw z v n ≤ n ∧ 2 * abv z v n ≤ n := by
  obtain ⟨a, b, c⟩ := h
  have len := List.length_eq_countP_add_countP (p := fun x => decide (x ≤ v)) (l := lsN z n)
  have e : (lsN z n).countP (fun x => decide ¬ decide (x ≤ v) = true) = (lsN z n).countP (fun x => decide (v < x)) := by
    congr 1
    funext x
    exact decide_eq_decide.2 (by simp)
  rw [lsN_len, e] at len
  refine ⟨?_, ?_, ?_⟩
  · unfold isn
    rw [List.any_eq_true]
    exact ⟨v, a, decide_eq_true rfl⟩
  · unfold blw; omega
  · unfold abv; omega
/-- What is carried on the way. -/
structure Lp (z : Nat → Int) (v : Int) (i : Nat) (L H : Int) (b : Bool) (x y : Int) : Prop where
  oL : okT L
  oH : okT H
  lo : ∀ j, j < i → L ≤ z j
  hi : ∀ j, j < i → z j ≤ H
  is : b = isn z v i
  bl : x = blw z v i
  ab : y = abv z v i
theorem Lp.next {z : Nat → Int} {v : Int} {i : Nat} {L H L' H' : Int} {b b' : Bool} {x y x' y' : Int} (h : Lp z v i L H b x y) (o : okT (z i)) (e1 : (z i < L ∧ L' = z i) ∨ (¬ z i < L ∧ L' = L)) (e2 : (H < z i ∧ H' = z i) ∨ (¬ H < z i ∧ H' = H)) (e3 : b' = (b || decide (z i = v))) (e4 : x' = x + if z i < v then 1 else 0) (e5 : y' = y + if v < z i then 1 else 0) : Lp z v (i + 1) L' H' b' x' y' := by
  refine ⟨?_, ?_, fun j hj => ?_, fun j hj => ?_, by rw [e3, isn_next, h.is], by rw [e4, blw_next, h.bl], by rw [e5, abv_next, h.ab]⟩
  · rcases e1 with ⟨_, rfl⟩ | ⟨_, rfl⟩
    · exact o
    · exact h.oL
  · rcases e2 with ⟨_, rfl⟩ | ⟨_, rfl⟩
    · exact o
    · exact h.oH
  · by_cases q : j = i
    · subst q; omega
    · have := h.lo j (by omega); omega
  · by_cases q : j = i
    · subst q; omega
    · have := h.hi j (by omega); omega
set_option maxRecDepth 100000 in
set_option maxHeartbeats 16000000 in
theorem all_ways (a : Option Addr) (n cap : Nat) (z : Nat → Int) (d : Int) (w : World) (S : StM w) (hH : NHanded w a n z) (hcp : n ≤ cap) (wd : In64 d) :
    Calls Try.prog 3 #[.slice a n cap, .int .i64 d] w fun o w' => o = .returned (.bool true) ∧ Below w.heap.size w w' := by
  obtain ⟨e, hE⟩ := nmE_some n z
  obtain ⟨v, hv1, hv2⟩ := med_some n z e hE
  have nn := hH.1
  have cO : Hid (∀ u B, Below w.heap.size w u → Row u B [.int .i64 9, .int .i64 1, .int .i64 5, .int .i64 7] → Calls Try.prog 5 #[.slice (some ⟨B, 0, none⟩) 4 4] u fun o w' => o = .returned (.tuple #[.int .i64 5, .nilIface]) ∧ Below u.heap.size u w') := fun u B hu r => by
    have h := S.median (some ⟨B, 0, none⟩) 4 4 zO 0 5 u hu (zO_row r) (by decide) zO_ok (fun _ => zO_mid) (fun q => absurd rfl q)
    rw [errc_zero] at h
    exact h
  have cM : Hid (∀ u, Below w.heap.size w u → Calls Try.prog 5 #[.slice a n cap] u fun o w' => o = .returned (.tuple #[.int .i64 v, errc e]) ∧ Below u.heap.size u w') := fun u hu => S.median a n cap z e v u hu (hH.on hu) hcp hE hv1 hv2
  have cnt : Mark 0 := .mk _
  by_cases z0 : e = 0
  · subst z0
    obtain ⟨n0, n60, hok⟩ := hE.zero
    have hm := mid_all n0 (hv1 rfl)
    obtain ⟨b0, off, rfl, hP⟩ : ∃ b off : Nat, a = some ⟨b, off, none⟩ ∧ Nrd w b off n z := by
      rcases hH.2 with q | h
      · omega
      · exact h
    have cA : Hid (∀ u, Below w.heap.size w u → Calls Try.prog 6 #[.slice (some ⟨b0, off, none⟩) n cap] u fun o w' => o = .returned (.tuple #[.int .i64 (mnN z n), .nilIface]) ∧ Below u.heap.size u w') := fun u hu => by
      have h := S.mean (some ⟨b0, off, none⟩) n cap z 0 u hu (hH.on hu) hcp hE
      rw [if_pos rfl, errc_zero] at h
      exact h
    obtain ⟨e1, hW1⟩ := wnE_some n z d
    have cW1 : Hid (∀ u, Below w.heap.size w u → Calls Try.prog 7 #[.slice (some ⟨b0, off, none⟩) n cap, .int .i64 d] u fun o w' => o = .returned (.tuple #[.int .i64 (if e1 = 0 then wnN z d.toNat n else 0), errc e1]) ∧ Below u.heap.size u w') := fun u hu => S.wander _ n cap z d e1 u hu (hH.on hu) hcp wd hW1
    obtain ⟨d2, hd2⟩ : ∃ d2, d2 = IntKind.i64.wrap (2 * d) := ⟨_, rfl⟩
    obtain ⟨e2, hW2⟩ := wnE_some n z d2
    have cW2 : Hid (∀ u, Below w.heap.size w u → Calls Try.prog 7 #[.slice (some ⟨b0, off, none⟩) n cap, .int .i64 d2] u fun o w' => o = .returned (.tuple #[.int .i64 (if e2 = 0 then wnN z d2.toNat n else 0), errc e2]) ∧ Below u.heap.size u w') := fun u hu => S.wander _ n cap z d2 e2 u hu (hH.on hu) hcp (by rw [hd2]; first | exact wf_wrap _ _ | exact OpenShut.wf_wrap _ _ | exact WalkArith.wf_wrap _ _) hW2
    have HW1 : Hid (WnE n z d e1) := hW1
    have HW2 : Hid (WnE n z d2 e2) := hW2
    have HD2 : Hid (d2 = IntKind.i64.wrap (2 * d)) := hd2
    have HOk : Hid (∀ i, i < n → okT (z i)) := hok
    have HMd : Hid (isn z v n = true ∧ 2 * blw z v n ≤ n ∧ 2 * abv z v n ≤ n) := hm
    have HP : Hid (Nrd w b0 off n z) := hP
    have n0' : ¬ ((n : Int) = 0) := by omega
    have n0'' : ((n : Int) == 0) = false := by simpa using n0'
    have p0 : (0 : Int) < n := by omega
    have HMe : Hid (∀ L H, (∀ j, j < n → L ≤ z j) → (∀ j, j < n → z j ≤ H) → L ≤ mnN z n ∧ mnN z n ≤ H) := fun L H h1 h2 => mnN_between n0 h1 h2
    rw [errc_zero] at cM
    clear hH hE hv1 hv2 hcp hW1 hW2 hm hok hP n0'
    have hd2' : IntKind.i64.wrap (2 * d) = d2 := hd2.symm
    clear hd2
    generalize mnN z n = mn at *
    go_enter Try.func3, Try.ntmps3
    go_wp2_with (first
      | (go_at_call 5; have cq : Mark 0 := cnt; refine (cO.out _ w.heap.size (rbel_al (Below.refl _ _)) (Row.made rfl)).mono ?_; clear cq cnt; have cnt : Mark 1 := .mk _; rintro o u0 ⟨rfl, hb⟩; have HB0 : Hid (Below w.heap.size w u0) := rbel_on hb (rbel_al (Below.refl _ _)); clear hb)
      | (go_at_call 5; have cq : Mark 1 := cnt; refine (cM.out _ HB0.out).mono ?_; clear cq cnt; rintro o u1 ⟨rfl, hb⟩; have HB1 : Hid (Below w.heap.size w u1) := rbel_on hb HB0.out; clear hb)
      | (go_at_call 6; refine (cA.out _ HB1.out).mono ?_; rintro o u2 ⟨rfl, hb⟩; have HB2 : Hid (Below w.heap.size w u2) := rbel_on hb HB1.out; have x0 : u2.cell? ⟨b0, off, none⟩ = some (.int .i64 (z 0)) := (HP.out.on HB2.out) 0 n0; clear hb))
    have HL0 : Hid (Lp z v 0 (z 0) (z 0) false 0 0) := ⟨HOk.out 0 n0, HOk.out 0 n0, fun j hj => by omega, fun j hj => by omega, rfl, rfl, rfl⟩
    clear HB0 HB1 cO cM cA x0
    go_loopw [11, 12, 13, 14, 15, 16] (fun vL vH vb vx vy vi wr => ∃ (i : Nat) (L H x y : Int) (b : Bool), i ≤ n ∧ vi = .int .i64 i ∧ vL = .int .i64 L ∧ vH = .int .i64 H ∧ vb = .bool b ∧ vx = .int .i64 x ∧ vy = .int .i64 y ∧ Lp z v i L H b x y ∧ wr = u2) (fun _ _ _ _ _ vi _ => n - (intOf vi).toNat)
    case atStart => exact ⟨0, z 0, z 0, 0, 0, false, Nat.zero_le _, rfl, rfl, rfl, rfl, rfl, rfl, HL0.out, rfl⟩
    case round =>
      clear HL0
      obtain ⟨i, L, H, x, y, b, hi, rfl, rfl, rfl, rfl, rfl, rfl, hL, hwr⟩ := hrel
      rw [hwr]
      clear hwr
      by_cases hlt : i < n
      · have hl3 : (i : Int) < n := by omega
        have x0 := (HP.out.on HB2.out) i hlt
        have xb : 0 ≤ x ∧ x ≤ i := by rw [hL.bl]; exact blw_b z v i
        have yb : 0 ≤ y ∧ y ≤ i := by rw [hL.ab]; exact abv_b z v i
        have w1 : IntKind.i64.wrap (x + 1) = x + 1 := IntWalk.i64_in _ (by omega)
        have w2 : IntKind.i64.wrap (y + 1) = y + 1 := IntWalk.i64_in _ (by omega)
        have HN : Hid (∀ L' H' b' x' y', ((z i < L ∧ L' = z i) ∨ (¬ z i < L ∧ L' = L)) → ((H < z i ∧ H' = z i) ∨ (¬ H < z i ∧ H' = H)) → b' = (b || decide (z i = v)) → x' = (x + if z i < v then 1 else 0) → y' = (y + if v < z i then 1 else 0) → Lp z v (i + 1) L' H' b' x' y') := fun L' H' b' x' y' q1 q2 q3 q4 q5 => hL.next (HOk.out i hlt) q1 q2 q3 q4 q5
        clear hL
        generalize z i = zi at *
        by_cases cL : zi < L
        all_goals by_cases cH : H < zi
        all_goals rcases Int.lt_trichotomy zi v with cv | cv | cv
        all_goals cases b
        all_goals
          first
            | (have k1 : ¬ (v < zi) := by omega
               have k2 : (zi == v) = false := by simp; omega
               have HR : Hid (∀ L' H', ((zi < L ∧ L' = zi) ∨ (¬ zi < L ∧ L' = L)) → ((H < zi ∧ H' = zi) ∨ (¬ H < zi ∧ H' = H)) → Lp z v (i + 1) L' H' _ (x + 1) y) := fun L' H' q1 q2 => HN.out L' H' _ (x + 1) y q1 q2 rfl (by rw [if_pos cv]) (by rw [if_neg k1]; omega)
               have eb : decide (zi = v) = false := decide_eq_false (by omega)
               simp only [eb, Bool.or_false] at HR
               clear HN
               go_wp2
               go_roundw
               case rel => exact ⟨i + 1, _, _, _, _, _, by omega, by go_num, rfl, rfl, rfl, rfl, rfl, HR.out _ _ (by omega) (by omega), by first | rfl | trivial⟩
               case measure => simp [intOf]; omega)
            | (have k1 : ¬ (v < zi) := by omega
               have k0 : ¬ (zi < v) := by omega
               have k2 : (zi == v) = true := beq_iff_eq.2 cv
               have HR : Hid (∀ L' H', ((zi < L ∧ L' = zi) ∨ (¬ zi < L ∧ L' = L)) → ((H < zi ∧ H' = zi) ∨ (¬ H < zi ∧ H' = H)) → Lp z v (i + 1) L' H' _ x y) := fun L' H' q1 q2 => HN.out L' H' _ x y q1 q2 rfl (by rw [if_neg k0]; omega) (by rw [if_neg k1]; omega)
               have eb : decide (zi = v) = true := decide_eq_true cv
               simp only [eb, Bool.or_true] at HR
               clear HN
               go_wp2
               go_roundw
               case rel => exact ⟨i + 1, _, _, _, _, _, by omega, by go_num, rfl, rfl, rfl, rfl, rfl, HR.out _ _ (by omega) (by omega), by first | rfl | trivial⟩
               case measure => simp [intOf]; omega)
            | (have k0 : ¬ (zi < v) := by omega
               have k2 : (zi == v) = false := by simp; omega
               have HR : Hid (∀ L' H', ((zi < L ∧ L' = zi) ∨ (¬ zi < L ∧ L' = L)) → ((H < zi ∧ H' = zi) ∨ (¬ H < zi ∧ H' = H)) → Lp z v (i + 1) L' H' _ x (y + 1)) := fun L' H' q1 q2 => HN.out L' H' _ x (y + 1) q1 q2 rfl (by rw [if_neg k0]; omega) (by rw [if_pos cv])
               have eb : decide (zi = v) = false := decide_eq_false (by omega)
               simp only [eb, Bool.or_false] at HR
               clear HN
               go_wp2
               go_roundw
               case rel => exact ⟨i + 1, _, _, _, _, _, by omega, by go_num, rfl, rfl, rfl, rfl, rfl, HR.out _ _ (by omega) (by omega), by first | rfl | trivial⟩
               case measure => simp [intOf]; omega)
      · have hl3 : ¬ ((i : Int) < n) := by omega
        have e : n = i := by omega
        obtain ⟨m1, m2, m3⟩ := HMd.out
        rw [e, ← hL.is] at m1
        rw [e, ← hL.bl] at m2
        rw [e, ← hL.ab] at m3
        rw [← e] at m2 m3
        obtain ⟨g1, g2⟩ := HMe.out L H (fun j hj => hL.lo j (by omega)) (fun j hj => hL.hi j (by omega))
        have xb : 0 ≤ x ∧ x ≤ i := by rw [hL.bl]; exact blw_b z v i
        have yb : 0 ≤ y ∧ y ≤ i := by rw [hL.ab]; exact abv_b z v i
        have w1 : IntKind.i64.wrap (2 * x) = 2 * x := IntWalk.i64_in _ (by omega)
        have w2 : IntKind.i64.wrap (2 * y) = 2 * y := IntWalk.i64_in _ (by omega)
        have oL := hL.oL
        have oH := hL.oH
        unfold okT at oL oH
        have w3 : IntKind.i64.wrap (H - L) = H - L := IntWalk.i64_in _ (by omega)
        have k1 : ¬ ((n : Int) < 2 * x) := by omega
        have k2 : ¬ ((n : Int) < 2 * y) := by omega
        have k3 : ¬ (mn < L) := by omega
        have k4 : ¬ (H < mn) := by omega
        have HLo : Hid (∀ j, j < n → L ≤ z j ∧ z j ≤ H) := fun j hj => ⟨hL.lo j (by omega), hL.hi j (by omega)⟩
        subst m1
        clear hL e m2 m3 g1 g2 HMe HMd HP
        have cnt : Mark 0 := .mk _
        by_cases q1 : e1 = 0
        · subst q1
          obtain ⟨_, d1, dn⟩ := WnE.zero HW1.out
          rw [if_pos rfl, errc_zero] at cW1
          obtain ⟨A, hA⟩ : ∃ A, A = wnN z d.toNat n := ⟨_, rfl⟩
          have aB : 0 ≤ A ∧ A ≤ H - L := by
            rw [hA]
            refine ⟨wnN_ge.1, wnN_le ?_ (fun j hj hd => ?_)⟩
            · have := HLo.out 0 n0; omega
            · have := HLo.out j hj
              have := HLo.out (j - d.toNat) (by omega)
              unfold dst
              split <;> omega
          have w4 : IntKind.i64.wrap (2 * A) = 2 * A := IntWalk.i64_in _ (by omega)
          have k5 : ¬ (100 < d) := by omega
          have k6 : A ≤ H - L := aB.2
          rw [← hA] at cW1
          by_cases q2 : e2 = 0
          · subst q2
            obtain ⟨_, d1', dn'⟩ := WnE.zero HW2.out
            have ed : d2 = 2 * d := by rw [HD2.out]; exact IntWalk.i64_in _ (by omega)
            rw [if_pos rfl, errc_zero] at cW2
            obtain ⟨A2, hA2⟩ : ∃ A2, A2 = wnN z d2.toNat n := ⟨_, rfl⟩
            have k7 : A2 ≤ 2 * A := by
              rw [hA2, hA, show d2.toNat = 2 * d.toNat by omega]
              exact wnN_twice z d.toNat n
            rw [← hA2] at cW2
            clear hA hA2 HLo HW1 HW2 HD2 HOk ed
            go_wp2_with (first
              | (go_at_call 7; have cq : Mark 0 := cnt; refine (cW1.out _ HB2.out).mono ?_; clear cq cnt; have cnt : Mark 1 := .mk _; rintro o u3 ⟨rfl, hb⟩; have HB3 : Hid (Below w.heap.size w u3) := rbel_on hb HB2.out; clear hb)
              | (go_at_call 7; have cq : Mark 1 := cnt; refine (cW2.out _ HB3.out).mono ?_; clear cq cnt; rintro o u4 ⟨rfl, hb⟩; have HB4 : Hid (Below w.heap.size w u4) := rbel_on hb HB3.out; clear hb))
            go_ret
            exact ⟨rfl, HB4.out⟩
          · rw [if_neg q2, errc_not q2] at cW2
            clear hA HLo HW1 HW2 HD2 HOk q2
            go_wp2_with (first
              | (go_at_call 7; have cq : Mark 0 := cnt; refine (cW1.out _ HB2.out).mono ?_; clear cq cnt; have cnt : Mark 1 := .mk _; rintro o u3 ⟨rfl, hb⟩; have HB3 : Hid (Below w.heap.size w u3) := rbel_on hb HB2.out; clear hb)
              | (go_at_call 7; have cq : Mark 1 := cnt; refine (cW2.out _ HB3.out).mono ?_; clear cq cnt; rintro o u4 ⟨rfl, hb⟩; have HB4 : Hid (Below w.heap.size w u4) := rbel_on hb HB3.out; clear hb))
            go_ret
            exact ⟨rfl, HB4.out⟩
        · rw [if_neg q1, errc_not q1] at cW1
          generalize hx2 : (if e2 = 0 then wnN z d2.toNat n else 0) = A2 at cW2
          generalize hx3 : errc e2 = E2 at cW2
          clear HLo HW1 HW2 HD2 HOk q1 hx2 hx3
          go_wp2_with (first
            | (go_at_call 7; have cq : Mark 0 := cnt; refine (cW1.out _ HB2.out).mono ?_; clear cq cnt; have cnt : Mark 1 := .mk _; rintro o u3 ⟨rfl, hb⟩; have HB3 : Hid (Below w.heap.size w u3) := rbel_on hb HB2.out; clear hb)
            | (go_at_call 7; have cq : Mark 1 := cnt; refine (cW2.out _ HB3.out).mono ?_; clear cq cnt; rintro o u4 ⟨rfl, hb⟩; have HB4 : Hid (Below w.heap.size w u4) := rbel_on hb HB3.out; clear hb))
          go_ret
          exact ⟨rfl, HB4.out⟩
  · rw [errc_not z0] at cM
    clear hH hE hv1 hv2 hcp z0
    go_enter Try.func3, Try.ntmps3
    go_wp2_with (first
      | (go_at_call 5; have cq : Mark 0 := cnt; refine (cO.out _ w.heap.size (rbel_al (Below.refl _ _)) (Row.made rfl)).mono ?_; clear cq cnt; have cnt : Mark 1 := .mk _; rintro o u0 ⟨rfl, hb⟩; have HB0 : Hid (Below w.heap.size w u0) := rbel_on hb (rbel_al (Below.refl _ _)); clear hb)
      | (go_at_call 5; have cq : Mark 1 := cnt; refine (cM.out _ HB0.out).mono ?_; clear cq cnt; rintro o u1 ⟨rfl, hb⟩; have HB1 : Hid (Below w.heap.size w u1) := rbel_on hb HB0.out; clear hb))
    go_ret
    exact ⟨rfl, HB1.out⟩
end Go.Proofs.Ythejaecljkjliak.statBetween
