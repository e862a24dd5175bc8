/- The ways through the law KeeperPlays. -/
import Derived.Test.YtigcliepeapcpajDoorKeeperDefC
import Derived.Test.YtigcliepeapcpajDoorKeeperRow
import Derived.Test.YtigcliepeapcpajDoorKeeperRef
import Derived.Test.YtigcliepeapcpajDoorTold
import Derived.Lib.SmallJoins
import Derived.IntWalk
import Derived.Deep.CutRange
import Derived.Deep.CutBlock
namespace Go.Proofs.YtigcliepeapcpajDoor.keeperPlays
open Go.ChangeShapes Go.WideShapes Go.ChangeAt Go.RowKit Go.Joins Go.Proofs.YtigcliepeapcpajDoor.told
set_option linter.unusedVariables false
set_option linter.unusedSimpArgs false

theorem error_k (f : Int) (w : World) (he : EnvE w) : Calls Tryd.prog 5 #[errc f, .int .i64 f] w fun e w' => e = .returned (.bool true) ∧ Below w.heap.size w w' := error_same f w he
theorem keepsB {S : Nat → Prop} {u u' : World} {e : TypeId} {b : Nat} {vs : List Value} (hK : Keeps S u u') (hn : ¬ S b) (h : Blk u e b vs) : Blk u' e b vs := (hK.block b h.lt hn).trans h
/-- The program's keeper and the document's side by side. -/
structure K3 (w : World) (C : Kq w) (u : World) (p b : Nat) (c c' : Kp) (m : Nat) : Prop where
  r : C.R u p c
  mm : RK u b c'
  i : c.I m
  i' : c'.I m
  hw : Below w.heap.size w u
  ne : p ≠ b
  lp : w.heap.size ≤ p
  lb : w.heap.size ≤ b
abbrev K2 (w : World) (C : Kq w) (u : World) (p b : Nat) (c : Kp) (m : Nat) : Prop := K3 w C u p b c c m
section
variable {w u u' : World} {C : Kq w} {p b : Nat} {c c' d : Kp} {m m' : Nat}
theorem K3.on (hb : Below u.heap.size u u') (h : K3 w C u p b c c' m) : K3 w C u' p b c c' m := ⟨C.keep h.r hb, Blk.on hb h.mm, h.i, h.i', rbel_on hb h.hw, h.ne, h.lp, h.lb⟩
theorem K3.put {V i : Nat} {x : Value} (h : K3 w C u p b c c' m) (h1 : p ≠ V) (h2 : b ≠ V) (h3 : w.heap.size ≤ V) : K3 w C (u.setCell ⟨V, i, none⟩ x) p b c c' m := ⟨C.put h.r h1, Blk.far h2 h.mm, h.i, h.i', rbel_put h3 h.hw, h.ne, h.lp, h.lb⟩
theorem K3.go (h : K3 w C u p b c c' m) (hR : C.R u' p d) (hI : d.I m) (hK : Keeps (fun k => k = p) u u') : K3 w C u' p b d c' m :=
  ⟨hR, keepsB hK (fun e => h.ne e.symm) h.mm, hI, h.i', kbelK h.lp hK h.hw, h.ne, h.lp, h.lb⟩
theorem K3.goM (h : K3 w C u p b c c' m) (hR : RK u' b d) (hI : d.I m) (hK : Keeps (fun k => k = b) u u') : K3 w C u' p b c d m :=
  ⟨C.on h.r (hK.block p (C.lt h.r) (fun e => h.ne e)), hR, h.i, hI, kbelK h.lb hK h.hw, h.ne, h.lp, h.lb⟩
theorem K3.more (h : K3 w C u p b c c' m) (q : m ≤ m') : K3 w C u p b c c' m' := ⟨h.r, h.mm, h.i.more q, h.i'.more q, h.hw, h.ne, h.lp, h.lb⟩
theorem K3.crash (h : K3 w C u p b c.crashC c m) : K3 w C (u.setCell ⟨b, 1, none⟩ (.int .i64 (c.k - 1))) p b c.crashC c.crashC m :=
  ⟨C.put h.r h.ne, Blk.put 1 h.mm, h.i, h.i, rbel_put h.lb h.hw, h.ne, h.lp, h.lb⟩
end
set_option maxRecDepth 100000 in
set_option maxHeartbeats 4000000 in
theorem bad (q : Int) (a : Option Addr) (n cap : Nat) (w : World) (he : EnvE w) (C : Kq w) (wq : In64 q) (hq : q < 1 ∨ 1000000 < q) :
    Calls Tryd.prog 3 #[.int .i64 q, .slice a n cap] w fun o w' => o = .returned (.bool true) ∧ Below w.heap.size w w' := by
  have cN := C.bad q w (Below.refl _ _) wq hq
  have HE : Hid (EnvE w) := he
  have hq2 : q < 1 ∨ (¬ q < 1 ∧ 1000000 < q) := by omega
  clear wq he hq
  rcases hq2 with d | ⟨d, d2⟩
  all_goals
    go_enter Tryd.func3, Tryd.ntmps3
    go_wp2_with (first
      | (go_at_call 4; refine cN.mono ?_; rintro o u0 ⟨v, rfl, hb⟩; have HB : Hid (Below w.heap.size w u0) := hb; clear hb)
      | (go_at_call 5; refine (error_same 1 _ (HE.out.below HB.out)).mono ?_; rintro o u2 ⟨rfl, hb⟩; have HB2 : Hid _ := hb; clear hb))
    go_ret
    exact ⟨rfl, rbel_on HB2.out HB.out⟩
set_option maxRecDepth 100000 in
set_option maxHeartbeats 8000000 in
theorem good (q : Int) (a : Option Addr) (n cap : Nat) (ga : Nat → Option Addr) (k cc : Nat → Nat) (z : Nat → Nat → Int) (w : World) (he : EnvE w) (C : KqC w) (h0 : 1 ≤ q) (h1 : q ≤ 1000000) (hH : RHanded w a n ga k cc z) :
    Calls Tryd.prog 3 #[.int .i64 q, .slice a n cap] w fun o w' => o = .returned (.bool true) ∧ Below w.heap.size w w' := by
  have cN := C.new q w (Below.refl _ _) h0 h1
  have HE : Hid (EnvE w) := he
  have HH : Hid (n = 0 ∨ ∃ b off : Nat, a = some ⟨b, off, none⟩ ∧ ∀ i, i < n → w.cell? ⟨b, off + i, none⟩ = some (.slice (ga i) (k i) (cc i)) ∧ NHanded w (ga i) (k i) (z i) ∧ ∀ j, j < k i → In64 (z i j)) := hH.2
  have hn := hH.1
  have HI : Hid ((Kp.made q).I 0) := Kp.made_i h0 h1
  have d1 : ¬ (q < 1) := by omega
  have d2 : ¬ (1000000 < q) := by omega
  clear he hH h0 h1
  go_enter Tryd.func3, Tryd.ntmps3
  go_wp2_with (first
    | (go_at_call 4; refine cN.mono ?_; rintro o u0 ⟨p, rfl, hl, hR, hb⟩; have HB : Hid (Below w.heap.size w u0) := hb; have HR : Hid (C.R u0 p (Kp.made q)) := hR; have HL : Hid (w.heap.size ≤ p) := hl; clear hb hR hl)
    | (go_at_call 5; refine (error_same 0 _ (HE.out.below HB.out)).mono ?_; rintro o u1 ⟨rfl, hb⟩; have HB1 : Hid (Below w.heap.size w u1) := rbel_on hb HB.out; have HR1 : Hid (C.R u1 p (Kp.made q)) := C.keep HR.out hb; clear hb))
  have S0 : Hid (K2 w C.toKq (u1.alloc (.cells #[.int .i64 q, .int .i64 (-1), .int .i64 0, .int .i64 0] 31)) p u1.heap.size (Kp.made q) 0) := ⟨C.al HR1.out, Blk.made rfl, HI.out, HI.out, rbel_al HB1.out, fun e => by have := C.lt HR1.out; omega, HL.out, HB1.out.size⟩
  generalize u1.heap.size = b at *
  clear HB HR HL HB1 HR1 HI cN d1 d2
  go_loopw [8, 10] (fun vt vi wr => ∃ (i : Nat) (c : Kp), i ≤ n ∧ i ≤ 80 ∧ vi = .int .i64 i ∧ vt = .bool true ∧ K2 w C.toKq wr p b c i) (fun _ vi _ => 80 - (intOf vi).toNat)
  case atStart => exact ⟨0, _, Nat.zero_le _, by omega, rfl, rfl, S0.out⟩
  case round =>
    clear S0
    obtain ⟨i, c, hin, hi60, rfl, rfl, hS⟩ := hrel
    have HS : Hid (K2 w C.toKq wr p b c i) := hS
    by_cases hlt : i < n
    · have hl3 : (i : Int) < n := by omega
      by_cases hl60 : i < 80
      · have hl4 : (i : Int) < 80 := by omega
        obtain ⟨B, off, rfl, hZ⟩ : ∃ b off : Nat, a = some ⟨b, off, none⟩ ∧ ∀ i, i < n → w.cell? ⟨b, off + i, none⟩ = some (.slice (ga i) (k i) (cc i)) ∧ NHanded w (ga i) (k i) (z i) ∧ ∀ j, j < k i → In64 (z i j) := by
          rcases HH.out with e | h
          · omega
          · exact h
        obtain ⟨z1, z2, z3⟩ := hZ i hlt
        have s0 : wr.cell? ⟨B, off + i, none⟩ = some (.slice (ga i) (k i) (cc i)) := by rw [hS.hw.cell (World.block_lt_of_cell? _ _ z1)]; exact z1
        have HZ2 : Hid (NHanded w (ga i) (k i) (z i)) := z2
        have HZ3 : Hid (∀ j, j < k i → In64 (z i j)) := z3
        have HZ1 : Hid (w.cell? ⟨B, off + i, none⟩ = some (.slice (ga i) (k i) (cc i))) := z1
        have kb := z2.1
        have zw : Hid (w.heap.size ≤ wr.heap.size ∧ p < wr.heap.size ∧ b < wr.heap.size) := ⟨hS.hw.size, C.lt hS.r, Blk.lt hS.mm⟩
        clear hS hZ z1 z2 z3
        generalize ga i = gi at *
        generalize k i = ki at *
        generalize cc i = ci at *
        generalize z i = zi at *
        go_upto_block 2 with (fail)
        obtain ⟨V, eV⟩ : ∃ V, V = wr.heap.size := ⟨_, rfl⟩
        rw [← eV]
        have EV : Hid (V = wr.heap.size) := eV
        have nV : Hid (p ≠ V ∧ b ≠ V ∧ w.heap.size ≤ V) := by have := zw.out; show _ ∧ _ ∧ _; omega
        clear eV
        go_cut [12] from 51 to 72 (fun vj w' => ∃ v0 v1 : Int, In64 v0 ∧ In64 v1 ∧ Row w' V [.int .i64 v0, .int .i64 v1] ∧ K2 w C.toKq w' p b c i)
        case first =>
          go_wp2
          go_loopw [12] (fun vj wr' => ∃ j : Nat, j ≤ ki ∧ j ≤ 2 ∧ vj = .int .i64 j ∧ Row wr' V [.int .i64 (vT zi j 0), .int .i64 (vT zi j 1)] ∧ K2 w C.toKq wr' p b c i) (fun vj _ => 2 - (intOf vj).toNat)
          case atStart => exact ⟨0, Nat.zero_le _, by omega, rfl, by rw [EV.out]; exact Row.made rfl, HS.out.on (rbel_al (Below.refl _ _))⟩
          case round =>
            clear HS s0 EV zw
            obtain ⟨j, hjk, hj3, rfl, hV, hS⟩ := hrel
            have s0 : wr.cell? ⟨B, off + i, none⟩ = some (.slice gi ki ci) := by rw [hS.hw.cell (World.block_lt_of_cell? _ _ HZ1.out)]; exact HZ1.out
            have HS : Hid (K2 w C.toKq wr p b c i) := hS
            have HV : Hid (Row wr V [.int .i64 (vT zi j 0), .int .i64 (vT zi j 1)]) := hV
            by_cases hj : j < ki
            · have hjl : (j : Int) < ki := by omega
              by_cases hj2 : j < 2
              · have hjl3 : (j : Int) < 2 := by omega
                obtain ⟨gb, go, rfl, hN⟩ : ∃ gb go : Nat, gi = some ⟨gb, go, none⟩ ∧ Nrd w gb go ki zi := by
                  rcases HZ2.out.2 with e | h
                  · omega
                  · exact h
                have y0 := (hN.on hS.hw) j hj
                have cv : wr.cell? ⟨V, j, none⟩ = some (.int .i64 0) := by
                  refine hV.c j _ ?_
                  rcases (show j = 0 ∨ j = 1 by omega) with rfl | rfl <;> simp [vT]
                have fv : wr.frozen? ⟨V, j, none⟩ = false := by
                  refine hV.f j (.int .i64 0) ?_
                  rcases (show j = 0 ∨ j = 1 by omega) with rfl | rfl <;> simp [vT]
                clear hN hV hS
                have HVS : Hid (Row (wr.setCell ⟨V, j, none⟩ (.int .i64 (zi j))) V [.int .i64 (vT zi (j + 1) 0), .int .i64 (vT zi (j + 1) 1)]) := by
                  show Row _ _ _
                  rw [← vT_set2 zi j hj2]
                  exact Row.put j HV.out
                generalize zi j = zj at *
                go_wp2
                go_roundw
                case rel => exact ⟨j + 1, by omega, by omega, by go_num, HVS.out, HS.out.put nV.out.1 nV.out.2.1 nV.out.2.2⟩
                case measure => simp [intOf]; omega
              · have hjl3 : ¬ ((j : Int) < 2) := by omega
                clear hV hS
                go_wp2
                go_meet
                case rel => exact ⟨_, _, vT_in hjk HZ3.out, vT_in hjk HZ3.out, HV.out, HS.out⟩
            · have hjl : ¬ ((j : Int) < ki) := by omega
              clear hV hS
              go_wp2
              go_meet
              case rel => exact ⟨_, _, vT_in hjk HZ3.out, vT_in hjk HZ3.out, HV.out, HS.out⟩
        case rest =>
          obtain ⟨v0, v1, i0, i1, hV, hS⟩ := hcut
          clear HS s0 HZ1 HZ2 HZ3 zw EV kb
          have c0 := hV.c 0 _ rfl
          have c1 := hV.c 1 _ rfl
          have HV : Hid (Row wc V [.int .i64 v0, .int .i64 v1]) := hV
          have HS : Hid (K2 w C.toKq wc p b c i) := hS
          have zV := hV.lt
          clear hV hS
          by_cases k0 : v0 = 0
          · have cK := C.crash p c i wc HS.out.hw HS.out.lp HS.out.r HS.out.i (by omega)
            have HI2 : Hid (c.crashC.I i) := Kp.crash_i HS.out.i
            have wk : IntKind.i64.wrap (c.k - 1) = c.k - 1 := by have := HS.out.i.l0; have := HS.out.i.lk; have := HS.out.i.k1; exact IntWalk.i64_in _ (by omega)
            subst k0
            clear HH
            go_upto_region 23 with (go_at_call 6; refine cK.mono ?_; rintro o x1 ⟨rfl, hR, hK⟩; have S1 : Hid (K3 w C.toKq x1 p b c.crashC c i) := HS.out.go hR HI2.out hK; have a2 := Blk.c S1.out.mm 2 _ rfl; have a1 := Blk.c S1.out.mm 1 _ rfl; have b1 := Blk.f S1.out.mm 1; clear hR hK)
            have S3 : Hid (K2 w C.toKq (x1.setCell ⟨b, 1, none⟩ (.int .i64 (c.k - 1))) p b c.crashC (i + 1)) := S1.out.crash.more (by omega)
            clear a2 a1 b1 c0 c1 wk
            obtain ⟨x3, hx3⟩ : ∃ x3, x3 = x1.setCell ⟨b, 1, none⟩ (.int .i64 (c.k - 1)) := ⟨_, rfl⟩
            rw [← hx3] at S3 ⊢
            clear hx3
            generalize c.crashC = c' at *
            have cKp := fun u (h : K2 w C.toKq u p b c' (i + 1)) => C.kept p c' (i + 1) u h.hw h.lp h.r h.i (by omega)
            have cWr := fun u (h : K2 w C.toKq u p b c' (i + 1)) => C.writes p c' (i + 1) u h.hw h.lp h.r h.i (by omega)
            have e2 := Blk.c S3.out.mm 2 _ rfl
            have e3 := Blk.c S3.out.mm 3 _ rfl
            generalize hkk : c'.k = kk at *
            generalize hss : c'.s = ss at *
            go_region_held (fun w' => w'.cell? ⟨b, 2, none⟩ = some (.int .i64 kk) ∧ w'.cell? ⟨b, 3, none⟩ = some (.int .i64 ss)) (go_keep) (first
              | (go_at_call 9; refine (cKp _ (S3.out.on (rbel_dr (Below.refl _ _)))).mono ?_; rintro o x5 ⟨rfl, hR, hK⟩; have S5 : Hid (K2 w C.toKq x5 p b c' (i + 1)) := (S3.out.on (rbel_dr (Below.refl _ _))).go hR S3.out.i hK; have g2 := Blk.c S5.out.mm 2 _ rfl; have g3 := Blk.c S5.out.mm 3 _ rfl; (try rw [hkk] at g2); (try rw [hss] at g3); clear hR hK)
              | (go_at_call 10; refine (cWr _ S5.out).mono ?_; rintro o x6 ⟨rfl, hR, hK⟩; have S6 : Hid (K2 w C.toKq x6 p b c' (i + 1)) := S5.out.go hR S5.out.i hK; have q2 := Blk.c S6.out.mm 2 _ rfl; have q3 := Blk.c S6.out.mm 3 _ rfl; (try rw [hkk] at q2); (try rw [hss] at q3); clear hR hK))
            all_goals
              go_wp2
              go_roundw
              case rel => exact ⟨i + 1, c', by omega, by omega, by go_num, rfl, S6.out⟩
              case measure => simp [intOf]; omega
          · have d0 : (v0 == 0) = false := by simpa using k0
            have cM := rkread_any b c i v1 wc HS.out.mm HS.out.i (by omega)
            have cR := fun u (h : K3 w C.toKq u p b c (c.readC v1) (i + 1)) => C.read p c (i + 1) v1 u h.hw h.lp h.r h.i (by omega) i1
            have cE := fun u (h : Below w.heap.size w u) => error_k (c.readE v1) u (HE.out.below h)
            have HI1 : Hid ((c.readC v1).I (i + 1)) := Kp.read_i HS.out.i v1
            have nB : Hid (V ≠ b ∧ V ≠ p) := ⟨fun h => nV.out.2.1 h.symm, fun h => nV.out.1 h.symm⟩
            clear HH
            generalize c.readE v1 = e at *
            generalize c.readN v1 = rn at *
            generalize c.readC v1 = c' at *
            go_upto_region 23 with (first
              | (go_at_call 7; refine cM.mono ?_; rintro o x1 ⟨rfl, hR, hK⟩; have rV := hK.row nB.out.1 HV.out; have a1 := rV.c 1 _ rfl; have S1 : Hid (K3 w C.toKq x1 p b c c' (i + 1)) := (HS.out.more (m' := i + 1) (by omega)).goM hR HI1.out hK; clear hR hK rV)
              | (go_at_call 8; refine (cR _ S1.out).mono ?_; rintro o x2 ⟨rfl, hR, hK⟩; have S2 : Hid (K2 w C.toKq x2 p b c' (i + 1)) := S1.out.go hR HI1.out hK; clear hR hK)
              | (go_at_call 5; refine (cE _ S2.out.hw).mono ?_; rintro o x3 ⟨rfl, hb⟩; have S3 : Hid (K2 w C.toKq x3 p b c' (i + 1)) := S2.out.on hb; clear hb))
            have cKp := fun u (h : K2 w C.toKq u p b c' (i + 1)) => C.kept p c' (i + 1) u h.hw h.lp h.r h.i (by omega)
            have cWr := fun u (h : K2 w C.toKq u p b c' (i + 1)) => C.writes p c' (i + 1) u h.hw h.lp h.r h.i (by omega)
            have e2 := Blk.c S3.out.mm 2 _ rfl
            have e3 := Blk.c S3.out.mm 3 _ rfl
            generalize hkk : c'.k = kk at *
            generalize hss : c'.s = ss at *
            go_region_held (fun w' => w'.cell? ⟨b, 2, none⟩ = some (.int .i64 kk) ∧ w'.cell? ⟨b, 3, none⟩ = some (.int .i64 ss)) (go_keep) (first
              | (go_at_call 9; refine (cKp _ (S3.out.on (rbel_dr (Below.refl _ _)))).mono ?_; rintro o x5 ⟨rfl, hR, hK⟩; have S5 : Hid (K2 w C.toKq x5 p b c' (i + 1)) := (S3.out.on (rbel_dr (Below.refl _ _))).go hR S3.out.i hK; have g2 := Blk.c S5.out.mm 2 _ rfl; have g3 := Blk.c S5.out.mm 3 _ rfl; (try rw [hkk] at g2); (try rw [hss] at g3); clear hR hK)
              | (go_at_call 10; refine (cWr _ S5.out).mono ?_; rintro o x6 ⟨rfl, hR, hK⟩; have S6 : Hid (K2 w C.toKq x6 p b c' (i + 1)) := S5.out.go hR S5.out.i hK; have q2 := Blk.c S6.out.mm 2 _ rfl; have q3 := Blk.c S6.out.mm 3 _ rfl; (try rw [hkk] at q2); (try rw [hss] at q3); clear hR hK))
            all_goals
              go_wp2
              go_roundw
              case rel => exact ⟨i + 1, c', by omega, by omega, by go_num, rfl, S6.out⟩
              case measure => simp [intOf]; omega
      · have hl4 : ¬ ((i : Int) < 80) := by omega
        clear hS
        go_wp2
        go_ret
        exact ⟨rfl, HS.out.hw⟩
    · have hl3 : ¬ ((i : Int) < n) := by omega
      clear hS
      go_wp2
      go_ret
      exact ⟨rfl, HS.out.hw⟩
theorem all_ways (q : Int) (a : Option Addr) (n cap : Nat) (ga : Nat → Option Addr) (k cc : Nat → Nat) (z : Nat → Nat → Int) (w : World) (he : EnvE w) (C : KqC w) (wq : In64 q) (hH : RHanded w a n ga k cc z) :
    Calls Tryd.prog 3 #[.int .i64 q, .slice a n cap] w fun o w' => o = .returned (.bool true) ∧ Below w.heap.size w w' := by
  by_cases hq : 1 ≤ q ∧ q ≤ 1000000
  · exact good q a n cap ga k cc z w he C hq.1 hq.2 hH
  · exact bad q a n cap w he C.toKq wq (by omega)
end Go.Proofs.YtigcliepeapcpajDoor.keeperPlays
