/- The ways through the law TopServes. -/
import Derived.Test.YtigcliepeapcpajGreatDoorNm18
import Derived.Test.YtigcliepeapcpajGreatDoorNm06
import Derived.BigQuiet
import Derived.Deep.QuietTactic
import Derived.Deep.RegionHeld
import Derived.Deep.CutRange
import Derived.Deep.CutBlock
import Derived.IntWalk
namespace Go.Proofs.YtigcliepeapcpajGreatDoor.topServes
open Go.ChangeShapes Go.WideShapes Go.ChangeAt Go.RowKit Go.Joins
set_option linter.unusedVariables false
set_option linter.unusedSimpArgs false

theorem Tv.more {w u : World} {C : NtV w} {K : CpP w} {Q : KqS w} {b : Nat} {F : Nat → Prop} {N : Nn} {cb : Nat} {c : Ck} {kb : Nat} {kp : Kp} {m : Nat} (g : Tv w C K Q u b F N cb c kb kp m) : Tv w C K Q u b F N cb c kb kp (m + 1) := ⟨g.n, g.hc, g.hk, g.ci, g.ki.more (by omega), g.lc, g.lk, g.fc, g.fk, g.ne⟩
set_option maxRecDepth 100000 in
set_option maxHeartbeats 40000000 in
theorem all_ways (st rate p : Int) (ga : Option Addr) (gn gc : Nat) (gz : Nat → Int) (ahead : Int) (w : World) (C : NtV w) (K : CpP w) (Q : KqS w) (O : TpV w) (h1 : In64 st) (h2 : In64 rate) (hp : In64 p) (hg : NHanded w ga gn gz) (ha : In64 ahead) :
    Calls Tryz.prog 3 #[.int .i64 st, .int .i64 rate, .int .i64 p, .slice ga gn gc, .int .i64 ahead] w fun o w' => o = .returned (.bool true) ∧ Below w.heap.size w w' := by
  obtain ⟨z, hz⟩ : ∃ z : Nat → Int, z = fun i => if i = 0 then 0 else st := ⟨_, rfl⟩
  obtain ⟨rz, hrz⟩ : ∃ z : Nat → Int, z = fun i => if i = 0 then rate else 0 := ⟨_, rfl⟩
  have z0 : z 0 = 0 := by rw [hz]; rfl
  have z1 : z 1 = st := by rw [hz]; rfl
  have q0 : rz 0 = rate := by rw [hrz]; rfl
  have q1 : rz 1 = 0 := by rw [hrz]; rfl
  clear hz hrz
  obtain ⟨e, hE⟩ := beE_some 2 z 2 rz p
  have c1 := one_serves O w
  have cN := fun (u1 : World) (hu : Below w.heap.size w u1) => C.new (some ⟨u1.heap.size, 0, none⟩) 2 2 z (some ⟨u1.heap.size + 1, 0, none⟩) 2 2 rz p e ((u1.alloc (.cells #[.int .i64 0, .int .i64 st] 3)).alloc (.cells #[.int .i64 rate, .int .i64 0] 3)) (rbel_al (rbel_al hu)) ⟨by omega, Or.inr ⟨_, 0, rfl, fun i hi => by
      have rr : Row ((u1.alloc (.cells #[.int .i64 0, .int .i64 st] 3)).alloc (.cells #[.int .i64 rate, .int .i64 0] 3)) u1.heap.size [.int .i64 0, .int .i64 st] := Row.al (Row.made rfl)
      have : i = 0 ∨ i = 1 := by omega
      rcases this with rfl | rfl
      · rw [z0]; exact rr.c 0 _ rfl
      · rw [z1]; exact rr.c 1 _ rfl⟩⟩ ⟨by omega, Or.inr ⟨_, 0, rfl, fun i hi => by
      have rr : Row ((u1.alloc (.cells #[.int .i64 0, .int .i64 st] 3)).alloc (.cells #[.int .i64 rate, .int .i64 0] 3)) (u1.heap.size + 1) [.int .i64 rate, .int .i64 0] := Row.made (by simp)
      have : i = 0 ∨ i = 1 := by omega
      rcases this with rfl | rfl
      · rw [q0]; exact rr.c 0 _ rfl
      · rw [q1]; exact rr.c 1 _ rfl⟩⟩ hp hE
  have HG : Hid (gn = 0 ∨ ∃ b off : Nat, ga = some ⟨b, off, none⟩ ∧ Nrd w b off gn gz) := hg.2
  have ng := hg.1
  have cKw : Hid (∀ u, Below w.heap.size w u → Calls Tryz.prog 6 #[.int .i64 ahead] u fun o w' => ∃ v e', o = .returned (.tuple #[v, e']) ∧ Below u.heap.size u w') := fun u hu => by
    by_cases k : 1 ≤ ahead ∧ ahead ≤ 1000000
    · exact (Q.new ahead u hu k.1 k.2).mono fun _ _ ⟨_, e, _, _, hb⟩ => ⟨_, _, e, hb⟩
    · exact (Q.bad ahead u hu ha (by omega)).mono fun _ _ ⟨_, e, hb⟩ => ⟨_, _, e, hb⟩
  have cCw : Hid (∀ u, Below w.heap.size w u → Calls Tryz.prog 7 #[.int .i64 p] u fun o w' => ∃ v e', o = .returned (.tuple #[v, e']) ∧ Below u.heap.size u w') := fun u hu => by
    by_cases k : 0 ≤ p ∧ p ≤ 1000
    · exact (K.new p u hu k.1 k.2).mono fun _ _ ⟨_, e, _, _, hb⟩ => ⟨_, _, e, hb⟩
    · exact (K.bad p u hu hp (by omega)).mono fun _ _ ⟨_, e, hb⟩ => ⟨_, _, e, hb⟩
  clear hg hp h1 h2
  go_enter Tryz.func3, Tryz.ntmps3
  by_cases ez : e = 0
  case neg =>
    rw [errc_not ez] at cN
    clear HG hE O
    go_wp2_with (first
      | (go_at_call 4; refine c1.mono ?_; rintro o u1 ⟨rfl, hb⟩; have B1 : Hid (Below w.heap.size w u1) := hb; clear hb)
      | (go_at_call 5; refine (cN _ B1.out).mono ?_; rintro o u2 ⟨pv, rfl, hb, hq⟩; have B2 : Hid (Below w.heap.size w u2) := rbel_on hb (rbel_al (rbel_al B1.out)); clear hb hq)
      | (go_at_call 6; refine (cKw.out _ B2.out).mono ?_; rintro o u3 ⟨kv, ke, rfl, hb⟩; have B3 : Hid (Below w.heap.size w u3) := rbel_on hb B2.out; clear hb)
      | (go_at_call 7; refine (cCw.out _ B3.out).mono ?_; rintro o u4 ⟨cv, ce, rfl, hb⟩; have B4 : Hid (Below w.heap.size w u4) := rbel_on hb B3.out; clear hb))
    go_ret
    exact ⟨rfl, B4.out⟩
  subst ez
  have pr : 0 ≤ p ∧ p ≤ 1000 := by
    rcases hE with ⟨_, e⟩ | ⟨_, _, e⟩ | ⟨_, _, _, e⟩ | ⟨⟨a, b, _, _⟩, e, _⟩
    · cases e
    · cases e
    · cases e
    · exact ⟨a, b⟩
  have SV := Sv.made hE z0 q1
  rw [z1, q0] at SV
  have HSV : Hid (Sv st rate p 0 (Nn.made 2 z rz p)) := SV
  have cN2 : Hid (∀ u1, Below w.heap.size w u1 → Calls Tryz.prog 5 #[.slice (some ⟨u1.heap.size, 0, none⟩) 2 2, .slice (some ⟨u1.heap.size + 1, 0, none⟩) 2 2, .int .i64 p] ((u1.alloc (.cells #[.int .i64 0, .int .i64 st] 3)).alloc (.cells #[.int .i64 rate, .int .i64 0] 3)) fun o w' => ∃ b F, o = .returned (.tuple #[.pointer (some ⟨b, 0, none⟩), .nilIface]) ∧ Nv w C.toNt w' b F (Nn.made 2 z rz p)) := fun u1 hu => (cN u1 hu).mono (by
    rintro o w' ⟨pv, rfl, hb, h⟩
    obtain ⟨b, F, rfl, h1, h2⟩ := h rfl
    rw [errc_zero]
    have hu2 : Below w.heap.size w ((u1.alloc (.cells #[.int .i64 0, .int .i64 st] 3)).alloc (.cells #[.int .i64 rate, .int .i64 0] 3)) := rbel_al (rbel_al hu)
    exact ⟨b, F, rfl, ⟨h1, Nn.made_t hE, fun k hk => Nat.le_trans hu2.size (h2 k hk), rbel_on hb hu2⟩⟩)
  clear cN hE SV
  by_cases ka : 1 ≤ ahead ∧ ahead ≤ 1000000
  case neg =>
    have cKb := fun u hu => Q.bad ahead u hu ha (by omega)
    clear HG O ka
    go_wp2_with (first
      | (go_at_call 4; refine c1.mono ?_; rintro o u1 ⟨rfl, hb⟩; have B1 : Hid (Below w.heap.size w u1) := hb; clear hb)
      | (go_at_call 5; refine (cN2.out _ B1.out).mono ?_; rintro o u2 ⟨b, F, rfl, hg⟩; have B2 : Hid (Below w.heap.size w u2) := hg.hw; clear hg)
      | (go_at_call 6; refine (cKb _ B2.out).mono ?_; rintro o u3 ⟨kv, rfl, hb⟩; have B3 : Hid (Below w.heap.size w u3) := rbel_on hb B2.out; clear hb)
      | (go_at_call 7; refine (cCw.out _ B3.out).mono ?_; rintro o u4 ⟨cv, ce, rfl, hb⟩; have B4 : Hid (Below w.heap.size w u4) := rbel_on hb B3.out; clear hb))
    go_ret
    exact ⟨rfl, B4.out⟩
  have cK2 : Hid (∀ u, Below w.heap.size w u → Calls Tryz.prog 6 #[.int .i64 ahead] u fun o w' => ∃ b : Nat, o = .returned (.tuple #[.pointer (some ⟨b, 0, none⟩), .nilIface]) ∧ u.heap.size ≤ b ∧ Q.R w' b (Kp.made ahead) ∧ Below u.heap.size u w') := fun u hu => Q.new ahead u hu ka.1 ka.2
  have cC2 : Hid (∀ u, Below w.heap.size w u → Calls Tryz.prog 7 #[.int .i64 p] u fun o w' => ∃ b : Nat, o = .returned (.tuple #[.pointer (some ⟨b, 0, none⟩), .nilIface]) ∧ u.heap.size ≤ b ∧ K.R w' b (Ck.made p) ∧ Below u.heap.size u w') := fun u hu => K.new p u hu pr.1 pr.2
  have HKa : Hid (1 ≤ ahead ∧ ahead ≤ 1000000) := ka
  clear cKw cCw ka
  go_wp2_with (first
    | (go_at_call 4; refine c1.mono ?_; rintro o u1 ⟨rfl, hb⟩; have B1 : Hid (Below w.heap.size w u1) := hb; clear hb)
    | (go_at_call 5; refine (cN2.out _ B1.out).mono ?_; rintro o u2 ⟨b, F, rfl, hg⟩; have G2 : Hid (Nv w C.toNt u2 b F (Nn.made 2 z rz p)) := hg; clear hg)
    | (go_at_call 6; refine (cK2.out _ G2.out.hw).mono ?_; rintro o u3 ⟨kb, rfl, hl, hR, hb⟩; have B3 : Hid (Below w.heap.size w u3) := rbel_on hb G2.out.hw; have G3 : Hid (Nv w C.toNt u3 b F (Nn.made 2 z rz p)) := G2.out.on hb; have K3 : Hid (Q.R u3 kb (Kp.made ahead)) := hR; have L3 : Hid (u2.heap.size ≤ kb) := hl; clear hb hR hl)
    | (go_at_call 7; refine (cC2.out _ B3.out).mono ?_; rintro o u4 ⟨cb, rfl, hl, hR, hb⟩; have G4 : Hid (Tv w C K Q u4 b F (Nn.made 2 z rz p) cb (Ck.made p) kb (Kp.made ahead) 0) := ⟨G3.out.on hb, hR, Q.on K3.out (hb.block kb (Q.lt K3.out)), Ck.made_i pr.1 pr.2, Kp.made_i HKa.out.1 HKa.out.2, Nat.le_trans B3.out.size hl, Nat.le_trans G2.out.hw.size L3.out, fun q => by have := C.lt G3.out.h cb q; omega, fun q => by have := C.lt G2.out.h kb q; have := L3.out; omega, fun q => by have := Q.lt K3.out; omega⟩; clear hb hR hl))
  clear c1 cN2 cK2 cC2
  go_loopw [18, 19, 20, 21, 22, 23, 24, 25, 26, 27, 28, 29, 30, 31, 32, 33, 34] (fun vl vt vi _ _ _ _ _ _ _ _ _ _ _ _ _ _ wr => ∃ (k : Nat) (T : Int) (F : Nat → Prop) (N : Nn) (c : Ck) (kp : Kp) (tx : ByteArray), k ≤ gn ∧ k ≤ 20 ∧ vi = .int .i64 k ∧ vl = .int .i64 kp.l ∧ vt = .string tx ∧ Lbl kp.l tx ∧ Sv st rate p T N ∧ T ≤ (k : Int) * 1000000 ∧ Hd p rate st T c ∧ kp.l ≤ 200000000 + k ∧ Tv w C K Q wr b F N cb c kb kp k) (fun _ _ vi _ _ _ _ _ _ _ _ _ _ _ _ _ _ _ => 20 - (intOf vi).toNat)
  case atStart => exact ⟨0, 0, F, _, Ck.made p, Kp.made ahead, ⟨#[]⟩, Nat.zero_le _, by omega, rfl, rfl, rfl, Or.inl ⟨rfl, rfl⟩, HSV.out, by omega, Hd.made (HSV.out.hp (by omega)), by show (-1 : Int) ≤ _; omega, G4.out⟩
  case round =>
    clear G4 HSV G3 G2 K3 L3 B3 B1
    clear F
    obtain ⟨k, T, F, N, c, kp, tx, hkn, hk20, rfl, rfl, rfl, hLb, hS, hT, hH, hkl, hG⟩ := hrel
    have G : Hid (Tv w C K Q wr b F N cb c kb kp k) := hG
    by_cases hlt : k < gn ∧ k < 20
    case neg =>
      have hc : ¬ ((k : Int) < gn) ∨ ((k : Int) < gn ∧ ¬ ((k : Int) < 20)) := by omega
      clear hlt hG hLb hS hH O HG
      rcases hc with h | ⟨h, h'⟩
      all_goals
        go_wp2
        go_ret
        exact ⟨rfl, G.out.n.hw⟩
    obtain ⟨hlt1, hlt2⟩ := hlt
    have hl3 : (k : Int) < gn := by omega
    have hl4 : (k : Int) < 20 := by omega
    obtain ⟨ab, off, rfl, hZ⟩ : ∃ b off : Nat, ga = some ⟨b, off, none⟩ ∧ Nrd w b off gn gz := HG.out.resolve_left (by omega)
    have s0 := (hZ.on hG.n.hw) k hlt1
    have lw := World.block_lt_of_cell? _ _ s0
    obtain ⟨g, hg⟩ : ∃ g, g = gz k := ⟨_, rfl⟩
    rw [← hg] at s0
    by_cases gg : 0 ≤ g ∧ g ≤ 1000000
    case neg =>
      have hc : g < 0 ∨ (¬ g < 0 ∧ 1000000 < g) := by omega
      have REL1 : Hid (Lbl kp.l tx ∧ Sv st rate p T N ∧ Hd p rate st T c) := ⟨hLb, hS, hH⟩
      clear hZ hG hLb hS hH O HG gg hg
      rcases hc with d | ⟨d, d'⟩
      · have dd : decide (g < 0) = true := decide_eq_true d
        go_wp2
        go_roundw
        case rel => exact ⟨k + 1, T, F, N, c, kp, tx, by omega, by omega, by go_num, rfl, rfl, REL1.out.1, REL1.out.2.1, by omega, REL1.out.2.2, by omega, Tv.more G.out⟩
        case measure => simp [intOf]; omega
      · have dd : decide (g < 0) = false := decide_eq_false d
        have dd' : decide (1000000 < g) = true := decide_eq_true d'
        go_wp2
        go_roundw
        case rel => exact ⟨k + 1, T, F, N, c, kp, tx, by omega, by omega, by go_num, rfl, rfl, REL1.out.1, REL1.out.2.1, by omega, REL1.out.2.2, by omega, Tv.more G.out⟩
        case measure => simp [intOf]; omega
    have LAB : Hid (ab < w.heap.size) := World.block_lt_of_cell? _ _ (hZ k hlt1)
    have WS : Hid (w.cell? ⟨ab, off + k, none⟩ = some (.int .i64 g)) := by rw [hg]; exact hZ k hlt1
    obtain ⟨g0, g1⟩ := gg
    have d1 : decide (g < 0) = false := decide_eq_false (by omega)
    have d2 : decide (1000000 < g) = false := decide_eq_false (by omega)
    have d3 : ¬ g < 0 := by omega
    have d4 : ¬ 1000000 < g := by omega
    have t60 : T + g ≤ 60000000 := by omega
    obtain ⟨N1, N2, N3, N4, D1, D2, D3, D4, S4, lo, hi, hB, b1, b2, b3, b4⟩ := hS.round g0 g1 t60
    have P0 := hS.hp (by have := hS.t.g.i.t0; omega)
    have P4 := S4.hp t60
    obtain ⟨he1, hH1⟩ := hH.step P0 P4 g0
    obtain ⟨he2, hH2, hk2⟩ := hH1.learnW P4 b1 b2 b3 b4
    obtain ⟨he3, l1, l2, l3⟩ := hH2.now P4 hk2
    obtain ⟨hH3, _, _, _⟩ := hH2.point P4
    obtain ⟨X, eX⟩ : ∃ X, X = shM rate (T + g) := ⟨_, rfl⟩
    rw [← eX] at he1 hH1 he2 hH2 hk2 he3 l1 l2 l3 hH3
    obtain ⟨c1, ec1⟩ : ∃ c1, c1 = c.stepC X := ⟨_, rfl⟩
    rw [← ec1] at hH1 he2 hH2 hk2 he3 l1 l2 l3 hH3
    obtain ⟨c2, ec2⟩ : ∃ c2, c2 = c1.learnC lo hi := ⟨_, rfl⟩
    rw [← ec2] at hH2 hk2 he3 l1 l2 l3 hH3
    have xb := shc_b P4.p0 P4.p1 P4.r0 P4.r1 P4.t0 P4.t1
    rw [← eX] at xb
    have stb := P4.b1
    have stb0 := P4.b0
    have nh : c2.nowHi ≤ 200000000 := by
      have q := hH2.n P4 hk2
      have eh := hH2.eh
      unfold Ck.nowHi
      rw [if_pos he3, eh, ← eX]
      omega
    have cD1 : Hid (∀ u F, Tv w C K Q u b F N cb c kb kp k → Calls Tryz.prog 8 #[.pointer (some ⟨b, 0, none⟩), .agg #[.int .i64 2, .int .i64 0, .int .i64 1]] u fun o w' => o = .returned .nilIface ∧ ∃ F', Tv w C K Q w' b F' N1 cb c kb kp k) := fun u F h => h.act (in64N (by omega)) (in64N (by omega)) (in64N (by omega)) D1
    have cD2 : Hid (∀ u F, Tv w C K Q u b F N1 cb c kb kp k → Calls Tryz.prog 8 #[.pointer (some ⟨b, 0, none⟩), .agg #[.int .i64 3, .int .i64 0, .int .i64 0]] u fun o w' => o = .returned .nilIface ∧ ∃ F', Tv w C K Q w' b F' N2 cb c kb kp k) := fun u F h => h.act (in64N (by omega)) (in64N (by omega)) (in64N (by omega)) D2
    have cD3 : Hid (∀ u F, Tv w C K Q u b F N2 cb c kb kp k → Calls Tryz.prog 8 #[.pointer (some ⟨b, 0, none⟩), .agg #[.int .i64 1, .int .i64 g, .int .i64 0]] u fun o w' => o = .returned .nilIface ∧ ∃ F', Tv w C K Q w' b F' N3 cb c kb kp k) := fun u F h => h.act (in64N (by omega)) (in64N (by omega)) (in64N (by omega)) D3
    have cD4 : Hid (∀ u F, Tv w C K Q u b F N3 cb c kb kp k → Calls Tryz.prog 8 #[.pointer (some ⟨b, 0, none⟩), .agg #[.int .i64 3, .int .i64 0, .int .i64 0]] u fun o w' => o = .returned .nilIface ∧ ∃ F', Tv w C K Q w' b F' N4 cb c kb kp k) := fun u F h => h.act (in64N (by omega)) (in64N (by omega)) (in64N (by omega)) D4
    have cS0 : Hid (∀ u F, Tv w C K Q u b F N4 cb c kb kp k → Calls Tryz.prog 9 #[.pointer (some ⟨b, 0, none⟩), .int .i64 0] u fun o w' => o = .returned (.tuple #[.int .i64 X, .nilIface]) ∧ Below u.heap.size u w') := fun u F h => (C.read b F N4 0 u h.n.h h.n.t (in64N (by omega))).mono (by
      rintro o w' ⟨h, hb⟩
      rcases h with ⟨_, rfl⟩ | ⟨h, _⟩
      · rw [show (0 : Int).toNat = 0 from rfl, S4.rd0, errc_zero, eX]
        exact ⟨rfl, hb⟩
      · exact absurd ⟨by omega, by rw [S4.n]; decide⟩ h)
    have cS1 : Hid (∀ u F, Tv w C K Q u b F N4 cb c kb kp k → Calls Tryz.prog 9 #[.pointer (some ⟨b, 0, none⟩), .int .i64 1] u fun o w' => o = .returned (.tuple #[.int .i64 (st + (T + g)), .nilIface]) ∧ Below u.heap.size u w') := fun u F h => (C.read b F N4 1 u h.n.h h.n.t (in64N (by omega))).mono (by
      rintro o w' ⟨h, hb⟩
      rcases h with ⟨_, rfl⟩ | ⟨h, _⟩
      · rw [show (1 : Int).toNat = 1 from rfl, S4.rd1, errc_zero]
        exact ⟨rfl, hb⟩
      · exact absurd ⟨by omega, by rw [S4.n]; decide⟩ h)
    have cO : Hid (∀ u F, Tv w C K Q u b F N4 cb c kb kp k → Calls Tryz.prog 10 #[.pointer (some ⟨b, 0, none⟩), .int .i64 0, .int .i64 1] u fun o w' => o = .returned (.tuple #[.agg #[.int .i64 lo, .int .i64 hi], .nilIface]) ∧ Below u.heap.size u w') := fun u F h => by
      have := C.off b F N4 0 1 lo hi 0 u h.n.h h.n.t (in64N (by omega)) (in64N (by omega)) hB
      rw [errc_zero] at this
      exact this
    have cSt : Hid (∀ u F, Tv w C K Q u b F N4 cb c kb kp k → Calls Tryz.prog 11 #[.pointer (some ⟨cb, 0, none⟩), .int .i64 X] u fun o w' => o = .returned .nilIface ∧ Tv w C K Q w' b F N4 cb c1 kb kp k ∧ Keeps (fun k => k = cb) u w') := fun u F h => (K.step cb c X u h.n.hw h.lc h.hc h.ci (in64N (by omega))).mono (by
      rintro o w' ⟨rfl, hR, hK⟩
      rw [he1, errc_zero]
      exact ⟨rfl, h.clk (by rw [ec1]; exact hR) hH1.i hK, hK⟩)
    have cLe : Hid (∀ u F, Tv w C K Q u b F N4 cb c1 kb kp k → Calls Tryz.prog 12 #[.pointer (some ⟨cb, 0, none⟩), .agg #[.int .i64 lo, .int .i64 hi]] u fun o w' => o = .returned .nilIface ∧ Tv w C K Q w' b F N4 cb c2 kb kp k) := fun u F h => (K.learn cb c1 lo hi u h.n.hw h.lc h.hc h.ci (in64N (by omega)) (in64N (by omega))).mono (by
      rintro o w' ⟨rfl, hR, hK⟩
      rw [he2, errc_zero]
      exact ⟨rfl, h.clk (by rw [ec2]; exact hR) hH2.i hK⟩)
    have cNo : Hid (∀ u F, Tv w C K Q u b F N4 cb c2 kb kp k → Calls Tryz.prog 13 #[.pointer (some ⟨cb, 0, none⟩)] u fun o w' => o = .returned (.tuple #[.agg #[.int .i64 c2.nowLo, .int .i64 c2.nowHi], .nilIface]) ∧ Tv w C K Q w' b F N4 cb c2 kb kp k) := fun u F h => (K.now cb c2 u h.n.hw h.lc h.hc h.ci).mono (by
      rintro o w' ⟨rfl, hR, hK⟩
      rw [he3, errc_zero]
      exact ⟨rfl, h.clk hR h.ci hK⟩)
    have cHa : Hid (∀ u, Calls Tryz.prog 14 #[.agg #[.int .i64 c2.nowLo, .int .i64 c2.nowHi], .int .i64 (st + (T + g))] u fun o w' => o = .returned (.tuple #[.bool true, .nilIface]) ∧ Below u.heap.size u w') := fun u => O.has _ _ _ u l3 l1 l2
    obtain ⟨c3, ec3⟩ : ∃ c3, c3 = c2.pointC := ⟨_, rfl⟩
    rw [← ec3] at hH3
    have cPo : Hid (∀ u F, Tv w C K Q u b F N4 cb c2 kb kp k → Calls Tryz.prog 15 #[.pointer (some ⟨cb, 0, none⟩)] u fun o w' => o = .returned (.tuple #[.int .i64 c2.pointN, errc c2.pointE]) ∧ Tv w C K Q w' b F N4 cb c3 kb kp k) := fun u F h => (K.point cb c2 u h.n.hw h.lc h.hc h.ci).mono (by
      rintro o w' ⟨rfl, hR, hK⟩
      exact ⟨rfl, h.clk (by rw [ec3]; exact hR) hH3.i hK⟩)
    have pnb : c2.pointE = 0 → c2.pointN ≤ 200000000 := fun z => by
      have q := (Ck.point_zero z).2
      unfold Ck.pointN
      rw [if_pos z]
      omega
    have HT2 : Hid (T + g ≤ ((k + 1 : Nat) : Int) * 1000000) := by show T + g ≤ ((k + 1 : Nat) : Int) * 1000000; omega
    have REL1 : Hid (Lbl kp.l tx ∧ Sv st rate p (T + g) N4 ∧ Hd p rate st (T + g) c3 ∧ kp.l ≤ 200000000 + k ∧ kp.I k) := ⟨hLb, S4, hH3, hkl, hG.ki⟩
    clear hZ hG hLb hS hH HG D1 D2 D3 D4 S4 hB b1 b2 b3 b4 P0 P4 he1 hH1 he2 hH2 hk2 he3 l1 l2 l3 hH3 eX ec1 ec2 ec3 xb stb stb0 nh hg hT hkl
    generalize c2.nowLo = nl at *
    generalize c2.nowHi = nh at *
    generalize st + (T + g) = th at *
    have WB : Hid (∀ u, Below w.heap.size w u → u.cell? ⟨ab, off + k, none⟩ = some (.int .i64 g)) := fun u hu => (hu.cell (p := ⟨ab, off + k, none⟩) LAB.out).trans WS.out
    have cnt : Mark 0 := .mk _
    by_cases pe : c2.pointE = 0
    case neg =>
      rw [errc_not pe] at cPo
      clear O pnb pe
      go_wp2_with (first
        | (go_at_call 8; have cm : Mark 0 := cnt; refine (cD1.out _ _ G.out).mono ?_; clear cm cnt; have cnt : Mark 1 := .mk _; rintro o v1 ⟨rfl, F1, hg⟩; have G1 : Hid (Tv w C K Q v1 b F1 N1 cb c kb kp k) := hg; have y1 := (WB.out v1 hg.n.hw); have yl1 := World.block_lt_of_cell? _ _ y1; clear hg)
        | (go_at_call 8; have cm : Mark 1 := cnt; refine (cD2.out _ _ G1.out).mono ?_; clear cm cnt; have cnt : Mark 2 := .mk _; rintro o v2 ⟨rfl, F2, hg⟩; have G2 : Hid (Tv w C K Q v2 b F2 N2 cb c kb kp k) := hg; have y2 := (WB.out v2 hg.n.hw); have yl2 := World.block_lt_of_cell? _ _ y2; clear hg)
        | (go_at_call 8; have cm : Mark 2 := cnt; refine (cD3.out _ _ G2.out).mono ?_; clear cm cnt; have cnt : Mark 3 := .mk _; rintro o v3 ⟨rfl, F3, hg⟩; have G3 : Hid (Tv w C K Q v3 b F3 N3 cb c kb kp k) := hg; have y3 := (WB.out v3 hg.n.hw); have yl3 := World.block_lt_of_cell? _ _ y3; clear hg)
        | (go_at_call 8; have cm : Mark 3 := cnt; refine (cD4.out _ _ G3.out).mono ?_; clear cm cnt; have cnt : Mark 4 := .mk _; rintro o v4 ⟨rfl, F4, hg⟩; have G4 : Hid (Tv w C K Q v4 b F4 N4 cb c kb kp k) := hg; have y4 := (WB.out v4 hg.n.hw); have yl4 := World.block_lt_of_cell? _ _ y4; clear hg)
        | (go_at_call 9; have cm : Mark 4 := cnt; refine (cS0.out _ _ G4.out).mono ?_; clear cm cnt; have cnt : Mark 5 := .mk _; rintro o v5 ⟨rfl, hb⟩; have G5 : Hid (Tv w C K Q v5 b F4 N4 cb c kb kp k) := G4.out.on hb; clear hb)
        | (go_at_call 9; refine (cS1.out _ _ G5.out).mono ?_; rintro o v6 ⟨rfl, hb⟩; have G6 : Hid (Tv w C K Q v6 b F4 N4 cb c kb kp k) := G5.out.on hb; clear hb)
        | (go_at_call 10; refine (cO.out _ _ G6.out).mono ?_; rintro o v7 ⟨rfl, hb⟩; have G7 : Hid (Tv w C K Q (v7.alloc (.cells #[.int .i64 lo, .int .i64 hi] 41)) b F4 N4 cb c kb kp k) := (G6.out.on hb).on (rbel_al (Below.refl _ _)); have R7 : Hid (Row (v7.alloc (.cells #[.int .i64 lo, .int .i64 hi] 41)) v7.heap.size [.int .i64 lo, .int .i64 hi]) := Row.made rfl; have L7 : Hid (cb < v7.heap.size) := K.lt (G6.out.on hb).hc; clear hb)
        | (go_at_call 11; refine (cSt.out _ _ G7.out).mono ?_; rintro o v8 ⟨rfl, hg, hK⟩; have G8 : Hid (Tv w C K Q v8 b F4 N4 cb c1 kb kp k) := hg; have R8 : Hid (Row v8 v7.heap.size [.int .i64 lo, .int .i64 hi]) := hK.row (fun e => by have := L7.out; omega) R7.out; have r8a := R8.out.c 0 _ rfl; have r8b := R8.out.c 1 _ rfl; have r8z := R8.out.lt; clear hg hK)
        | (go_at_call 12; refine (cLe.out _ _ G8.out).mono ?_; rintro o v9 ⟨rfl, hg⟩; have G9 : Hid (Tv w C K Q v9 b F4 N4 cb c2 kb kp k) := hg; clear hg)
        | (go_at_call 13; refine (cNo.out _ _ G9.out).mono ?_; rintro o v10 ⟨rfl, hg⟩; have G10 : Hid (Tv w C K Q (v10.alloc (.cells #[.int .i64 nl, .int .i64 nh] 41)) b F4 N4 cb c2 kb kp k) := hg.on (rbel_al (Below.refl _ _)); clear hg)
        | (go_at_call 14; refine (cHa.out _).mono ?_; rintro o v11 ⟨rfl, hb⟩; have G11 : Hid (Tv w C K Q v11 b F4 N4 cb c2 kb kp k) := G10.out.on hb; clear hb)
        | (go_at_call 15; refine (cPo.out _ _ G11.out).mono ?_; rintro o v12 ⟨rfl, hg⟩; have G12 : Hid (Tv w C K Q v12 b F4 N4 cb c3 kb kp k) := hg; clear hg))
      go_roundw
      case rel => exact ⟨k + 1, T + g, F4, N4, c3, kp, tx, by omega, by omega, by go_num, rfl, rfl, REL1.out.1, REL1.out.2.1, HT2.out, REL1.out.2.2.1, by have := REL1.out.2.2.2.1; omega, Tv.more G12.out⟩
      case measure => simp [intOf]; omega
    have pb := pnb pe
    rw [pe, errc_zero] at cPo
    clear pnb
    generalize c2.pointN = pn at *
    by_cases pz : pn < 0
    case pos =>
      clear O pe
      go_wp2_with (first
        | (go_at_call 8; have cm : Mark 0 := cnt; refine (cD1.out _ _ G.out).mono ?_; clear cm cnt; have cnt : Mark 1 := .mk _; rintro o v1 ⟨rfl, F1, hg⟩; have G1 : Hid (Tv w C K Q v1 b F1 N1 cb c kb kp k) := hg; have y1 := (WB.out v1 hg.n.hw); have yl1 := World.block_lt_of_cell? _ _ y1; clear hg)
        | (go_at_call 8; have cm : Mark 1 := cnt; refine (cD2.out _ _ G1.out).mono ?_; clear cm cnt; have cnt : Mark 2 := .mk _; rintro o v2 ⟨rfl, F2, hg⟩; have G2 : Hid (Tv w C K Q v2 b F2 N2 cb c kb kp k) := hg; have y2 := (WB.out v2 hg.n.hw); have yl2 := World.block_lt_of_cell? _ _ y2; clear hg)
        | (go_at_call 8; have cm : Mark 2 := cnt; refine (cD3.out _ _ G2.out).mono ?_; clear cm cnt; have cnt : Mark 3 := .mk _; rintro o v3 ⟨rfl, F3, hg⟩; have G3 : Hid (Tv w C K Q v3 b F3 N3 cb c kb kp k) := hg; have y3 := (WB.out v3 hg.n.hw); have yl3 := World.block_lt_of_cell? _ _ y3; clear hg)
        | (go_at_call 8; have cm : Mark 3 := cnt; refine (cD4.out _ _ G3.out).mono ?_; clear cm cnt; have cnt : Mark 4 := .mk _; rintro o v4 ⟨rfl, F4, hg⟩; have G4 : Hid (Tv w C K Q v4 b F4 N4 cb c kb kp k) := hg; have y4 := (WB.out v4 hg.n.hw); have yl4 := World.block_lt_of_cell? _ _ y4; clear hg)
        | (go_at_call 9; have cm : Mark 4 := cnt; refine (cS0.out _ _ G4.out).mono ?_; clear cm cnt; have cnt : Mark 5 := .mk _; rintro o v5 ⟨rfl, hb⟩; have G5 : Hid (Tv w C K Q v5 b F4 N4 cb c kb kp k) := G4.out.on hb; clear hb)
        | (go_at_call 9; refine (cS1.out _ _ G5.out).mono ?_; rintro o v6 ⟨rfl, hb⟩; have G6 : Hid (Tv w C K Q v6 b F4 N4 cb c kb kp k) := G5.out.on hb; clear hb)
        | (go_at_call 10; refine (cO.out _ _ G6.out).mono ?_; rintro o v7 ⟨rfl, hb⟩; have G7 : Hid (Tv w C K Q (v7.alloc (.cells #[.int .i64 lo, .int .i64 hi] 41)) b F4 N4 cb c kb kp k) := (G6.out.on hb).on (rbel_al (Below.refl _ _)); have R7 : Hid (Row (v7.alloc (.cells #[.int .i64 lo, .int .i64 hi] 41)) v7.heap.size [.int .i64 lo, .int .i64 hi]) := Row.made rfl; have L7 : Hid (cb < v7.heap.size) := K.lt (G6.out.on hb).hc; clear hb)
        | (go_at_call 11; refine (cSt.out _ _ G7.out).mono ?_; rintro o v8 ⟨rfl, hg, hK⟩; have G8 : Hid (Tv w C K Q v8 b F4 N4 cb c1 kb kp k) := hg; have R8 : Hid (Row v8 v7.heap.size [.int .i64 lo, .int .i64 hi]) := hK.row (fun e => by have := L7.out; omega) R7.out; have r8a := R8.out.c 0 _ rfl; have r8b := R8.out.c 1 _ rfl; have r8z := R8.out.lt; clear hg hK)
        | (go_at_call 12; refine (cLe.out _ _ G8.out).mono ?_; rintro o v9 ⟨rfl, hg⟩; have G9 : Hid (Tv w C K Q v9 b F4 N4 cb c2 kb kp k) := hg; clear hg)
        | (go_at_call 13; refine (cNo.out _ _ G9.out).mono ?_; rintro o v10 ⟨rfl, hg⟩; have G10 : Hid (Tv w C K Q (v10.alloc (.cells #[.int .i64 nl, .int .i64 nh] 41)) b F4 N4 cb c2 kb kp k) := hg.on (rbel_al (Below.refl _ _)); clear hg)
        | (go_at_call 14; refine (cHa.out _).mono ?_; rintro o v11 ⟨rfl, hb⟩; have G11 : Hid (Tv w C K Q v11 b F4 N4 cb c2 kb kp k) := G10.out.on hb; clear hb)
        | (go_at_call 15; refine (cPo.out _ _ G11.out).mono ?_; rintro o v12 ⟨rfl, hg⟩; have G12 : Hid (Tv w C K Q v12 b F4 N4 cb c3 kb kp k) := hg; clear hg))
      go_roundw
      case rel => exact ⟨k + 1, T + g, F4, N4, c3, kp, tx, by omega, by omega, by go_num, rfl, rfl, REL1.out.1, REL1.out.2.1, HT2.out, REL1.out.2.2.1, by have := REL1.out.2.2.2.1; omega, Tv.more G12.out⟩
      case measure => simp [intOf]; omega
    have kI := REL1.out.2.2.2.2
    have kl := REL1.out.2.2.2.1
    have nn : kp.n pn ≤ 1000000000000 := by
      unfold Kp.n
      split <;> omega
    have er : kp.readE pn = 0 := by
      unfold Kp.readE
      rw [if_neg (by omega), if_neg (by omega)]
    clear nn
    obtain ⟨t1, t2, t3, t4, t5, t6, t7⟩ := Kp.told kI er
    have xm : kp.readN pn ≤ 200000000 + k + 1 := by
      rw [t1]
      unfold Kp.n
      split <;> omega
    have cRe : Hid (∀ u F, Tv w C K Q u b F N4 cb c3 kb kp k → Calls Tryz.prog 16 #[.pointer (some ⟨kb, 0, none⟩), .int .i64 pn] u fun o w' => o = .returned (.tuple #[.int .i64 (kp.readN pn), .nilIface]) ∧ Tv w C K Q w' b F N4 cb c3 kb (kp.readC pn) (k + 1)) := fun u F h => (Q.read kb kp k pn u h.n.hw h.lk h.hk h.ki (by omega) (in64N (by omega))).mono (by
      rintro o w' ⟨rfl, hR, hK⟩
      rw [er, errc_zero]
      exact ⟨rfl, h.kee hR (Kp.read_i kI pn) hK⟩)
    have t5' : Hid ((kp.readC pn).l = kp.readN pn) := t5
    have kpl := kI.l0
    obtain ⟨x, ex⟩ : ∃ x, x = kp.readN pn := ⟨_, rfl⟩
    rw [← ex] at t2 t3 t6 xm cRe t5'
    have inx : inS q0L 0 x := ⟨t6, by show x < 86400 * 84006 + mor q0L 0 84006; have : mor q0L 0 84006 = 0 := rfl; omega⟩
    obtain ⟨y, m, d, h, i, s, hU⟩ := utc_some lps0 inx
    obtain ⟨ok, oh, _, _⟩ := hU.hands lps0
    have cU : Hid (∀ u, Below w.heap.size w u → Calls Tryz.prog 17 #[.slice none 0 0, .int .i64 x] u fun r w' => r = .returned (.tuple #[lbl y m d h i s, .nilIface]) ∧ Below u.heap.size u w') := fun u hu => O.utc x y m d h i s u hu (in64N (by omega)) inx hU
    have cP : Hid (∀ u, Below w.heap.size w u → Calls Tryz.prog 18 #[lbl y m d h i s] u fun r w' => r = .returned (.tuple #[.string (ltext y m d h i s), .nilIface]) ∧ Below u.heap.size u w') := fun u hu => O.print y m d h i s u hu ok oh
    obtain ⟨r1, r2⟩ := Lbl.rise REL1.out.1 hU ok oh t2
    have LB : Hid (Lbl x (ltext y m d h i s)) := Or.inr ⟨y, m, d, h, i, s, hU, ok, oh, rfl⟩
    have x1 : ¬ x ≤ kp.l := by omega
    have x2 : ¬ x < pn := by omega
    have HX : Hid (x ≤ 200000000 + ((k + 1 : Nat) : Int)) := by show x ≤ 200000000 + ((k + 1 : Nat) : Int); omega
    generalize ltext y m d h i s = tz at *
    clear O pe hU ok oh inx t1 t2 t3 t4 t5 t6 t7 xm kI kl er ex pb
    go_wp2_with (first
      | (go_at_call 8; have cm : Mark 0 := cnt; refine (cD1.out _ _ G.out).mono ?_; clear cm cnt; have cnt : Mark 1 := .mk _; rintro o v1 ⟨rfl, F1, hg⟩; have G1 : Hid (Tv w C K Q v1 b F1 N1 cb c kb kp k) := hg; have y1 := (WB.out v1 hg.n.hw); have yl1 := World.block_lt_of_cell? _ _ y1; clear hg)
        | (go_at_call 8; have cm : Mark 1 := cnt; refine (cD2.out _ _ G1.out).mono ?_; clear cm cnt; have cnt : Mark 2 := .mk _; rintro o v2 ⟨rfl, F2, hg⟩; have G2 : Hid (Tv w C K Q v2 b F2 N2 cb c kb kp k) := hg; have y2 := (WB.out v2 hg.n.hw); have yl2 := World.block_lt_of_cell? _ _ y2; clear hg)
        | (go_at_call 8; have cm : Mark 2 := cnt; refine (cD3.out _ _ G2.out).mono ?_; clear cm cnt; have cnt : Mark 3 := .mk _; rintro o v3 ⟨rfl, F3, hg⟩; have G3 : Hid (Tv w C K Q v3 b F3 N3 cb c kb kp k) := hg; have y3 := (WB.out v3 hg.n.hw); have yl3 := World.block_lt_of_cell? _ _ y3; clear hg)
        | (go_at_call 8; have cm : Mark 3 := cnt; refine (cD4.out _ _ G3.out).mono ?_; clear cm cnt; have cnt : Mark 4 := .mk _; rintro o v4 ⟨rfl, F4, hg⟩; have G4 : Hid (Tv w C K Q v4 b F4 N4 cb c kb kp k) := hg; have y4 := (WB.out v4 hg.n.hw); have yl4 := World.block_lt_of_cell? _ _ y4; clear hg)
        | (go_at_call 9; have cm : Mark 4 := cnt; refine (cS0.out _ _ G4.out).mono ?_; clear cm cnt; have cnt : Mark 5 := .mk _; rintro o v5 ⟨rfl, hb⟩; have G5 : Hid (Tv w C K Q v5 b F4 N4 cb c kb kp k) := G4.out.on hb; clear hb)
        | (go_at_call 9; refine (cS1.out _ _ G5.out).mono ?_; rintro o v6 ⟨rfl, hb⟩; have G6 : Hid (Tv w C K Q v6 b F4 N4 cb c kb kp k) := G5.out.on hb; clear hb)
        | (go_at_call 10; refine (cO.out _ _ G6.out).mono ?_; rintro o v7 ⟨rfl, hb⟩; have G7 : Hid (Tv w C K Q (v7.alloc (.cells #[.int .i64 lo, .int .i64 hi] 41)) b F4 N4 cb c kb kp k) := (G6.out.on hb).on (rbel_al (Below.refl _ _)); have R7 : Hid (Row (v7.alloc (.cells #[.int .i64 lo, .int .i64 hi] 41)) v7.heap.size [.int .i64 lo, .int .i64 hi]) := Row.made rfl; have L7 : Hid (cb < v7.heap.size) := K.lt (G6.out.on hb).hc; clear hb)
        | (go_at_call 11; refine (cSt.out _ _ G7.out).mono ?_; rintro o v8 ⟨rfl, hg, hK⟩; have G8 : Hid (Tv w C K Q v8 b F4 N4 cb c1 kb kp k) := hg; have R8 : Hid (Row v8 v7.heap.size [.int .i64 lo, .int .i64 hi]) := hK.row (fun e => by have := L7.out; omega) R7.out; have r8a := R8.out.c 0 _ rfl; have r8b := R8.out.c 1 _ rfl; have r8z := R8.out.lt; clear hg hK)
        | (go_at_call 12; refine (cLe.out _ _ G8.out).mono ?_; rintro o v9 ⟨rfl, hg⟩; have G9 : Hid (Tv w C K Q v9 b F4 N4 cb c2 kb kp k) := hg; clear hg)
        | (go_at_call 13; refine (cNo.out _ _ G9.out).mono ?_; rintro o v10 ⟨rfl, hg⟩; have G10 : Hid (Tv w C K Q (v10.alloc (.cells #[.int .i64 nl, .int .i64 nh] 41)) b F4 N4 cb c2 kb kp k) := hg.on (rbel_al (Below.refl _ _)); clear hg)
        | (go_at_call 14; refine (cHa.out _).mono ?_; rintro o v11 ⟨rfl, hb⟩; have G11 : Hid (Tv w C K Q v11 b F4 N4 cb c2 kb kp k) := G10.out.on hb; clear hb)
        | (go_at_call 15; refine (cPo.out _ _ G11.out).mono ?_; rintro o v12 ⟨rfl, hg⟩; have G12 : Hid (Tv w C K Q v12 b F4 N4 cb c3 kb kp k) := hg; clear hg)
      | (go_at_call 16; refine (cRe.out _ _ G12.out).mono ?_; rintro o v13 ⟨rfl, hg⟩; have G13 : Hid (Tv w C K Q v13 b F4 N4 cb c3 kb (kp.readC pn) (k + 1)) := hg; clear hg)
      | (go_at_call 17; refine (cU.out _ G13.out.n.hw).mono ?_; rintro o v14 ⟨rfl, hb⟩; have G14 : Hid (Tv w C K Q (v14.alloc (.cells #[.int .i64 y, .int .i64 m, .int .i64 d, .int .i64 h, .int .i64 i, .int .i64 s] 53)) b F4 N4 cb c3 kb (kp.readC pn) (k + 1)) := (G13.out.on hb).on (rbel_al (Below.refl _ _)); clear hb)
      | (go_at_call 18; refine (cP.out _ G14.out.n.hw).mono ?_; rintro o v15 ⟨rfl, hb⟩; have G15 : Hid (Tv w C K Q v15 b F4 N4 cb c3 kb (kp.readC pn) (k + 1)) := G14.out.on hb; clear hb))
    go_roundw
    case rel => exact ⟨k + 1, T + g, F4, N4, c3, kp.readC pn, tz, by omega, by omega, by go_num, by rw [t5'.out], rfl, by rw [t5'.out]; exact LB.out, REL1.out.2.1, HT2.out, REL1.out.2.2.1, by rw [t5'.out]; exact HX.out, G15.out⟩
    case measure => simp [intOf]; omega
end Go.Proofs.YtigcliepeapcpajGreatDoor.topServes
