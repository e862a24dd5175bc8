/- Package clock, as it landed: Point. -/
import Derived.Test.YthdjjjajhjmajafDoorClockPkgN
namespace Go.Proofs.YthdjjjajhjmajafDoor
open Go.ChangeShapes Go.WideShapes Go.ChangeAt Go.RowKit Go.Joins
set_option linter.unusedVariables false
set_option linter.unusedSimpArgs false

set_option maxRecDepth 100000 in
set_option maxHeartbeats 4000000 in
theorem ppoint_e (b : Nat) (c : Ck) (u : World) (hR : PC u b c) (hI : c.I) (hn : c.nowE ≠ 0) :
    Calls Tryd.prog 24 #[.pointer (some ⟨b, 0, none⟩)] u fun o w' => o = .returned (.tuple #[.int .i64 0, errc c.nowE]) ∧ Below u.heap.size u w' := by
  have cN := pnow_any b c u hR hI
  have zb := Blk.lt hR
  rw [errc_not hn] at cN ⊢
  clear hR hI hn
  generalize c.nowE = e at *
  generalize c.nowLo = nl at *
  generalize c.nowHi = nh at *
  go_enter Tryd.func24, Tryd.ntmps24
  go_wp2_with (go_at_call 22; refine cN.mono ?_; rintro o u2 ⟨rfl, hb⟩; have B2 : Hid (Below u.heap.size u u2) := hb; clear hb)
  go_ret2
  exact ⟨rfl, rbel_al B2.out⟩
set_option maxRecDepth 100000 in
set_option maxHeartbeats 4000000 in
theorem ppoint_b (b : Nat) (c : Ck) (u : World) (hR : PC u b c) (hI : c.I) (hn : c.nowE = 0) (dB : c.nowHi < c.tl) :
    Calls Tryd.prog 24 #[.pointer (some ⟨b, 0, none⟩)] u fun o w' => o = .returned (.tuple #[.int .i64 0, .iface 68 (.int .i64 8)]) ∧ Below u.heap.size u w' := by
  have cN := pnow_any b c u hR hI
  rw [hn, errc_zero] at cN
  have HR : Hid (PC u b c) := hR
  have zb := Blk.lt hR
  clear hR hI hn
  generalize c.nowLo = nl at *
  generalize c.nowHi = nh at *
  go_enter Tryd.func24, Tryd.ntmps24
  go_wp2_with (go_at_call 22; refine cN.mono ?_; rintro o u2 ⟨rfl, hb⟩; have hR2 := PC.keep hb HR.out; have zb2 := Blk.lt hR2; have d6 := Blk.c hR2 6 _ rfl; have B2 : Hid (Below u.heap.size u u2) := hb; clear hb hR2)
  go_quiet (fail)
  go_wp2
  go_ret2
  exact ⟨rfl, rbel_drn (rbel_al B2.out)⟩
set_option maxRecDepth 100000 in
set_option maxHeartbeats 4000000 in
theorem ppoint_k (b : Nat) (c : Ck) (n : Int) (u : World) (hR : PC u b c) (hI : c.I) (hn : c.nowE = 0) (dB : ¬ (c.nowHi < c.tl)) (hn2 : Hid ((if c.tl < c.mid then c.mid else c.tl) = n)) :
    Calls Tryd.prog 24 #[.pointer (some ⟨b, 0, none⟩)] u fun o w' => o = .returned (.tuple #[.int .i64 n, .nilIface]) ∧ Blk w' 76 b [.int .i64 c.p, .int .i64 c.h, .bool c.k, .int .i64 c.lo, .int .i64 c.hi, .int .i64 c.s, .int .i64 n] ∧ Keeps (fun k => k = b) u w' := by
  have cN := pnow_any b c u hR hI
  rw [hn, errc_zero] at cN
  have HR : Hid (PC u b c) := hR
  have zb := Blk.lt hR
  obtain ⟨m1, m2, m3, m4⟩ := Ck.mid_b hn
  have wS : IntKind.i64.wrap (c.nowLo + c.nowHi) = c.nowLo + c.nowHi := IntWalk.i64_in _ (by omega)
  have EM : Hid ((if c.tl < (c.nowLo + c.nowHi) / 2 then (c.nowLo + c.nowHi) / 2 else c.tl) = n) := hn2
  clear hR hI hn m1 m2 m3 m4 hn2
  generalize c.nowLo = nl at *
  generalize c.nowHi = nh at *
  go_enter Tryd.func24, Tryd.ntmps24
  go_wp2_with (go_at_call 22; refine cN.mono ?_; rintro o u2 ⟨rfl, hb⟩; have hR2 := PC.keep hb HR.out; have zb2 := Blk.lt hR2; have d6 := Blk.c hR2 6 _ rfl; have f6 := Blk.f hR2 6; have HR2 : Hid (PC u2 b c) := hR2; have B2 : Hid (Below u.heap.size u u2) := hb; clear hb hR2)
  go_quiet (fail)
  go_wp2
  go_region
  all_goals
    rw [EM.out]
    go_wp2
    go_ret2
    first
      | exact ⟨rfl, Blk.put 6 (Blk.drn (Blk.al HR2.out)), Keeps.put (S := fun k => k = b) rfl (Keeps.drn (Keeps.al (Keeps.of B2.out)))⟩
      | exact ⟨rfl, Blk.dr (Blk.put 6 (Blk.drn (Blk.al HR2.out))), Keeps.dr (Keeps.put (S := fun k => k = b) rfl (Keeps.drn (Keeps.al (Keeps.of B2.out))))⟩
theorem ppoint_any (b : Nat) (c : Ck) (u : World) (hR : PC u b c) (hI : c.I) :
    Calls Tryd.prog 24 #[.pointer (some ⟨b, 0, none⟩)] u fun o w' => o = .returned (.tuple #[.int .i64 c.pointN, errc c.pointE]) ∧ PC w' b c.pointC ∧ Keeps (fun k => k = b) u w' := by
  by_cases hn : c.nowE = 0
  · obtain ⟨m1, m2, m3, m4⟩ := Ck.mid_b hn
    have et : (c.t = true ∧ c.tl = c.l) ∨ (c.t = false ∧ c.tl = -1000000000000) := by
      unfold Ck.tl
      cases c.t
      · exact Or.inr ⟨rfl, rfl⟩
      · exact Or.inl ⟨rfl, rfl⟩
    have ep : c.pt = if c.tl < c.mid then c.mid else c.tl := by
      unfold Ck.pt
      rcases et with ⟨t, e⟩ | ⟨t, e⟩
      · by_cases q : c.mid < c.l
        · rw [if_pos ⟨t, q⟩, if_neg (by omega), e]
        · rw [if_neg (fun h => q h.2)]
          by_cases q2 : c.tl < c.mid
          · rw [if_pos q2]
          · rw [if_neg q2]; omega
      · rw [if_neg (fun h => by rw [t] at h; cases h.1)]
        by_cases q2 : c.tl < c.mid
        · rw [if_pos q2]
        · rw [if_neg q2]; omega
    by_cases dB : c.nowHi < c.tl
    · have e1 : c.pt = c.tl := by rw [ep, if_neg (by omega)]
      have e2 : c.pointE = 8 := by unfold Ck.pointE; rw [if_pos hn, if_pos (by omega)]
      have e3 : c.pointN = 0 := by unfold Ck.pointN; rw [e2]; rfl
      have e4 : c.pointC = c := by unfold Ck.pointC; rw [e2]; rfl
      rw [e2, e3, e4]
      exact (ppoint_b b c u hR hI hn dB).mono fun _ _ ⟨he, hb⟩ => ⟨he, PC.keep hb hR, .of hb⟩
    · have e1 : c.pt ≤ c.nowHi := by rw [ep]; split <;> omega
      have e2 : c.pointE = 0 := by unfold Ck.pointE; rw [if_pos hn, if_neg (by omega)]
      have e3 : c.pointN = c.pt := by unfold Ck.pointN; rw [if_pos e2]
      have e4 : c.pointC = { c with t := true, l := c.pt } := by unfold Ck.pointC; rw [if_pos e2]
      rw [e2, e3, e4]
      exact (ppoint_k b c c.pt u hR hI hn dB ep.symm).mono fun _ _ ⟨he, hB, hK⟩ => ⟨he, hB, hK⟩
  · have e2 : c.pointE = c.nowE := by unfold Ck.pointE; rw [if_neg hn]
    have e3 : c.pointN = 0 := by unfold Ck.pointN; rw [e2, if_neg hn]
    have e4 : c.pointC = c := by unfold Ck.pointC; rw [e2, if_neg hn]
    rw [e2, e3, e4]
    exact (ppoint_e b c u hR hI hn).mono fun _ _ ⟨he, hb⟩ => ⟨he, PC.keep hb hR, .of hb⟩
end Go.Proofs.YthdjjjajhjmajafDoor
