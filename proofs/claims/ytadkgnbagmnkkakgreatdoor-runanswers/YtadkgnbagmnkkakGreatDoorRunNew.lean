/- The words of package run, as they are laid; a new desk. -/
import Derived.Test.YtadkgnbagmnkkakGreatDoorNm10
import Derived.Test.YtadkgnbagmnkkakGreatDoorNm08
import Derived.Laws.EntriesVeiled
import Derived.Carry
namespace Go.Proofs.YtadkgnbagmnkkakGreatDoor.rn
open Go.ChangeShapes Go.WideShapes Go.ChangeAt Go.RowKit Go.Joins Go.Maps
set_option linter.unusedVariables false
set_option linter.unusedSimpArgs false

set_option maxHeartbeats 8000000
set_option maxRecDepth 100000
theorem act_any (k : Int) (u : World) : Calls Tryz.prog 59 #[.int .i64 k] u fun o w' => o = .returned (.func (.func 88) #[] #[.pointer (some ⟨u.heap.size, 0, none⟩)]) ∧ w' = u.alloc (.cells #[.int .i64 k] 3) := by
 have hmf : ∀ (fn : Go.Fn) (first cap : Array Value) (w : World), (Instr.makeFunc fn first cap).run Tryz.prog w = .ok (.func fn first cap) w := fun _ _ _ _ => rfl
 go_enter Tryz.func59, Tryz.ntmps59
 go_wp2
 go_ret
 exact ⟨rfl, rfl⟩
section
variable {w u : World} {M n : Nat} {R : Value → Option (DataW Unit × List MemPlace)} {g : Nat → Nat} {D : DataW Unit}
theorem word_act (r1 : ∀ k, R (wV M k) = some (nV (g k), [])) (h : w.ownsMap Tryz.prog 9 R M n D) (hn : n < 20) (key : ByteArray) (hk : key.size ≤ 20) (k m : Nat) (hm : wantB k = m) (k1 : 1 ≤ k) (k5 : k ≤ 5) (hs : w.heap.size = M + k) : ∃ w', (Instr.mapUpdate 93 (.map (some M)) (.string key) (.agg #[.int .i64 (m : Int), .func (.func 88) #[] #[.pointer (some ⟨w.heap.size, 0, none⟩)]])).run Tryz.prog (w.alloc (.cells #[.int .i64 (k : Int)] 3)) = .ok () w' ∧ w'.ownsMap Tryz.prog 9 R M (n + 1) (D.put (.string key.data.toList) (nV (g k))) ∧ Row w' (M + k) [.int .i64 (k : Int)] ∧ (∀ b vs, b ≠ M → Row w b vs → Row w' b vs) ∧ w'.heap.size = M + k + 1 ∧ Keeps (fun j => j = M) w w' := by
 have ev : wV M k = .agg #[.int .i64 (m : Int), .func (.func 88) #[] #[.pointer (some ⟨w.heap.size, 0, none⟩)]] := by
  unfold wV fnK lbK
  rw [if_neg (by omega), if_pos k5, if_pos k5, hm, hs]
 have hv := r1 k
 rw [ev] at hv
 obtain ⟨w', hr, ho, hK, hz⟩ := ins_any (h.alloc (.cells #[.int .i64 (k : Int)] 3)) hn key hk hv
 exact ⟨w', hr, ho, hK.row (by omega) (Row.made hs.symm), fun b vs ne r => hK.row ne (Row.al r), by rw [hz]; simp [hs], (Keeps.al (Keeps.refl _ _)).trans hK⟩
theorem word_fn (r1 : ∀ k, R (wV M k) = some (nV (g k), [])) (h : w.ownsMap Tryz.prog 9 R M n D) (hn : n < 20) (key : ByteArray) (hk : key.size ≤ 20) (k m : Nat) (hm : wantB k = m) (k6 : 6 ≤ k) (f : Nat) (hf : fnK k = f) : ∃ w', (Instr.mapUpdate 93 (.map (some M)) (.string key) (.agg #[.int .i64 (m : Int), .func (.func f) #[] #[]])).run Tryz.prog w = .ok () w' ∧ w'.ownsMap Tryz.prog 9 R M (n + 1) (D.put (.string key.data.toList) (nV (g k))) ∧ (∀ b vs, b ≠ M → Row w b vs → Row w' b vs) ∧ Keeps (fun j => j = M) w w' := by
 have ev : wV M k = .agg #[.int .i64 (m : Int), .func (.func f) #[] #[]] := by
  unfold wV lbK
  rw [if_neg (by omega), if_neg (by omega), hm, hf]
 have hv := r1 k
 rw [ev] at hv
 obtain ⟨w', hr, ho, hK, hz⟩ := ins_any h hn key hk hv
 exact ⟨w', hr, ho, fun b vs ne r => hK.row ne r, hK⟩
theorem words_laid (u : World) : ∃ w1 w2 w3 w4 w5 w6 w7 w8 w9 : World, (Instr.mapUpdate 93 (.map (some u.heap.size)) (.string ⟨#[103, 111]⟩) (.agg #[.int .i64 1, .func (.func 88) #[] #[.pointer (some ⟨(u.alloc (.map #[] 0)).heap.size, 0, none⟩)]])).run Tryz.prog ((u.alloc (.map #[] 0)).alloc (.cells #[.int .i64 1] 3)) = .ok () w1 ∧ (Instr.mapUpdate 93 (.map (some u.heap.size)) (.string ⟨#[97, 115, 107]⟩) (.agg #[.int .i64 2, .func (.func 88) #[] #[.pointer (some ⟨w1.heap.size, 0, none⟩)]])).run Tryz.prog (w1.alloc (.cells #[.int .i64 2] 3)) = .ok () w2 ∧ (Instr.mapUpdate 93 (.map (some u.heap.size)) (.string ⟨#[100, 101, 108, 105, 118, 101, 114]⟩) (.agg #[.int .i64 1, .func (.func 88) #[] #[.pointer (some ⟨w2.heap.size, 0, none⟩)]])).run Tryz.prog (w2.alloc (.cells #[.int .i64 3] 3)) = .ok () w3 ∧ (Instr.mapUpdate 93 (.map (some u.heap.size)) (.string ⟨#[108, 111, 115, 101]⟩) (.agg #[.int .i64 1, .func (.func 88) #[] #[.pointer (some ⟨w3.heap.size, 0, none⟩)]])).run Tryz.prog (w3.alloc (.cells #[.int .i64 4] 3)) = .ok () w4 ∧ (Instr.mapUpdate 93 (.map (some u.heap.size)) (.string ⟨#[114, 101, 112, 101, 97, 116]⟩) (.agg #[.int .i64 1, .func (.func 88) #[] #[.pointer (some ⟨w4.heap.size, 0, none⟩)]])).run Tryz.prog (w4.alloc (.cells #[.int .i64 5] 3)) = .ok () w5 ∧ (Instr.mapUpdate 93 (.map (some u.heap.size)) (.string ⟨#[115, 104, 111, 119]⟩) (.agg #[.int .i64 1, .func (.func 60) #[] #[]])).run Tryz.prog w5 = .ok () w6 ∧ (Instr.mapUpdate 93 (.map (some u.heap.size)) (.string ⟨#[111, 102, 102, 115, 101, 116]⟩) (.agg #[.int .i64 2, .func (.func 61) #[] #[]])).run Tryz.prog w6 = .ok () w7 ∧ (Instr.mapUpdate 93 (.map (some u.heap.size)) (.string ⟨#[119, 105, 100, 101]⟩) (.agg #[.int .i64 0, .func (.func 62) #[] #[]])).run Tryz.prog w7 = .ok () w8 ∧ (Instr.mapUpdate 93 (.map (some u.heap.size)) (.string ⟨#[100, 97, 116, 101]⟩) (.agg #[.int .i64 1, .func (.func 63) #[] #[]])).run Tryz.prog w8 = .ok () w9 ∧ WdM w9 u.heap.size u.heap.size ∧ Keeps (fun j => j = u.heap.size) (u.alloc (.map #[] 0)) w9 := by
 obtain ⟨R, g, r1, r2, r3⟩ := reads (wV u.heap.size)
 have m0 := World.ownsMap_made u Tryz.prog 9 R
 obtain ⟨w1, q1, h1, c1, f1, z1, k1⟩ := word_act r1 m0 (by omega) ⟨#[103, 111]⟩ (by decide) 1 1 rfl (by omega) (by omega) (by simp)
 obtain ⟨w2, q2, h2, c2, f2, z2, k2⟩ := word_act r1 h1 (by omega) ⟨#[97, 115, 107]⟩ (by decide) 2 2 rfl (by omega) (by omega) (by omega)
 obtain ⟨w3, q3, h3, c3, f3, z3, k3⟩ := word_act r1 h2 (by omega) ⟨#[100, 101, 108, 105, 118, 101, 114]⟩ (by decide) 3 1 rfl (by omega) (by omega) (by omega)
 obtain ⟨w4, q4, h4, c4, f4, z4, k4⟩ := word_act r1 h3 (by omega) ⟨#[108, 111, 115, 101]⟩ (by decide) 4 1 rfl (by omega) (by omega) (by omega)
 obtain ⟨w5, q5, h5, c5, f5, z5, k5⟩ := word_act r1 h4 (by omega) ⟨#[114, 101, 112, 101, 97, 116]⟩ (by decide) 5 1 rfl (by omega) (by omega) (by omega)
 obtain ⟨w6, q6, h6, f6, k6⟩ := word_fn r1 h5 (by omega) ⟨#[115, 104, 111, 119]⟩ (by decide) 6 1 rfl (by omega) 60 rfl
 obtain ⟨w7, q7, h7, f7, k7⟩ := word_fn r1 h6 (by omega) ⟨#[111, 102, 102, 115, 101, 116]⟩ (by decide) 7 2 rfl (by omega) 61 rfl
 obtain ⟨w8, q8, h8, f8, k8⟩ := word_fn r1 h7 (by omega) ⟨#[119, 105, 100, 101]⟩ (by decide) 8 0 rfl (by omega) 62 rfl
 obtain ⟨w9, q9, h9, f9, k9⟩ := word_fn r1 h8 (by omega) ⟨#[100, 97, 116, 101]⟩ (by decide) 9 1 rfl (by omega) 63 rfl
 refine ⟨w1, w2, w3, w4, w5, w6, w7, w8, w9, q1, q2, q3, q4, q5, q6, q7, q8, q9, ⟨⟨R, g, _, r1, r2, r3, h9⟩, fun k k1 k5 => ?_⟩, k1.trans (k2.trans (k3.trans (k4.trans (k5.trans (k6.trans (k7.trans (k8.trans (k9))))))))⟩
 rcases (show k = 1 ∨ k = 2 ∨ k = 3 ∨ k = 4 ∨ k = 5 by omega) with rfl | rfl | rfl | rfl | rfl
 ·exact f9 _ _ (by omega) (f8 _ _ (by omega) (f7 _ _ (by omega) (f6 _ _ (by omega) (f5 _ _ (by omega) (f4 _ _ (by omega) (f3 _ _ (by omega) (f2 _ _ (by omega) (c1))))))))
 ·exact f9 _ _ (by omega) (f8 _ _ (by omega) (f7 _ _ (by omega) (f6 _ _ (by omega) (f5 _ _ (by omega) (f4 _ _ (by omega) (f3 _ _ (by omega) (c2)))))))
 ·exact f9 _ _ (by omega) (f8 _ _ (by omega) (f7 _ _ (by omega) (f6 _ _ (by omega) (f5 _ _ (by omega) (f4 _ _ (by omega) (c3))))))
 ·exact f9 _ _ (by omega) (f8 _ _ (by omega) (f7 _ _ (by omega) (f6 _ _ (by omega) (f5 _ _ (by omega) (c4)))))
 ·exact f9 _ _ (by omega) (f8 _ _ (by omega) (f7 _ _ (by omega) (f6 _ _ (by omega) (c5))))
end
theorem words_any (u : World) : Calls Tryz.prog 34 #[] u fun o w' => o = .returned (.map (some u.heap.size)) ∧ WdM w' u.heap.size u.heap.size ∧ Below u.heap.size u w' := by
 have hmm := @run_makeMap Tryz.prog
 obtain ⟨w1, w2, w3, w4, w5, w6, w7, w8, w9, q1, q2, q3, q4, q5, q6, q7, q8, q9, hM, kM⟩ := words_laid u
 have HM : Hid (WdM w9 u.heap.size u.heap.size) := hM
 have HK : Hid (Keeps (fun j => j = u.heap.size) (u.alloc (.map #[] 0)) w9) := kM
 clear hM kM
 rw [World.size_alloc] at q1
 go_enter Tryz.func34, Tryz.ntmps34
 go_wp2_with (go_at_call 59; refine (act_any _ _).mono ?_; rintro o w' ⟨rfl, hw'⟩; rw [hw']; clear hw' w')
 go_ret
 exact ⟨rfl, HM.out, (rbel_al (Below.refl _ _) : Below u.heap.size u (u.alloc (.map #[] 0))).trans (HK.out.below (by simp) (fun k h => by rw [h]; exact Nat.le_refl _))⟩
theorem desk_any {w0 : World} (C : DkC w0) (u : World) (hu : Below w0.heap.size w0 u) : Calls Tryz.prog 14 #[] u fun o w' => ∃ (nb M Z : Nat) (F : Nat → Prop), o = .returned (.tuple #[.pointer (some ⟨Z, 0, none⟩), .nilIface]) ∧ Nv w0 C.toNt w' nb F run0 ∧ (∀ k, F k → u.heap.size ≤ k ∧ k < M) ∧ u.heap.size ≤ M ∧ M + 5 < Z ∧ WdM w' M M ∧ Row w' Z [.pointer (some ⟨nb, 0, none⟩), .map (some M)] ∧ Below u.heap.size u w' := by
 have cN := Nv.made (u := (u.alloc (.cells #[.int .i64 0, .int .i64 1000, .int .i64 50] 3)).alloc (.cells #[.int .i64 100, .int .i64 (-100), .int .i64 0] 3)) C.toNt (sa := some ⟨u.heap.size, 0, none⟩) (n := 3) (sc := 3) (ra := some ⟨u.heap.size + 1, 0, none⟩) (m := 3) (rc := 3) (z := st3) (r := rt3) (ppm := 100) (rbel_al (rbel_al hu)) ⟨by omega, Or.inr ⟨_, 0, rfl, fun i hi => by
   have rr : Row ((u.alloc (.cells #[.int .i64 0, .int .i64 1000, .int .i64 50] 3)).alloc (.cells #[.int .i64 100, .int .i64 (-100), .int .i64 0] 3)) u.heap.size [.int .i64 0, .int .i64 1000, .int .i64 50] := Row.al (Row.made rfl)
   rcases (show i = 0 ∨ i = 1 ∨ i = 2 by omega) with rfl | rfl | rfl
   ·exact rr.c 0 _ rfl
   ·exact rr.c 1 _ rfl
   ·exact rr.c 2 _ rfl⟩⟩ ⟨by omega, Or.inr ⟨_, 0, rfl, fun i hi => by
   have rr : Row ((u.alloc (.cells #[.int .i64 0, .int .i64 1000, .int .i64 50] 3)).alloc (.cells #[.int .i64 100, .int .i64 (-100), .int .i64 0] 3)) (u.heap.size + 1) [.int .i64 100, .int .i64 (-100), .int .i64 0] := Row.made (by simp)
   rcases (show i = 0 ∨ i = 1 ∨ i = 2 by omega) with rfl | rfl | rfl
   ·exact rr.c 0 _ rfl
   ·exact rr.c 1 _ rfl
   ·exact rr.c 2 _ rfl⟩⟩ (WalkArith.wf_i64 (by omega)) beE3
 have B0 : Hid (Below u.heap.size u ((u.alloc (.cells #[.int .i64 0, .int .i64 1000, .int .i64 50] 3)).alloc (.cells #[.int .i64 100, .int .i64 (-100), .int .i64 0] 3))) := rbel_al (rbel_al (Below.refl _ _))
 clear hu
 go_enter Tryz.func14, Tryz.ntmps14
 go_wp2_with (first
  | (go_at_call 33; refine cN.mono ?_; rintro o u1 ⟨nb, F, rfl, g1, hb1, hF1⟩; have G1 : Hid (Nv w0 C.toNt u1 nb F run0) := g1; have B1 : Hid (Below u.heap.size u u1) := rbel_on hb1 B0.out; have F1 : Hid (∀ k, F k → u.heap.size ≤ k) := (fun k hk => Nat.le_trans B0.out.size (hF1 k hk)); clear g1 hb1 hF1 cN)
  | (go_at_call 34; refine (words_any _).mono ?_; rintro o u2 ⟨rfl, hM, hb2⟩; have B2 : Hid (Below u1.heap.size u1 u2) := hb2; have M2 : Hid (WdM u2 u1.heap.size u1.heap.size) := hM; clear hb2 hM))
 go_ret2
 have l5 := M2.out.ltc (show 1 ≤ 5 by omega) (Nat.le_refl 5)
 exact ⟨nb, u1.heap.size, u2.heap.size, F, rfl, (G1.out.on B2.out).on (rbel_al (Below.refl _ _)), fun k hk => ⟨F1.out k hk, C.lt G1.out.h k hk⟩, B1.out.size, l5, M2.out.on (rbel_al (Below.refl _ _)), Row.made rfl, rbel_al (rbel_on B2.out B1.out)⟩
end Go.Proofs.YtadkgnbagmnkkakGreatDoor.rn
