/- A session on its way. Package run: a session, line by line. -/
import Derived.Test.YtadkgnbagmnkkakGreatDoorRunAns
import Derived.Test.YtadkgnbagmnkkakGreatDoorRunNew
import Derived.Test.YtadkgnbagmnkkakGreatDoorRunIterL
import Derived.Test.YtadkgnbagmnkkakGreatDoorRunBld
import Derived.Test.YtadkgnbagmnkkakGreatDoorNm08
import Derived.Test.YtadkgnbagmnkkakGreatDoorNm05
import Derived.Stop.RegionWithIn
import Derived.Test.YtadkgnbagmnkkakGreatDoorRunStr
import Derived.Shelf.RegionOpen
namespace Go.Proofs.YtadkgnbagmnkkakGreatDoor.rn
open Go.ChangeShapes Go.WideShapes Go.ChangeAt Go.RowKit Go.Joins Go.Shelf
set_option linter.unusedVariables false
set_option linter.unusedSimpArgs false
attribute [local go_sem] Oper.semAt_some

theorem keeps_putObj {W : World} {k : Nat} {ob : Obj} : Keeps (fun j => j = k) W (W.putObj k ob) := ⟨rfl, rfl, rfl, by simp, fun i hi hn => World.putObj_heap_other hn⟩
theorem app_txt (a b : List UInt8) : txt a ++ txt b = txt (a ++ b) := by
 apply ByteArray.ext
 apply Array.toList_inj.1
 simp [txt]
theorem keeps_sub {S S' : Nat → Prop} {W W' : World} (h : Keeps S W W') (hs : ∀ k, S k → S' k) : Keeps S' W W' := ⟨h.os, h.tape, h.output, h.size, fun k hk hn => h.block k hk (fun q => hn (hs k q))⟩
theorem Bdv.keep {B b : Nat} {v : Value} {x : List UInt8} {w w' : World} {S : Nat → Prop} (h : Bdv B b v x w) (hK : Keeps S w w') (hb : ¬ S b) (hv : ∀ k, v.ownBlock = some k → ¬ S k) : Bdv B b v x w' := by
 refine ⟨h.lo, ?_, own_keepN hK hv h.own, h.ne⟩
 rw [hK.block b h.lt hb]
 exact h.at_
theorem Bdv.on {B b : Nat} {v : Value} {x : List UInt8} {w w' : World} (h : Bdv B b v x w) (hb : Below w.heap.size w w') : Bdv B b v x w' := h.keep (S := fun _ => False) (Keeps.of hb) (fun q => q) (fun _ _ q => q)
structure Ses {w0 : World} (C : DkC w0) (u : World) (nb M Z T : Nat) (xs : List (List UInt8)) (r : List UInt8) (pre : List (List UInt8)) (W : World) : Prop where
 hw : Below u.heap.size u W
 lo : u.heap.size ≤ M ∧ M + 5 < Z ∧ Z < T
 st : ∃ (F : Nat → Prop) (N : Nn) (out r' : List UInt8) (v : Value), Nv w0 C.toNt W nb F N ∧ (∀ k, F k → (u.heap.size ≤ k ∧ k < M) ∨ T + 5 ≤ k) ∧ Bdv (T + 1) (T + 1) v out W ∧ (∀ k, v.ownBlock = some k → T + 5 ≤ k ∧ ¬ F k) ∧ (out = [] → v = .slice none 0 0) ∧ OutR N (xs.drop pre.length) r' ∧ r = out ++ r'
 p : Row W T [.pointer (some ⟨Z, 0, none⟩)]
 d : Row W Z [.pointer (some ⟨nb, 0, none⟩), .map (some M)]
 m : WdM W M M
section
variable {w0 u W W' : World} {C : DkC w0} {nb M Z T : Nat} {xs pre : List (List UInt8)} {r : List UInt8}
theorem Ses.keep (g : Ses C u nb M Z T xs r pre W) (hu : Below w0.heap.size w0 u) {S : Nat → Prop} (hS : ∀ k, S k → T + 2 ≤ k ∧ k < T + 5) (hK : Keeps S W W') : Ses C u nb M Z T xs r pre W' := by
 obtain ⟨hw, lo, ⟨F, N, out, r', v, gn, hF, hB, hv, h0, hO, hr⟩, p, d, m⟩ := g
 have sz := hw.size
 have nS : ∀ k, F k → ¬ S k := fun k hk h => by
  have := hS k h
  rcases hF k hk with q | q <;> omega
 have ns : ∀ k, k < T + 2 → ¬ S k := fun k hk h => by have := hS k h; omega
 refine ⟨hw.trans (hK.below sz (fun k h => by have := hS k h; omega)), lo, ⟨F, N, out, r', v, ⟨C.on gn.h hK.size (fun k hk => hK.block k (C.lt gn.h k hk) (nS k hk)), gn.t, gn.lo, gn.hw.trans (hK.below gn.hw.size (fun k h => by have := hS k h; have := hu.size; omega))⟩, hF, hB.keep hK (ns _ (by omega)) (fun k hk h => by have := hS k h; have := hv k hk; omega), hv, h0, hO, hr⟩, hK.row (ns _ (by omega)) p, hK.row (ns _ (by omega)) d, m.keep (hK.block _ m.lt (ns _ (by omega))) (fun k h1 h5 => hK.block _ (m.ltc h1 h5) (ns _ (by omega)))⟩
end
def lns (s : List UInt8) : List (List UInt8) := (linH s).map (fun x => Lib.trimSuffix x [10])
theorem lns_lin (s : List UInt8) : lns s = linB s := linH_lin s.length s (Nat.le_refl _)
theorem drop_lin {s x : List UInt8} {pre : List (List UInt8)} (h : pre ++ [x] <+: linH s) : (linB s).drop pre.length = Lib.trimSuffix x [10] :: (linB s).drop (pre ++ [x]).length := by
 rw [← lns_lin]
 unfold lns
 obtain ⟨t, e⟩ := h
 have a : ((pre.map (fun x => Lib.trimSuffix x [10]) ++ [Lib.trimSuffix x [10]]) ++ t.map (fun x => Lib.trimSuffix x [10])).drop pre.length = Lib.trimSuffix x [10] :: t.map (fun x => Lib.trimSuffix x [10]) := by
  rw [List.append_assoc, List.drop_left' (by simp)]
  rfl
 have b : ((pre.map (fun x => Lib.trimSuffix x [10]) ++ [Lib.trimSuffix x [10]]) ++ t.map (fun x => Lib.trimSuffix x [10])).drop (pre ++ [x]).length = t.map (fun x => Lib.trimSuffix x [10]) := List.drop_left' (by simp)
 rw [← e, List.map_append, List.map_append]
 show ((pre.map (fun x => Lib.trimSuffix x [10]) ++ [Lib.trimSuffix x [10]]) ++ t.map (fun x => Lib.trimSuffix x [10])).drop pre.length = Lib.trimSuffix x [10] :: ((pre.map (fun x => Lib.trimSuffix x [10]) ++ [Lib.trimSuffix x [10]]) ++ t.map (fun x => Lib.trimSuffix x [10])).drop (pre ++ [x]).length
 rw [a, b]
theorem linHn_len : ∀ (k : Nat) (t x : List UInt8), x ∈ linHn k t → x.length ≤ t.length
 | 0, t, x, h => by cases h
 | k + 1, t, x, h => by
  by_cases ne : t = []
  ·subst ne
   cases h
  ·have h : x ∈ lnH t :: linHn k (lnR t) := by
    have q : linHn (k + 1) t = lnH t :: linHn k (lnR t) := if_neg ne
    rw [← q]
    exact h
   rcases List.mem_cons.1 h with rfl | h
   ·unfold lnH
    rw [List.length_take]
    omega
   ·have := linHn_len k _ x h
    have := lnR_lt ne
    omega
theorem trim_len (x : List UInt8) : (Lib.trimSuffix x [10]).length ≤ x.length := by
 unfold Lib.trimSuffix
 split
 ·simp
 ·exact Nat.le_refl _
theorem Ses.step {w0 u W : World} {C : DkC w0} {nb M Z T : Nat} {s r x : List UInt8} {pre : List (List UInt8)} (g : Ses C u nb M Z T (linB s) r pre W) (hx : pre ++ [x] <+: linH s) : ∃ (F : Nat → Prop) (N N' : Nn) (out y r' : List UInt8) (v : Value), Nv w0 C.toNt W nb F N ∧ (∀ k, F k → (u.heap.size ≤ k ∧ k < M) ∨ T + 5 ≤ k) ∧ Bdv (T + 1) (T + 1) v out W ∧ (∀ k, v.ownBlock = some k → T + 5 ≤ k ∧ ¬ F k) ∧ LineR N (Lib.trimSuffix x [10]) N' y ∧ OutR N' ((linB s).drop (pre ++ [x]).length) r' ∧ r = (out ++ (y ++ [10])) ++ r' := by
 obtain ⟨hw, lo, ⟨F, N, out, r', v, gn, hF, hB, hv, h0, hO, hr⟩, p, d, m⟩ := g
 rw [drop_lin hx] at hO
 obtain ⟨N', y, r2, hL, hO2, e⟩ := hO
 exact ⟨F, N, N', out, y, r2, v, gn, hF, hB, hv, hL, hO2, by rw [hr, e]; simp⟩
end Go.Proofs.YtadkgnbagmnkkakGreatDoor.rn
namespace Go.Proofs.YtadkgnbagmnkkakGreatDoor.rn
open Go.ChangeShapes Go.WideShapes Go.ChangeAt Go.RowKit Go.Joins Go.Shelf
set_option linter.unusedVariables false
set_option linter.unusedSimpArgs false
set_option maxHeartbeats 8000000
set_option maxRecDepth 100000
attribute [local go_sem] Oper.semAt_some
theorem run_long (s : ByteArray) (u : World) (hs : 3000 < s.size) (hm : s.size ≤ 9223372036854775807) : Calls Tryz.prog 6 #[.string s] u fun o w' => o = .returned (.string ⟨#[116, 111, 111, 32, 108, 111, 110, 103, 10]⟩) ∧ w' = u := by
 go_enter Tryz.func6, Tryz.ntmps6
 go_wp2
 go_ret
 exact ⟨rfl, rfl⟩
theorem run_short {w0 : World} (C : DkC w0) (hE : told.EnvE w0) (hS : ShE w0) (hX : EnvX w0) (s : List UInt8) (r : List UInt8) (u : World) (hu : Below w0.heap.size w0 u) (hs : s.length ≤ 3000) (hR : OutR run0 (linB s) r) : Calls Tryz.prog 6 #[.string (txt s)] u fun o w' => o = .returned (.string (txt r)) ∧ Below u.heap.size u w' := by
 have z3 : (txt s).size ≤ 3000 := hs
 have cD := desk_any C u hu
 have HR : Hid (OutR run0 (linB s) r) := hR
 have rl : r.length ≤ 183061 := RunR.len (t := s) (Or.inr ⟨hs, hR⟩)
 clear hR
 refine (callsIn_wide (n := 8)).1 ?_
 refine callsIn_of_wp_marks Tryz.func6 rfl trivial ?_ rfl
 simp only [Tryz.ntmps6, List.size_toArray, List.length_cons, List.length_nil, Nat.reduceAdd, Nat.reduceSub, Array.replicate_succ, Array.replicate_zero, List.push_toArray, List.append_toArray, List.nil_append, List.cons_append]
 gi_wp2_with (first
  | (refine ⟨trivial, ?_⟩; gi_at_call 14; refine (callsIn_wide.2 cD).mono ?_; rintro o u1 ⟨nb, M, Z, F, rfl, g1, hF1, lM, lZ, hM, hd, hb⟩; have HG : Hid (Nv w0 C.toNt u1 nb F run0) := g1; have HF : Hid (∀ k, F k → u.heap.size ≤ k ∧ k < M) := hF1; have HM : Hid (WdM u1 M M) := hM; have HD : Hid (Row u1 Z [.pointer (some ⟨nb, 0, none⟩), .map (some M)]) := hd; have HB : Hid (Below u.heap.size u u1) := hb; have lZ2 : Z < u1.heap.size := hd.lt; clear g1 hF1 hM hd hb cD)
  | (refine ⟨trivial, ?_⟩; gi_at_call 16; refine (callsIn_wide.2 (linesL_any _ _)).mono ?_; rintro o w' ⟨rfl, rfl⟩))
 have H0 : Ses C u nb M Z u1.heap.size (linB s) r [] (((u1.alloc (.cells #[.pointer (some ⟨Z, 0, none⟩)] 42)).alloc (.cells #[.pointer none, .slice none 0 0] 49)).alloc (.cells #[.string (txt s)] 9)) := by
  have bW : Below u1.heap.size u1 (((u1.alloc (.cells #[.pointer (some ⟨Z, 0, none⟩)] 42)).alloc (.cells #[.pointer none, .slice none 0 0] 49)).alloc (.cells #[.string (txt s)] 9)) := rbel_al (rbel_al (rbel_al (Below.refl _ _)))
  have b0 := Bdv.made (u1.alloc (.cells #[.pointer (some ⟨Z, 0, none⟩)] 42))
  have e0 : (u1.alloc (.cells #[.pointer (some ⟨Z, 0, none⟩)] 42)).heap.size = u1.heap.size + 1 := by simp
  rw [e0] at b0
  exact ⟨rbel_on bW HB.out, ⟨lM, lZ, lZ2⟩, ⟨F, run0, [], r, .slice none 0 0, HG.out.on bW, fun k hk => Or.inl (HF.out k hk), Bdv.on b0 (rbel_al (Below.refl _ _)), fun k hk => (by cases hk), fun _ => rfl, HR.out, rfl⟩, Row.al (Row.al (Row.made rfl)), Row.al (Row.al (Row.al HD.out)), HM.out.on bW⟩
 have zW : (((u1.alloc (.cells #[.pointer (some ⟨Z, 0, none⟩)] 42)).alloc (.cells #[.pointer none, .slice none 0 0] 49)).alloc (.cells #[.string (txt s)] 9)).heap.size = u1.heap.size + 3 := by simp
 have nF : Tryz.prog.follows .mixedOrders = true := by kernel_rfl
 clear HG HF HM HD HB HR
 refine range_feeds (F := Fence.wide) rfl (by omega) (gf := 38) (lb := #[.pointer (some ⟨u1.heap.size + 1 + 1, 0, none⟩)]) rfl trivial (enters_of Tryz.func38 (by kernel_rfl) rfl) (encs := lnV) (E := fun _ => True) (b := u1.heap.size + 2) (xs := linH s) (by simp) (linesL_feed 7 (by omega) (u1.heap.size + 2) s _ hs (Blk.made (by simp))) (fun x => rfl)
  (Ses C u nb M Z u1.heap.size (linB s) r)
  (fun pre W g => trivial)
  (fun pre W k o o' g hk _ => g.keep hu (fun j hj => by rw [hj]; rcases hk with q | q <;> (rw [q, zW]; omega)) keeps_putObj)
  (fun pre W W' g hK => g.keep hu (fun j hj => by omega) hK)
  H0
  (fun x => { tmps := #[.string (txt s), undef, .string ⟨#[]⟩, .pointer (some ⟨u1.heap.size, 0, none⟩), .nilIface, .pointer (some ⟨u1.heap.size + 1, 0, none⟩), .string (txt x), .string (txt s), .int .i64 ((txt s).size : Int), .bool (decide (3000 < ((txt s).size : Int))), .tuple #[.pointer (some ⟨Z, 0, none⟩), .nilIface], .tuple #[.pointer (some ⟨Z, 0, none⟩), .nilIface], .pointer (some ⟨Z, 0, none⟩), .nilIface, .nilIface, .bool false, undef, undef, undef, .string (txt s), .func (.func 38) #[] #[.pointer (some ⟨u1.heap.size + 1 + 1, 0, none⟩)], .string (txt x), undef, undef, undef, undef, undef, undef, undef], defers := [] }) ?assign ?body ?done
 case assign =>
  intro l x W K hK
  dsimp only [lnV]
  gi_wp2
  exact hK
 case body =>
  intro l pre x W g hz hx
  obtain ⟨F', N, N', out, y, r', v, gn, hF, hB, hv, hL, hO, hr⟩ := g.step hx
  have xl : x ∈ linH s := hx.subset (by simp)
  have lx := linHn_len _ _ _ xl
  have lt := trim_len x
  have cT : ∀ w, Calls Tryz.prog 19 #[.string (txt x), .string ⟨#[10]⟩] w fun e w' => e = .returned (.string (txt (Lib.trimSuffix x [10]))) ∧ w' = w := fun w => Tryz.strings_TrimSuffix (txt x) ⟨#[10]⟩ w (by show x.length ≤ _; omega)
  have nFZ : ¬ F' Z := fun h => by
   have := g.lo
   rcases hF Z h with q | q <;> omega
  have nFX : ∀ k, 1 ≤ k → k ≤ 5 → ¬ F' (M + k) := fun k k1 k5 h => by
   have := g.lo
   rcases hF _ h with q | q <;> omega
  have cA := fun (w : World) (hw : Below W.heap.size W w) => answer_any (u := w) C hE hS hX (gn.on hw) (Row.on hw g.d) nFZ (g.m.on hw) nFX (Lib.trimSuffix x [10]) y (by omega) hL
  have d0 := g.p.c 0 _ rfl
  have ld := g.p.lt
  have sO : out.length + (y ++ [10]).length ≤ 1000000 := by
   have e := congrArg List.length hr
   simp only [List.length_append, List.length_cons, List.length_nil] at e ⊢
   omega
  have sy : (txt y).size + 1 ≤ 1000000 := by
   have e := sO
   simp only [List.length_append, List.length_cons, List.length_nil] at e
   show y.length + 1 ≤ 1000000
   omega
  have hz2 : u1.heap.size + 4 < W.heap.size := by
   have h := hz
   simp at h
   omega
  have HO : Hid (OutR N' ((linB s).drop (pre ++ [x]).length) r') := hO
  have HRR : Hid (r = (out ++ (y ++ [10])) ++ r') := hr
  have HGS : Hid (Ses C u nb M Z u1.heap.size (linB s) r pre W) := g
  have HFF : Hid (∀ k, F' k → (u.heap.size ≤ k ∧ k < M) ∨ u1.heap.size + 5 ≤ k) := hF
  have HBD : Hid (Bdv (u1.heap.size + 1) (u1.heap.size + 1) v out W) := hB
  have HV : Hid (∀ k, v.ownBlock = some k → u1.heap.size + 5 ≤ k ∧ ¬ F' k) := hv
  have ES : txt y ++ ⟨#[10]⟩ = ⟨(y ++ [10]).toArray⟩ := by
   rw [show (⟨#[10]⟩ : ByteArray) = txt [10] from rfl, app_txt]
   rfl
  clear hO hr g hF hL gn H0 hB hv xl
  generalize Lib.trimSuffix x [10] = xt at *
  gi_wp2
  gi_region_with_o (first
   | (refine ⟨trivial, ?_⟩; gi_at_call 19; refine (CallsIn.inRound l (callsIn_wide.2 (cT _))).mono ?_; rintro o w' ⟨rfl, hw'⟩; rw [hw']; clear hw' w')
   | (refine ⟨trivial, ?_⟩; gi_at_call 18; refine (CallsIn.inRound l (callsIn_wide.2 (cA _ (by first | exact Below.refl _ _ | exact rbel_dr (Below.refl _ _))))).mono ?_; rintro o w' ⟨F2, rfl, g2, hK2, hF2⟩; have G2 : Hid (Nv w0 C.toNt w' nb F2 N') := g2; have K2 : Hid (Keeps F' W w') := ⟨hK2.os, hK2.tape, hK2.output, hK2.size, hK2.block⟩; have F22 : Hid (∀ k, F2 k → F' k ∨ W.heap.size ≤ k) := hF2; have B2 : Hid (Bdv (u1.heap.size + 1) (u1.heap.size + 1) v out w') := HBD.out.keep K2.out (fun h => by rcases HFF.out _ h with q | q <;> (have := HGS.out.lo; omega)) (fun k hk => (HV.out k hk).2); have sw := K2.out.size; have ZP : Hid (Row w' u1.heap.size [.pointer (some ⟨Z, 0, none⟩)]) := K2.out.row (fun h => by rcases HFF.out _ h with q | q <;> (have := HGS.out.lo; omega)) HGS.out.p; have d2 := ZP.out.c 0 _ rfl; clear g2 hK2 hF2)
   | (refine ⟨trivial, ?_⟩; gi_at_call 17; (first | refine (CallsIn.inRound l (callsIn_wide.2 (bws_any B2.out sO (by omega)))).mono ?_ | refine (CallsIn.inRound l (callsIn_wide.2 (bws_any (Bdv.on B2.out (rbel_dr (Below.refl _ _))) sO (by show u1.heap.size + 1 ≤ w'.heap.size; omega)))).mono ?_); rintro o w3 ⟨rfl, v', hB3, hv3, hK3⟩; have B3 : Hid (Bdv (u1.heap.size + 1) (u1.heap.size + 1) v' (out ++ (y ++ [10])) w3) := hB3; have V3 : Hid (v'.ownBlock = v.ownBlock ∨ v'.ownBlock = some w'.heap.size) := hv3; have K3 : Hid (Keeps (fun k => k = u1.heap.size + 1 ∨ v.ownBlock = some k) w' w3) := ⟨hK3.os, hK3.tape, hK3.output, hK3.size, hK3.block⟩; clear hB3 hv3 hK3))
  all_goals gi_wp2
  all_goals
   have KV : Keeps (fun k => F' k ∨ k = u1.heap.size + 1 ∨ v.ownBlock = some k) W w3 := (keeps_sub K2.out (fun k h => Or.inl h)).trans (keeps_sub K3.out (fun k h => Or.inr h))
   have uX := HGS.out.lo
   have lo : ∀ k, (F' k ∨ k = u1.heap.size + 1 ∨ v.ownBlock = some k) → (u.heap.size ≤ k ∧ k < M) ∨ k = u1.heap.size + 1 ∨ u1.heap.size + 5 ≤ k := fun k h => by
    rcases h with h | h | h
    ·rcases HFF.out k h with q | q
     ·exact Or.inl q
     ·exact Or.inr (Or.inr q)
    ·exact Or.inr (Or.inl h)
    ·exact Or.inr (Or.inr (HV.out k h).1)
   have nK : ∀ k, M ≤ k → k ≠ u1.heap.size + 1 → k < u1.heap.size + 5 → ¬ (F' k ∨ k = u1.heap.size + 1 ∨ v.ownBlock = some k) := fun k a b c h => by
    rcases lo k h with q | q | q <;> omega
   have f2 : ∀ k, F2 k → ¬ (k = u1.heap.size + 1 ∨ v.ownBlock = some k) := fun k hk h => by
    rcases F22.out k hk with q | q
    ·rcases h with h | h
     ·rcases HFF.out k q with z | z <;> omega
     ·exact (HV.out k h).2 q
    ·rcases h with h | h
     ·omega
     ·have := (HBD.out.own.lt k h).2
      omega
   refine ⟨rfl, GoesOn.of KV (nK _ (by omega) (by omega) (by omega)) (nK _ (by omega) (by omega) (by omega)) (nK _ (by omega) (by omega) (by omega)) (by omega) (by omega), ⟨HGS.out.hw.trans (KV.below HGS.out.hw.size ?_), HGS.out.lo, ⟨F2, N', out ++ (y ++ [10]), r', v', ⟨C.on G2.out.h K3.out.size (fun k hk => K3.out.block k (C.lt G2.out.h k hk) (f2 k hk)), G2.out.t, G2.out.lo, G2.out.hw.trans (K3.out.below G2.out.hw.size ?_)⟩, ?_, B3.out, ?_, fun h => ?_, HO.out, HRR.out⟩, KV.row (nK _ (by omega) (by omega) (by omega)) HGS.out.p, KV.row (nK _ (by omega) (by omega) (by omega)) HGS.out.d, HGS.out.m.keep (KV.block _ HGS.out.m.lt (nK _ (by omega) (by omega) (by omega))) (fun k k1 k5 => KV.block _ (HGS.out.m.ltc k1 k5) (nK _ (by omega) (by omega) (by omega)))⟩⟩
   ·intro k h
    rcases lo k h with q | q | q <;> omega
   ·intro k h
    have := hu.size
    rcases h with h | h
    ·omega
    ·have := (HV.out k h).1
     omega
   ·intro k hk
    rcases F22.out k hk with h | h
    ·exact HFF.out k h
    ·exact Or.inr (by omega)
   ·intro k hk
    rcases V3.out with e | e
    ·rw [e] at hk
     exact ⟨(HV.out k hk).1, fun h => f2 k h (Or.inr hk)⟩
    ·rw [e] at hk
     obtain rfl := Option.some.inj hk
     exact ⟨by omega, fun h => by have := C.lt G2.out.h _ h; omega⟩
   ·simp at h
 case done =>
  intro D W hD g hK
  obtain ⟨hw, lo, ⟨F', N, out, r', v, gn, hF, hB, hv, h0, hO, hr⟩, p, d, m⟩ := g
  have el : (linB s).length = (linH s).length := by
   rw [← lns_lin]
   unfold lns
   simp
  rw [← el, List.drop_length] at hO
  have hO : r' = [] := hO
  rw [hO, List.append_nil] at hr
  have cB := bstr_any hB h0
  have nD : ¬ (v.ownBlock = some D) := fun e => by
   rcases hB.own.2 with ⟨rfl, _⟩ | ⟨g, cap, cur, rfl, _, hg, _⟩
   ·cases e
   ·obtain rfl := Option.some.inj e
    rw [hK] at hg
    cases hg
  have lD : D < W.heap.size := (Array.getElem?_eq_some_iff.1 hK).1
  have HW : Hid (Below u.heap.size u W) := hw
  have HV : Hid (∀ k, v.ownBlock = some k → u1.heap.size + 5 ≤ k ∧ ¬ F' k) := hv
  have HKD : Hid (W.heap[D]? = some (.deferred (some []))) := hK
  have HRR : Hid (r = out) := hr
  have hD2 : u1.heap.size + 3 ≤ D := by simp at hD; omega
  clear hw hv hK hr hB h0 hO gn hF p d m
  gi_wp2_with (refine ⟨trivial, ?_⟩; gi_at_call 20; refine (callsIn_wide.2 cB).mono ?_; rintro o w4 ⟨rfl, hK4⟩; have K4 : Hid (Keeps (fun k => v.ownBlock = some k) W w4) := ⟨hK4.os, hK4.tape, hK4.output, hK4.size, hK4.block⟩; clear hK4 cB)
  have hK5 : w4.heap[D]? = some (.deferred (some [])) := (K4.out.block D lD nD).trans HKD.out
  have BW4 : Below u.heap.size u w4 := HW.out.trans (K4.out.below HW.out.size (fun k h => by have := (HV.out k h).1; have := lo; omega))
  refine ⟨by simp, .inl ⟨_, _, rfl, run_takeDeferred hK5, ?_⟩⟩
  exact ⟨_, results_tmp rfl _ _ _, by rw [HRR.out]; rfl, BW4.trans (Keeps.below (S := fun k => k = D) BW4.size (fun k e => by have e : k = D := e; rw [e]; have := lo; omega) keeps_putObj)⟩
end Go.Proofs.YtadkgnbagmnkkakGreatDoor.rn
