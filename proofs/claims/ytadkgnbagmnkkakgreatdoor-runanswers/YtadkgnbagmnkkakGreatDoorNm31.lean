/- What the document's own net (package noonref2) answers to a line: Line. The document's own net, as a line wants it. The ways through the law RunAnswers. -/
import Derived.Test.YtadkgnbagmnkkakGreatDoorNm07
import Derived.Test.YtadkgnbagmnkkakGreatDoorNm08
import Derived.Test.YtadkgnbagmnkkakGreatDoorRunName
import Derived.Test.YtadkgnbagmnkkakGreatDoorNm14
import Derived.Test.YtadkgnbagmnkkakGreatDoorNm25
import Derived.Test.YtadkgnbagmnkkakGreatDoorNm26
import Derived.Deep.RegionHeld
import Derived.Deep.RegionWith
import Derived.Deep.CutRange
import Derived.Deep.CutBlock
import Derived.Deep.QuietTactic
import Derived.BigQuiet
import Derived.BigRegion
import Derived.IntWalk
import Derived.Test.YtadkgnbagmnkkakGreatDoorNm30
namespace Go.Proofs.YtadkgnbagmnkkakGreatDoor.rn
open Go.ChangeShapes Go.WideShapes Go.ChangeAt Go.RowKit Go.Joins
set_option linter.unusedVariables false
set_option linter.unusedSimpArgs false

theorem infoI : (Tryz.prog.info? 3).map (fun i => (i.zero, i.size, i.bytes)) = some (some (.int .i64 0), 1, 8) := by kernel_rfl
def ncs (V : List Nat) : List Value := V.map (fun (n : Nat) => .int .i64 (n : Int))
theorem ncs_app (V W : List Nat) : ncs (V ++ W) = ncs V ++ ncs W := by simp [ncs]
abbrev OwV (u : World) (base : Nat) (v : Value) (V : List Nat) : Prop := u.ownsRow base 3 1 v V.length (ncs V)
theorem words_at {u1 : World} {base : Nat} {vc : Value} {h : List UInt8} {t : List (List UInt8)} (ho : OwS u1 base vc (h :: t)) : ∃ g cap, vc = .slice (some ⟨g, 0, none⟩) (t.length + 1) cap ∧ g < u1.heap.size ∧ ∀ j x, (h :: t)[j]? = some x → u1.cell? ⟨g, j, none⟩ = some (.string ⟨x.toArray⟩) := by
  have hl := ho.1
  rcases ho.2 with ⟨e, _⟩ | ⟨g, cap, cur, e, hr⟩
  · exfalso
    have : (scs (h :: t)).length = 0 := by
      have := ho.1
      simp_all
    rw [scs_len] at this
    simp at this
  · subst e
    refine ⟨g, cap, rfl, ?_, fun j x hj => ?_⟩
    · exact (ho.lt g rfl).2
    · have lj := (List.getElem?_eq_some_iff.1 hj).1
      have := ho.cellAt j (by rw [Nat.mul_one]; exact lj)
      rw [this]
      show (List.map (fun x => Value.string ⟨x.toArray⟩) (h :: t))[j]? = _
      rw [List.getElem?_map, hj]
      rfl
theorem nums_at {u1 : World} {base n cap : Nat} {va : Option Addr} {V : List Nat} (ho : OwV u1 base (.slice va n cap) V) (hne : V ≠ []) : ∃ g, va = some ⟨g, 0, none⟩ ∧ g < u1.heap.size ∧ ∀ (j x : Nat), V[j]? = some x → u1.cell? ⟨g, j, none⟩ = some (.int .i64 (x : Int)) := by
  rcases ho.2 with ⟨e, e2⟩ | ⟨g, cap, cur, e, hr⟩
  · exfalso
    have := ho.1
    simp_all
  · injection e with e1 e2 e3
    subst e1
    subst e2
    subst e3
    refine ⟨g, rfl, (ho.lt g rfl).2, fun j x hj => ?_⟩
    have lj := (List.getElem?_eq_some_iff.1 hj).1
    have := ho.cellAt j (by rw [Nat.mul_one]; exact lj)
    rw [this]
    show (List.map (fun (n : Nat) => Value.int .i64 (n : Int)) V)[j]? = _
    rw [List.getElem?_map, hj]
    rfl
set_option maxRecDepth 100000 in
set_option maxHeartbeats 40000000 in
theorem rline {mb : Nat} (C : Rl mb) (u : World) (F : Nat → Prop) (N N' : Nn) (s : ByteArray) (x : List UInt8) (hR : C.R u F N) (hT : N.T) (hs : s.size ≤ 3000) (hL : LineR N s.data.toList N' x) :
    Calls Tryz.prog 9 #[.pointer (some ⟨mb, 0, none⟩), .string s] u fun o w' => ∃ F', o = .returned (.string ⟨x.toArray⟩) ∧ C.R w' F' N' ∧ Keeps F u w' ∧ ∀ k, F' k → F k ∨ u.heap.size ≤ k := by
  obtain ⟨h, t, ht⟩ : ∃ h t, cutB 32 s.data.toList = h :: t := by
    cases e : cutB 32 s.data.toList with
    | nil => exact absurd e (cutA_ne 32 _ _)
    | cons h t => exact ⟨h, t, rfl⟩
  have cC : ∀ u, Calls Tryz.prog 7 #[.string s, .int .u8 32] u fun o w' => ∃ v, o = .returned v ∧ OwS w' u.heap.size v (h :: t) ∧ Below u.heap.size u w' := fun u => by
    have := rcut s 32 u (by omega)
    rw [ht] at this
    exact this
  have HT : Hid N.T := hT
  have HR : Hid (C.R u F N) := hR
  have HL : Hid (LineR N s.data.toList N' x) := hL
  obtain ⟨i0, hi0, hz0, hz1, hz2⟩ := info_parts infoI
  have tl : t.length ≤ s.size := by
    have e : (cutB 32 s.data.toList).length ≤ s.data.toList.length + 1 := cutA_len 32 _ []
    rw [ht] at e
    have : s.data.toList.length = s.size := rfl
    simp only [List.length_cons] at e
    omega
  have sl : s.data.toList.length = s.size := rfl
  have tx : ∀ x, x ∈ h :: t → x.length ≤ 3000 := fun x hx => by
    have := cutA_piece 32 s.data.toList [] x (by rw [show cutA 32 [] s.data.toList = h :: t from ht]; exact hx)
    simp only [List.length_nil] at this
    omega
  clear hR hT hL
  go_enter Tryz.func9, Tryz.ntmps9
  go_wp2_with (go_at_call 7; refine (cC _).mono ?_; rintro o u1 ⟨vc, rfl, hO, hb⟩; have B1 : Hid (Below u.heap.size u u1) := hb; obtain ⟨g, cap, rfl, gl, hW⟩ := words_at hO; clear hO hb)
  go_loopw [6, 7] (fun vv vi wr => ∃ (i : Nat) (V : List Nat), i ≤ t.length ∧ vi = .int .i64 ((i + 1 : Nat) : Int) ∧ OwV wr u1.heap.size vv V ∧ numsD (t.take i) = some V ∧ Below u1.heap.size u1 wr) (fun _ vi _ => t.length + 1 - (intOf vi).toNat)
  case atStart => exact ⟨0, [], Nat.zero_le _, rfl, World.ownsRow_nil _ _ _ _, rfl, Below.refl _ _⟩
  case round =>
    obtain ⟨i, V, hi, rfl, hown, hV, hw⟩ := hrel
    have HW : Hid (Below u1.heap.size u1 wr) := hw
    have HO : Hid (OwV wr u1.heap.size u6 V) := hown
    have HBk : Hid (∀ j, u6.ownBlock = some j → u1.heap.size ≤ j) := fun j hj => (hown.lt j hj).1
    have HV : Hid (numsD (t.take i) = some V) := hV
    have lV := numsD_len hV
    rw [List.length_take] at lV
    have szw := hw.size
    clear hown hV
    by_cases hlt : i < t.length
    · obtain ⟨y, hy⟩ : ∃ y, t[i]? = some y := ⟨_, List.getElem?_eq_getElem hlt⟩
      have hc : wr.cell? ⟨g, i + 1, none⟩ = some (.string ⟨y.toArray⟩) := by
        rw [hw.cell gl]; exact hW (i + 1) y hy
      have ly := tx y (List.mem_cons_of_mem _ (List.mem_of_getElem? hy))
      have hlt3 : ((i + 1 : Nat) : Int) < ((t.length + 1 : Nat) : Int) := by omega
      have eI : ((i + 1 : Nat) : Int) + 1 = ((i + 1 + 1 : Nat) : Int) := by omega
      clear hw
      cases hn : numD y with
      | none =>
        obtain ⟨k2, ok, hk, cN⟩ := num7_none ⟨y.toArray⟩ (by unfold maxLen; show y.toArray.size ≤ _; simp; omega) hn
        have hb := HL.out.bad (cmdB_no ht (numsD_no (List.mem_of_getElem? hy) hn))
        obtain ⟨eN, ex⟩ := hb
        subst ex
        subst eN
        cases ok with
        | false =>
          go_wp2_with (go_at_call 11; refine (cN _).mono ?_; rintro o u2 ⟨rfl, e2⟩; rw [e2]; clear e2)
          go_ret
          exact ⟨F, rfl, C.on HR.out (rbel_on HW.out B1.out), Keeps.of (rbel_on HW.out B1.out), fun k h => Or.inl h⟩
        | true =>
          obtain ⟨k3, k4⟩ := hk rfl
          clear hk
          go_wp2_with (go_at_call 11; refine (cN _).mono ?_; rintro o u2 ⟨rfl, e2⟩; rw [e2]; clear e2)
          go_ret
          exact ⟨F, rfl, C.on HR.out (rbel_on HW.out B1.out), Keeps.of (rbel_on HW.out B1.out), fun k h => Or.inl h⟩
      | some n =>
        have cN := fun w => num7_some ⟨y.toArray⟩ n w (by unfold maxLen; show y.toArray.size ≤ _; simp; omega) hn
        have n9 := numD_in hn
        have k3 : ¬ ((n : Int) < 0) := by omega
        have HV1 : Hid (numsD (t.take (i + 1)) = some (V ++ [n])) := by
          show _ = _
          rw [List.take_succ_eq_append_getElem hlt]
          have : t[i] = y := by rw [List.getElem?_eq_getElem hlt] at hy; exact Option.some.inj hy
          rw [this]
          exact numsD_snoc HV.out hn
        clear HV hn
        go_wp2_with (first
          | (go_at_call 11; refine (cN _).mono ?_; rintro o u2 ⟨rfl, e2⟩; rw [e2]; clear e2)
          | (at_builtin; refine wpList_append_own _ rfl _ _ 27 rfl u1.heap.size 3 i0 (.int .i64 0) 1 8 Tryz.underlying27 hi0 hz0 hz1 hz2 rfl (by decide) _ _ _ rfl (HO.out.alloc _) ⟨wr.heap.size, 0, none⟩ 1 1 [.int .i64 (n : Int)] rfl rfl (fun j x hj => by rw [Addr.add_lit]; exact (Row.made (W := wr) (vs := [.int .i64 (n : Int)]) rfl).c _ _ (by simpa using hj)) (fun x hx => by simp at hx; rw [hx]; rfl) (by unfold maxLen; omega) (by omega) (by simp; omega) ?_))
        intro v' w1 hown' hgrow _
        have HO1 : Hid (OwV w1 u1.heap.size v' (V ++ [n])) := by
          show w1.ownsRow u1.heap.size 3 1 v' (V ++ [n]).length (ncs (V ++ [n]))
          have e : (V ++ [n]).length = i + 1 := by rw [List.length_append, List.length_singleton]; omega
          rw [ncs_app, e]
          exact hown'
        have HW1 : Hid (Below u1.heap.size u1 w1) := (HW.out.alloc (by omega) _).grown hgrow (by simp; omega) (fun j hj => HBk.out j hj)
        clear hown' hgrow HO HBk HW
        go_wp2
        go_roundw
        case rel => exact ⟨i + 1, V ++ [n], by omega, by go_num, HO1.out, HV1.out, HW1.out⟩
        case measure => simp [intOf]; omega
    · have hge : i = t.length := by omega
      subst hge
      have HV1 : Hid (numsD t = some V) := by
        have := HV.out
        rw [List.take_of_length_le (Nat.le_refl _)] at this
        exact this
      clear HV
      obtain ⟨k, hk⟩ : ∃ k, k = wordB h := ⟨_, rfl⟩
      have k9 := wordB_le h
      rw [← hk] at k9
      have c0 : wr.cell? ⟨g, 0, none⟩ = some (.string ⟨h.toArray⟩) := by
        rw [HW.out.cell gl]; exact hW 0 h rfl
      have gw : g < wr.heap.size := Nat.lt_of_lt_of_le gl szw
      have gn : ¬ (g = wr.heap.size) := by omega
      have lh := tx h (List.mem_cons_self ..)
      have tw : ∀ j, 1 ≤ j → j ≤ 9 → ((⟨h.toArray⟩ : ByteArray).toList == wlB j) = decide (k = j) := fun j h1 h9 => by
        rw [toList_data, hk]
        exact wordB_is h j h1 h9
      have lh2 : (⟨h.toArray⟩ : ByteArray).size ≤ 3000 := by show h.toArray.size ≤ 3000; simpa using lh
      generalize (⟨h.toArray⟩ : ByteArray) = H0 at *
      have t1 : (H0.toList == [103, 111]) = decide (k = 1) := tw 1 (by omega) (by omega)
      have t2 : (H0.toList == [97, 115, 107]) = decide (k = 2) := tw 2 (by omega) (by omega)
      have t3 : (H0.toList == [100, 101, 108, 105, 118, 101, 114]) = decide (k = 3) := tw 3 (by omega) (by omega)
      have t4 : (H0.toList == [108, 111, 115, 101]) = decide (k = 4) := tw 4 (by omega) (by omega)
      have t5 : (H0.toList == [114, 101, 112, 101, 97, 116]) = decide (k = 5) := tw 5 (by omega) (by omega)
      have t6 : (H0.toList == [115, 104, 111, 119]) = decide (k = 6) := tw 6 (by omega) (by omega)
      have t7 : (H0.toList == [111, 102, 102, 115, 101, 116]) = decide (k = 7) := tw 7 (by omega) (by omega)
      have t8 : (H0.toList == [119, 105, 100, 101]) = decide (k = 8) := tw 8 (by omega) (by omega)
      have t9 : (H0.toList == [100, 97, 116, 101]) = decide (k = 9) := tw 9 (by omega) (by omega)
      clear tw
      obtain ⟨kd, hkd⟩ : ∃ kd : Nat, kd = if k ≤ 5 then k else 0 := ⟨_, rfl⟩
      obtain ⟨va, vcap, eva⟩ := own_slice HO.out
      subst eva
      go_upto_block 2 with (fail)
      go_cut [] from 48 to 62 (fun w' => w' = wr.alloc (.cells #[.int .i64 (kd : Int), .int .i64 0, .int .i64 0] 70))
      case first =>
        as_aux_lemma =>
          clear HO HV1 HL HR HT hk
          have hc : k = 0 ∨ k = 1 ∨ k = 2 ∨ k = 3 ∨ k = 4 ∨ k = 5 ∨ k = 6 ∨ k = 7 ∨ k = 8 ∨ k = 9 := by omega
          rcases hc with rfl | rfl | rfl | rfl | rfl | rfl | rfl | rfl | rfl | rfl
          · subst hkd
            have s1 : (H0.toList == [103, 111]) = false := t1
            have s2 : (H0.toList == [97, 115, 107]) = false := t2
            have s3 : (H0.toList == [100, 101, 108, 105, 118, 101, 114]) = false := t3
            have s4 : (H0.toList == [108, 111, 115, 101]) = false := t4
            have s5 : (H0.toList == [114, 101, 112, 101, 97, 116]) = false := t5
            clear t1 t2 t3 t4 t5 t6 t7 t8 t9
            go_wp2_with (fail)
            go_meet
            case rel => exact rfl
          · subst hkd
            have s1 : (H0.toList == [103, 111]) = true := t1
            have s2 : (H0.toList == [97, 115, 107]) = false := t2
            have s3 : (H0.toList == [100, 101, 108, 105, 118, 101, 114]) = false := t3
            have s4 : (H0.toList == [108, 111, 115, 101]) = false := t4
            have s5 : (H0.toList == [114, 101, 112, 101, 97, 116]) = false := t5
            clear t1 t2 t3 t4 t5 t6 t7 t8 t9
            go_wp2_with (fail)
            go_meet
            case rel => exact rfl
          · subst hkd
            have s1 : (H0.toList == [103, 111]) = false := t1
            have s2 : (H0.toList == [97, 115, 107]) = true := t2
            have s3 : (H0.toList == [100, 101, 108, 105, 118, 101, 114]) = false := t3
            have s4 : (H0.toList == [108, 111, 115, 101]) = false := t4
            have s5 : (H0.toList == [114, 101, 112, 101, 97, 116]) = false := t5
            clear t1 t2 t3 t4 t5 t6 t7 t8 t9
            go_wp2_with (fail)
            go_meet
            case rel => exact rfl
          · subst hkd
            have s1 : (H0.toList == [103, 111]) = false := t1
            have s2 : (H0.toList == [97, 115, 107]) = false := t2
            have s3 : (H0.toList == [100, 101, 108, 105, 118, 101, 114]) = true := t3
            have s4 : (H0.toList == [108, 111, 115, 101]) = false := t4
            have s5 : (H0.toList == [114, 101, 112, 101, 97, 116]) = false := t5
            clear t1 t2 t3 t4 t5 t6 t7 t8 t9
            go_wp2_with (fail)
            go_meet
            case rel => exact rfl
          · subst hkd
            have s1 : (H0.toList == [103, 111]) = false := t1
            have s2 : (H0.toList == [97, 115, 107]) = false := t2
            have s3 : (H0.toList == [100, 101, 108, 105, 118, 101, 114]) = false := t3
            have s4 : (H0.toList == [108, 111, 115, 101]) = true := t4
            have s5 : (H0.toList == [114, 101, 112, 101, 97, 116]) = false := t5
            clear t1 t2 t3 t4 t5 t6 t7 t8 t9
            go_wp2_with (fail)
            go_meet
            case rel => exact rfl
          · subst hkd
            have s1 : (H0.toList == [103, 111]) = false := t1
            have s2 : (H0.toList == [97, 115, 107]) = false := t2
            have s3 : (H0.toList == [100, 101, 108, 105, 118, 101, 114]) = false := t3
            have s4 : (H0.toList == [108, 111, 115, 101]) = false := t4
            have s5 : (H0.toList == [114, 101, 112, 101, 97, 116]) = true := t5
            clear t1 t2 t3 t4 t5 t6 t7 t8 t9
            go_wp2_with (fail)
            go_meet
            case rel => exact rfl
          · subst hkd
            have s1 : (H0.toList == [103, 111]) = false := t1
            have s2 : (H0.toList == [97, 115, 107]) = false := t2
            have s3 : (H0.toList == [100, 101, 108, 105, 118, 101, 114]) = false := t3
            have s4 : (H0.toList == [108, 111, 115, 101]) = false := t4
            have s5 : (H0.toList == [114, 101, 112, 101, 97, 116]) = false := t5
            clear t1 t2 t3 t4 t5 t6 t7 t8 t9
            go_wp2_with (fail)
            go_meet
            case rel => exact rfl
          · subst hkd
            have s1 : (H0.toList == [103, 111]) = false := t1
            have s2 : (H0.toList == [97, 115, 107]) = false := t2
            have s3 : (H0.toList == [100, 101, 108, 105, 118, 101, 114]) = false := t3
            have s4 : (H0.toList == [108, 111, 115, 101]) = false := t4
            have s5 : (H0.toList == [114, 101, 112, 101, 97, 116]) = false := t5
            clear t1 t2 t3 t4 t5 t6 t7 t8 t9
            go_wp2_with (fail)
            go_meet
            case rel => exact rfl
          · subst hkd
            have s1 : (H0.toList == [103, 111]) = false := t1
            have s2 : (H0.toList == [97, 115, 107]) = false := t2
            have s3 : (H0.toList == [100, 101, 108, 105, 118, 101, 114]) = false := t3
            have s4 : (H0.toList == [108, 111, 115, 101]) = false := t4
            have s5 : (H0.toList == [114, 101, 112, 101, 97, 116]) = false := t5
            clear t1 t2 t3 t4 t5 t6 t7 t8 t9
            go_wp2_with (fail)
            go_meet
            case rel => exact rfl
          · subst hkd
            have s1 : (H0.toList == [103, 111]) = false := t1
            have s2 : (H0.toList == [97, 115, 107]) = false := t2
            have s3 : (H0.toList == [100, 101, 108, 105, 118, 101, 114]) = false := t3
            have s4 : (H0.toList == [108, 111, 115, 101]) = false := t4
            have s5 : (H0.toList == [114, 101, 112, 101, 97, 116]) = false := t5
            clear t1 t2 t3 t4 t5 t6 t7 t8 t9
            go_wp2_with (fail)
            go_meet
            case rel => exact rfl
      case rest =>
        have HOc : Hid (V ≠ [] → ∃ g2, va = some ⟨g2, 0, none⟩ ∧ g2 < wr.heap.size ∧ ∀ (j x : Nat), V[j]? = some x → wc.cell? ⟨g2, j, none⟩ = some (.int .i64 (x : Int))) := fun hne => by
          obtain ⟨g2, e, l2, h2⟩ := nums_at HO.out hne
          exact ⟨g2, e, l2, fun j x hj => by rw [hcut, World.cell?_alloc_lt _ _ _ l2]; exact h2 j x hj⟩
        have HWc : Hid (Below u1.heap.size u1 wc) := by rw [hcut]; exact HW.out.alloc szw _
        have RA : Hid (Row wc wr.heap.size [.int .i64 (kd : Int), .int .i64 0, .int .i64 0]) := by rw [hcut]; exact Row.made rfl
        have c1 : wc.cell? ⟨g, 0, none⟩ = some (.string H0) := by rw [hcut, World.cell?_alloc_lt _ _ _ gw]; exact c0
        have a0 := RA.out.c 0 _ rfl
        have a1 := RA.out.c 1 _ rfl
        have a2 := RA.out.c 2 _ rfl
        have f0 := RA.out.f 0 _ rfl
        have f1 := RA.out.f 1 _ rfl
        have f2 := RA.out.f 2 _ rfl
        have la := RA.out.lt
        have sB : u1.heap.size ≤ wr.heap.size := szw
        have hcmd := cmdB_is ht HV1.out
        rw [← hk] at hcmd
        clear hcut c0 HO HW hW hk szw hi cC tx tl sl
        generalize wr.heap.size = B at *
        by_cases hm : k ≠ 0 ∧ V.length = wantB k
        · rw [if_pos hm] at hcmd
          have hI := HL.out.is hcmd
          have su : u.heap.size ≤ u1.heap.size := B1.out.size
          have lg : g < wc.heap.size := Nat.lt_of_lt_of_le gl HWc.out.size
          rcases hI with ⟨h0, _⟩ | ⟨k1, k5, e, hD, hx⟩ | ⟨rfl, rfl, hI⟩ | ⟨rfl, rfl, lo, hi2, e, hB, hx⟩ | ⟨rfl, rfl, T, hA, rfl⟩ | ⟨rfl, rfl, y, m, d, hh, mi, sc2, hU, hx⟩
          · exact absurd h0 hm.1
          · as_aux_lemma =>
              rw [if_pos k5] at hkd
              replace hkd := hkd.symm
              subst hkd
              obtain ⟨e0, e8⟩ := nDoR_e hD
              clear t1 t2 t3 t4 t5 t6 t7 t8 t9
              by_cases k2 : k = 2
              · subst k2
                have hl : V.length = 2 := by rw [hm.2]; rfl
                rw [hl]
                obtain ⟨a0, b0, rfl⟩ : ∃ a0 b0, V = [a0, b0] := by match V, hl with | [a, b], _ => exact ⟨a, b, rfl⟩
                obtain ⟨g2, rfl, l2, h2⟩ := HOc.out (by simp)
                have v0 := h2 0 a0 rfl
                have v1 := h2 1 b0 rfl
                clear h2 HOc hl hm HV1 hcmd
                replace hD : NDoR N 2 (a0 : Int) (b0 : Int) N' e := hD
                have BW : Hid (Below u.heap.size u ((wc.setCell ⟨B, 1, none⟩ (.int .i64 (a0 : Int))).setCell ⟨B, 2, none⟩ (.int .i64 (b0 : Int)))) := rbel_put (by omega) (rbel_put (by omega) (rbel_on HWc.out B1.out))
                have HRW : Hid (C.R ((wc.setCell ⟨B, 1, none⟩ (.int .i64 (a0 : Int))).setCell ⟨B, 2, none⟩ (.int .i64 (b0 : Int))) F N) := C.on HR.out BW.out
                have cD := fun (w : World) (h : C.R w F N) => C.act F N N' 2 (a0 : Int) (b0 : Int) e w h HT.out hD
                clear hD
                by_cases z : e = 0
                · subst z
                  rw [if_pos rfl] at hx
                  subst hx
                  go_wp2_with (first
                    | (go_at_call 21; refine (cD _ HRW.out).mono ?_; rintro o u2 ⟨F', rfl, hR2, hK, hF⟩; have R2 : Hid (C.R u2 F' N') := hR2; have K2 : Hid (Keeps F u u2) := Keeps.trans (Keeps.of BW.out) hK; have F2 : Hid (∀ k, F' k → F k ∨ u.heap.size ≤ k) := (fun j hj => (hF j hj).imp id (fun q => Nat.le_trans BW.out.size q)); clear hR2 hK hF))
                  go_ret
                  first | exact ⟨F', rfl, R2.out, K2.out, F2.out⟩ | exact ⟨rfl, F', R2.out, K2.out, F2.out⟩
                · have z1 : (e != 0) = true := by simp [z]
                  have z2 : (e == 0) = false := by simp [z]
                  rw [if_neg z] at hx
                  subst hx
                  go_wp2_with (first
                    | (go_at_call 21; refine (cD _ HRW.out).mono ?_; rintro o u2 ⟨F', rfl, hR2, hK, hF⟩; have R2 : Hid (C.R u2 F' N') := hR2; have K2 : Hid (Keeps F u u2) := Keeps.trans (Keeps.of BW.out) hK; have F2 : Hid (∀ k, F' k → F k ∨ u.heap.size ≤ k) := (fun j hj => (hF j hj).imp id (fun q => Nat.le_trans BW.out.size q)); clear hR2 hK hF)
                    | (go_at_call 22; refine (rname e _ e0 e8).mono ?_; rintro o u3 ⟨rfl, hb⟩; have R3 : Hid (C.R u3 F' N') := C.on R2.out hb; have K3 : Hid (Keeps F u u3) := Keeps.trans K2.out (Keeps.of hb); clear hb))
                  go_ret
                  first | exact ⟨F', rfl, R3.out, K3.out, F2.out⟩ | exact ⟨rfl, F', R3.out, K3.out, F2.out⟩
              · have p1 : (0 : Int) < k := by omega
                have p2 : ¬ ((k : Int) = 2) := by omega
                have p3 : ((k : Int) == 2) = false := by simp only [beq_eq_false_iff_ne]; exact p2
                have hl : V.length = 1 := by rw [hm.2]; unfold wantB; rw [if_neg (by omega), if_neg (by omega)]
                rw [hl]
                obtain ⟨a0, rfl⟩ : ∃ a0, V = [a0] := by match V, hl with | [a], _ => exact ⟨a, rfl⟩
                obtain ⟨g2, rfl, l2, h2⟩ := HOc.out (by simp)
                have v0 := h2 0 a0 rfl
                clear h2 HOc hl hm HV1 hcmd
                replace hD : NDoR N (k : Int) (a0 : Int) 0 N' e := hD
                have BW : Hid (Below u.heap.size u (wc.setCell ⟨B, 1, none⟩ (.int .i64 (a0 : Int)))) := rbel_put (by omega) (rbel_on HWc.out B1.out)
                have HRW : Hid (C.R (wc.setCell ⟨B, 1, none⟩ (.int .i64 (a0 : Int))) F N) := C.on HR.out BW.out
                have cD := fun (w : World) (h : C.R w F N) => C.act F N N' (k : Int) (a0 : Int) 0 e w h HT.out hD
                clear hD
                by_cases z : e = 0
                · subst z
                  rw [if_pos rfl] at hx
                  subst hx
                  go_wp2_with (first
                    | (go_at_call 21; refine (cD _ HRW.out).mono ?_; rintro o u2 ⟨F', rfl, hR2, hK, hF⟩; have R2 : Hid (C.R u2 F' N') := hR2; have K2 : Hid (Keeps F u u2) := Keeps.trans (Keeps.of BW.out) hK; have F2 : Hid (∀ k, F' k → F k ∨ u.heap.size ≤ k) := (fun j hj => (hF j hj).imp id (fun q => Nat.le_trans BW.out.size q)); clear hR2 hK hF))
                  go_ret
                  first | exact ⟨F', rfl, R2.out, K2.out, F2.out⟩ | exact ⟨rfl, F', R2.out, K2.out, F2.out⟩
                · have z1 : (e != 0) = true := by simp [z]
                  have z2 : (e == 0) = false := by simp [z]
                  rw [if_neg z] at hx
                  subst hx
                  go_wp2_with (first
                    | (go_at_call 21; refine (cD _ HRW.out).mono ?_; rintro o u2 ⟨F', rfl, hR2, hK, hF⟩; have R2 : Hid (C.R u2 F' N') := hR2; have K2 : Hid (Keeps F u u2) := Keeps.trans (Keeps.of BW.out) hK; have F2 : Hid (∀ k, F' k → F k ∨ u.heap.size ≤ k) := (fun j hj => (hF j hj).imp id (fun q => Nat.le_trans BW.out.size q)); clear hR2 hK hF)
                    | (go_at_call 22; refine (rname e _ e0 e8).mono ?_; rintro o u3 ⟨rfl, hb⟩; have R3 : Hid (C.R u3 F' N') := C.on R2.out hb; have K3 : Hid (Keeps F u u3) := Keeps.trans K2.out (Keeps.of hb); clear hb))
                  go_ret
                  first | exact ⟨F', rfl, R3.out, K3.out, F2.out⟩ | exact ⟨rfl, F', R3.out, K3.out, F2.out⟩
          · as_aux_lemma =>
              subst hkd
              have s6 : (H0.toList == [115, 104, 111, 119]) = true := t6
              clear t1 t2 t3 t4 t5 t6 t7 t8 t9
              have hl : V.length = 1 := by rw [hm.2]; rfl
              rw [hl]
              obtain ⟨a0, rfl⟩ : ∃ a0, V = [a0] := by match V, hl with | [a], _ => exact ⟨a, rfl⟩
              obtain ⟨g2, rfl, l2, h2⟩ := HOc.out (by simp)
              have v0 := h2 0 a0 rfl
              clear h2 HOc hl hm HV1 hcmd
              have HRW : Hid (C.R wc F N') := C.on HR.out (rbel_on HWc.out B1.out)
              obtain ⟨ad, lc, nL⟩ := C.len HRW.out
              rcases hI with ⟨hs, hx⟩ | ⟨hs, hx⟩
              · have q1 : (a0 : Int) < N'.W.n := hs.2
                have q3 : a0 < N'.W.n := by omega
                have q2 : ¬ ((N'.W.n : Int) ≤ a0) := by omega
                have rb := rd_t HT.out q3
                replace hx := hx.trans (show _ = Lib.itoa (N'.W.rd a0) by rw [show ((([a0].getD 0 0 : Nat) : Int)).toNat = a0 from Int.toNat_natCast a0])
                subst hx
                have HD : Hid (C.R wc.drew.drew F N') := C.on HRW.out (rbel_dr (rbel_dr (Below.refl _ _)))
                have BD : Hid (Below u.heap.size u wc.drew.drew) := rbel_dr (rbel_dr (rbel_on HWc.out B1.out))
                go_wp2_with (fail)
                go_region
                all_goals
                  go_wp2_with (fail)
                  go_region_with (first
                    | (go_at_call 23; refine (C.read F N' a0 _ HD.out HT.out q3).mono ?_; rintro o u2 ⟨rfl, hb⟩; have B2 : Hid (Below u.heap.size u u2) := rbel_on hb BD.out; have R2 : Hid (C.R u2 F N') := C.on HD.out hb; clear hb)
                    | (go_at_call 10; refine (digits_any (N'.W.rd a0) ⟨(Lib.itoa (N'.W.rd a0)).toArray⟩ _ (by omega) (by omega) rfl).mono ?_; rintro o u3 ⟨rfl, e3⟩; rw [e3]; clear e3))
                  all_goals
                    go_wp2_with (fail)
                    go_ret
                    exact ⟨F, rfl, R2.out, Keeps.of B2.out, fun k h => Or.inl h⟩
              · have q2 : (N'.W.n : Int) ≤ a0 := by
                  have : ¬ (0 ≤ (a0 : Int) ∧ (a0 : Int) < N'.W.n) := hs
                  omega
                subst hx
                have HD : Hid (C.R wc.drew F N') := C.on HRW.out (rbel_dr (Below.refl _ _))
                have BD : Hid (Below u.heap.size u wc.drew) := rbel_dr (rbel_on HWc.out B1.out)
                go_wp2_with (fail)
                go_region
                all_goals
                  go_wp2_with (go_at_call 22; refine (rname 1 _ (by omega) (by omega)).mono ?_; rintro o u3 ⟨rfl, hb⟩; have R3 : Hid (C.R u3 F N') := C.on HD.out hb; have B3 : Hid (Below u.heap.size u u3) := rbel_on hb BD.out; clear hb)
                  go_ret
                  exact ⟨F, rfl, R3.out, Keeps.of B3.out, fun k h => Or.inl h⟩

          · as_aux_lemma =>
              subst hkd
              have s6 : (H0.toList == [115, 104, 111, 119]) = false := t6
              have s7 : (H0.toList == [111, 102, 102, 115, 101, 116]) = true := t7
              clear t1 t2 t3 t4 t5 t6 t7 t8 t9
              have hl : V.length = 2 := by rw [hm.2]; rfl
              rw [hl]
              obtain ⟨a0, b0, rfl⟩ : ∃ a0 b0, V = [a0, b0] := by match V, hl with | [a, b], _ => exact ⟨a, b, rfl⟩
              obtain ⟨g2, rfl, l2, h2⟩ := HOc.out (by simp)
              have v0 := h2 0 a0 rfl
              have v1 := h2 1 b0 rfl
              clear h2 HOc hl hm HV1 hcmd
              replace hB : BetA N'.W.n (egf (eoN N')) (eoN N').length (a0 : Int) (b0 : Int) lo hi2 e := hB
              have HRW : Hid (C.R wc F N') := C.on HR.out (rbel_on HWc.out B1.out)
              have BW : Hid (Below u.heap.size u wc) := rbel_on HWc.out B1.out
              have D1 : Hid (C.R wc.drew F N') := C.on HRW.out (rbel_dr (Below.refl _ _))
              have D2 : Hid (C.R (wc.alloc (.cells #[.int .i64 0, .int .i64 0] 34)).drew F N') := C.on HRW.out (rbel_dr (rbel_al (Below.refl _ _)))
              have D3 : Hid (C.R (wc.drew.alloc (.cells #[.int .i64 0, .int .i64 0] 34)) F N') := C.on HRW.out (rbel_al (rbel_dr (Below.refl _ _)))
              have hE := bet_e HT.out hB
              have cO := fun (w : World) (h : C.R w F N') => C.off F N' (a0 : Int) (b0 : Int) lo hi2 e w h HT.out hB
              have lg2 : g2 < wc.heap.size := Nat.lt_trans l2 RA.out.lt
              have ng1 : ¬ (g2 = wc.heap.size) := by omega
              have ng2 : ¬ (wc.heap.size = g2) := by omega
              have L2 : g2 < (wc.alloc (.cells #[.int .i64 0, .int .i64 0] 34)).drew.heap.size := Nat.lt_of_lt_of_le lg2 (rbel_dr (rbel_al (Below.refl _ _)) : Below wc.heap.size wc (wc.alloc (.cells #[.int .i64 0, .int .i64 0] 34)).drew).size
              have L3 : g2 < (wc.drew.alloc (.cells #[.int .i64 0, .int .i64 0] 34)).heap.size := Nat.lt_of_lt_of_le lg2 (rbel_al (rbel_dr (Below.refl _ _)) : Below wc.heap.size wc (wc.drew.alloc (.cells #[.int .i64 0, .int .i64 0] 34))).size
              have A0 : (wc.alloc (.cells #[.int .i64 0, .int .i64 0] 34)).drew.cell? ⟨g2, 0, none⟩ = some (.int .i64 (a0 : Int)) := ((rbel_dr (rbel_al (Below.refl _ _)) : Below wc.heap.size wc (wc.alloc (.cells #[.int .i64 0, .int .i64 0] 34)).drew).cell (p := ⟨g2, 0, none⟩) lg2).trans v0
              have A1 : (wc.alloc (.cells #[.int .i64 0, .int .i64 0] 34)).drew.cell? ⟨g2, 1, none⟩ = some (.int .i64 (b0 : Int)) := ((rbel_dr (rbel_al (Below.refl _ _)) : Below wc.heap.size wc (wc.alloc (.cells #[.int .i64 0, .int .i64 0] 34)).drew).cell (p := ⟨g2, 1, none⟩) lg2).trans v1
              have C0 : (wc.drew.alloc (.cells #[.int .i64 0, .int .i64 0] 34)).cell? ⟨g2, 0, none⟩ = some (.int .i64 (a0 : Int)) := ((rbel_al (rbel_dr (Below.refl _ _)) : Below wc.heap.size wc (wc.drew.alloc (.cells #[.int .i64 0, .int .i64 0] 34))).cell (p := ⟨g2, 0, none⟩) lg2).trans v0
              have C1 : (wc.drew.alloc (.cells #[.int .i64 0, .int .i64 0] 34)).cell? ⟨g2, 1, none⟩ = some (.int .i64 (b0 : Int)) := ((rbel_al (rbel_dr (Below.refl _ _)) : Below wc.heap.size wc (wc.drew.alloc (.cells #[.int .i64 0, .int .i64 0] 34))).cell (p := ⟨g2, 1, none⟩) lg2).trans v1
              go_wp2_with (fail)
              go_region_held (fun w' => w'.cell? ⟨g2, 0, none⟩ = some (.int .i64 (a0 : Int)) ∧ w'.cell? ⟨g2, 1, none⟩ = some (.int .i64 (b0 : Int))) (go_keep) (first
                | (go_at_call 24; first
                    | (refine (cO _ D1.out).mono ?_; rintro o u2 ⟨rfl, hb⟩; have B2 : Hid (Below u.heap.size u u2) := rbel_on hb (rbel_dr BW.out); have R2 : Hid (C.R u2 F N') := C.on D1.out hb; have w0 := (hb.cell (p := ⟨g2, 0, none⟩) lg2).trans v0; have w1 := (hb.cell (p := ⟨g2, 1, none⟩) lg2).trans v1; clear hb)
                    | (refine (cO _ D2.out).mono ?_; rintro o u2 ⟨rfl, hb⟩; have B2 : Hid (Below u.heap.size u u2) := rbel_on hb (rbel_dr (rbel_al BW.out)); have R2 : Hid (C.R u2 F N') := C.on D2.out hb; have BC : Hid (Below wc.heap.size wc u2) := rbel_on hb (rbel_dr (rbel_al (Below.refl _ _))); have w0 := (hb.cell (p := ⟨g2, 0, none⟩) L2).trans A0; have w1 := (hb.cell (p := ⟨g2, 1, none⟩) L2).trans A1; have RT : Hid (Row u2 wc.heap.size [.int .i64 0, .int .i64 0]) := Row.on hb (Row.dr (Row.made rfl)); have p0 := RT.out.c 0 _ rfl; have p1 := RT.out.c 1 _ rfl; have p2 := RT.out.f 0 _ rfl; have p3 := RT.out.f 1 _ rfl; clear hb)
                    | (refine (cO _ D3.out).mono ?_; rintro o u2 ⟨rfl, hb⟩; have B2 : Hid (Below u.heap.size u u2) := rbel_on hb (rbel_al (rbel_dr BW.out)); have R2 : Hid (C.R u2 F N') := C.on D3.out hb; have BC : Hid (Below wc.heap.size wc u2) := rbel_on hb (rbel_al (rbel_dr (Below.refl _ _))); have w0 := (hb.cell (p := ⟨g2, 0, none⟩) L3).trans C0; have w1 := (hb.cell (p := ⟨g2, 1, none⟩) L3).trans C1; have RT : Hid (Row u2 wc.heap.size [.int .i64 0, .int .i64 0]) := Row.on hb (Row.made rfl); have p0 := RT.out.c 0 _ rfl; have p1 := RT.out.c 1 _ rfl; have p2 := RT.out.f 0 _ rfl; have p3 := RT.out.f 1 _ rfl; clear hb)))
              all_goals
                first
                  | (have q := RT.out
                     have RX : Hid (Row ((u2.setCell ⟨wc.heap.size, 0, none⟩ (.int .i64 lo)).setCell ⟨wc.heap.size, 1, none⟩ (.int .i64 hi2)) wc.heap.size [.int .i64 lo, .int .i64 hi2]) := Row.put 1 (Row.put 0 q)
                     have BX : Hid (Below u.heap.size u ((u2.setCell ⟨wc.heap.size, 0, none⟩ (.int .i64 lo)).setCell ⟨wc.heap.size, 1, none⟩ (.int .i64 hi2))) := rbel_put (by omega) (rbel_put (by omega) B2.out)
                     have RR : Hid (C.R ((u2.setCell ⟨wc.heap.size, 0, none⟩ (.int .i64 lo)).setCell ⟨wc.heap.size, 1, none⟩ (.int .i64 hi2)) F N') := C.on HRW.out (rbel_put (Nat.le_refl _) (rbel_put (Nat.le_refl _) BC.out))
                     clear q RT p0 p1 p2 p3 BC B2 R2 w0 w1
                     generalize ((u2.setCell ⟨wc.heap.size, 0, none⟩ (.int .i64 lo)).setCell ⟨wc.heap.size, 1, none⟩ (.int .i64 hi2)) = X at *
                     generalize wc.heap.size = T at *)
                  | (have RX : Hid (Row (u2.alloc (.cells #[.int .i64 lo, .int .i64 hi2] 34)) u2.heap.size [.int .i64 lo, .int .i64 hi2]) := Row.made rfl
                     have BX : Hid (Below u.heap.size u (u2.alloc (.cells #[.int .i64 lo, .int .i64 hi2] 34))) := rbel_al B2.out
                     have RR : Hid (C.R (u2.alloc (.cells #[.int .i64 lo, .int .i64 hi2] 34)) F N') := C.on R2.out (rbel_al (Below.refl _ _))
                     clear B2 R2 w0 w1
                     generalize (u2.alloc (.cells #[.int .i64 lo, .int .i64 hi2] 34)) = X at *
                     generalize u2.heap.size = T at *)
                have x0 := RX.out.c 0 _ rfl
                have x1 := RX.out.c 1 _ rfl
                by_cases z : e = 0
                · subst z
                  rw [if_pos rfl] at hx
                  subst hx
                  have okb : okB lo hi2 = true := by
                    rcases hE with ⟨_, q⟩ | q | q
                    · exact q
                    · cases q
                    · cases q
                  go_wp2_with (go_at_call 25; refine (rtext_ok lo hi2 ⟨(printL lo hi2).toArray⟩ _ okb rfl).mono ?_; rintro o u4 ⟨rfl, hb⟩; have R4 : Hid (C.R u4 F N') := C.on RR.out hb; have B4 : Hid (Below u.heap.size u u4) := rbel_on hb BX.out; clear hb)
                  go_ret
                  exact ⟨F, rfl, R4.out, Keeps.of B4.out, fun k h => Or.inl h⟩
                · have z1 : (e != 0) = true := by simp [z]
                  have z2 : (e == 0) = false := by simp [z]
                  rw [if_neg z] at hx
                  subst hx
                  have e0 : 0 ≤ e ∧ e ≤ 8 := by
                    rcases hE with ⟨rfl, _⟩ | rfl | rfl <;> decide
                  go_wp2_with (go_at_call 22; refine (rname e _ e0.1 e0.2).mono ?_; rintro o u4 ⟨rfl, hb⟩; have R4 : Hid (C.R u4 F N') := C.on RR.out hb; have B4 : Hid (Below u.heap.size u u4) := rbel_on hb BX.out; clear hb)
                  go_ret
                  exact ⟨F, rfl, R4.out, Keeps.of B4.out, fun k h => Or.inl h⟩

          · as_aux_lemma =>
              subst hkd
              have s6 : (H0.toList == [115, 104, 111, 119]) = false := t6
              have s7 : (H0.toList == [111, 102, 102, 115, 101, 116]) = false := t7
              have s8 : (H0.toList == [119, 105, 100, 101]) = true := t8
              clear t1 t2 t3 t4 t5 t6 t7 t8 t9
              have hl : V.length = 0 := hm.2
              rw [hl]
              have HRW : Hid (C.R wc F N') := C.on HR.out (rbel_on HWc.out B1.out)
              have wb := wid_b hA HT.out.g.i.n6
              have cW := C.wide F N' T wc HRW.out HT.out hA
              clear hA HOc hcmd HV1
              go_wp2_with (first
                | (go_at_call 26; refine cW.mono ?_; rintro o u2 ⟨rfl, hb⟩; have B2 : Hid (Below u.heap.size u u2) := rbel_on hb (rbel_on HWc.out B1.out); have R2 : Hid (C.R u2 F N') := C.on HRW.out hb; clear hb)
                | (go_at_call 10; refine (digits_any (wid N'.W.n T) ⟨(Lib.itoa (wid N'.W.n T)).toArray⟩ _ (by omega) (by omega) rfl).mono ?_; rintro o u3 ⟨rfl, e3⟩; rw [e3]; clear e3))
              go_ret
              exact ⟨F, rfl, R2.out, Keeps.of B2.out, fun k h => Or.inl h⟩

          · as_aux_lemma =>
              subst hkd
              have s6 : (H0.toList == [115, 104, 111, 119]) = false := t6
              have s7 : (H0.toList == [111, 102, 102, 115, 101, 116]) = false := t7
              have s8 : (H0.toList == [119, 105, 100, 101]) = false := t8
              have s9 : (H0.toList == [100, 97, 116, 101]) = true := t9
              clear t1 t2 t3 t4 t5 t6 t7 t8 t9
              have hl : V.length = 1 := by rw [hm.2]; rfl
              rw [hl]
              obtain ⟨a0, rfl⟩ : ∃ a0, V = [a0] := by match V, hl with | [a], _ => exact ⟨a, rfl⟩
              obtain ⟨g2, rfl, l2, h2⟩ := HOc.out (by simp)
              have v0 := h2 0 a0 rfl
              clear h2 HOc hl hm HV1 hcmd
              replace hU : UtcL q00 0 (a0 : Int) y m d hh mi sc2 := hU
              obtain ⟨ok, oh, _, _⟩ := hU.hands q00_lps
              obtain ⟨_, hD, rfl, rfl, rfl⟩ := hU
              have db := dnum_range ok
              have cU := fun (w : World) => rutc_any none 0 0 q00 (a0 : Int) (dnum y m d) y m d _ w (by omega) q00_lps ⟨by omega, Or.inl rfl⟩ (by omega) (by omega) (by omega) hD ok rfl rfl
              have cL := fun (w : World) => rltext_any y m d _ _ _ w ok oh
              have HRW : Hid (C.R wc F N') := C.on HR.out (rbel_on HWc.out B1.out)
              generalize (lab ((a0 : Int) - bg q00 0 (dnum y m d))).1 = z1 at *
              generalize (lab ((a0 : Int) - bg q00 0 (dnum y m d))).2.1 = z2 at *
              generalize (lab ((a0 : Int) - bg q00 0 (dnum y m d))).2.2 = z3 at *
              subst hx
              clear hD ok oh db
              go_wp2_with (first
                | (go_at_call 27; refine (cU _).mono ?_; rintro o u2 ⟨rfl, hb⟩; have B2 : Hid (Below u.heap.size u u2) := rbel_on hb (rbel_on HWc.out B1.out); have R2 : Hid (C.R u2 F N') := C.on HRW.out hb; clear hb)
                | (go_at_call 28; refine (cL _).mono ?_; rintro o u3 ⟨rfl, hb⟩; have B3 : Hid (Below u.heap.size u u3) := rbel_on hb (rbel_al B2.out); have R3 : Hid (C.R u3 F N') := C.on (C.on R2.out (rbel_al (Below.refl _ _))) hb; clear hb))
              go_ret
              exact ⟨F, rfl, R3.out, Keeps.of B3.out, fun k h => Or.inl h⟩


        · rw [if_neg hm] at hcmd
          have HC : cmdB s.data.toList = (0, 0, 0) := hcmd
          as_aux_lemma =>
            have hcs : k = 0 ∨ k = 1 ∨ k = 2 ∨ k = 3 ∨ k = 4 ∨ k = 5 ∨ k = 6 ∨ k = 7 ∨ k = 8 ∨ k = 9 := by omega
            rcases hcs with rfl | rfl | rfl | rfl | rfl | rfl | rfl | rfl | rfl | rfl
            · subst hkd
              have s6 : (H0.toList == [115, 104, 111, 119]) = false := t6
              have s7 : (H0.toList == [111, 102, 102, 115, 101, 116]) = false := t7
              have s8 : (H0.toList == [119, 105, 100, 101]) = false := t8
              have s9 : (H0.toList == [100, 97, 116, 101]) = false := t9
              clear t1 t2 t3 t4 t5 t6 t7 t8 t9
              have hb := HL.out.bad HC
              obtain ⟨eN, ex⟩ := hb
              subst ex
              subst eN
              go_wp2_with (fail)
              go_ret
              exact ⟨F, rfl, C.on HR.out (rbel_on HWc.out B1.out), Keeps.of (rbel_on HWc.out B1.out), fun k h => Or.inl h⟩
            · have nl : ¬ (V.length = 1) := fun e => hm ⟨by decide, e⟩
              have nl2 : ¬ ((V.length : Int) = 1) := by omega
              have nl3 : ((V.length : Int) == 1) = false := by simp only [beq_eq_false_iff_ne]; exact nl2
              subst hkd
              have s6 : (H0.toList == [115, 104, 111, 119]) = false := t6
              have s7 : (H0.toList == [111, 102, 102, 115, 101, 116]) = false := t7
              have s8 : (H0.toList == [119, 105, 100, 101]) = false := t8
              have s9 : (H0.toList == [100, 97, 116, 101]) = false := t9
              clear t1 t2 t3 t4 t5 t6 t7 t8 t9
              have hb := HL.out.bad HC
              obtain ⟨eN, ex⟩ := hb
              subst ex
              subst eN
              go_wp2_with (fail)
              go_ret
              exact ⟨F, rfl, C.on HR.out (rbel_on HWc.out B1.out), Keeps.of (rbel_on HWc.out B1.out), fun k h => Or.inl h⟩
            · have nl : ¬ (V.length = 2) := fun e => hm ⟨by decide, e⟩
              have nl2 : ¬ ((V.length : Int) = 2) := by omega
              have nl3 : ((V.length : Int) == 2) = false := by simp only [beq_eq_false_iff_ne]; exact nl2
              subst hkd
              have s6 : (H0.toList == [115, 104, 111, 119]) = false := t6
              have s7 : (H0.toList == [111, 102, 102, 115, 101, 116]) = false := t7
              have s8 : (H0.toList == [119, 105, 100, 101]) = false := t8
              have s9 : (H0.toList == [100, 97, 116, 101]) = false := t9
              clear t1 t2 t3 t4 t5 t6 t7 t8 t9
              have hb := HL.out.bad HC
              obtain ⟨eN, ex⟩ := hb
              subst ex
              subst eN
              go_wp2_with (fail)
              go_ret
              exact ⟨F, rfl, C.on HR.out (rbel_on HWc.out B1.out), Keeps.of (rbel_on HWc.out B1.out), fun k h => Or.inl h⟩
            · have nl : ¬ (V.length = 1) := fun e => hm ⟨by decide, e⟩
              have nl2 : ¬ ((V.length : Int) = 1) := by omega
              have nl3 : ((V.length : Int) == 1) = false := by simp only [beq_eq_false_iff_ne]; exact nl2
              subst hkd
              have s6 : (H0.toList == [115, 104, 111, 119]) = false := t6
              have s7 : (H0.toList == [111, 102, 102, 115, 101, 116]) = false := t7
              have s8 : (H0.toList == [119, 105, 100, 101]) = false := t8
              have s9 : (H0.toList == [100, 97, 116, 101]) = false := t9
              clear t1 t2 t3 t4 t5 t6 t7 t8 t9
              have hb := HL.out.bad HC
              obtain ⟨eN, ex⟩ := hb
              subst ex
              subst eN
              go_wp2_with (fail)
              go_ret
              exact ⟨F, rfl, C.on HR.out (rbel_on HWc.out B1.out), Keeps.of (rbel_on HWc.out B1.out), fun k h => Or.inl h⟩
            · have nl : ¬ (V.length = 1) := fun e => hm ⟨by decide, e⟩
              have nl2 : ¬ ((V.length : Int) = 1) := by omega
              have nl3 : ((V.length : Int) == 1) = false := by simp only [beq_eq_false_iff_ne]; exact nl2
              subst hkd
              have s6 : (H0.toList == [115, 104, 111, 119]) = false := t6
              have s7 : (H0.toList == [111, 102, 102, 115, 101, 116]) = false := t7
              have s8 : (H0.toList == [119, 105, 100, 101]) = false := t8
              have s9 : (H0.toList == [100, 97, 116, 101]) = false := t9
              clear t1 t2 t3 t4 t5 t6 t7 t8 t9
              have hb := HL.out.bad HC
              obtain ⟨eN, ex⟩ := hb
              subst ex
              subst eN
              go_wp2_with (fail)
              go_ret
              exact ⟨F, rfl, C.on HR.out (rbel_on HWc.out B1.out), Keeps.of (rbel_on HWc.out B1.out), fun k h => Or.inl h⟩
            · have nl : ¬ (V.length = 1) := fun e => hm ⟨by decide, e⟩
              have nl2 : ¬ ((V.length : Int) = 1) := by omega
              have nl3 : ((V.length : Int) == 1) = false := by simp only [beq_eq_false_iff_ne]; exact nl2
              subst hkd
              have s6 : (H0.toList == [115, 104, 111, 119]) = false := t6
              have s7 : (H0.toList == [111, 102, 102, 115, 101, 116]) = false := t7
              have s8 : (H0.toList == [119, 105, 100, 101]) = false := t8
              have s9 : (H0.toList == [100, 97, 116, 101]) = false := t9
              clear t1 t2 t3 t4 t5 t6 t7 t8 t9
              have hb := HL.out.bad HC
              obtain ⟨eN, ex⟩ := hb
              subst ex
              subst eN
              go_wp2_with (fail)
              go_ret
              exact ⟨F, rfl, C.on HR.out (rbel_on HWc.out B1.out), Keeps.of (rbel_on HWc.out B1.out), fun k h => Or.inl h⟩
            · have nl : ¬ (V.length = 1) := fun e => hm ⟨by decide, e⟩
              have nl2 : ¬ ((V.length : Int) = 1) := by omega
              have nl3 : ((V.length : Int) == 1) = false := by simp only [beq_eq_false_iff_ne]; exact nl2
              subst hkd
              have s6 : (H0.toList == [115, 104, 111, 119]) = true := t6
              have s7 : (H0.toList == [111, 102, 102, 115, 101, 116]) = false := t7
              have s8 : (H0.toList == [119, 105, 100, 101]) = false := t8
              have s9 : (H0.toList == [100, 97, 116, 101]) = false := t9
              clear t1 t2 t3 t4 t5 t6 t7 t8 t9
              have hb := HL.out.bad HC
              obtain ⟨eN, ex⟩ := hb
              subst ex
              subst eN
              go_wp2_with (fail)
              go_ret
              exact ⟨F, rfl, C.on HR.out (rbel_on HWc.out B1.out), Keeps.of (rbel_on HWc.out B1.out), fun k h => Or.inl h⟩
            · have nl : ¬ (V.length = 2) := fun e => hm ⟨by decide, e⟩
              have nl2 : ¬ ((V.length : Int) = 2) := by omega
              have nl3 : ((V.length : Int) == 2) = false := by simp only [beq_eq_false_iff_ne]; exact nl2
              subst hkd
              have s6 : (H0.toList == [115, 104, 111, 119]) = false := t6
              have s7 : (H0.toList == [111, 102, 102, 115, 101, 116]) = true := t7
              have s8 : (H0.toList == [119, 105, 100, 101]) = false := t8
              have s9 : (H0.toList == [100, 97, 116, 101]) = false := t9
              clear t1 t2 t3 t4 t5 t6 t7 t8 t9
              have hb := HL.out.bad HC
              obtain ⟨eN, ex⟩ := hb
              subst ex
              subst eN
              go_wp2_with (fail)
              go_ret
              exact ⟨F, rfl, C.on HR.out (rbel_on HWc.out B1.out), Keeps.of (rbel_on HWc.out B1.out), fun k h => Or.inl h⟩
            · have nl : ¬ (V.length = 0) := fun e => hm ⟨by decide, e⟩
              have nl2 : ¬ ((V.length : Int) = 0) := by omega
              have nl3 : ((V.length : Int) == 0) = false := by simp only [beq_eq_false_iff_ne]; exact nl2
              subst hkd
              have s6 : (H0.toList == [115, 104, 111, 119]) = false := t6
              have s7 : (H0.toList == [111, 102, 102, 115, 101, 116]) = false := t7
              have s8 : (H0.toList == [119, 105, 100, 101]) = true := t8
              have s9 : (H0.toList == [100, 97, 116, 101]) = false := t9
              clear t1 t2 t3 t4 t5 t6 t7 t8 t9
              have hb := HL.out.bad HC
              obtain ⟨eN, ex⟩ := hb
              subst ex
              subst eN
              go_wp2_with (fail)
              go_ret
              exact ⟨F, rfl, C.on HR.out (rbel_on HWc.out B1.out), Keeps.of (rbel_on HWc.out B1.out), fun k h => Or.inl h⟩
            · have nl : ¬ (V.length = 1) := fun e => hm ⟨by decide, e⟩
              have nl2 : ¬ ((V.length : Int) = 1) := by omega
              have nl3 : ((V.length : Int) == 1) = false := by simp only [beq_eq_false_iff_ne]; exact nl2
              subst hkd
              have s6 : (H0.toList == [115, 104, 111, 119]) = false := t6
              have s7 : (H0.toList == [111, 102, 102, 115, 101, 116]) = false := t7
              have s8 : (H0.toList == [119, 105, 100, 101]) = false := t8
              have s9 : (H0.toList == [100, 97, 116, 101]) = true := t9
              clear t1 t2 t3 t4 t5 t6 t7 t8 t9
              have hb := HL.out.bad HC
              obtain ⟨eN, ex⟩ := hb
              subst ex
              subst eN
              go_wp2_with (fail)
              go_ret
              exact ⟨F, rfl, C.on HR.out (rbel_on HWc.out B1.out), Keeps.of (rbel_on HWc.out B1.out), fun k h => Or.inl h⟩

end Go.Proofs.YtadkgnbagmnkkakGreatDoor.rn
namespace Go.Proofs.YtadkgnbagmnkkakGreatDoor.rn
open Go.ChangeShapes Go.WideShapes Go.ChangeAt Go.RowKit
set_option linter.unusedVariables false

def rl (w : World) (mb : Nat) (sa : Option Addr) (sc : Nat) (ra : Option Addr) (rc : Nat) : Rl mb where
 R u F N := ∃ v lb lc nb, RNt w u mb sa sc ra rc N v lb lc nb ∧ F = FrN mb v lb nb N.W.n
 on := by
  rintro u v F N ⟨x, lb, lc, nb, h, e⟩ hb
  exact ⟨x, lb, lc, nb, h.on hb, e⟩
 lt := by
  rintro u F N ⟨x, lb, lc, nb, h, rfl⟩ k hk
  exact h.flt hk
 len := by
  rintro u F N ⟨x, lb, lc, nb, h, rfl⟩
  exact ⟨_, lc, h.m.r.c 4 _ rfl⟩
 act := by
  rintro F N N' wh x y e u ⟨v, lb, lc, nb, h, rfl⟩ g hD
  refine (rndo_at h g hD).mono ?_
  rintro o w' ⟨v', rfl, hR, hK⟩
  have hn := (hD.t g).2.1
  refine ⟨FrN mb v' lb nb N'.W.n, rfl, ⟨v', lb, lc, nb, hR, rfl⟩, ⟨hK.1.os, hK.1.tape, hK.1.output, hK.1.size, fun k hk hn' => hK.1.block k hk (fun q => hn' ?_)⟩, fun k hk => ?_⟩
  ·rcases q with q | q | q
   ·exact Or.inl q
   ·exact Or.inr (Or.inl q)
   ·exact Or.inr (Or.inr (Or.inr q))
  ·rcases hk with q | q | q | q
   ·exact Or.inl (Or.inl q)
   ·rcases hK.2 k q with z | z
    ·exact Or.inl (Or.inr (Or.inl z))
    ·exact Or.inr z
   ·exact Or.inl (Or.inr (Or.inr (Or.inl q)))
   ·rw [hn] at q
    exact Or.inl (Or.inr (Or.inr (Or.inr q)))
 read := by
  rintro F N i u ⟨v, lb, lc, nb, h, rfl⟩ g hi
  exact h.m.read g.g.i hi
 off := by
  rintro F N x y lo hi e u ⟨v, lb, lc, nb, h, rfl⟩ g hB
  exact roff_at h g x y lo hi e hB
 wide := by
  rintro F N T u ⟨v, lb, lc, nb, h, rfl⟩ g hA
  exact rwide_at h g T hA
end Go.Proofs.YtadkgnbagmnkkakGreatDoor.rn
namespace Go.Proofs.YtadkgnbagmnkkakGreatDoor.rn
open Go.ChangeShapes Go.WideShapes Go.ChangeAt Go.RowKit Go.Joins
set_option linter.unusedVariables false
set_option linter.unusedSimpArgs false

theorem texts_at {u1 : World} {base : Nat} {vc : Value} {L : List (List UInt8)} (ho : OwS u1 base vc L) (hne : L ≠ []) : ∃ g cap, vc = .slice (some ⟨g, 0, none⟩) L.length cap ∧ L.length ≤ cap ∧ g < u1.heap.size ∧ ∀ (j : Nat) (x : List UInt8), L[j]? = some x → u1.cell? ⟨g, j, none⟩ = some (.string ⟨x.toArray⟩) := by
 rcases ho.2 with ⟨e, _⟩ | ⟨g, cap, cur, e, hr⟩
 ·exfalso
  have q := ho.1
  have : (scs L).length = 0 := by simp_all
  rw [scs_len] at this
  exact hne (List.eq_nil_of_length_eq_zero this)
 ·subst e
  refine ⟨g, cap, rfl, hr.2.2.1, (ho.lt g rfl).2, fun j x hj => ?_⟩
  have lj := (List.getElem?_eq_some_iff.1 hj).1
  rw [ho.cellAt j (by rw [Nat.mul_one]; exact lj)]
  show (List.map (fun x => Value.string ⟨x.toArray⟩) L)[j]? = _
  rw [List.getElem?_map, hj]
  rfl
theorem lin_is {l : List UInt8} {L0 : List (List UInt8)} {la : List UInt8} (h : cutB 10 l = L0 ++ [la]) : linB l = if la = [] then L0 else L0 ++ [la] := by
 rw [linB_cut, h, List.getLast?_concat, List.dropLast_concat]
 by_cases e : la = []
 ·rw [if_pos (by rw [e]), if_pos e]
 ·rw [if_neg (fun q => e (Option.some.inj q)), if_neg e]
set_option maxRecDepth 100000 in
set_option maxHeartbeats 40000000 in
theorem all_ways (s : ByteArray) (w : World) (O : RnC w) (hs : s.size ≤ 9223372036854775807) :
  Calls Tryz.prog 3 #[.string s] w fun o w' => o = .returned (.bool true) ∧ Below w.heap.size w w' := by
 obtain ⟨r, hr⟩ := run_some s.data.toList
 have cR := O.run s r w hs (Below.refl _ _) hr
 have sl : s.data.toList.length = s.size := rfl
 rcases hr with ⟨hl, rfl⟩ | ⟨hl, hO⟩
 ·rw [sl] at hl
  have hl3 : (3000 : Int) < s.size := by omega
  have tl : ((⟨([116, 111, 111, 32, 108, 111, 110, 103, 10] : List UInt8).toArray⟩ : ByteArray).toList == [116, 111, 111, 32, 108, 111, 110, 103, 10]) = true := by rw [toList_data]; decide
  generalize (⟨([116, 111, 111, 32, 108, 111, 110, 103, 10] : List UInt8).toArray⟩ : ByteArray) = TL at *
  go_enter Tryz.func3, Tryz.ntmps3
  go_wp2_with (go_at_call 6; refine cR.mono ?_; rintro o u1 ⟨rfl, hb⟩; have B1 : Hid (Below w.heap.size w u1) := hb; clear hb)
  go_ret
  exact ⟨rfl, B1.out⟩
 ·rw [sl] at hl
  have hl3 : ¬ ((3000 : Int) < s.size) := by omega
  obtain ⟨L0, la, hL⟩ : ∃ L0 la, cutB 10 s.data.toList = L0 ++ [la] := ⟨_, _, (List.dropLast_concat_getLast (cutA_ne 10 _ [])).symm⟩
  have hM := lin_is hL
  rw [hM] at hO
  have lr : r.length ≤ 183061 := (show RunR s.data.toList r from Or.inr ⟨by rw [sl]; exact hl, by rw [hM]; exact hO⟩).len
  have HO : Hid (OutR run0 (if la = [] then L0 else L0 ++ [la]) r) := hO
  have cC : ∀ u, Calls Tryz.prog 7 #[.string s, .int .u8 10] u fun o w' => ∃ v, o = .returned v ∧ OwS w' u.heap.size v (L0 ++ [la]) ∧ Below u.heap.size u w' := fun u => by
   have := rcut s 10 u (by omega)
   rw [hL] at this
   exact this
  have ll : (L0 ++ [la]).length = L0.length + 1 := by simp
  have px : ∀ x, x ∈ L0 ++ [la] → x.length ≤ 3000 := fun x hx => by
   have := cutA_piece 10 s.data.toList [] x (by rw [show cutA 10 [] s.data.toList = L0 ++ [la] from hL]; exact hx)
   simp only [List.length_nil] at this
   omega
  have lL : L0.length ≤ 3000 := by
   have e : (cutB 10 s.data.toList).length ≤ s.data.toList.length + 1 := cutA_len 10 _ []
   rw [hL, ll, sl] at e
   omega
  clear hO hM hL
  go_enter Tryz.func3, Tryz.ntmps3
  go_upto_region 5 with (first
   | (go_at_call 6; refine cR.mono ?_; rintro o u1 ⟨rfl, hb⟩; have B1 : Hid (Below w.heap.size w u1) := hb; clear hb)
   | (go_at_call 7; refine (cC _).mono ?_; rintro o u2 ⟨vc, rfl, hC, hb⟩; have B2 : Hid (Below w.heap.size w u2) := rbel_on hb B1.out; obtain ⟨g, cap, rfl, hcap, gl, hW⟩ := texts_at hC (by simp); clear hC hb))
  rw [ll] at hcap
  have hcap2 : L0.length ≤ cap := by omega
  have c0 := hW L0.length la (by rw [List.getElem?_append_right (Nat.le_refl _), Nat.sub_self]; rfl)
  have i1 : ((L0.length + 1 : Nat) : Int) - 1 = (L0.length : Int) := by omega
  have tl : (⟨la.toArray⟩ : ByteArray).toList.isEmpty = decide (la = []) := by
   rw [toList_data]
   show la.isEmpty = _
   cases la <;> rfl
  have la3 := px la (by simp)
  generalize (⟨la.toArray⟩ : ByteArray) = LA at *
  obtain ⟨M, hM⟩ : ∃ M, M = if la = [] then L0 else L0 ++ [la] := ⟨_, rfl⟩
  rw [← hM] at HO
  have lM : M.length ≤ L0.length + 1 := by rw [hM]; split <;> simp
  have pM : ∀ (j : Nat) (x : List UInt8), M[j]? = some x → u2.cell? ⟨g, j, none⟩ = some (.string ⟨x.toArray⟩) ∧ x.length ≤ 3000 := fun j x hj => by
   have q : (L0 ++ [la])[j]? = some x := by
    rw [hM] at hj
    split at hj
    ·rw [List.getElem?_append_left (List.getElem?_eq_some_iff.1 hj).1]; exact hj
    ·exact hj
   exact ⟨hW j x q, px x (List.mem_of_getElem? q)⟩
  go_upto_if 24 with (fail)
  generalize hbE : la.isEmpty = bE
  go_cut [4] from 25 to 29 (fun v w' => v = .slice (some ⟨g, 0, none⟩) M.length cap ∧ w' = u2)
  case first =>
   as_aux_lemma =>
    cases bE with
    | true =>
     have e : la = [] := by cases la with | nil => rfl | cons a b => cases hbE
     rw [if_pos e] at hM
     subst hM
     clear tl
     go_wp2_with (fail)
     go_meet
     case rel => exact ⟨rfl, rfl⟩
    | false =>
     have e : ¬ la = [] := by
      intro e
      rw [e] at hbE
      cases hbE
     rw [if_neg e] at hM
     have eM : M.length = L0.length + 1 := by rw [hM, ll]
     clear tl
     go_wp2_with (fail)
     go_meet
     case rel => exact ⟨by rw [eM], rfl⟩
  case rest =>
   obtain ⟨rfl, rfl⟩ := hcut
   clear hM hbE tl c0 hW
   have hA : NHanded ((wc.alloc (.cells #[.int .i64 0, .int .i64 1000, .int .i64 50] 3)).alloc (.cells #[.int .i64 100, .int .i64 (-100), .int .i64 0] 3)) (some ⟨wc.heap.size, 0, none⟩) 3 st3 := ⟨by omega, Or.inr ⟨_, 0, rfl, fun i hi => by
    have rr : Row ((wc.alloc (.cells #[.int .i64 0, .int .i64 1000, .int .i64 50] 3)).alloc (.cells #[.int .i64 100, .int .i64 (-100), .int .i64 0] 3)) wc.heap.size [.int .i64 0, .int .i64 1000, .int .i64 50] := Row.al (Row.made rfl)
    have : i = 0 ∨ i = 1 ∨ i = 2 := by omega
    rcases this with rfl | rfl | rfl
    ·exact rr.c 0 _ rfl
    ·exact rr.c 1 _ rfl
    ·exact rr.c 2 _ rfl⟩⟩
   have hB : NHanded ((wc.alloc (.cells #[.int .i64 0, .int .i64 1000, .int .i64 50] 3)).alloc (.cells #[.int .i64 100, .int .i64 (-100), .int .i64 0] 3)) (some ⟨wc.heap.size + 1, 0, none⟩) 3 rt3 := ⟨by omega, Or.inr ⟨_, 0, rfl, fun i hi => by
    have rr : Row ((wc.alloc (.cells #[.int .i64 0, .int .i64 1000, .int .i64 50] 3)).alloc (.cells #[.int .i64 100, .int .i64 (-100), .int .i64 0] 3)) (wc.heap.size + 1) [.int .i64 100, .int .i64 (-100), .int .i64 0] := Row.made (by simp)
    have : i = 0 ∨ i = 1 ∨ i = 2 := by omega
    rcases this with rfl | rfl | rfl
    ·exact rr.c 0 _ rfl
    ·exact rr.c 1 _ rfl
    ·exact rr.c 2 _ rfl⟩⟩
   have cN := rnew_at (w := ((wc.alloc (.cells #[.int .i64 0, .int .i64 1000, .int .i64 50] 3)).alloc (.cells #[.int .i64 100, .int .i64 (-100), .int .i64 0] 3))) (u := ((wc.alloc (.cells #[.int .i64 0, .int .i64 1000, .int .i64 50] 3)).alloc (.cells #[.int .i64 100, .int .i64 (-100), .int .i64 0] 3))) (sc := 3) (rc := 3) (p := 100) hA hB (Below.refl _ _) (by omega) (by omega)
   have BW : Hid (Below wc.heap.size wc ((wc.alloc (.cells #[.int .i64 0, .int .i64 1000, .int .i64 50] 3)).alloc (.cells #[.int .i64 100, .int .i64 (-100), .int .i64 0] 3))) := rbel_al (rbel_al (Below.refl _ _))
   clear hA hB
   go_wp2_with (go_at_call 8; refine cN.mono ?_; rintro o u3 ⟨mb, lb, lc, nb, rfl, hR, hb, hF⟩; have R3 : Hid ((rl ((wc.alloc (.cells #[.int .i64 0, .int .i64 1000, .int .i64 50] 3)).alloc (.cells #[.int .i64 100, .int .i64 (-100), .int .i64 0] 3)) mb (some ⟨wc.heap.size, 0, none⟩) 3 (some ⟨wc.heap.size + 1, 0, none⟩) 3).R u3 (FrN mb (.slice none 0 0) lb nb 3) run0) := ⟨_, lb, lc, nb, hR, rfl⟩; have F3 : Hid (∀ k, FrN mb (.slice none 0 0) lb nb 3 k → wc.heap.size ≤ k) := fun k hk => Nat.le_trans BW.out.size (hF k hk); have B3 : Hid (Below wc.heap.size wc u3) := rbel_on hb BW.out; clear hR hb hF)
   clear cN
   go_loopw [6, 7, 8] (fun vs vi _ wr => ∃ (i : Nat) (N : Nn) (F : Nat → Prop) (r1 r2 : List UInt8), i ≤ M.length ∧ vi = .int .i64 i ∧ vs = .string ⟨r1.toArray⟩ ∧ r = r1 ++ r2 ∧ OutR N (M.drop i) r2 ∧ N.T ∧ (rl ((wc.alloc (.cells #[.int .i64 0, .int .i64 1000, .int .i64 50] 3)).alloc (.cells #[.int .i64 100, .int .i64 (-100), .int .i64 0] 3)) mb (some ⟨wc.heap.size, 0, none⟩) 3 (some ⟨wc.heap.size + 1, 0, none⟩) 3).R wr F N ∧ (∀ k, F k → wc.heap.size ≤ k) ∧ Below wc.heap.size wc wr) (fun _ vi _ _ => M.length - (intOf vi).toNat)
   case atStart => exact ⟨0, run0, _, [], r, Nat.zero_le _, rfl, rfl, rfl, HO.out, run0_t, R3.out, F3.out, B3.out⟩
   case round =>
    clear HO R3 F3 B3
    obtain ⟨i, N, F, r1, r2, hi, rfl, rfl, er, hO, hT, hR, hF, hw⟩ := hrel
    have HW : Hid (Below wc.heap.size wc wr) := hw
    have HF : Hid (∀ k, F k → wc.heap.size ≤ k) := hF
    have HR : Hid ((rl ((wc.alloc (.cells #[.int .i64 0, .int .i64 1000, .int .i64 50] 3)).alloc (.cells #[.int .i64 100, .int .i64 (-100), .int .i64 0] 3)) mb (some ⟨wc.heap.size, 0, none⟩) 3 (some ⟨wc.heap.size + 1, 0, none⟩) 3).R wr F N) := hR
    have HT : Hid N.T := hT
    have ls : r1.length + r2.length = r.length := by rw [er, List.length_append]
    have ER : Hid (r = r1 ++ r2) := er
    clear hR hF hT er
    by_cases hlt : i < M.length
    ·obtain ⟨y, hy⟩ : ∃ y, M[i]? = some y := ⟨_, List.getElem?_eq_getElem hlt⟩
     have ey : M[i] = y := by rw [List.getElem?_eq_getElem hlt] at hy; exact Option.some.inj hy
     rw [List.drop_eq_getElem_cons hlt, ey] at hO
     obtain ⟨N1, x, r3, hL, hO1, rfl⟩ := hO
     obtain ⟨q1, q2⟩ := pM i y hy
     have c1 : wr.cell? ⟨g, i, none⟩ = some (.string ⟨y.toArray⟩) := by rw [hw.cell gl]; exact q1
     have HO1 : Hid (OutR N1 (M.drop (i + 1)) r3) := hO1
     have T1 : Hid N1.T := (hL.t HT.out).1
     have cL := rline (rl ((wc.alloc (.cells #[.int .i64 0, .int .i64 1000, .int .i64 50] 3)).alloc (.cells #[.int .i64 100, .int .i64 (-100), .int .i64 0] 3)) mb (some ⟨wc.heap.size, 0, none⟩) 3 (some ⟨wc.heap.size + 1, 0, none⟩) 3) wr F N N1 ⟨y.toArray⟩ x HR.out HT.out (by show y.toArray.size ≤ 3000; simpa using q2) hL
     have lx : r1.length + x.length + 1 ≤ 183061 := by
      simp only [List.length_append, List.length_cons] at ls
      omega
     have z1 : (⟨r1.toArray⟩ : ByteArray).size = r1.length := by show r1.toArray.size = _; simp
     have z2 : (⟨x.toArray⟩ : ByteArray).size = x.length := by show x.toArray.size = _; simp
     have eS : (⟨r1.toArray⟩ : ByteArray) ++ ⟨x.toArray⟩ ++ ⟨#[10]⟩ = ⟨(r1 ++ (x ++ [10])).toArray⟩ := by
      apply ByteArray.ext
      apply Array.toList_inj.1
      simp [ByteArray.data_append]
     have ER2 : Hid (r = (r1 ++ (x ++ [10])) ++ r3) := by
      show r = _
      rw [ER.out]
      simp
     clear ER
     generalize (⟨y.toArray⟩ : ByteArray) = Y at *
     clear hL hO1 q1 hw
     go_wp2_with (go_at_call 9; refine cL.mono ?_; rintro o u4 ⟨F1, rfl, hR, hK, hF⟩; have R4 : Hid ((rl ((wc.alloc (.cells #[.int .i64 0, .int .i64 1000, .int .i64 50] 3)).alloc (.cells #[.int .i64 100, .int .i64 (-100), .int .i64 0] 3)) mb (some ⟨wc.heap.size, 0, none⟩) 3 (some ⟨wc.heap.size + 1, 0, none⟩) 3).R u4 F1 N1) := hR; have F4 : Hid (∀ k, F1 k → wc.heap.size ≤ k) := (fun k hk => (hF k hk).elim (HF.out k) (fun q => Nat.le_trans HW.out.size q)); have B4 : Hid (Below wc.heap.size wc u4) := HW.out.trans (Keeps.below HW.out.size HF.out hK); clear hR hK hF)
     go_wp2_with (fail)
     go_roundw
     case rel => exact ⟨i + 1, N1, F1, r1 ++ (x ++ [10]), r3, by omega, by go_num, rfl, ER2.out, HO1.out, T1.out, R4.out, F4.out, B4.out⟩
     case measure => simp [intOf]; omega
    ·have e2 : r2 = [] := by
      rw [List.drop_eq_nil_of_le (by omega)] at hO
      exact hO
     have e3 : r1 = r := by rw [ER.out, e2, List.append_nil]
     subst e3
     clear ER e2 ls hO
     go_wp2_with (fail)
     go_ret
     exact ⟨rfl, rbel_on HW.out B2.out⟩
end Go.Proofs.YtadkgnbagmnkkakGreatDoor.rn
