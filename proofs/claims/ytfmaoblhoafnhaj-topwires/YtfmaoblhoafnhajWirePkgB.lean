/- What package wire answers: appendTimes. -/
import Derived.Test.YtfmaoblhoafnhajNm03
import Derived.Test.YtfmaoblhoafnhajNm01
namespace Go.Proofs.Ytfmaoblhoafnhaj
open Go.ChangeShapes Go.WideShapes Go.ChangeAt Go.RowKit Go.Joins
set_option linter.unusedVariables false
set_option linter.unusedSimpArgs false

/-- Times as cells. -/
def tmc (l : List Nat) : List Value := l.map fun (n : Nat) => .int .i64 (n : Int)
theorem tmc_at {l : List Nat} {i : Nat} (h : i < l.length) : (tmc l)[i]? = some (.int .i64 ((l[i] : Nat) : Int)) := by
  unfold tmc
  rw [List.getElem?_map, List.getElem?_eq_getElem h]
  rfl
/-- Times as bytes. -/
def tmb (l : List Nat) : List UInt8 := l.flatMap six
theorem tmb_take {l : List Nat} {i : Nat} (h : i < l.length) : tmb (l.take (i + 1)) = tmb (l.take i) ++ six l[i] := by
  unfold tmb
  rw [List.take_succ_eq_append_getElem h, List.flatMap_append]
  simp
theorem tmb_len (l : List Nat) : (tmb l).length = 6 * l.length := by
  unfold tmb
  induction l with
  | nil => rfl
  | cons a r ih => rw [List.flatMap_cons, List.length_append, ih, six_len, List.length_cons]; omega
theorem six_next (l : List UInt8) (n i B : Nat) (h : i < 6) (hB : B = n / kk i % 256) : bcs (l ++ (six n).take (i + 1)) = bcs (l ++ (six n).take i) ++ [.int .u8 (B : Int)] := by
  have b2 : B < 256 := by rw [hB]; exact Nat.mod_lt _ (by decide)
  rw [six_take n h, ← List.append_assoc, bcs_app, ← hB]
  congr 1
  show [Value.int .u8 ((UInt8.ofNat B).toNat : Int)] = _
  rw [ofNat_toNat, Nat.mod_eq_of_lt b2]
/-- One byte more: the row behind it, and that all else is as it was. -/
theorem appF {base g n i B : Nat} {m : List UInt8} {ts : List Nat} {xs : List Value} {u wr w1 : World} {v v' : Value} {X : Array Value} {T : TypeId} (hx : xs.length = (m.length + i) * 1) (hI : bcs (m ++ (six n).take (i + 1)) = xs ++ [.int .u8 (B : Int)]) (ho : w1.ownsRow base 5 1 v' (m.length + i + 1) (xs ++ [.int .u8 (B : Int)])) (hg : (wr.alloc (.cells X T)).grownBy w1 v.ownBlock) (hat : v'.ownBlock = v.ownBlock ∨ v'.ownBlock = some (wr.heap.size + 1)) (hbk : ∀ j, v.ownBlock = some j → base ≤ j) (hB : Below base u wr) (hR : Row wr g (tmc ts)) (hne : v.ownBlock ≠ some g) (hlt : g < wr.heap.size) (hbw : base ≤ wr.heap.size) :
    OwB w1 base v' (m ++ (six n).take (i + 1)) ∧ Below base u w1 ∧ Row w1 g (tmc ts) ∧ v'.ownBlock ≠ some g ∧ g < w1.heap.size := by
  have ln : (m ++ (six n).take (i + 1)).length = m.length + i + 1 := by
    have := congrArg List.length hI
    rw [bcs_len] at this
    have e2 : (xs ++ [Value.int .u8 (B : Int)]).length = xs.length + 1 := by simp
    omega
  have hs : (wr.alloc (.cells X T)).heap.size = wr.heap.size + 1 := by simp
  refine ⟨?_, (hB.alloc hbw _).grown hg (by rw [hs]; omega) hbk, row_grown hg (by rw [hs]; omega) hne (Row.al hR), ?_, by have := hg.size; omega⟩
  · show w1.ownsRow base 5 1 v' (m ++ (six n).take (i + 1)).length (bcs (m ++ (six n).take (i + 1)))
    rw [hI, ln]
    exact ho
  · rcases hat with e | e
    · rw [e]; exact hne
    · rw [e]; intro q; injection q with q; omega
set_option maxRecDepth 100000 in
set_option maxHeartbeats 8000000 in
theorem app_any (v : Value) (base : Nat) (l : List UInt8) (ts : List Nat) (g c : Nat) (u : World) (hl : l.length ≤ 40) (ht : ts.length ≤ 3) (h6 : ∀ n ∈ ts, n < 281474976710656) (hb : base ≤ u.heap.size) (ho : OwB u base v l) (hr : Row u g (tmc ts)) (hg : g < u.heap.size) (hne : v.ownBlock ≠ some g) :
    Calls Try.prog 16 #[v, .slice (some ⟨g, 0, none⟩) ts.length c] u fun o w' => ∃ v', o = .returned v' ∧ OwB w' base v' (l ++ tmb ts) ∧ Below base u w' := by
  obtain ⟨i0, hi0, hz0, hz1, hz2⟩ := info_parts infoByte
  have HO : Hid (OwB u base v (l ++ tmb (ts.take 0))) := by
    show OwB u base v (l ++ tmb (ts.take 0))
    rw [List.take_zero]
    exact ho.put (List.append_nil l).symm
  have HB : Hid (Below base u u) := Below.refl _ _
  have HR : Hid (Row u g (tmc ts)) := hr
  have HNE : Hid (v.ownBlock ≠ some g) := hne
  have H6 : Hid (∀ n ∈ ts, n < 281474976710656) := h6
  clear ho hr hne h6
  go_enter Try.func16, Try.ntmps16
  go_wp2
  go_loopw [0, 10] (fun vb vk wr => ∃ k : Nat, k ≤ ts.length ∧ vk = .int .i64 k ∧ OwB wr base vb (l ++ tmb (ts.take k)) ∧ Below base u wr ∧ Row wr g (tmc ts) ∧ vb.ownBlock ≠ some g ∧ g < wr.heap.size) (fun _ k _ => ts.length - (intOf k).toNat)
  case atStart => exact ⟨0, Nat.zero_le _, rfl, HO.out, HB.out, HR.out, HNE.out, hg⟩
  case round =>
    clear HO HB HR HNE hg
    obtain ⟨k, hk, rfl, hO, hB, hR, hN, hG⟩ := hrel
    by_cases hlt : k < ts.length
    · have hl3 : (k : Int) < (ts.length : Int) := by omega
      have ck := hR.c k _ (tmc_at hlt)
      obtain ⟨n, hn⟩ : ∃ n, n = ts[k] := ⟨_, rfl⟩
      rw [← hn] at ck
      have n6 : n < 281474976710656 := by rw [hn]; exact H6.out _ (List.getElem_mem hlt)
      obtain ⟨m, hm⟩ : ∃ m, m = l ++ tmb (ts.take k) := ⟨_, rfl⟩
      have HM : Hid (l ++ tmb (ts.take (k + 1)) = m ++ six n) := by
        show l ++ tmb (ts.take (k + 1)) = m ++ six n
        rw [tmb_take hlt, ← hn, hm, List.append_assoc]
      have ml : m.length ≤ 60 := by rw [hm, List.length_append, tmb_len, List.length_take]; omega
      rw [← hm] at hO
      have O0 : Hid (OwB wr base u0 (m ++ (six n).take 0)) := by
        show OwB wr base u0 (m ++ (six n).take 0)
        rw [List.take_zero]
        exact hO.put (List.append_nil m).symm
      have B0 : Hid (Below base u wr) := hB
      have R0 : Hid (Row wr g (tmc ts)) := hR
      have N0 : Hid (u0.ownBlock ≠ some g) := hN
      clear hO hB hR hN hn hm H6
      go_wp2
      go_loopw [0, 7] (fun vb vi wr => ∃ i : Nat, i ≤ 6 ∧ vi = .int .i64 (5 - (i : Int)) ∧ OwB wr base vb (m ++ (six n).take i) ∧ Below base u wr ∧ Row wr g (tmc ts) ∧ vb.ownBlock ≠ some g ∧ g < wr.heap.size) (fun _ i _ => (intOf i + 1).toNat)
      case atStart => exact ⟨0, Nat.zero_le _, rfl, O0.out, B0.out, R0.out, N0.out, hG⟩
      case round =>
        clear O0 B0 R0 N0 hG ck
        obtain ⟨i, hi, rfl, hO, hB0, hR, hN, hG⟩ := hrel
        have hbw : base ≤ wr.heap.size := Nat.le_trans hb hB0.size
        have HW : Hid (Below base u wr) := hB0
        have HR1 : Hid (Row wr g (tmc ts)) := hR
        have HNE : Hid (u0.ownBlock ≠ some g) := hN
        have HLT : Hid (g < wr.heap.size) := hG
        have HBk : Hid (∀ j, u0.ownBlock = some j → base ≤ j) := fun j hj => (hO.lt j hj).1
        have ln : (m ++ (six n).take i).length = m.length + i := by rw [List.length_append, List.length_take, six_len]; omega
        clear hB0 hR hN hG
        rcases (show i = 0 ∨ i = 1 ∨ i = 2 ∨ i = 3 ∨ i = 4 ∨ i = 5 ∨ i = 6 by omega) with rfl | rfl | rfl | rfl | rfl | rfl | rfl
        · obtain ⟨B, hB⟩ : ∃ B, B = n / 1099511627776 % 256 := ⟨_, rfl⟩
          have HN : Hid (wr.ownsRow base 5 1 u0 (m.length + 0) (bcs (m ++ (six n).take 0))) := by rw [← ln]; exact hO
          have HIc : Hid (bcs (m ++ (six n).take 1) = bcs (m ++ (six n).take 0) ++ [.int .u8 (B : Int)]) := six_next m n 0 B (by decide) (by rw [hB]; rfl)
          have w4 : IntKind.u8.wrap ((n : Int) / 1099511627776) = (B : Int) := by rw [IntKind.wrap_u8, hB]; omega
          have b2 : B < 256 := by rw [hB]; exact Nat.mod_lt _ (by decide)
          clear hO ln hB
          generalize bcs (m ++ (six n).take 0) = xs at *
          go_wp2_with (at_builtin; refine wpList_append_own_at _ rfl _ _ 54 rfl base 5 i0 (.int .u8 0) 1 1 Try.underlying54 hi0 hz0 hz1 hz2 rfl (by decide) _ _ _ rfl (HN.out.alloc _) ⟨wr.heap.size, 0, none⟩ 1 1 [.int .u8 (B : Int)] rfl rfl (fun j u hj => by rw [Addr.add_lit]; exact (Row.made (W := wr) (vs := [.int .u8 (B : Int)]) rfl).c _ _ (by simpa using hj)) (fun u hu => by simp at hu; rw [hu]; rfl) (by unfold maxLen; omega) (by omega) (by simp; omega) ?_)
          intro v' w1 hown' hgrow _ hat
          have F := appF (i := 0) HN.out.1 HIc.out hown' hgrow hat HBk.out HW.out HR1.out HNE.out HLT.out hbw
          have HF : Hid _ := F
          clear hown' hgrow hat F HN HIc HW HR1 HNE
          go_wp2
          go_roundw
          case rel => exact ⟨1, by decide, by go_num, HF.out⟩
          case measure => simp [intOf]
        · obtain ⟨B, hB⟩ : ∃ B, B = n / 4294967296 % 256 := ⟨_, rfl⟩
          have HN : Hid (wr.ownsRow base 5 1 u0 (m.length + 1) (bcs (m ++ (six n).take 1))) := by rw [← ln]; exact hO
          have HIc : Hid (bcs (m ++ (six n).take 2) = bcs (m ++ (six n).take 1) ++ [.int .u8 (B : Int)]) := six_next m n 1 B (by decide) (by rw [hB]; rfl)
          have w4 : IntKind.u8.wrap ((n : Int) / 4294967296) = (B : Int) := by rw [IntKind.wrap_u8, hB]; omega
          have b2 : B < 256 := by rw [hB]; exact Nat.mod_lt _ (by decide)
          clear hO ln hB
          generalize bcs (m ++ (six n).take 1) = xs at *
          go_wp2_with (at_builtin; refine wpList_append_own_at _ rfl _ _ 54 rfl base 5 i0 (.int .u8 0) 1 1 Try.underlying54 hi0 hz0 hz1 hz2 rfl (by decide) _ _ _ rfl (HN.out.alloc _) ⟨wr.heap.size, 0, none⟩ 1 1 [.int .u8 (B : Int)] rfl rfl (fun j u hj => by rw [Addr.add_lit]; exact (Row.made (W := wr) (vs := [.int .u8 (B : Int)]) rfl).c _ _ (by simpa using hj)) (fun u hu => by simp at hu; rw [hu]; rfl) (by unfold maxLen; omega) (by omega) (by simp; omega) ?_)
          intro v' w1 hown' hgrow _ hat
          have F := appF (i := 1) HN.out.1 HIc.out hown' hgrow hat HBk.out HW.out HR1.out HNE.out HLT.out hbw
          have HF : Hid _ := F
          clear hown' hgrow hat F HN HIc HW HR1 HNE
          go_wp2
          go_roundw
          case rel => exact ⟨2, by decide, by go_num, HF.out⟩
          case measure => simp [intOf]
        · obtain ⟨B, hB⟩ : ∃ B, B = n / 16777216 % 256 := ⟨_, rfl⟩
          have HN : Hid (wr.ownsRow base 5 1 u0 (m.length + 2) (bcs (m ++ (six n).take 2))) := by rw [← ln]; exact hO
          have HIc : Hid (bcs (m ++ (six n).take 3) = bcs (m ++ (six n).take 2) ++ [.int .u8 (B : Int)]) := six_next m n 2 B (by decide) (by rw [hB]; rfl)
          have w4 : IntKind.u8.wrap ((n : Int) / 16777216) = (B : Int) := by rw [IntKind.wrap_u8, hB]; omega
          have b2 : B < 256 := by rw [hB]; exact Nat.mod_lt _ (by decide)
          clear hO ln hB
          generalize bcs (m ++ (six n).take 2) = xs at *
          go_wp2_with (at_builtin; refine wpList_append_own_at _ rfl _ _ 54 rfl base 5 i0 (.int .u8 0) 1 1 Try.underlying54 hi0 hz0 hz1 hz2 rfl (by decide) _ _ _ rfl (HN.out.alloc _) ⟨wr.heap.size, 0, none⟩ 1 1 [.int .u8 (B : Int)] rfl rfl (fun j u hj => by rw [Addr.add_lit]; exact (Row.made (W := wr) (vs := [.int .u8 (B : Int)]) rfl).c _ _ (by simpa using hj)) (fun u hu => by simp at hu; rw [hu]; rfl) (by unfold maxLen; omega) (by omega) (by simp; omega) ?_)
          intro v' w1 hown' hgrow _ hat
          have F := appF (i := 2) HN.out.1 HIc.out hown' hgrow hat HBk.out HW.out HR1.out HNE.out HLT.out hbw
          have HF : Hid _ := F
          clear hown' hgrow hat F HN HIc HW HR1 HNE
          go_wp2
          go_roundw
          case rel => exact ⟨3, by decide, by go_num, HF.out⟩
          case measure => simp [intOf]
        · obtain ⟨B, hB⟩ : ∃ B, B = n / 65536 % 256 := ⟨_, rfl⟩
          have HN : Hid (wr.ownsRow base 5 1 u0 (m.length + 3) (bcs (m ++ (six n).take 3))) := by rw [← ln]; exact hO
          have HIc : Hid (bcs (m ++ (six n).take 4) = bcs (m ++ (six n).take 3) ++ [.int .u8 (B : Int)]) := six_next m n 3 B (by decide) (by rw [hB]; rfl)
          have w4 : IntKind.u8.wrap ((n : Int) / 65536) = (B : Int) := by rw [IntKind.wrap_u8, hB]; omega
          have b2 : B < 256 := by rw [hB]; exact Nat.mod_lt _ (by decide)
          clear hO ln hB
          generalize bcs (m ++ (six n).take 3) = xs at *
          go_wp2_with (at_builtin; refine wpList_append_own_at _ rfl _ _ 54 rfl base 5 i0 (.int .u8 0) 1 1 Try.underlying54 hi0 hz0 hz1 hz2 rfl (by decide) _ _ _ rfl (HN.out.alloc _) ⟨wr.heap.size, 0, none⟩ 1 1 [.int .u8 (B : Int)] rfl rfl (fun j u hj => by rw [Addr.add_lit]; exact (Row.made (W := wr) (vs := [.int .u8 (B : Int)]) rfl).c _ _ (by simpa using hj)) (fun u hu => by simp at hu; rw [hu]; rfl) (by unfold maxLen; omega) (by omega) (by simp; omega) ?_)
          intro v' w1 hown' hgrow _ hat
          have F := appF (i := 3) HN.out.1 HIc.out hown' hgrow hat HBk.out HW.out HR1.out HNE.out HLT.out hbw
          have HF : Hid _ := F
          clear hown' hgrow hat F HN HIc HW HR1 HNE
          go_wp2
          go_roundw
          case rel => exact ⟨4, by decide, by go_num, HF.out⟩
          case measure => simp [intOf]
        · obtain ⟨B, hB⟩ : ∃ B, B = n / 256 % 256 := ⟨_, rfl⟩
          have HN : Hid (wr.ownsRow base 5 1 u0 (m.length + 4) (bcs (m ++ (six n).take 4))) := by rw [← ln]; exact hO
          have HIc : Hid (bcs (m ++ (six n).take 5) = bcs (m ++ (six n).take 4) ++ [.int .u8 (B : Int)]) := six_next m n 4 B (by decide) (by rw [hB]; rfl)
          have w4 : IntKind.u8.wrap ((n : Int) / 256) = (B : Int) := by rw [IntKind.wrap_u8, hB]; omega
          have b2 : B < 256 := by rw [hB]; exact Nat.mod_lt _ (by decide)
          clear hO ln hB
          generalize bcs (m ++ (six n).take 4) = xs at *
          go_wp2_with (at_builtin; refine wpList_append_own_at _ rfl _ _ 54 rfl base 5 i0 (.int .u8 0) 1 1 Try.underlying54 hi0 hz0 hz1 hz2 rfl (by decide) _ _ _ rfl (HN.out.alloc _) ⟨wr.heap.size, 0, none⟩ 1 1 [.int .u8 (B : Int)] rfl rfl (fun j u hj => by rw [Addr.add_lit]; exact (Row.made (W := wr) (vs := [.int .u8 (B : Int)]) rfl).c _ _ (by simpa using hj)) (fun u hu => by simp at hu; rw [hu]; rfl) (by unfold maxLen; omega) (by omega) (by simp; omega) ?_)
          intro v' w1 hown' hgrow _ hat
          have F := appF (i := 4) HN.out.1 HIc.out hown' hgrow hat HBk.out HW.out HR1.out HNE.out HLT.out hbw
          have HF : Hid _ := F
          clear hown' hgrow hat F HN HIc HW HR1 HNE
          go_wp2
          go_roundw
          case rel => exact ⟨5, by decide, by go_num, HF.out⟩
          case measure => simp [intOf]
        · obtain ⟨B, hB⟩ : ∃ B, B = n % 256 := ⟨_, rfl⟩
          have HN : Hid (wr.ownsRow base 5 1 u0 (m.length + 5) (bcs (m ++ (six n).take 5))) := by rw [← ln]; exact hO
          have HIc : Hid (bcs (m ++ (six n).take 6) = bcs (m ++ (six n).take 5) ++ [.int .u8 (B : Int)]) := six_next m n 5 B (by decide) (by rw [hB]; simp [kk])
          have w4 : IntKind.u8.wrap ((n : Int)) = (B : Int) := by rw [IntKind.wrap_u8, hB]; omega
          have b2 : B < 256 := by rw [hB]; exact Nat.mod_lt _ (by decide)
          clear hO ln hB
          generalize bcs (m ++ (six n).take 5) = xs at *
          go_wp2_with (at_builtin; refine wpList_append_own_at _ rfl _ _ 54 rfl base 5 i0 (.int .u8 0) 1 1 Try.underlying54 hi0 hz0 hz1 hz2 rfl (by decide) _ _ _ rfl (HN.out.alloc _) ⟨wr.heap.size, 0, none⟩ 1 1 [.int .u8 (B : Int)] rfl rfl (fun j u hj => by rw [Addr.add_lit]; exact (Row.made (W := wr) (vs := [.int .u8 (B : Int)]) rfl).c _ _ (by simpa using hj)) (fun u hu => by simp at hu; rw [hu]; rfl) (by unfold maxLen; omega) (by omega) (by simp; omega) ?_)
          intro v' w1 hown' hgrow _ hat
          have F := appF (i := 5) HN.out.1 HIc.out hown' hgrow hat HBk.out HW.out HR1.out HNE.out HLT.out hbw
          have HF : Hid _ := F
          clear hown' hgrow hat F HN HIc HW HR1 HNE
          go_wp2
          go_roundw
          case rel => exact ⟨6, by decide, by go_num, HF.out⟩
          case measure => simp [intOf]
        · have HO : Hid (OwB wr base u0 (m ++ six n)) := hO
          clear hO ln
          go_wp2
          go_roundw
          case rel => exact ⟨k + 1, by omega, by go_num, by rw [HM.out]; exact HO.out, HW.out, HR1.out, HNE.out, HLT.out⟩
          case measure => simp [intOf]; omega
    · have hl3 : ¬ ((k : Int) < (ts.length : Int)) := by omega
      obtain rfl : k = ts.length := by omega
      have HO : Hid (OwB wr base u0 (l ++ tmb ts)) := by rw [List.take_length] at hO; exact hO
      have HB : Hid (Below base u wr) := hB
      clear hO hB hR hN
      go_wp2
      go_ret
      exact ⟨_, rfl, HO.out, HB.out⟩
end Go.Proofs.Ytfmaoblhoafnhaj
