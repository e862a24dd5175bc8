/- The law WireBack: what package wire answers on its ways. -/
import Derived.Test.YtfmaoblhoafnhaiWireByte
import Derived.Test.YtfmaoblhoafnhaiWireEq
import Derived.Lib.SmallJoins
namespace Go.Proofs.Ytfmaoblhoafnhai.wireBack
open Go.ChangeShapes Go.WideShapes Go.ChangeAt Go.RowKit Go.Joins
set_option linter.unusedVariables false
set_option linter.unusedSimpArgs false

theorem in64 {n : Int} (h : -9223372036854775808 ≤ n) (h' : n ≤ 9223372036854775807) : In64 n := by
  show (Lit.int .i64 n).wf = true
  simp [Lit.wf, IntKind.min, IntKind.max, IntKind.signed, IntKind.bits]
  omega
theorem ltW_of {l : Lt} (h : ltE l = 0) : LtW l := by
  obtain ⟨a, b, c, d, e, _⟩ := ltE_zero h
  exact ⟨in64 (by omega) (by omega), in64 (by omega) (by omega), in64 (by omega) (by omega), in64 (by omega) (by omega), in64 (by omega) (by omega)⟩
theorem small {n : Nat} (h : n ≤ 22) : n ≤ maxLen := Nat.le_trans h (by decide)
theorem sWays {w : World} (W : WrR w) (s : ByteArray) (hs : s.size ≤ maxLen) :
    Hid (∀ u, Below w.heap.size w u → Calls Try.prog 16 #[.string s] u fun o w' => o = .returned (.tuple #[.agg #[.int .i64 0, .int .i64 0, .bool false, .int .i64 0, .int .i64 0, .int .i64 0], .iface 74 (.int .i64 2)]) ∧ Below u.heap.size u w') ∨ ∃ (m1 m2 m3 m4 m5 : Int) (m6 : Bool), Hid (∀ u, Below w.heap.size w u → Calls Try.prog 16 #[.string s] u fun o w' => o = .returned (.tuple #[.agg #[.int .i64 m1, .int .i64 m2, .bool m6, .int .i64 m3, .int .i64 m4, .int .i64 m5], .nilIface]) ∧ Below u.heap.size u w') ∧ Hid (∀ u, Below w.heap.size w u → Calls Try.prog 15 #[.agg #[.int .i64 m1, .int .i64 m2, .bool m6, .int .i64 m3, .int .i64 m4, .int .i64 m5]] u fun o w' => o = .returned (.tuple #[.string s, .nilIface]) ∧ Below u.heap.size u w') := by
  cases e : rdL s.data.toList with
  | none =>
    refine Or.inl fun u hu => (W.readLetter s u hu hs).mono ?_
    rintro o w' ⟨rfl, hb⟩
    rw [e]
    exact ⟨rfl, hb⟩
  | some m =>
    obtain ⟨z, wm⟩ := rdL_some e
    refine Or.inr ⟨m.frm, m.to, m.t1, m.t2, m.t, m.ans, fun u hu => (W.readLetter s u hu hs).mono ?_, fun u hu => (W.letter m u hu (ltW_of z)).mono ?_⟩
    · rintro o w' ⟨rfl, hb⟩
      rw [e]
      exact ⟨rfl, hb⟩
    · rintro o w' ⟨rfl, hb⟩
      rw [if_pos z, z, errc_zero, wm, wst_back]
      exact ⟨rfl, hb⟩
theorem xWays {w : World} (W : WrR w) (x1 x2 : Int) (h1 : In64 x1) (h2 : In64 x2) :
    ∃ b1 : ByteArray, b1.size = 12 ∧ (Hid (∀ u, Below w.heap.size w u → Calls Try.prog 17 #[.agg #[.int .i64 x1, .int .i64 x2]] u fun o w' => o = .returned (.tuple #[.string b1, .nilIface]) ∧ Below u.heap.size u w') ∧ Hid (∀ u, Below w.heap.size w u → Calls Try.prog 18 #[.string b1] u fun o w' => o = .returned (.tuple #[.agg #[.int .i64 x1, .int .i64 x2], .nilIface]) ∧ Below u.heap.size u w')) ∨ Hid (∀ u, Below w.heap.size w u → Calls Try.prog 17 #[.agg #[.int .i64 x1, .int .i64 x2]] u fun o w' => o = .returned (.tuple #[.string b1, .iface 74 (.int .i64 1)]) ∧ Below u.heap.size u w') := by
  cases e : okB x1 x2 with
  | false =>
    refine ⟨wst [], Or.inr fun u hu => (W.span x1 x2 u hu h1 h2).mono ?_⟩
    rintro o w' ⟨rfl, hb⟩
    rw [e]
    exact ⟨rfl, hb⟩
  | true =>
    refine ⟨wst (sb x1 x2), Or.inl ⟨by rw [wst_size, sb_len], fun u hu => (W.span x1 x2 u hu h1 h2).mono ?_, fun u hu => (W.readSpan (wst (sb x1 x2)) u hu (small (by rw [wst_size, sb_len]; decide))).mono ?_⟩⟩
    · rintro o w' ⟨rfl, hb⟩
      rw [e]
      exact ⟨rfl, hb⟩
    · rintro o w' ⟨rfl, hb⟩
      have k : (wst (sb x1 x2)).data.toList = sb x1 x2 := rfl
      rw [k, rdS_sb e]
      exact ⟨rfl, hb⟩
theorem tWays {w : World} (W : WrR w) (t : ByteArray) (ht : t.size ≤ maxLen) :
    Hid (∀ u, Below w.heap.size w u → Calls Try.prog 18 #[.string t] u fun o w' => o = .returned (.tuple #[.agg #[.int .i64 0, .int .i64 0], .iface 74 (.int .i64 2)]) ∧ Below u.heap.size u w') ∨ ∃ y1 y2 : Int, Hid (∀ u, Below w.heap.size w u → Calls Try.prog 18 #[.string t] u fun o w' => o = .returned (.tuple #[.agg #[.int .i64 y1, .int .i64 y2], .nilIface]) ∧ Below u.heap.size u w') ∧ Hid (∀ u, Below w.heap.size w u → Calls Try.prog 17 #[.agg #[.int .i64 y1, .int .i64 y2]] u fun o w' => o = .returned (.tuple #[.string t, .nilIface]) ∧ Below u.heap.size u w') := by
  cases e : rdS t.data.toList with
  | none =>
    refine Or.inl fun u hu => (W.readSpan t u hu ht).mono ?_
    rintro o w' ⟨rfl, hb⟩
    rw [e]
    exact ⟨rfl, hb⟩
  | some y =>
    obtain ⟨z, wm⟩ := rdS_some e
    obtain ⟨q1, q2, q3⟩ := okB_t z
    refine Or.inr ⟨y.1, y.2, fun u hu => (W.readSpan t u hu ht).mono ?_, fun u hu => (W.span y.1 y.2 u hu (in64 (by omega) (by omega)) (in64 (by omega) (by omega))).mono ?_⟩
    · rintro o w' ⟨rfl, hb⟩
      rw [e]
      exact ⟨rfl, hb⟩
    · rintro o w' ⟨rfl, hb⟩
      rw [if_pos z, if_pos z, errc_zero, wm, wst_back]
      exact ⟨rfl, hb⟩
def lF : Lt := ⟨1, 2, false, 0, 0, 258⟩
theorem fWay {w : World} (W : WrR w) : Hid (∀ u, Below w.heap.size w u → Calls Try.prog 15 #[.agg #[.int .i64 1, .int .i64 2, .bool false, .int .i64 0, .int .i64 0, .int .i64 258]] u fun o w' => o = .returned (.tuple #[.string ⟨#[1, 2, 0, 0, 0, 0, 0, 1, 2, 6]⟩, .nilIface]) ∧ Below u.heap.size u w') := fun u hu => (W.letter lF u hu (ltW_of (by decide))).mono (by
  rintro o w' ⟨rfl, hb⟩
  have z : ltE lF = 0 := by decide
  have k : wb lF = [1, 2, 0, 0, 0, 0, 0, 1, 2, 6] := by decide
  rw [if_pos z, z, errc_zero, k]
  exact ⟨rfl, hb⟩)
theorem lWays {w : World} (W : WrR w) (l : Lt) (hl : LtW l) :
    (∃ (b0 : ByteArray) (e0 : Int), Hid (∀ u, Below w.heap.size w u → Calls Try.prog 15 #[.agg #[.int .i64 l.frm, .int .i64 l.to, .bool l.ans, .int .i64 l.t1, .int .i64 l.t2, .int .i64 l.t]] u fun o w' => o = .returned (.tuple #[.string b0, .iface 74 (.int .i64 e0)]) ∧ Below u.heap.size u w')) ∨ (ltE l = 0 ∧ Hid (∀ u, Below w.heap.size w u → Calls Try.prog 15 #[.agg #[.int .i64 l.frm, .int .i64 l.to, .bool l.ans, .int .i64 l.t1, .int .i64 l.t2, .int .i64 l.t]] u fun o w' => o = .returned (.tuple #[.string (wst (wb l)), .nilIface]) ∧ Below u.heap.size u w') ∧ Hid (∀ u, Below w.heap.size w u → Calls Try.prog 16 #[.string (wst (wb l))] u fun o w' => o = .returned (.tuple #[.agg #[.int .i64 l.frm, .int .i64 l.to, .bool l.ans, .int .i64 l.t1, .int .i64 l.t2, .int .i64 l.t], .nilIface]) ∧ Below u.heap.size u w')) := by
  by_cases e : ltE l = 0
  · refine Or.inr ⟨e, fun u hu => (W.letter l u hu hl).mono ?_, fun u hu => (W.readLetter (wst (wb l)) u hu (small (by rw [wst_size, wb_len]; cases l.ans <;> decide))).mono ?_⟩
    · rintro o w' ⟨rfl, hb⟩
      rw [if_pos e, e, errc_zero]
      exact ⟨rfl, hb⟩
    · rintro o w' ⟨rfl, hb⟩
      have k : (wst (wb l)).data.toList = wb l := rfl
      rw [k, rdL_wb e]
      exact ⟨rfl, hb⟩
  · refine Or.inl ⟨wst (if ltE l = 0 then wb l else []), ltE l, fun u hu => (W.letter l u hu hl).mono ?_⟩
    rintro o w' ⟨rfl, hb⟩
    rw [errc_not e]
    exact ⟨rfl, hb⟩
theorem yWays {w : World} (W : WrR w) (l : Lt) (pos to : Int) (h0 : pos.toNat < (wst (wb l)).size) (h4 : 0 ≤ to) (h5 : to < 256) (h3 : ((((wst (wb l))[pos.toNat]'h0).toNat : Int) != to) = true) :
    Hid (∀ u, Below w.heap.size w u → Calls Try.prog 16 #[.string (bset (wst (wb l)) pos.toNat to)] u fun o w' => o = .returned (.tuple #[.agg #[.int .i64 0, .int .i64 0, .bool false, .int .i64 0, .int .i64 0, .int .i64 0], .iface 74 (.int .i64 2)]) ∧ Below u.heap.size u w') ∨ ∃ (q1 q2 q3 q4 q5 : Int) (q6 : Bool), Hid (∀ u, Below w.heap.size w u → Calls Try.prog 16 #[.string (bset (wst (wb l)) pos.toNat to)] u fun o w' => o = .returned (.tuple #[.agg #[.int .i64 q1, .int .i64 q2, .bool q6, .int .i64 q3, .int .i64 q4, .int .i64 q5], .nilIface]) ∧ Below u.heap.size u w') ∧ (∀ u, (Op.equalIn 10000 51 (.agg #[.int .i64 q1, .int .i64 q2, .bool q6, .int .i64 q3, .int .i64 q4, .int .i64 q5]) (.agg #[.int .i64 l.frm, .int .i64 l.to, .bool l.ans, .int .i64 l.t1, .int .i64 l.t2, .int .i64 l.t])).run Try.prog u = .ok false u) := by
  have hz : (bset (wst (wb l)) pos.toNat to).size ≤ maxLen := small (by
    unfold bset
    simp only [ByteArray.size, List.size_toArray, List.length_set]
    show (wb l).length ≤ 22
    rw [wb_len]; cases l.ans <;> decide)
  cases e : rdL (bset (wst (wb l)) pos.toNat to).data.toList with
  | none =>
    refine Or.inl fun u hu => (W.readLetter _ u hu hz).mono ?_
    rintro o w' ⟨rfl, hb⟩
    rw [e]
    exact ⟨rfl, hb⟩
  | some m =>
    obtain ⟨z, wm⟩ := rdL_some e
    have ne : m ≠ l := by
      rintro rfl
      have k : (bset (wst (wb m)) pos.toNat to).data.toList = (wb m).set pos.toNat (UInt8.ofNat to.toNat) := rfl
      rw [k] at wm
      have hp : pos.toNat < (wb m).length := by rw [← wst_size]; exact h0
      have g : (wb m)[pos.toNat] = UInt8.ofNat to.toNat := by
        have g1 : ((wb m).set pos.toNat (UInt8.ofNat to.toNat))[pos.toNat]? = some (UInt8.ofNat to.toNat) := List.getElem?_set_self hp
        rw [← wm] at g1
        exact Option.some.inj ((List.getElem?_eq_getElem hp).symm.trans g1)
      have g2 : ((wst (wb m))[pos.toNat]'h0) = (wb m)[pos.toNat] := rfl
      rw [g2, g, ofNat_toNat] at h3
      simp at h3
      omega
    refine Or.inr ⟨m.frm, m.to, m.t1, m.t2, m.t, m.ans, fun u hu => (W.readLetter _ u hu hz).mono ?_, eq_lt ne⟩
    rintro o w' ⟨rfl, hb⟩
    rw [e]
    exact ⟨rfl, hb⟩
end Go.Proofs.Ytfmaoblhoafnhai.wireBack
