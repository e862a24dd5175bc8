/- Letters and spans as bytes: plain mathematics. Letters in memory, and as values. Errors by their numbers. What package wire must answer: Letter. -/
import Derived.Test.YtfmaoblhoafnhajNm01
import Derived.WalkArith
namespace Go.Proofs.Ytfmaoblhoafnhaj
set_option linter.unusedVariables false

/-- A number in six bytes, the high one first. -/
def six (n : Nat) : List UInt8 := [UInt8.ofNat (n / 1099511627776), UInt8.ofNat (n / 4294967296), UInt8.ofNat (n / 16777216), UInt8.ofNat (n / 65536), UInt8.ofNat (n / 256), UInt8.ofNat n]
theorem six_len (n : Nat) : (six n).length = 6 := rfl
/-- The number that bytes tell. -/
def valB (l : List UInt8) : Nat := l.foldl (fun v b => v * 256 + b.toNat) 0
theorem ofNat_toNat (n : Nat) : (UInt8.ofNat n).toNat = n % 256 := by simp
theorem val_six (n : Nat) (h : n < 281474976710656) : valB (six n) = n := by
  unfold valB six
  simp only [List.foldl_cons, List.foldl_nil, ofNat_toNat]
  omega
theorem valB_six {a b c d e f : UInt8} : valB [a, b, c, d, e, f] < 281474976710656 ∧ six (valB [a, b, c, d, e, f]) = [a, b, c, d, e, f] := by
  have ha := a.toNat_lt
  have hb := b.toNat_lt
  have hc := c.toNat_lt
  have hd := d.toNat_lt
  have he := e.toNat_lt
  have hf := f.toNat_lt
  have v : valB [a, b, c, d, e, f] = ((((a.toNat * 256 + b.toNat) * 256 + c.toNat) * 256 + d.toNat) * 256 + e.toNat) * 256 + f.toNat := by
    unfold valB
    simp only [List.foldl_cons, List.foldl_nil]
    omega
  rw [v]
  have un : ∀ (x : UInt8) (m : Nat), m % 256 = x.toNat → UInt8.ofNat m = x := fun x m h => by
    apply UInt8.toNat_inj.1
    rw [ofNat_toNat, h]
  refine ⟨by omega, ?_⟩
  unfold six
  rw [un a _ (by omega), un b _ (by omega), un c _ (by omega), un d _ (by omega), un e _ (by omega), un f _ (by omega)]
/-- The error of a letter. -/
def ltE (l : Lt) : Int := if l.frm < 0 ∨ 6 ≤ l.frm ∨ l.to < 0 ∨ 6 ≤ l.to ∨ l.t < 0 ∨ 1000000000000 < l.t ∨ l.t1 < 0 ∨ 1000000000000 < l.t1 ∨ l.t2 < 0 ∨ 1000000000000 < l.t2 then 1 else if l.frm = l.to ∨ (l.ans = false ∧ (l.t1 ≠ 0 ∨ l.t2 ≠ 0)) then 3 else 0
theorem ltE_zero {l : Lt} (h : ltE l = 0) : (0 ≤ l.frm ∧ l.frm < 6) ∧ (0 ≤ l.to ∧ l.to < 6) ∧ (0 ≤ l.t ∧ l.t ≤ 1000000000000) ∧ (0 ≤ l.t1 ∧ l.t1 ≤ 1000000000000) ∧ (0 ≤ l.t2 ∧ l.t2 ≤ 1000000000000) ∧ l.frm ≠ l.to ∧ (l.ans = false → l.t1 = 0 ∧ l.t2 = 0) := by
  unfold ltE at h
  by_cases c : l.frm < 0 ∨ 6 ≤ l.frm ∨ l.to < 0 ∨ 6 ≤ l.to ∨ l.t < 0 ∨ 1000000000000 < l.t ∨ l.t1 < 0 ∨ 1000000000000 < l.t1 ∨ l.t2 < 0 ∨ 1000000000000 < l.t2
  · rw [if_pos c] at h; cases h
  · rw [if_neg c] at h
    by_cases d : l.frm = l.to ∨ (l.ans = false ∧ (l.t1 ≠ 0 ∨ l.t2 ≠ 0))
    · rw [if_pos d] at h; cases h
    · refine ⟨by omega, by omega, by omega, by omega, by omega, fun e => d (Or.inl e), fun a => ?_⟩
      have : ¬ (l.t1 ≠ 0 ∨ l.t2 ≠ 0) := fun q => d (Or.inr ⟨a, q⟩)
      omega
/-- The bytes of a letter ahead of the last one, which tells their sum. -/
def wbs (l : Lt) : List UInt8 := [UInt8.ofNat l.frm.toNat, UInt8.ofNat l.to.toNat, if l.ans then 1 else 0] ++ six l.t.toNat ++ (if l.ans then six l.t1.toNat ++ six l.t2.toNat else [])
def smB (l : List UInt8) : Nat := l.foldl (fun v b => v + b.toNat) 0
def wb (l : Lt) : List UInt8 := wbs l ++ [UInt8.ofNat (smB (wbs l) % 251)]
theorem wb_len (l : Lt) : (wb l).length = if l.ans then 22 else 10 := by
  unfold wb wbs
  cases l.ans <;> simp [six_len]
/-- The letter that bytes could be. -/
def lto (s : List UInt8) : Lt := ⟨((s.getD 0 0).toNat : Nat), ((s.getD 1 0).toNat : Nat), decide (s.length = 22), if s.length = 22 then (valB ((s.drop 9).take 6) : Nat) else 0, if s.length = 22 then (valB ((s.drop 15).take 6) : Nat) else 0, (valB ((s.drop 3).take 6) : Nat)⟩
/-- A letter, of just such bytes. -/
def rdL (s : List UInt8) : Option Lt := if (s.length = 10 ∨ s.length = 22) ∧ ltE (lto s) = 0 ∧ wb (lto s) = s then some (lto s) else none
theorem rdL_some {s : List UInt8} {l : Lt} (h : rdL s = some l) : ltE l = 0 ∧ wb l = s := by
  unfold rdL at h
  by_cases c : (s.length = 10 ∨ s.length = 22) ∧ ltE (lto s) = 0 ∧ wb (lto s) = s
  · rw [if_pos c] at h
    obtain rfl := Option.some.inj h
    exact c.2
  · rw [if_neg c] at h; cases h
/-- A letter is read as it was. -/
theorem lto_wb {l : Lt} (h : ltE l = 0) : lto (wb l) = l := by
  obtain ⟨f, t, a, b, c, _, e⟩ := ltE_zero h
  have hl := wb_len l
  obtain ⟨frm, to, ans, t1, t2, tt⟩ := l
  cases ans with
  | false =>
    obtain ⟨e1, e2⟩ := e rfl
    simp only at e1 e2
    subst e1
    subst e2
    unfold lto
    rw [hl]
    unfold wb wbs
    simp only [Bool.false_eq_true, if_false, List.append_nil]
    have v := val_six tt.toNat (by simp only at a; omega)
    have q1 : ((([UInt8.ofNat frm.toNat, UInt8.ofNat to.toNat, 0] ++ six tt.toNat ++ [UInt8.ofNat (smB ([UInt8.ofNat frm.toNat, UInt8.ofNat to.toNat, 0] ++ six tt.toNat) % 251)]).drop 3).take 6) = six tt.toNat := rfl
    rw [q1, v]
    simp only [List.cons_append, List.getD_cons_zero, List.getD_cons_succ, ofNat_toNat]
    simp only at f t a
    congr 1
    · omega
    · omega
    · omega
  | true =>
    unfold lto
    rw [hl]
    unfold wb wbs
    simp only [if_true]
    have v0 := val_six tt.toNat (by simp only at a; omega)
    have v1 := val_six t1.toNat (by simp only at b; omega)
    have v2 := val_six t2.toNat (by simp only at c; omega)
    have q0 : ∀ z : UInt8, ((([UInt8.ofNat frm.toNat, UInt8.ofNat to.toNat, 1] ++ six tt.toNat ++ (six t1.toNat ++ six t2.toNat) ++ [z]).drop 3).take 6) = six tt.toNat := fun _ => rfl
    have q1 : ∀ z : UInt8, ((([UInt8.ofNat frm.toNat, UInt8.ofNat to.toNat, 1] ++ six tt.toNat ++ (six t1.toNat ++ six t2.toNat) ++ [z]).drop 9).take 6) = six t1.toNat := fun _ => rfl
    have q2 : ∀ z : UInt8, ((([UInt8.ofNat frm.toNat, UInt8.ofNat to.toNat, 1] ++ six tt.toNat ++ (six t1.toNat ++ six t2.toNat) ++ [z]).drop 15).take 6) = six t2.toNat := fun _ => rfl
    rw [q0, q1, q2, v0, v1, v2]
    simp only [List.cons_append, List.getD_cons_zero, List.getD_cons_succ, ofNat_toNat]
    simp only at f t a b c
    congr 1
    · omega
    · omega
    · omega
    · omega
    · omega
theorem rdL_wb {l : Lt} (h : ltE l = 0) : rdL (wb l) = some l := by
  unfold rdL
  rw [lto_wb h, if_pos ⟨by rw [wb_len]; cases l.ans <;> simp, h, rfl⟩]
/-- A span as bytes; the span that bytes are. -/
def sb (lo hi : Int) : List UInt8 := six (lo + 1000000000000).toNat ++ six (hi + 1000000000000).toNat
def rsL (s : List UInt8) : Int := (valB (s.take 6) : Nat) - 1000000000000
def rsH (s : List UInt8) : Int := (valB (s.drop 6) : Nat) - 1000000000000
def rdS (s : List UInt8) : Option (Int × Int) := if s.length = 12 ∧ okB (rsL s) (rsH s) = true then some (rsL s, rsH s) else none
theorem sb_len (lo hi : Int) : (sb lo hi).length = 12 := rfl
theorem rdS_sb {lo hi : Int} (h : okB lo hi = true) : rdS (sb lo hi) = some (lo, hi) := by
  obtain ⟨a, b, c⟩ := okB_t h
  have e1 : rsL (sb lo hi) = lo := by
    show ((valB (six (lo + 1000000000000).toNat) : Nat) : Int) - 1000000000000 = lo
    rw [val_six _ (by omega)]
    omega
  have e2 : rsH (sb lo hi) = hi := by
    show ((valB (six (hi + 1000000000000).toNat) : Nat) : Int) - 1000000000000 = hi
    rw [val_six _ (by omega)]
    omega
  unfold rdS
  rw [e1, e2, if_pos ⟨sb_len lo hi, h⟩]
theorem rdS_some {s : List UInt8} {x : Int × Int} (h : rdS s = some x) : okB x.1 x.2 = true ∧ sb x.1 x.2 = s := by
  unfold rdS at h
  by_cases c : s.length = 12 ∧ okB (rsL s) (rsH s) = true
  · rw [if_pos c] at h
    obtain rfl := Option.some.inj h
    refine ⟨c.2, ?_⟩
    obtain ⟨l, _⟩ := c
    match s, l with
    | [a, b, c, d, e, f, g, h, i, j, k, l'], _ =>
      have x1 := valB_six (a := a) (b := b) (c := c) (d := d) (e := e) (f := f)
      have x2 := valB_six (a := g) (b := h) (c := i) (d := j) (e := k) (f := l')
      show six (((valB [a, b, c, d, e, f] : Nat) : Int) - 1000000000000 + 1000000000000).toNat ++ six (((valB [g, h, i, j, k, l'] : Nat) : Int) - 1000000000000 + 1000000000000).toNat = _
      rw [show (((valB [a, b, c, d, e, f] : Nat) : Int) - 1000000000000 + 1000000000000).toNat = valB [a, b, c, d, e, f] by omega, show (((valB [g, h, i, j, k, l'] : Nat) : Int) - 1000000000000 + 1000000000000).toNat = valB [g, h, i, j, k, l'] by omega, x1.2, x2.2]
      rfl
  · rw [if_neg c] at h; cases h
end Go.Proofs.Ytfmaoblhoafnhaj
namespace Go.Proofs.Ytfmaoblhoafnhaj
open Go.ChangeShapes Go.WideShapes Go.ChangeAt Go.RowKit
set_option linter.unusedVariables false

/-- A letter's cells. -/
def ltc (l : Lt) : List Value := [.int .i64 l.frm, .int .i64 l.to, .bool l.ans, .int .i64 l.t1, .int .i64 l.t2, .int .i64 l.t]
/-- Letters lie in a row behind an address. -/
def Lts (w : World) (b off : Nat) (l : List Lt) : Prop := ∀ i q, l[i]? = some q → ∀ j v, (ltc q)[j]? = some v → w.cell? ⟨b, off + i * 6 + j, none⟩ = some v
theorem Lts.on {W u : World} {b off : Nat} {l : List Lt} (hb : Below W.heap.size W u) (h : Lts W b off l) : Lts u b off l := fun i q hq j v hv => by
  have c := h i q hq j v hv
  rw [hb.cell (World.block_lt_of_cell? _ _ c)]; exact c
def WHanded (w : World) (a : Option Addr) (l : List Lt) : Prop := l.length ≤ 9223372036854775807 ∧ (l = [] ∨ ∃ b off : Nat, a = some ⟨b, off, none⟩ ∧ Lts w b off l)
theorem WHanded.on {W u : World} {a : Option Addr} {l : List Lt} (hb : Below W.heap.size W u) (h : WHanded W a l) : WHanded u a l :=
  ⟨h.1, h.2.imp id (fun ⟨b, off, e, s⟩ => ⟨b, off, e, s.on hb⟩)⟩
/-- A letter as a value. -/
def ltv (l : Lt) : Value := .agg #[.int .i64 l.frm, .int .i64 l.to, .bool l.ans, .int .i64 l.t1, .int .i64 l.t2, .int .i64 l.t]
end Go.Proofs.Ytfmaoblhoafnhaj
namespace Go.Proofs.Ytfmaoblhoafnhaj
open Go.ChangeShapes Go.WideShapes Go.ChangeAt Go.RowKit
set_option linter.unusedVariables false

/-- An error by its number; 0: none. -/
def errc (e : Int) : Value := if e = 0 then .nilIface else .iface 73 (.int .i64 e)
theorem errc_zero : errc 0 = .nilIface := if_pos rfl
theorem errc_not {e : Int} (h : e ≠ 0) : errc e = .iface 73 (.int .i64 e) := if_neg h
/-- A number that an int can be. -/
abbrev In64 (n : Int) : Prop := (Lit.int .i64 n).wf = true
end Go.Proofs.Ytfmaoblhoafnhaj
namespace Go.Proofs.Ytfmaoblhoafnhaj
open Go.ChangeShapes Go.WideShapes Go.ChangeAt Go.RowKit
set_option linter.unusedVariables false

/-- Bytes as a string. -/
def wst (l : List UInt8) : ByteArray := ⟨l.toArray⟩
theorem wst_size (l : List UInt8) : (wst l).size = l.length := by simp [wst, ByteArray.size]
theorem wst_back (s : ByteArray) : wst s.data.toList = s := by
  unfold wst
  cases s
  simp
theorem wst_inj {l m : List UInt8} (h : wst l = wst m) : l = m := by
  unfold wst at h
  injection h with h
  simpa using congrArg Array.toList h
/-- Each number of a letter is one that an int can be. -/
structure LtW (l : Lt) : Prop where
  f : In64 l.frm
  t : In64 l.to
  a : In64 l.t1
  b : In64 l.t2
  c : In64 l.t
/-- What package wire must answer, behind a world w0. -/
structure Wr (w0 : World) : Prop where
  letter : ∀ (l : Lt) (u : World), Below w0.heap.size w0 u → LtW l → Calls Try.prog 5 #[ltv l] u fun o w' => o = .returned (.tuple #[.string (wst (if ltE l = 0 then wb l else [])), errc (ltE l)]) ∧ Below u.heap.size u w'
end Go.Proofs.Ytfmaoblhoafnhaj
