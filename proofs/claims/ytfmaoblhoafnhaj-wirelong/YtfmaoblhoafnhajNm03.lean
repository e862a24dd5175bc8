/- What package wire must answer: ReadLetter, Span, ReadSpan. Bytes in a row, and how the document's own reckoning tells them: plain mathematics. Worlds that keep all but some blocks. Bytes in a row of the call's own. What package wire answers: timeAt, sum. -/
import Derived.Test.YtfmaoblhoafnhajNm02
import Derived.OneCell
import Derived.Lib.SmallJoins
import Derived.OwnWalk
import Derived.Test.YtfmaoblhoafnhajNm01
import Derived.WalkSmall
import Derived.Laws.IdiomStrings
import Derived.BigQuiet
import Derived.IntWalk
import Derived.Laws.OwnMore
import Derived.Deep.CutRange
import Derived.Deep.CutBlock
import Derived.Deep.RegionWith
import Derived.BigRegion
import Derived.Laws.BitsLemmas
import Derived.Laws.BitsAllLaws
namespace Go.Proofs.Ytfmaoblhoafnhaj
open Go.ChangeShapes Go.WideShapes Go.ChangeAt Go.RowKit
set_option linter.unusedVariables false

def lt0 : Lt := ⟨0, 0, false, 0, 0, 0⟩
structure WrR (w0 : World) : Prop extends Wr w0 where
  readLetter : ∀ (s : ByteArray) (u : World), Below w0.heap.size w0 u → s.size ≤ maxLen → Calls Try.prog 14 #[.string s] u fun o w' => o = .returned (.tuple #[ltv ((rdL s.data.toList).getD lt0), errc (if (rdL s.data.toList).isSome then 0 else 2)]) ∧ Below u.heap.size u w'
  span : ∀ (lo hi : Int) (u : World), Below w0.heap.size w0 u → In64 lo → In64 hi → Calls Try.prog 10 #[.agg #[.int .i64 lo, .int .i64 hi]] u fun o w' => o = .returned (.tuple #[.string (wst (if okB lo hi = true then sb lo hi else [])), errc (if okB lo hi = true then 0 else 1)]) ∧ Below u.heap.size u w'
  readSpan : ∀ (s : ByteArray) (u : World), Below w0.heap.size w0 u → s.size ≤ maxLen → Calls Try.prog 11 #[.string s] u fun o w' => o = .returned (.tuple #[.agg #[.int .i64 ((rdS s.data.toList).getD (0, 0)).1, .int .i64 ((rdS s.data.toList).getD (0, 0)).2], errc (if (rdS s.data.toList).isSome then 0 else 2)]) ∧ Below u.heap.size u w'
end Go.Proofs.Ytfmaoblhoafnhaj
namespace Go.Proofs.Ytfmaoblhoafnhaj
open Go.ChangeShapes Go.WideShapes Go.ChangeAt Go.RowKit Go.Joins
set_option linter.unusedVariables false
set_option linter.unusedSimpArgs false

/-- Bytes as cells. -/
def bcs (l : List UInt8) : List Value := l.map fun b => .int .u8 (b.toNat : Int)
theorem bcs_app (a b : List UInt8) : bcs (a ++ b) = bcs a ++ bcs b := List.map_append
theorem bcs_len (a : List UInt8) : (bcs a).length = a.length := List.length_map _
theorem bcs_one (a : List UInt8) : ∀ u ∈ bcs a, u.oneCell' = true := by
  intro u hu
  obtain ⟨b, _, rfl⟩ := List.mem_map.1 hu
  rfl
theorem bcs_at {a : List UInt8} {i : Nat} (h : i < a.length) : (bcs a)[i]? = some (.int .u8 ((a[i]).toNat : Int)) := by
  unfold bcs
  rw [List.getElem?_map, List.getElem?_eq_getElem h]
  rfl
/-- By what a number is divided, byte by byte. -/
def kk (i : Nat) : Nat := 1099511627776 / 256 ^ i
theorem kk_pos {i : Nat} (h : i < 6) : 1 ≤ kk i ∧ kk i ≤ 1099511627776 ∧ kk i / 256 = kk (i + 1) := by
  have : i = 0 ∨ i = 1 ∨ i = 2 ∨ i = 3 ∨ i = 4 ∨ i = 5 := by omega
  rcases this with rfl | rfl | rfl | rfl | rfl | rfl <;> decide
theorem ofNat_mod (n : Nat) : UInt8.ofNat (n % 256) = UInt8.ofNat n := by
  apply UInt8.toNat_inj.1
  rw [ofNat_toNat, ofNat_toNat]
  omega
theorem six_take (n : Nat) {i : Nat} (h : i < 6) : (six n).take (i + 1) = (six n).take i ++ [UInt8.ofNat (n / kk i % 256)] := by
  rw [ofNat_mod]
  have : i = 0 ∨ i = 1 ∨ i = 2 ∨ i = 3 ∨ i = 4 ∨ i = 5 := by omega
  have e5 : n / kk 5 = n := by show n / (1099511627776 / 256 ^ 5) = n; simp
  rcases this with rfl | rfl | rfl | rfl | rfl | rfl
  · rfl
  · rfl
  · rfl
  · rfl
  · rfl
  · rw [e5]; rfl
theorem six_all (n : Nat) : (six n).take 6 = six n := rfl
theorem fold_take {f : Nat → UInt8 → Nat} {l : List UInt8} {i : Nat} (h : i < l.length) : (l.take (i + 1)).foldl f 0 = f ((l.take i).foldl f 0) l[i] := by
  rw [List.take_succ_eq_append_getElem h, List.foldl_append]
  rfl
theorem valB_lt (l : List UInt8) : valB l < 256 ^ l.length := by
  unfold valB
  have : ∀ (l : List UInt8) (v n : Nat), v < 256 ^ n → l.foldl (fun v b => v * 256 + b.toNat) v < 256 ^ (n + l.length) := by
    intro l
    induction l with
    | nil => intro v n h; exact h
    | cons b r ih =>
      intro v n h
      have hb := b.toNat_lt
      have := ih (v * 256 + b.toNat) (n + 1) (by rw [Nat.pow_succ]; omega)
      rw [show n + 1 + r.length = n + (b :: r).length by simp; omega] at this
      exact this
  have := this l 0 0 (by decide)
  rwa [Nat.zero_add] at this
theorem smB_le (l : List UInt8) : smB l ≤ l.length * 255 := by
  unfold smB
  have : ∀ (l : List UInt8) (v : Nat), l.foldl (fun v b => v + b.toNat) v ≤ v + l.length * 255 := by
    intro l
    induction l with
    | nil => intro v; simp
    | cons b r ih =>
      intro v
      have hb := b.toNat_lt
      have := ih (v + b.toNat)
      simp only [List.foldl_cons, List.length_cons]
      omega
  have := this l 0
  omega
end Go.Proofs.Ytfmaoblhoafnhaj
namespace Go.Proofs.Ytfmaoblhoafnhaj
open Go.ChangeShapes Go.WideShapes Go.ChangeAt Go.RowKit
set_option linter.unusedVariables false

/-- All blocks but those of S are as they were. -/
structure Keeps (S : Nat → Prop) (w w' : World) : Prop where
  os : w'.os = w.os
  tape : w'.tape = w.tape
  output : w'.output = w.output
  size : w.heap.size ≤ w'.heap.size
  block : ∀ k, k < w.heap.size → ¬ S k → w'.heap[k]? = w.heap[k]?
section
variable {S : Nat → Prop} {a b c w W u : World} {B k : Nat} {vs : List Value}
theorem Keeps.refl (S : Nat → Prop) (w : World) : Keeps S w w := ⟨rfl, rfl, rfl, Nat.le_refl _, fun _ _ _ => rfl⟩
theorem Keeps.trans (h : Keeps S a b) (g : Keeps S b c) : Keeps S a c :=
  ⟨g.os.trans h.os, g.tape.trans h.tape, g.output.trans h.output, Nat.le_trans h.size g.size, fun i hi hn => (g.block i (Nat.lt_of_lt_of_le hi h.size) hn).trans (h.block i hi hn)⟩
theorem Keeps.of (h : Below a.heap.size a b) : Keeps S a b := ⟨h.os, h.tape, h.output, h.size, fun i hi _ => h.block i hi⟩
theorem Keeps.on (hb : Below W.heap.size W u) (h : Keeps S w W) : Keeps S w u := h.trans (.of hb)
theorem Keeps.al {ob : Obj} (h : Keeps S w W) : Keeps S w (W.alloc ob) := h.trans ⟨rfl, rfl, rfl, by simp, fun k hk _ => Below.heap_alloc _ _ _ hk⟩
theorem Keeps.dr (h : Keeps S w W) : Keeps S w W.drew := h.trans ⟨rfl, rfl, rfl, Nat.le_refl _, fun _ _ _ => rfl⟩
theorem Keeps.drn {n : Nat} (h : Keeps S w W) : Keeps S w (W.drewN n) := h.trans ⟨rfl, rfl, rfl, Nat.le_refl _, fun _ _ _ => rfl⟩
theorem Keeps.put {p : Addr} {x : Value} (hp : S p.block) (h : Keeps S w W) : Keeps S w (W.setCell p x) :=
  h.trans ⟨rfl, rfl, rfl, by simp [World.setCell], fun k hk hn => Below.heap_setCell _ _ _ _ (fun e => hn (e ▸ hp))⟩
theorem Keeps.below (hB : B ≤ w.heap.size) (hS : ∀ k, S k → B ≤ k) (h : Keeps S w W) : Below B w W :=
  ⟨h.os, h.tape, h.output, h.size, fun k hk => h.block k (by omega) (fun s => by have := hS k s; omega)⟩
theorem Keeps.cell {p : Addr} {v : Value} (h : Keeps S w W) (hn : ¬ S p.block) (hc : w.cell? p = some v) : W.cell? p = some v :=
  (World.cell?_of_block (w := w) (h.block p.block (World.block_lt_of_cell? _ _ hc) hn)).trans hc
theorem Keeps.row (h : Keeps S w W) (hn : ¬ S k) (r : Row w k vs) : Row W k vs :=
  ⟨fun i v hv => h.cell hn (r.c i v hv), fun i v hv => (World.frozen?_of_block (w := w) (h.block k (World.block_lt_of_cell? _ _ (r.c i v hv)) hn)).trans (r.f i v hv)⟩
end

end Go.Proofs.Ytfmaoblhoafnhaj
namespace Go.Proofs.Ytfmaoblhoafnhaj
open Go.ChangeShapes Go.WideShapes Go.ChangeAt Go.RowKit Go.Joins
set_option linter.unusedVariables false
set_option linter.unusedSimpArgs false

theorem infoByte : (Try.prog.info? 5).map (fun i => (i.zero, i.size, i.bytes)) = some (some (.int .u8 0), 1, 1) := by kernel_rfl
/-- Bytes in a row of the call's own. -/
abbrev OwB (u : World) (base : Nat) (v : Value) (l : List UInt8) : Prop := u.ownsRow base 5 1 v l.length (bcs l)
theorem grown_keeps {u w : World} {ob : Option Nat} (h : u.grownBy w ob) : Keeps (fun k => ob = some k) u w := ⟨h.os, h.tape, h.output, h.size, fun k hk hn => h.block k hk (fun e => hn e.symm)⟩
theorem OwB.form {u : World} {base : Nat} {v : Value} {l : List UInt8} (h : OwB u base v l) (hl : 1 ≤ l.length) : ∃ g cap, v = .slice (some ⟨g, 0, none⟩) l.length cap ∧ base ≤ g ∧ g < u.heap.size ∧ l.length ≤ cap ∧ ∀ i (hi : i < l.length), u.cell? ⟨g, i, none⟩ = some (.int .u8 (l[i].toNat : Int)) := by
  rcases h.2 with ⟨_, e⟩ | ⟨g, cap, cur, rfl, hb, hg, hc, _⟩
  · omega
  · refine ⟨g, cap, rfl, hb, (h.lt g rfl).2, hc, fun i hi => ?_⟩
    have := h.cells (g := g) rfl i _ (bcs_at hi)
    rw [Addr.add_lit, Nat.zero_add] at this
    exact this
theorem OwB.text {u : World} {base : Nat} {v : Value} {l : List UInt8} (h : OwB u base v l) (hl : 1 ≤ l.length) : (convert 54 9 v).run Try.prog u = .ok (.string (wst l)) u := by
  obtain ⟨g, cap, rfl, _, _, _, hc⟩ := h.form hl
  exact run_convert_bytes_back (P := Try.prog) u 54 9 5 ⟨g, 0, none⟩ cap l Try.underlying54 Try.underlying5 Try.underlying9 (fun j hj => by
    rw [Addr.add_lit, Nat.zero_add]
    exact hc j hj)
theorem OwB.put {u : World} {base : Nat} {v : Value} {l m : List UInt8} (h : OwB u base v l) (e : l = m) : OwB u base v m := e ▸ h
end Go.Proofs.Ytfmaoblhoafnhaj
namespace Go.Proofs.Ytfmaoblhoafnhaj
open Go.ChangeShapes Go.WideShapes Go.ChangeAt Go.RowKit Go.Joins
set_option linter.unusedVariables false
set_option linter.unusedSimpArgs false

theorem wraps_48 (n : Int) (h₀ : 0 ≤ n) (h₁ : n < 2 ^ 48) : IntKind.i64.wrap n = n := IntWalk.i64_in _ (by omega)
theorem or_byte {V c : Nat} (hV : V < 1099511627776) (hc : c < 256) : bits .or .i64 (((V * 256 : Nat)) : Int) (c : Int) = ((V * 256 + c : Nat) : Int) := by
  rw [(bits_nat .i64 48 (by decide) wraps_48 (V * 256) c (by omega) (by omega)).2]
  have := Nat.shiftLeft_add_eq_or_of_lt (i := 8) hc V
  rw [Nat.shiftLeft_eq] at this
  exact congrArg _ this.symm
set_option maxRecDepth 100000 in
set_option maxHeartbeats 8000000 in
theorem timeAt_any (s : ByteArray) (a : Nat) (ha : a + 6 ≤ s.size) (hm : s.size ≤ 100) (u : World) :
    Calls Try.prog 26 #[.string s, .int .i64 a] u fun o w' => o = .returned (.int .i64 (valB ((s.data.toList.drop a).take 6))) ∧ w' = u := by
  have hl : (s.data.toList.drop a).length = s.size - a := by rw [List.length_drop, Array.length_toList]; rfl
  go_enter Try.func26, Try.ntmps26
  go_wp2
  go_loopw [5, 7] (fun vn vi wr => ∃ i : Nat, i ≤ 6 ∧ vi = .int .i64 i ∧ vn = .int .i64 (valB ((s.data.toList.drop a).take i)) ∧ wr = u) (fun _ i _ => 6 - (intOf i).toNat)
  case atStart => exact ⟨0, Nat.zero_le _, rfl, rfl, rfl⟩
  case round =>
    obtain ⟨i, hi, rfl, rfl, hw⟩ := hrel
    subst hw
    by_cases hlt : i < 6
    · have hl3 : (i : Int) < 6 := by omega
      obtain ⟨j, hj⟩ : ∃ j, j = a + i := ⟨_, rfl⟩
      have hi2 : j < s.size := by omega
      have wa : IntKind.i64.wrap ((a : Int) + (i : Int)) = (j : Int) := (IntWalk.i64_in _ (by omega)).trans (by omega)
      have hV := valB_lt ((s.data.toList.drop a).take i)
      have hp : 256 ^ ((s.data.toList.drop a).take i).length ≤ 256 ^ 5 := Nat.pow_le_pow_right (by decide) (by rw [List.length_take]; omega)
      have hb := s[j].toNat_lt
      have e1 : valB ((s.data.toList.drop a).take (i + 1)) = valB ((s.data.toList.drop a).take i) * 256 + s[j].toNat := by
        have := fold_take (f := fun v b => v * 256 + b.toNat) (l := s.data.toList.drop a) (i := i) (by omega)
        unfold valB
        rw [this, List.getElem_drop]
        subst hj
        rfl
      have HN : Hid (valB ((s.data.toList.drop a).take (i + 1)) = valB ((s.data.toList.drop a).take i) * 256 + s[j].toNat) := e1
      have hV2 : valB ((s.data.toList.drop a).take i) < 1099511627776 := Nat.lt_of_lt_of_le hV hp
      clear hV hp e1
      generalize valB ((s.data.toList.drop a).take i) = V at *
      have es : IntKind.i64.wrap ((V : Int) * 256) = ((V * 256 : Nat) : Int) := by rw [show (V : Int) * 256 = ((V * 256 : Nat) : Int) by omega]; exact IntWalk.i64_in _ (by omega)
      have wi : IntKind.i64.wrap ((s[j].toNat : Nat) : Int) = ((s[j].toNat : Nat) : Int) := IntWalk.i64_in _ (by omega)
      have eo : Hid (bits .or .i64 ((V : Int) * 256) ((s[j].toNat : Nat) : Int) = ((V * 256 + s[j].toNat : Nat) : Int)) := by
        show bits .or .i64 ((V : Int) * 256) ((s[j].toNat : Nat) : Int) = ((V * 256 + s[j].toNat : Nat) : Int)
        rw [show (V : Int) * 256 = ((V * 256 : Nat) : Int) by omega]
        exact or_byte hV2 hb
      clear hl hj
      go_wp2
      go_roundw
      case rel => exact ⟨i + 1, by omega, by go_num, by rw [HN.out, eo.out], trivial⟩
      case measure => simp [intOf]; omega
    · have hl3 : ¬ ((i : Int) < 6) := by omega
      obtain rfl : i = 6 := by omega
      go_wp2
      go_ret
      exact ⟨rfl, rfl⟩
set_option maxRecDepth 100000 in
set_option maxHeartbeats 8000000 in
theorem sum_any (L : List UInt8) (g cap : Nat) (u : World) (hL : L.length ≤ 100) (hc : ∀ i (hi : i < L.length), u.cell? ⟨g, i, none⟩ = some (.int .u8 (L[i].toNat : Int))) (q : Nat) (hq : q = smB L % 251) :
    Calls Try.prog 17 #[.slice (some ⟨g, 0, none⟩) L.length cap] u fun o w' => o = .returned (.int .u8 q) ∧ w' = u := by
  have HC : Hid (∀ i (hi : i < L.length), u.cell? ⟨g, i, none⟩ = some (.int .u8 (L[i].toNat : Int))) := hc
  have sL := smB_le L
  clear hc
  go_enter Try.func17, Try.ntmps17
  go_wp2
  go_loopw [3, 8] (fun vn vi wr => ∃ i : Nat, i ≤ L.length ∧ vi = .int .i64 i ∧ vn = .int .i64 (smB (L.take i)) ∧ wr = u) (fun _ i _ => L.length - (intOf i).toNat)
  case atStart => exact ⟨0, Nat.zero_le _, rfl, rfl, rfl⟩
  case round =>
    obtain ⟨i, hi, rfl, rfl, hw⟩ := hrel
    subst hw
    by_cases hlt : i < L.length
    · have hl3 : (i : Int) < (L.length : Int) := by omega
      have ci := HC.out i hlt
      have hb := L[i].toNat_lt
      have e1 : smB (L.take (i + 1)) = smB (L.take i) + L[i].toNat := fold_take (f := fun v b => v + b.toNat) hlt
      have HN : Hid (smB (L.take (i + 1)) = smB (L.take i) + L[i].toNat) := e1
      have sl := smB_le (L.take i)
      have sl2 : (L.take i).length ≤ 100 := by rw [List.length_take]; omega
      have hV2 : smB (L.take i) ≤ 25500 := by omega
      clear e1 sl sl2 hq sL
      generalize smB (L.take i) = V at *
      generalize L[i].toNat = c at *
      go_wp2
      go_roundw
      case rel => exact ⟨i + 1, by omega, by go_num, by rw [HN.out]; go_num, trivial⟩
      case measure => simp [intOf]; omega
    · have hl3 : ¬ ((i : Int) < (L.length : Int)) := by omega
      obtain rfl : i = L.length := by omega
      rw [List.take_length]
      have q1 : q < 251 := by rw [hq]; exact Nat.mod_lt _ (by decide)
      have sm : smB L ≤ 25500 := by omega
      have e2 : (smB L : Int).tmod 251 = (q : Int) := by rw [Int.tmod_eq_emod_of_nonneg (Int.natCast_nonneg _), hq]; rfl
      have w2' : IntKind.i64.wrap (q : Int) = (q : Int) := IntWalk.i64_in _ (by omega)
      have w4 : IntKind.u8.wrap (q : Int) = (q : Int) := by rw [IntKind.wrap_u8]; omega
      generalize smB L = V at *
      clear hq sL
      go_wp2
      go_ret
      exact ⟨rfl, rfl⟩
end Go.Proofs.Ytfmaoblhoafnhaj
