/- A string's bytes as a row of their own, one of them changed, and back. -/
import Derived.Test.YtfmaoblhoafnhaiWireDefR
import Derived.Laws.IdiomStrings
namespace Go.Proofs.Ytfmaoblhoafnhai
open Go.ChangeShapes Go.WideShapes Go.ChangeAt Go.RowKit
set_option linter.unusedVariables false

/-- The world behind '[]byte(s)'. -/
abbrev bysW (u : World) (s : ByteArray) (c : Nat) : World := u.drew.alloc (.cells (bytesRow s c) 5 ((bytesRow s c).size, (bytesRow s c).size + 1))
def byv (s : ByteArray) : List Value := s.data.toList.map fun b => .int .u8 (b.toNat : Int)
theorem byv_at {s : ByteArray} {i : Nat} {v : Value} (h : (byv s)[i]? = some v) : ∃ hi : i < s.data.size, v = .int .u8 (s.data[i].toNat : Int) := by
  unfold byv at h
  rw [List.getElem?_map] at h
  cases e : s.data.toList[i]? with
  | none => rw [e] at h; cases h
  | some b =>
    rw [e] at h
    obtain ⟨hi, hb⟩ := List.getElem?_eq_some_iff.1 e
    have hi' : i < s.data.size := by simpa using hi
    refine ⟨hi', ?_⟩
    have hb' : s.data[i] = b := by simpa using hb
    rw [hb']
    exact (Option.some.inj h).symm
theorem byv_of {s : ByteArray} {i : Nat} (hi : i < s.data.size) : (byv s)[i]? = some (.int .u8 (s.data[i].toNat : Int)) := by
  unfold byv
  rw [List.getElem?_map]
  have : s.data.toList[i]? = some s.data[i] := by simp
  rw [this]
  rfl
theorem bytesRow_size (s : ByteArray) (c : Nat) : s.data.size ≤ (bytesRow s c).size := by
  unfold bytesRow
  simp
theorem Row.bytes {u : World} {s : ByteArray} {c g : Nat} (hg : g = u.heap.size) : Row (bysW u s c) g (byv s) := by
  subst hg
  refine ⟨fun i v hv => ?_, fun i v hv => ?_⟩
  · obtain ⟨hi, rfl⟩ := byv_at hv
    exact (World.cell?_alloc_mark u.drew _ _ _ i).trans (bytesRow_at s c i hi)
  · obtain ⟨hi, _⟩ := byv_at hv
    have hs := bytesRow_size s c
    refine (World.frozen?_alloc_mark u.drew _ _ _ _ i).trans ?_
    have : ¬ (bytesRow s c).size ≤ i := by omega
    simp [this]
theorem Row.bys {u : World} {s : ByteArray} {c b : Nat} {x : Value} {vs : List Value} (h : Row u b (x :: vs)) : Row (bysW u s c) b (x :: vs) :=
  ⟨fun i v hv => by
    have := h.lt
    unfold bysW
    rw [World.cell?_alloc_lt _ _ _ (World.block_lt_of_cell? _ _ (h.dr.c i v hv))]
    exact h.c i v hv, fun i v hv => (World.frozen?_alloc_past (w := u.drew) _ _ _ h.lt).trans (h.f i v hv)⟩
/-- The world behind '[]byte(s)', and the row's room. -/
def byC (u : World) (s : ByteArray) : Nat := grownCap u s.size 0 5
def byW (u : World) (s : ByteArray) : World := bysW u s (byC u s)
theorem run_bys (s : ByteArray) (u : World) : (convert 9 56 (.string s)).run Try.prog u = .ok (.slice (some ⟨u.heap.size, 0, none⟩) s.size (byC u s)) (byW u s) :=
  run_bytes_of_string (P := Try.prog) u 9 56 5 s Try.underlying9 Try.underlying56 Try.underlying5
theorem Row.byNew {u : World} {s : ByteArray} {g : Nat} (hg : g = u.heap.size) : Row (byW u s) g (byv s) := Row.bytes hg
theorem Row.byOld {u : World} {s : ByteArray} {b : Nat} {x : Value} {vs : List Value} (h : Row u b (x :: vs)) : Row (byW u s) b (x :: vs) := Row.bys h
theorem rbel_by {w u : World} {s : ByteArray} (h : Below w.heap.size w u) : Below w.heap.size w (byW u s) := rbel_al (rbel_dr h)
/-- The bytes with another one at a place. -/
def bset (s : ByteArray) (p : Nat) (x : Int) : ByteArray := ⟨(s.data.toList.set p (UInt8.ofNat x.toNat)).toArray⟩
theorem run_back {W : World} {s : ByteArray} {g p cap : Nat} {x : Int} (h0 : 0 ≤ x) (h1 : x < 256) (h : Row W g (byv s)) :
    (convert 56 9 (.slice (some ⟨g, 0, none⟩) s.size cap)).run Try.prog (W.setCell ⟨g, p, none⟩ (.int .u8 x)) = .ok (.string (bset s p x)) (W.setCell ⟨g, p, none⟩ (.int .u8 x)) := by
  have r := Row.put (x := .int .u8 x) p h
  have k := run_convert_bytes_back (P := Try.prog) (W.setCell ⟨g, p, none⟩ (.int .u8 x)) 56 9 5 ⟨g, 0, none⟩ cap (s.data.toList.set p (UInt8.ofNat x.toNat)) Try.underlying56 Try.underlying5 Try.underlying9 (fun j hj => by
    have hj' : j < s.data.size := by simpa using hj
    have q := r.c j (.int .u8 ((s.data.toList.set p (UInt8.ofNat x.toNat))[j].toNat : Int)) (by
      by_cases e : p = j
      · subst e
        rw [List.getElem?_set_self (by unfold byv; simpa using hj'), List.getElem_set_self]
        have : (UInt8.ofNat x.toNat).toNat = x.toNat := by rw [ofNat_toNat]; omega
        rw [this, Int.toNat_of_nonneg h0]
      · rw [List.getElem?_set_ne e, byv_of hj', List.getElem_set_ne e]
        simp)
    have ad : (Addr.add ⟨g, 0, none⟩ j) = ⟨g, j, none⟩ := by
      by_cases z : j = 0
      · subst z; simp [Addr.add]
      · simp [Addr.add, z]
    rw [ad]
    exact q)
  rw [List.length_set, Array.length_toList] at k
  exact k
end Go.Proofs.Ytfmaoblhoafnhai
