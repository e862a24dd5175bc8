/- What package tree's Spans answers of a good root. -/
import Derived.Test.YtjdeeeefapijeaeDoorTreeGrR
import Derived.Test.YtjdeeeefapijeaeDoorTreeBhd
import Derived.Test.YtjdeeeefapijeaeDoorBoundsNew
namespace Go.Proofs.YtjdeeeefapijeaeDoor
open Go.ChangeShapes Go.WideShapes Go.ChangeAt Go.RowKit Go.Joins
set_option linter.unusedVariables false
set_option linter.unusedSimpArgs false

/-- What Spans must answer. -/
def SpR (q : Nat → Eg) (m n r : Nat) (e : Int) (w : World) (o : Ending) (w' : World) : Prop :=
  ∃ (la : Option Addr) (k lc : Nat) (s : Nat → Int × Int) (ha : Option Addr) (k' hc : Nat) (g : Nat → Bool), o = .returned (.tuple #[.slice la k lc, .slice ha k' hc, errc e]) ∧ SHanded w' la k s ∧ BHanded w' ha k' g ∧ (e ≠ 0 → k = 0 ∧ k' = 0) ∧ (e = 0 → k = n ∧ k' = n ∧ ∀ i, i < k → s i = teT q m n r i ∧ g i = inT q m n r i) ∧ Below w.heap.size w w'
theorem spR_bad {q : Nat → Eg} {m n r : Nat} {e : Int} {w w' : World} (he : e ≠ 0) (hb : Below w.heap.size w w') : SpR q m n r e w (.returned (.tuple #[.slice none 0 0, .slice none 0 0, errc e])) w' :=
  ⟨none, 0, 0, fun _ => (0, 0), none, 0, 0, fun _ => false, rfl, ⟨by omega, Or.inl rfl⟩, ⟨by omega, Or.inl rfl⟩, fun _ => ⟨rfl, rfl⟩, fun h => absurd h he, hb⟩
theorem spR_fin {q : Nat → Eg} {m n r gw gi : Nat} {w w' : World} (h6 : n ≤ 6) (h : WtT q n (treeT q m n r) w' gw gi (treeT q m n r).row.length) (hb : Below w.heap.size w w') : SpR q m n r 0 w (.returned (.tuple #[.slice (some ⟨gw, 0, none⟩) n n, .slice (some ⟨gi, 0, none⟩) n n, .nilIface])) w' := by
  obtain ⟨f1, f2⟩ := h.fin h6
  exact ⟨_, n, n, _, _, n, n, _, by rw [errc_zero], f1, f2, fun h => absurd rfl h, fun _ => ⟨rfl, rfl, fun i hi => ⟨rfl, rfl⟩⟩, hb⟩
/-- What is behind a node: by its edge. -/
theorem behind_any {q : Nat → Eg} {m n r i v : Nat} {T : Tr} (hE : Egs n q m) (hI : TrI q m n r T) (i0 : 0 < i) (hv : T.row[i]? = some v) (ok : ∀ j u, j < i → T.row[j]? = some u → okB (waT q T (j + 1) u).1 (waT q T (j + 1) u).2 = true) :
    ∃ (k : Nat) (X Y e : Int), k < m ∧ T.by_ v = k ∧ v < n ∧ SmT (suT q T (waT q T i) v).1 (suT q T (waT q T i) v).2 X Y e ∧
      ∀ (gs cap : Nat) (w : World), Blk w 41 gs (spR (waT q T i) n) → Calls Tryd.prog 42 #[.agg #[.int .i64 (q k).a, .int .i64 (q k).b, .int .i64 (q k).lo, .int .i64 (q k).hi], .int .i64 v, .slice (some ⟨gs, 0, none⟩) n cap] w fun o w' => o = .returned (.tuple #[.agg #[.int .i64 X, .int .i64 Y], errc e]) ∧ Below w.heap.size w w' := by
  obtain ⟨k, u, j', a1, a2, a3, a4, a5⟩ := hI.par i v i0 hv
  obtain ⟨f1, _⟩ := fr_to hE a1 a5
  have e1 := waT_at hI a3 (show j' < i by omega)
  have o1 := ok j' u a2 a3
  rw [← e1] at o1
  obtain ⟨⟨b1, b2, b3, b4⟩, nab, o2⟩ := hE.each k a1
  have ul := hI.lt u (List.mem_of_getElem? a3)
  have vl := hI.lt v (List.mem_of_getElem? hv)
  obtain ⟨A, eA⟩ : ∃ A : Nat, (q k).a = A := ⟨(q k).a.toNat, by omega⟩
  obtain ⟨B, eB⟩ : ∃ B : Nat, (q k).b = B := ⟨(q k).b.toNat, by omega⟩
  obtain ⟨X, Y, e, hS⟩ := smT_some (suT q T (waT q T i) v).1 (suT q T (waT q T i) v).2
  refine ⟨k, X, Y, e, a1, a4, vl, hS, fun gs cap w hB => ?_⟩
  unfold suT at hS
  rw [a4, Int.toNat_natCast, f1] at hS
  unfold toT at a5
  rw [eA, eB, Int.toNat_natCast, Int.toNat_natCast] at a5
  rw [eA, eB]
  by_cases c : (A : Int) = u
  · rw [if_pos c] at a5
    obtain rfl := Option.some.inj a5
    obtain rfl : A = u := by omega
    have es : saT q k B = ((q k).lo, (q k).hi) := by unfold saT; rw [eA, if_neg (by omega)]
    rw [es] at hS
    exact behind_to n A B (q k).lo (q k).hi gs cap (waT q T i) X Y e w ul hB o1 o2 hS
  · rw [if_neg c] at a5
    by_cases c2 : (B : Int) = u
    · rw [if_pos c2] at a5
      obtain rfl := Option.some.inj a5
      obtain rfl : B = u := by omega
      have es : saT q k A = (-(q k).hi, -(q k).lo) := by unfold saT; rw [eA, if_pos rfl]
      rw [es] at hS
      exact behind_from n A B (q k).lo (q k).hi gs cap (waT q T i) X Y e w (by omega) ul hB o1 o2 hS
    · rw [if_neg c2] at a5; cases a5
end Go.Proofs.YtjdeeeefapijeaeDoor
