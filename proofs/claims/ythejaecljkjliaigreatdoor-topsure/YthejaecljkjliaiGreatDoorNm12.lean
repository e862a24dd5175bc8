/- Events at clocks of a net, each told as a span of one node's time: plain mathematics. What a tree says of a net's clocks is true, and not far: plain mathematics. What packages loops, tree, vote, span and probe must answer of a net's edges. math/bits.Mul of one and a small number. -/
import Derived.Test.YthejaecljkjliaiGreatDoorNm09
import Derived.Test.YthejaecljkjliaiGreatDoorNm11
import Derived.Test.YthejaecljkjliaiGreatDoorNm10
import Derived.Test.YthejaecljkjliaiGreatDoorNm02
import Derived.Lib.SmallJoins
import Derived.BigRegion
namespace Go.Proofs.YthejaecljkjliaiGreatDoor
set_option linter.unusedVariables false

/-- What is told of two is not far. -/
theorem eoN_near {N : Nn} (g : N.T) {i k : Nat} (hi : i < N.W.n) (hk : k < N.W.n) {x : Int} (d : Dst (Arc (egf (eoN N)) (eoN N).length) i k x) : N.W.rd k - N.W.rd i ≤ x ∧ x ≤ 20000000000 := by
  obtain ⟨⟨r, w⟩, m⟩ := d
  have lo := wk_fit (x := fun i => N.W.rd i) (fun u v c q => (eoN_arc g u v c q).1) w
  obtain ⟨r', c', h1, h2, w'⟩ := short (eoN_egs g).arc (not_neg (eoN_nn g N.W.n)) r i k x hi w
  have h3 := m r' c' w'
  have h4 := wk_top (K := 4000000000) (fun u v c q => (eoN_arc g u v c q).2) w'
  have h6 := g.g.i.n6
  have h5 : (r' : Int) * 4000000000 ≤ 5 * 4000000000 := Int.mul_le_mul_of_nonneg_right (by omega) (by omega)
  exact ⟨lo, by omega⟩
/-- No clock goes back. -/
theorem NDoR.rise {N N' : Nn} {wh a b e : Int} (h : NDoR N wh a b N' e) (g : N.T) {i : Nat} (hi : i < N.W.n) : N.W.rd i ≤ N'.W.rd i := by
  have up : ∀ S' : Ws, S'.n = N.W.n → S'.starts = N.W.starts → S'.rates = N.W.rates → N.W.time ≤ S'.time → N.W.rd i ≤ S'.rd i := fun S' h1 h2 h3 h4 => by
    have m := shw_mono g.g hi h4
    rw [shw_rd] at m
    have e : shw N.W i S'.time = S'.rd i := by unfold shw sh Ws.rd; rw [h2, h3]
    omega
  obtain ⟨S', r, e1, hD, q⟩ := h
  have sm := hD.same
  rcases q with ⟨_, rfl, _⟩ | ⟨l, c', _, _, _, _, q⟩
  · exact up S' sm.1 sm.2.1 sm.2.2.1 (sm.2.2.2 g.g.i)
  · rcases q with ⟨_, rfl, _⟩ | ⟨_, S'', hA, rfl⟩
    · exact up S' sm.1 sm.2.1 sm.2.2.1 (sm.2.2.2 g.g.i)
    · have sa := hA.same
      exact up S'' (sa.1.trans sm.1) (sa.2.1.trans sm.2.1) (sa.2.2.1.trans sm.2.2.1) (by rw [sa.2.2.2]; exact sm.2.2.2 g.g.i)
/-- Events that were told, when one node's clock showed c, one behind the other. -/
structure EvI (m : Nat) (f : Nat → Ev) (c : Nat → Int) (i : Nat) (now : Int) : Prop where
  m12 : m ≤ 12
  mi : m ≤ i
  ok : ∀ j, j < m → okB (f j).lo (f j).hi = true ∧ (f j).lo ≤ c j ∧ c j ≤ (f j).hi ∧ (f j).id < i ∧ c j ≤ now
  up : ∀ j k, j < k → k < m → c j ≤ c k ∧ (f j).id < (f k).id
theorem EvI.none {i : Nat} {now : Int} {f : Nat → Ev} {c : Nat → Int} : EvI 0 f c i now := ⟨by omega, by omega, fun j hj => by omega, fun j k _ hk => by omega⟩
theorem EvI.later {m i i' : Nat} {f : Nat → Ev} {c : Nat → Int} {now now' : Int} (h : EvI m f c i now) (h1 : i ≤ i') (h2 : now ≤ now') : EvI m f c i' now' := ⟨h.m12, by have := h.mi; omega, fun j hj => by
  obtain ⟨a, b, d, e, g⟩ := h.ok j hj
  exact ⟨a, b, d, by omega, by omega⟩, h.up⟩
/-- One more. -/
theorem EvI.more {m i : Nat} {f : Nat → Ev} {c : Nat → Int} {now lo hi : Int} (h : EvI m f c i now) (h12 : m < 12) (hok : okB lo hi = true) (h1 : lo ≤ now) (h2 : now ≤ hi) : EvI (m + 1) (fun j => if j = m then ⟨i, lo, hi⟩ else f j) (fun j => if j = m then now else c j) (i + 1) now := by
  refine ⟨by omega, by have := h.mi; omega, fun j hj => ?_, fun j k hjk hk => ?_⟩
  · by_cases e : j = m
    · subst e
      simp only [if_true]
      exact ⟨hok, h1, h2, by omega, Int.le_refl _⟩
    · simp only [if_neg e]
      obtain ⟨a, b, d, e', g⟩ := h.ok j (by omega)
      exact ⟨a, b, d, by omega, g⟩
  · have ej : j ≠ m := by omega
    simp only [if_neg ej]
    by_cases e : k = m
    · subst e
      simp only [if_true]
      obtain ⟨a, b, d, e', g⟩ := h.ok j hjk
      exact ⟨g, e'⟩
    · simp only [if_neg e]
      exact h.up j k hjk (by omega)
/-- As it truly was, it could be. -/
theorem EvI.could {m i : Nat} {f : Nat → Ev} {c : Nat → Int} {now : Int} (h : EvI m f c i now) : EvE m f 0 ∧ EachP m (fun j => (j : Int)) m ∧ CouldP f (fun j => (j : Int)) m := by
  refine ⟨Or.inr (Or.inr ⟨h.m12, fun j hj => ⟨(h.ok j hj).1, fun k hk e => ?_⟩, rfl⟩), ⟨rfl, fun j hj => ⟨by show (0 : Int) ≤ j; omega, by show (j : Int) < m; omega, fun k hk e => ?_⟩⟩, ?_⟩
  · have := (h.up k j hk hj).2
    omega
  · have e' : (k : Int) = (j : Int) := e
    omega
  · refine (could_iff (fun j hj => ?_)).2 (fun j k hj hk => ?_)
    · show (f ((j : Int)).toNat).lo ≤ (f ((j : Int)).toNat).hi
      rw [Int.toNat_natCast]
      have := h.ok j hj
      omega
    · show sur f ((j : Int)).toNat ((k : Int)).toNat = false
      rw [Int.toNat_natCast, Int.toNat_natCast]
      have a := h.ok j hj
      have b := h.ok k (by omega)
      have u := (h.up k j hk hj).1
      exact decide_eq_false (by omega)
end Go.Proofs.YthejaecljkjliaiGreatDoor
namespace Go.Proofs.YthejaecljkjliaiGreatDoor
set_option linter.unusedVariables false

section
variable {q : Nat → Eg} {m n r : Nat} {t : Tr}
theorem waT_near {K : Int} (hK : 0 ≤ K) (hE : Egs n q m) (hq : ∀ k, k < m → -K ≤ (q k).lo ∧ (q k).lo ≤ (q k).hi ∧ (q k).hi ≤ K) (h : TrI q m n r t) : ∀ (j v : Nat), t.row[j]? = some v → -((j : Int) * K) ≤ (waT q t (j + 1) v).1 ∧ (waT q t (j + 1) v).1 ≤ (waT q t (j + 1) v).2 ∧ (waT q t (j + 1) v).2 ≤ (j : Int) * K := by
  intro j
  induction j using Nat.strongRecOn with
  | _ j ih =>
    intro v hv
    by_cases j0 : j = 0
    · subst j0
      rw [waT_one]
      show -(((0 : Nat) : Int) * K) ≤ 0 ∧ (0 : Int) ≤ 0 ∧ (0 : Int) ≤ ((0 : Nat) : Int) * K
      simp
    · obtain ⟨k, u, j', a1, a2, a3, a4, a5⟩ := h.par j v (by omega) hv
      obtain ⟨f1, _⟩ := fr_to hE a1 a5
      have s1 := ih j' a2 u a3
      have e1 := waT_at h a3 (show j' < j by omega)
      have ev : waT q t (j + 1) v = suT q t (waT q t j) v := by
        simp only [waT]
        rw [if_neg j0, hv]
        simp
      have ob := hq k a1
      have sb : -K ≤ (saT q k v).1 ∧ (saT q k v).1 ≤ (saT q k v).2 ∧ (saT q k v).2 ≤ K := by
        unfold saT
        split
        · show -K ≤ -(q k).hi ∧ -(q k).hi ≤ -(q k).lo ∧ -(q k).lo ≤ K
          omega
        · exact ob
      rw [ev]
      unfold suT
      rw [a4, Int.toNat_natCast, f1, e1]
      show -((j : Int) * K) ≤ (waT q t (j' + 1) u).1 + (saT q k v).1 ∧ (waT q t (j' + 1) u).1 + (saT q k v).1 ≤ (waT q t (j' + 1) u).2 + (saT q k v).2 ∧ (waT q t (j' + 1) u).2 + (saT q k v).2 ≤ (j : Int) * K
      have jm : ((j' : Int) + 1) * K ≤ (j : Int) * K := Int.mul_le_mul_of_nonneg_right (by omega) hK
      have je : ((j' : Int) + 1) * K = (j' : Int) * K + K := by rw [Int.add_mul]; simp
      omega
end
/-- What a tree says of a net. -/
theorem eoN_tree {N : Nn} (g : N.T) {r : Nat} (hr : r < N.W.n) : ¬ FarT (egf (eoN N)) (eoN N).length N.W.n r ∧ ∀ v, v ∈ (treeT (egf (eoN N)) (eoN N).length N.W.n r).row → v < N.W.n ∧ (wantT (egf (eoN N)) (eoN N).length N.W.n r v).1 ≤ N.W.rd v - N.W.rd r ∧ N.W.rd v - N.W.rd r ≤ (wantT (egf (eoN N)) (eoN N).length N.W.n r v).2 ∧ okB (wantT (egf (eoN N)) (eoN N).length N.W.n r v).1 (wantT (egf (eoN N)) (eoN N).length N.W.n r v).2 = true := by
  have hE := eoN_egs g
  have h6 := g.g.i.n6
  have tr := tree_inv hE hr
  have hq : ∀ k, k < (eoN N).length → -4000000000 ≤ (egf (eoN N) k).lo ∧ (egf (eoN N) k).lo ≤ (egf (eoN N) k).hi ∧ (egf (eoN N) k).hi ≤ 4000000000 := fun k hk => by
    obtain ⟨a, b, h1, h2, h3, h4, h5, h6, _, _, h7, h8, h9, h10⟩ := (eoN_mem g (egf_mem hk)).ex
    omega
  have each : ∀ v, v ∈ (treeT (egf (eoN N)) (eoN N).length N.W.n r).row → okB (wantT (egf (eoN N)) (eoN N).length N.W.n r v).1 (wantT (egf (eoN N)) (eoN N).length N.W.n r v).2 = true := fun v hv => by
    obtain ⟨j, hj, e⟩ := List.mem_iff_getElem.1 hv
    have hv' : (treeT (egf (eoN N)) (eoN N).length N.W.n r).row[j]? = some v := by rw [List.getElem?_eq_getElem hj, e]
    have ln : (treeT (egf (eoN N)) (eoN N).length N.W.n r).row.length ≤ N.W.n := nodup_le tr.nodup tr.lt
    have b := waT_near (K := 4000000000) (by omega) hE hq tr j v hv'
    have w : wantT (egf (eoN N)) (eoN N).length N.W.n r v = waT (egf (eoN N)) (treeT (egf (eoN N)) (eoN N).length N.W.n r) (j + 1) v := waT_at tr hv' hj
    rw [w]
    have jb : (j : Int) * 4000000000 ≤ 6 * 4000000000 := Int.mul_le_mul_of_nonneg_right (by omega) (by omega)
    exact okB_mk ⟨b.2.1, by omega, by omega⟩
  refine ⟨?_, fun v hv => ?_⟩
  · rintro ⟨v, hv, c⟩
    rw [each v hv] at c
    cases c
  · have f := tree_fit hE hr hv (c := fun i => N.W.rd i) (fun u v c q => (eoN_arc g u v c q).1)
    exact ⟨tr.lt v hv, f.1, f.2, each v hv⟩
theorem eoN_spE {N : Nn} (g : N.T) {root : Int} : (root < 0 ∨ (N.W.n : Int) ≤ root → SpE N.W.n (egf (eoN N)) (eoN N).length root 1) ∧ (0 ≤ root → root < N.W.n → SpE N.W.n (egf (eoN N)) (eoN N).length root 0) := by
  have h0 := egs_e (eoN_egs g)
  refine ⟨fun h => Or.inr (Or.inl ⟨h0, h, rfl⟩), fun h1 h2 => Or.inr (Or.inr ⟨h0, ⟨h1, h2⟩, Or.inr ⟨?_, rfl⟩⟩)⟩
  rw [Int.toNat_natCast]
  exact (eoN_tree g (by omega)).1
end Go.Proofs.YthejaecljkjliaiGreatDoor
namespace Go.Proofs.YthejaecljkjliaiGreatDoor
open Go.ChangeShapes Go.WideShapes Go.ChangeAt Go.RowKit Go.Joins
set_option linter.unusedVariables false
set_option linter.unusedSimpArgs false

/-- What they must answer, behind a world w0. -/
structure TpS (w0 : World) : Prop where
  find : ∀ (n : Nat) (a : Option Addr) (m cap : Nat) (q : Nat → Eg) (u : World), Below w0.heap.size w0 u → EHanded u a m q → eE n q m = 0 → ¬ Neg (Arc q m) n → Calls Tryz.prog 21 #[.int .i64 n, .slice a m cap] u fun o w' => ∃ v, o = .returned (.tuple #[v, .iface 85 (.int .i64 5)]) ∧ Below u.heap.size u w'
  fault : ∀ (n : Nat) (a : Option Addr) (m cap : Nat) (q : Nat → Eg) (u : World), Below w0.heap.size w0 u → EHanded u a m q → m ≤ cap → cap ≤ 9223372036854775807 → eE n q m = 0 → ¬ Neg (Arc q m) n → Calls Tryz.prog 22 #[.int .i64 n, .slice a m cap] u fun o w' => ∃ v, o = .returned (.tuple #[v, .iface 85 (.int .i64 5)]) ∧ Below u.heap.size u w'
  sbad : ∀ (n : Nat) (a : Option Addr) (m cap : Nat) (q : Nat → Eg) (root : Int) (u : World), Below w0.heap.size w0 u → EHanded u a m q → In64 root → SpE n q m root 1 → Calls Tryz.prog 23 #[.int .i64 n, .slice a m cap, .int .i64 root] u fun o w' => ∃ v1 v2, o = .returned (.tuple #[v1, v2, .iface 85 (.int .i64 1)]) ∧ Below u.heap.size u w'
  spans : ∀ (n : Nat) (a : Option Addr) (m cap : Nat) (q : Nat → Eg) (r : Nat) (u : World), Below w0.heap.size w0 u → EHanded u a m q → SpE n q m (r : Int) 0 → r < n → n ≤ 6 → Calls Tryz.prog 23 #[.int .i64 n, .slice a m cap, .int .i64 r] u fun o w' => ∃ (la : Option Addr) (lc : Nat) (ha : Option Addr) (hc : Nat), o = .returned (.tuple #[.slice la n lc, .slice ha n hc, .nilIface]) ∧ SHanded w' la n (teT q m n r) ∧ BHanded w' ha n (inT q m n r) ∧ Below u.heap.size u w'
  meet : ∀ (a : Option Addr) (n cap : Nat) (q : Nat → Int × Int) (x : Int) (u : World), Below w0.heap.size w0 u → SHanded u a n q → 1 ≤ n → n ≤ 40 → (∀ i, i < n → okB (q i).1 (q i).2 = true ∧ (q i).1 ≤ x ∧ x ≤ (q i).2) → Calls Tryz.prog 25 #[.slice a n cap] u fun o w' => ∃ lo hi, o = .returned (.tuple #[.agg #[.int .i64 lo, .int .i64 hi], .nilIface]) ∧ lo ≤ x ∧ x ≤ hi ∧ okB lo hi = true ∧ Below u.heap.size u w'
  has : ∀ (lo hi x : Int) (u : World), okB lo hi = true → lo ≤ x → x ≤ hi → Calls Tryz.prog 24 #[.agg #[.int .i64 lo, .int .i64 hi], .int .i64 x] u fun o w' => o = .returned (.tuple #[.bool true, .nilIface]) ∧ Below u.heap.size u w'
  off : ∀ (u : World), Calls Tryz.prog 41 #[.agg #[.int .i64 0, .int .i64 100, .int .i64 100, .int .i64 10], .int .i64 0] u fun r w' => r = .returned (.tuple #[.agg #[.int .i64 90, .int .i64 102], .nilIface]) ∧ Below u.heap.size u w'
set_option maxRecDepth 100000 in
theorem one_sure {w0 : World} (O : TpS w0) (w : World) : Calls Tryz.prog 20 #[] w fun r w' => r = .returned (.bool true) ∧ Below w.heap.size w w' := by
  have cO := O.off
  clear O
  go_enter Tryz.func20, Tryz.ntmps20
  go_wp2_with (go_at_call 41; refine (cO _).mono ?_; rintro o u1 ⟨rfl, hb⟩; have B1 : Hid (Below w.heap.size w u1) := hb; clear hb)
  go_ret
  exact ⟨rfl, rbel_al B1.out⟩
/-- The spans of the edges that go from one node to another one, of the first k. -/
def sdL (q : Nat → Eg) (r i : Nat) : Nat → List (Int × Int)
  | 0 => []
  | k + 1 => sdL q r i k ++ (if (q k).a = r ∧ (q k).b = i then [((q k).lo, (q k).hi)] else [])
theorem sdL_len (q : Nat → Eg) (r i : Nat) : ∀ k, (sdL q r i k).length ≤ k
  | 0 => Nat.le_refl _
  | k + 1 => by
    have := sdL_len q r i k
    simp only [sdL, List.length_append]
    split <;> simp <;> omega
theorem sdL_mem {q : Nat → Eg} {r i : Nat} {s : Int × Int} : ∀ {k : Nat}, s ∈ sdL q r i k → ∃ j, j < k ∧ (q j).a = r ∧ (q j).b = i ∧ s = ((q j).lo, (q j).hi)
  | 0, h => by cases h
  | k + 1, h => by
    rcases List.mem_append.1 h with h | h
    · obtain ⟨j, hj, x⟩ := sdL_mem h
      exact ⟨j, by omega, x⟩
    · split at h
      · rename_i c
        exact ⟨k, by omega, c.1, c.2, List.mem_singleton.1 h⟩
      · cases h
/-- Spans as cells. -/
def scl : List (Int × Int) → List Value
  | [] => []
  | s :: r => [.int .i64 s.1, .int .i64 s.2] ++ scl r
theorem scl_app (a b : List (Int × Int)) : scl (a ++ b) = scl a ++ scl b := by
  induction a with
  | nil => rfl
  | cons l r ih => show _ ++ scl (r ++ b) = _ ++ scl r ++ scl b; rw [ih, List.append_assoc]
theorem scl_at {a : List (Int × Int)} {i : Nat} {s : Int × Int} (h : a[i]? = some s) : (scl a)[i * 2]? = some (.int .i64 s.1) ∧ (scl a)[i * 2 + 1]? = some (.int .i64 s.2) := by
  induction a generalizing i with
  | nil => cases h
  | cons l r ih =>
    cases i with
    | zero =>
      obtain rfl := Option.some.inj h
      exact ⟨rfl, rfl⟩
    | succ i =>
      have := ih (i := i) h
      have e1 : (i + 1) * 2 = i * 2 + 1 + 1 := by omega
      have e2 : (i + 1) * 2 + 1 = i * 2 + 1 + 1 + 1 := by omega
      rw [e1]
      exact this
theorem infoSpanN : (Tryz.prog.info? 38).map (fun i => (i.zero, i.size, i.bytes)) = some (some (.agg #[.int .i64 0, .int .i64 0]), 2, 16) := by kernel_rfl
theorem own_spansN {w : World} {base : Nat} {v : Value} {l : List (Int × Int)} (h : w.ownsRow base 38 2 v l.length (scl l)) (hk : l.length ≤ 9223372036854775807) : ∃ a cap, v = .slice a l.length cap ∧ SHanded w a l.length (fun i => l.getD i (0, 0)) := by
  rcases h.2 with ⟨e, e'⟩ | ⟨g, cap, cur, e, hb, hg, hc, _, hcs, htk⟩
  · exact ⟨none, 0, by rw [e, e'], hk, Or.inl e'⟩
  · refine ⟨_, cap, e, hk, Or.inr ⟨g, 0, rfl, fun i hi => ?_⟩⟩
    have hq : l[i]? = some (l.getD i (0, 0)) := by rw [List.getD_eq_getElem?_getD, List.getElem?_eq_getElem hi]; rfl
    obtain ⟨a, b⟩ := scl_at hq
    have c := h.cells (g := g) (by rw [e]; rfl)
    have c1 := c _ _ a
    have c2 := c _ _ b
    rw [Addr.add_lit] at c1 c2
    exact ⟨by simpa using c1, by simpa using c2⟩
end Go.Proofs.YthejaecljkjliaiGreatDoor
namespace Go.Proofs.YthejaecljkjliaiGreatDoor
open Go.ChangeShapes Go.WideShapes Go.ChangeAt Go.RowKit Go.Joins
set_option linter.unusedVariables false
set_option linter.unusedSimpArgs false

set_option maxRecDepth 100000 in
set_option maxHeartbeats 4000000 in
theorem mul64_any (n : Nat) (h6 : n ≤ 6) (w : World) :
    Calls Tryz.prog 123 #[.int .u64 1, .int .u64 n] w fun e w' => e = .returned (.tuple #[.int .u64 0, .int .u64 n]) ∧ w' = w := by
  rcases (show n = 0 ∨ n = 1 ∨ n = 2 ∨ n = 3 ∨ n = 4 ∨ n = 5 ∨ n = 6 by omega) with rfl | rfl | rfl | rfl | rfl | rfl | rfl
  all_goals
    go_enter Tryz.func123, Tryz.ntmps123
    go_wp2
    go_ret2
    exact ⟨rfl, rfl⟩
set_option maxRecDepth 100000 in
set_option maxHeartbeats 4000000 in
theorem mul_any (n : Nat) (h6 : n ≤ 6) (w : World) :
    Calls Tryz.prog 110 #[.int .u64 1, .int .u64 n] w fun e w' => e = .returned (.tuple #[.int .u64 0, .int .u64 n]) ∧ w' = w := by
  have cM := mul64_any n h6 w
  go_enter Tryz.func110, Tryz.ntmps110
  go_wp2_with (go_at_call 123; refine cM.mono ?_; rintro e u0 ⟨rfl, hu⟩; rw [hu]; clear hu)
  go_ret2
  exact ⟨rfl, rfl⟩
end Go.Proofs.YthejaecljkjliaiGreatDoor
