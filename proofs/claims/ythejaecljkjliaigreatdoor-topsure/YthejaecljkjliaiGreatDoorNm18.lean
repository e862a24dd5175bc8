/- What package tree's Spans answers of a good root. What vote.check answers of any spans. What vote.steps makes of spans: the numbers at which they begin, and behind which they end, sorted. -/
import Derived.Test.YthejaecljkjliaiGreatDoorNm16
import Derived.Test.YthejaecljkjliaiGreatDoorTreeBhd
import Derived.Test.YthejaecljkjliaiGreatDoorBoundsNew
import Derived.Test.YthejaecljkjliaiGreatDoorNm08
import Derived.Test.YthejaecljkjliaiGreatDoorNm11
import Derived.WalkKit
import Derived.ProofKit
import Derived.OpenShut
import Derived.Outline
import Derived.IntWalk
import Derived.Below
import Derived.WalkLawsBesides
import Derived.Test.YthejaecljkjliaiGreatDoorVoteLay
namespace Go.Proofs.YthejaecljkjliaiGreatDoor
open Go.ChangeShapes Go.WideShapes Go.ChangeAt Go.RowKit Go.Joins
set_option linter.unusedVariables false
set_option linter.unusedSimpArgs false

/-- What Spans must answer. -/
def TsR (q : Nat → Eg) (m n r : Nat) (e : Int) (w : World) (o : Ending) (w' : World) : Prop :=
  ∃ (la : Option Addr) (k lc : Nat) (s : Nat → Int × Int) (ha : Option Addr) (k' hc : Nat) (g : Nat → Bool), o = .returned (.tuple #[.slice la k lc, .slice ha k' hc, errc e]) ∧ SHanded w' la k s ∧ BHanded w' ha k' g ∧ (e ≠ 0 → k = 0 ∧ k' = 0) ∧ (e = 0 → k = n ∧ k' = n ∧ ∀ i, i < k → s i = teT q m n r i ∧ g i = inT q m n r i) ∧ Below w.heap.size w w'
theorem tsR_bad {q : Nat → Eg} {m n r : Nat} {e : Int} {w w' : World} (he : e ≠ 0) (hb : Below w.heap.size w w') : TsR q m n r e w (.returned (.tuple #[.slice none 0 0, .slice none 0 0, errc e])) w' :=
  ⟨none, 0, 0, fun _ => (0, 0), none, 0, 0, fun _ => false, rfl, ⟨by omega, Or.inl rfl⟩, ⟨by omega, Or.inl rfl⟩, fun _ => ⟨rfl, rfl⟩, fun h => absurd h he, hb⟩
theorem tsR_fin {q : Nat → Eg} {m n r gw gi : Nat} {w w' : World} (h6 : n ≤ 6) (h : WtT q n (treeT q m n r) w' gw gi (treeT q m n r).row.length) (hb : Below w.heap.size w w') : TsR q m n r 0 w (.returned (.tuple #[.slice (some ⟨gw, 0, none⟩) n n, .slice (some ⟨gi, 0, none⟩) n n, .nilIface])) w' := by
  obtain ⟨f1, f2⟩ := h.fin h6
  exact ⟨_, n, n, _, _, n, n, _, by rw [errc_zero], f1, f2, fun h => absurd rfl h, fun _ => ⟨rfl, rfl, fun i hi => ⟨rfl, rfl⟩⟩, hb⟩
/-- What is behind a node: by its edge. -/
theorem behind_any {q : Nat → Eg} {m n r i v : Nat} {T : Tr} (hE : Egs n q m) (hI : TrI q m n r T) (i0 : 0 < i) (hv : T.row[i]? = some v) (ok : ∀ j u, j < i → T.row[j]? = some u → okB (waT q T (j + 1) u).1 (waT q T (j + 1) u).2 = true) :
    ∃ (k : Nat) (X Y e : Int), k < m ∧ T.by_ v = k ∧ v < n ∧ SmT (suT q T (waT q T i) v).1 (suT q T (waT q T i) v).2 X Y e ∧
      ∀ (gs cap : Nat) (w : World), Blk w 38 gs (spR (waT q T i) n) → Calls Tryz.prog 45 #[.agg #[.int .i64 (q k).a, .int .i64 (q k).b, .int .i64 (q k).lo, .int .i64 (q k).hi], .int .i64 v, .slice (some ⟨gs, 0, none⟩) n cap] w fun o w' => o = .returned (.tuple #[.agg #[.int .i64 X, .int .i64 Y], errc e]) ∧ Below w.heap.size w w' := by
  obtain ⟨k, u, j', a1, a2, a3, a4, a5⟩ := hI.par i v i0 hv
  obtain ⟨f1, _⟩ := fr_to hE a1 a5
  have e1 := waT_at hI a3 (show j' < i by omega)
  have o1 := ok j' u a2 a3
  rw [← e1] at o1
  obtain ⟨⟨b1, b2, b3, b4⟩, nab, o2⟩ := hE.each k a1
  have ul := hI.lt u (List.mem_of_getElem? a3)
  have vl := hI.lt v (List.mem_of_getElem? hv)
  obtain ⟨A, eA⟩ : ∃ A : Nat, (q k).a = A := ⟨(q k).a.toNat, by omega⟩
  obtain ⟨B, eB⟩ : ∃ B : Nat, (q k).b = B := ⟨(q k).b.toNat, by omega⟩
  obtain ⟨X, Y, e, hS⟩ := smT_some (suT q T (waT q T i) v).1 (suT q T (waT q T i) v).2
  refine ⟨k, X, Y, e, a1, a4, vl, hS, fun gs cap w hB => ?_⟩
  unfold suT at hS
  rw [a4, Int.toNat_natCast, f1] at hS
  unfold toT at a5
  rw [eA, eB, Int.toNat_natCast, Int.toNat_natCast] at a5
  rw [eA, eB]
  by_cases c : (A : Int) = u
  · rw [if_pos c] at a5
    obtain rfl := Option.some.inj a5
    obtain rfl : A = u := by omega
    have es : saT q k B = ((q k).lo, (q k).hi) := by unfold saT; rw [eA, if_neg (by omega)]
    rw [es] at hS
    exact behind_to n A B (q k).lo (q k).hi gs cap (waT q T i) X Y e w ul hB o1 o2 hS
  · rw [if_neg c] at a5
    by_cases c2 : (B : Int) = u
    · rw [if_pos c2] at a5
      obtain rfl := Option.some.inj a5
      obtain rfl : B = u := by omega
      have es : saT q k A = (-(q k).hi, -(q k).lo) := by unfold saT; rw [eA, if_pos rfl]
      rw [es] at hS
      exact behind_from n A B (q k).lo (q k).hi gs cap (waT q T i) X Y e w (by omega) ul hB o1 o2 hS
    · rw [if_neg c2] at a5; cases a5
end Go.Proofs.YthejaecljkjliaiGreatDoor
namespace Go.Proofs.YthejaecljkjliaiGreatDoor
open Go.ChangeShapes Go.WideShapes Go.ChangeAt Go.RowKit
set_option linter.unusedVariables false
set_option linter.unusedSimpArgs false

set_option maxHeartbeats 1000000 in
theorem vcheck_full (a : Option Addr) (n cap : Nat) (w : World) (h : 40 < n) (hm : n ≤ 9223372036854775807) :
    Calls Tryz.prog 81 #[.slice a n cap] w fun e w' => e = .returned (.iface 85 (.int .i64 4)) ∧ Below w.heap.size w w' := by
  go_enter Tryz.func81, Tryz.ntmps81
  go_wp2
  go_ret
  exact ⟨rfl, Below.refl _ _⟩

set_option maxHeartbeats 1000000 in
theorem vcheck_none (a : Option Addr) (cap : Nat) (w : World) :
    Calls Tryz.prog 81 #[.slice a 0 cap] w fun e w' => e = .returned (.iface 85 (.int .i64 5)) ∧ Below w.heap.size w w' := by
  go_enter Tryz.func81, Tryz.ntmps81
  go_wp2
  go_ret
  exact ⟨rfl, Below.refl _ _⟩

set_option maxHeartbeats 2000000 in
theorem vcheck_any (b off n cap m : Nat) (q : Nat → Int × Int) (R : Value) (w : World) (h0 : 0 < n) (h40 : n ≤ 40) (hP : Sps w b off n q) (hmn : m ≤ n) (hgood : ∀ i, i < m → okB (q i).1 (q i).2 = true)
    (hR : (m = n ∧ R = .nilIface) ∨ (m < n ∧ okB (q m).1 (q m).2 = false ∧ R = .iface 85 (.int .i64 1))) :
    Calls Tryz.prog 81 #[.slice (some ⟨b, off, none⟩) n cap] w fun e w' => e = .returned R ∧ Below w.heap.size w w' := by
  have hbl : b < w.heap.size := World.block_lt_of_cell? _ _ (hP 0 h0).1
  have HR : Hid ((m = n ∧ R = .nilIface) ∨ (m < n ∧ okB (q m).1 (q m).2 = false ∧ R = .iface 85 (.int .i64 1))) := hR
  clear hR
  have hc0 : ((n : Int) == 0) = false := by simp; omega
  go_enter Tryz.func81, Tryz.ntmps81
  go_wp2
  go_loopw [16] (fun i wr => ∃ k : Nat, k ≤ m ∧ i = .int .i64 k ∧ Below w.heap.size w wr) (fun i _ => n - (intOf i).toNat)
  case atStart => exact ⟨0, Nat.zero_le _, rfl, Below.refl _ _⟩
  case round =>
    obtain ⟨k, hkm, rfl, hw⟩ := hrel
    have zz := hw.size
    by_cases hlt : k < n
    · obtain ⟨x0, x1⟩ := (hP.on hw) k hlt
      clear hP
      cases hk0 : okB (q k).1 (q k).2 with
      | true =>
        have km : k < m := by
          rcases HR.out with ⟨e, _⟩ | ⟨l, ne, _⟩
          · omega
          · exact Nat.lt_of_le_of_ne hkm (fun e => by rw [e, ne] at hk0; cases hk0)
        go_wp2_with (go_at_call 46; refine (check_ok (q k).1 (q k).2 _ hk0).mono ?_; rintro e u0 ⟨rfl, hb⟩; replace hw : Below w.heap.size w u0 := rbel_on hb (rbel_al hw))
        go_roundw
        case rel => exact ⟨k + 1, km, by go_num, hw⟩
        case measure => simp [intOf]; omega
      | false =>
        have km : Hid (R = .iface 85 (.int .i64 1)) := by
          rcases HR.out with ⟨e, _⟩ | ⟨l, ne, e⟩
          · have := hgood k (by omega); rw [this] at hk0; cases hk0
          · exact e
        go_wp2_with (go_at_call 46; refine (check_no (q k).1 (q k).2 _ hk0).mono ?_; rintro e u0 ⟨rfl, hb⟩; replace hw : Below w.heap.size w u0 := rbel_on hb (rbel_al hw))
        go_ret
        exact ⟨by rw [km.out]; rfl, hw⟩
    · have kn : Hid (R = .nilIface) := by
        rcases HR.out with ⟨_, e⟩ | ⟨l, ne, e⟩
        · exact e
        · omega
      go_wp2
      go_ret
      exact ⟨by rw [kn.out]; rfl, hw⟩

/-- What is wrong with spans. -/
def vE (q : Nat → Int × Int) (n : Nat) : Int := if 40 < n then 4 else if n = 0 then 5 else if ∀ i, i < n → okB (q i).1 (q i).2 = true then 0 else 1
/-- Spans as they are handed over. -/
def Handed (w : World) (a : Option Addr) (n : Nat) (q : Nat → Int × Int) : Prop := n ≤ 9223372036854775807 ∧ (n = 0 ∨ ∃ b off : Nat, a = some ⟨b, off, none⟩ ∧ Sps w b off n q)
theorem Handed.on {W u : World} {a : Option Addr} {n : Nat} {q : Nat → Int × Int} (hb : Below W.heap.size W u) (h : Handed W a n q) : Handed u a n q :=
  ⟨h.1, h.2.imp id (fun ⟨b, off, e, s⟩ => ⟨b, off, e, s.on hb⟩)⟩
theorem first_bad (q : Nat → Int × Int) : ∀ n : Nat, ¬ (∀ i, i < n → okB (q i).1 (q i).2 = true) → ∃ m, m < n ∧ okB (q m).1 (q m).2 = false ∧ ∀ i, i < m → okB (q i).1 (q i).2 = true
  | 0, h => absurd (fun i hi => by omega) h
  | n + 1, h => by
    by_cases c : ∀ i, i < n → okB (q i).1 (q i).2 = true
    · refine ⟨n, by omega, ?_, c⟩
      cases e : okB (q n).1 (q n).2 with
      | false => rfl
      | true => exact absurd (fun i hi => by
          by_cases g : i = n
          · rw [g]; exact e
          · exact c i (by omega)) h
    · obtain ⟨m, h1, h2, h3⟩ := first_bad q n c
      exact ⟨m, by omega, h2, h3⟩
/-- An error by its number; 0: none. -/
def errn (e : Int) : Value := if e = 0 then .nilIface else .iface 85 (.int .i64 e)
theorem errn_zero : errn 0 = .nilIface := if_pos rfl
theorem errn_not {f : Int} (h : f ≠ 0) : errn f = .iface 85 (.int .i64 f) := if_neg h
theorem vE_zero {q : Nat → Int × Int} {n : Nat} (h : vE q n = 0) : 0 < n ∧ n ≤ 40 ∧ ∀ i, i < n → okB (q i).1 (q i).2 = true := by
  unfold vE at h
  split at h
  · cases h
  · split at h
    · cases h
    · split at h
      · exact ⟨by omega, by omega, by assumption⟩
      · cases h
theorem vE_ok {q : Nat → Int × Int} {n : Nat} (h0 : 0 < n) (h40 : n ≤ 40) (h : ∀ i, i < n → okB (q i).1 (q i).2 = true) : vE q n = 0 := by
  unfold vE; rw [if_neg (by omega), if_neg (by omega), if_pos h]
theorem vcheck_e (a : Option Addr) (n cap : Nat) (q : Nat → Int × Int) (w : World) (hH : Handed w a n q) :
    Calls Tryz.prog 81 #[.slice a n cap] w fun e w' => e = .returned (errn (vE q n)) ∧ Below w.heap.size w w' := by
  obtain ⟨hm, hs⟩ := hH
  by_cases h40 : 40 < n
  · have e : vE q n = 4 := if_pos h40
    rw [e, errn_not (by decide)]
    exact vcheck_full a n cap w h40 hm
  · rcases hs with rfl | ⟨b, off, rfl, hP⟩
    · rw [show vE q 0 = 5 from rfl, errn_not (by decide)]
      exact vcheck_none a cap w
    · by_cases h0 : n = 0
      · subst h0
        rw [show vE q 0 = 5 from rfl, errn_not (by decide)]
        exact vcheck_none _ cap w
      · by_cases g : ∀ i, i < n → okB (q i).1 (q i).2 = true
        · rw [vE_ok (by omega) (by omega) g, errn_zero]
          exact vcheck_any b off n cap n q .nilIface w (by omega) (by omega) hP (Nat.le_refl _) g (Or.inl ⟨rfl, rfl⟩)
        · obtain ⟨m, h1, h2, h3⟩ := first_bad q n g
          have e : vE q n = 1 := by unfold vE; rw [if_neg h40, if_neg h0, if_neg g]
          rw [e, errn_not (by decide)]
          exact vcheck_any b off n cap m q _ w (by omega) (by omega) hP (by omega) h3 (Or.inr ⟨h1, h2, rfl⟩)
end Go.Proofs.YthejaecljkjliaiGreatDoor
namespace Go.Proofs.YthejaecljkjliaiGreatDoor
open Go.ChangeShapes Go.WideShapes Go.ChangeAt Go.RowKit
set_option linter.unusedVariables false
set_option linter.unusedSimpArgs false

section
open Go.Sort Go.Shelf
set_option maxHeartbeats 1000000 in
theorem steps1 (x y : Int × Int) (W : World) : Calls Tryz.prog 126 #[.agg #[.int .i64 x.1, .int .i64 x.2], .agg #[.int .i64 y.1, .int .i64 y.2]] W fun e w' => e = .returned (.int .i64 (Lib.compareInt x.1 y.1)) ∧ ∃ q os', w' = grow (W.drewN q) os' := by
  have hcon := fun W' => AnyG.cmp_Compare_int Tryz.cmpInt x.1 y.1 W'
  change ∀ W', Calls Tryz.prog 127 _ _ _ at hcon
  generalize Lib.compareInt x.1 y.1 = r at hcon ⊢
  go_enter Tryz.func126, Tryz.ntmps126
  go_wp2_with (go_at_call 127; refine (hcon _).mono ?_; rintro e w' ⟨rfl, rfl⟩)
  go_ret
  exact ⟨rfl, 0, _, by rw [alloc_eq_grow, alloc_eq_grow, grow_grow]; rfl⟩

theorem sort_step (blk cap N : Nat) (d : Array (Int × Int)) (w : World) (hN : d.size = N) (hH : HoldsK encS 2 w blk 0 d) (hblk : blk < w.heap.size) (hsz : N < 4611686018427387904) :
    Calls Tryz.prog 125 #[.slice (some ⟨blk, 0, none⟩) N cap, .func (.func 126) #[] #[]] w fun e w' => e = .returned (.tuple #[]) ∧
      ∃ d' n os, PermIn 0 d.size d d' ∧ SortedIn (ltOf fun x y : Int × Int => Lib.compareInt x.1 y.1) 0 d.size d' ∧ w' = sortWorldK encS 2 w blk 0 n d' os := by
  subst hN
  exact AnyQ.slices_SortFunc Tryz.sortStep 2 Tryz.isAgg210 Tryz.sizeOf210 encS (fun _ => rfl) (fun x v hv => by simp [encS] at hv; rcases hv with rfl | rfl <;> rfl) (fun x y => Lib.compareInt x.1 y.1) swoS 126 #[] blk 0 cap d w
    (enters_of Tryz.func126 (by kernel_rfl) rfl) (fun _ _ _ _ x y => steps1 x y _) hH hblk hsz
end
theorem infoStep : (Tryz.prog.info? 210).map (fun i => (i.zero, i.size, i.bytes)) = some (some (.agg #[.int .i64 0, .int .i64 0]), 2, 16) := by kernel_rfl

set_option maxHeartbeats 4000000 in
set_option maxRecDepth 100000 in
theorem steps_any (b off n cap : Nat) (q : Nat → Int × Int) (w : World) (h0 : 0 < n) (h40 : n ≤ 40) (hP : Sps w b off n q) (ok : ∀ i, i < n → okB (q i).1 (q i).2 = true) :
    Calls Tryz.prog 115 #[.slice (some ⟨b, off, none⟩) n cap] w fun e w' => ∃ (g cap' N : Nat) (d : Array (Int × Int)), e = .returned (.slice (some ⟨g, 0, none⟩) N cap') ∧ N = 2 * n ∧ N ≤ cap' ∧ cap' ≤ maxLen ∧ w.heap.size ≤ g ∧ g < w'.heap.size ∧ d.size = N ∧ Go.Sort.HoldsK encS 2 w' g 0 d ∧
      Steps q n d.toList ∧ Below w.heap.size w w' := by
  obtain ⟨i0, hi, hz0, hz1, hz2⟩ := info_parts infoStep
  have hbl : b < w.heap.size := World.block_lt_of_cell? _ _ (hP 0 h0).1
  go_enter Tryz.func115, Tryz.ntmps115
  go_wp2
  go_loopw [3, 9] (fun v i wr => ∃ k : Nat, k ≤ n ∧ i = .int .i64 k ∧ wr.ownsRow w.heap.size 210 2 v (2 * k) (cellsOf (stepsOf q k)) ∧ Below w.heap.size w wr) (fun _ i _ => n - (intOf i).toNat)
  case atStart =>
    exact ⟨0, Nat.zero_le _, rfl, own_empty w _ 2, rbel_al (Below.refl _ _)⟩
  case round =>
    obtain ⟨k, hk, rfl, hown, hw⟩ := hrel
    have zz := hw.size
    by_cases hlt : k < n
    · obtain ⟨x0, x1⟩ := (hP.on hw) k hlt
      have okk := okB_t (ok k hlt)
      obtain ⟨o1, o2, o3⟩ := okk
      have nb : ¬ (b = wr.heap.size) := by omega
      have nb2 : ¬ (b = wr.heap.size + 1) := by omega
      clear hP ok
      go_wp2_with (at_builtin; refine wpList_append_own _ rfl _ _ 207 rfl w.heap.size 210 i0 (.agg #[.int .i64 0, .int .i64 0]) 2 16 Tryz.underlying207 hi hz0 hz1 hz2 rfl (by decide) _ _ _ rfl ((hown.alloc _).alloc _) ⟨wr.heap.size + 1, 0, none⟩ 2 2 [.int .i64 (q k).1, .int .i64 1, .int .i64 ((q k).2 + 1), .int .i64 (-1)] rfl rfl ?c1 ?c2 ?c3 ?c4 ?c5 ?_)
      case c1 =>
        intro j u hj
        rw [Addr.add_lit, World.cell?_alloc_at _ _ _ _ (by simp)]
        simpa using hj
      case c2 =>
        intro u hu
        simp at hu
        rcases hu with rfl | rfl | rfl | rfl <;> rfl
      case c3 => unfold maxLen; omega
      case c4 => omega
      case c5 => simp; omega
      intro v' w1 hown' hgrow _
      have hown1 : Hid (w1.ownsRow w.heap.size 210 2 v' (2 * (k + 1)) (cellsOf (stepsOf q (k + 1)))) := by
        show w1.ownsRow w.heap.size 210 2 v' (2 * k + 2) (cellsOf (stepsOf q k ++ [((q k).1, 1), ((q k).2 + 1, -1)]))
        rw [cellsOf_append]
        exact hown'
      have hw1 : Below w.heap.size w w1 := (rbel_al (rbel_al hw)).grown hgrow (by simp; omega) (fun j hj => (hown.lt j hj).1)
      clear hown' hgrow hown
      go_wp2
      go_roundw
      case rel => exact ⟨k + 1, by omega, by go_num, hown1.out, hw1⟩
      case measure => simp [intOf]; omega
    · have kn : k = n := by omega
      subst kn
      have hL : (cellsOf (stepsOf q k)).length = 2 * k * 2 := hown.1
      obtain ⟨g, cap', cur, rfl, hg, hh, hcc, hcm, hcs, htk⟩ : ∃ g cap' cur, u3 = .slice (some ⟨g, 0, none⟩) (2 * k) cap' ∧ w.heap.size ≤ g ∧ wr.heap[g]? = some (.cells cur 210 (0, 0)) ∧ 2 * k ≤ cap' ∧ cap' ≤ maxLen ∧ cur.size = cap' * 2 ∧ cur.toList.take (2 * k * 2) = cellsOf (stepsOf q k) := by
        rcases hown.2 with ⟨_, e⟩ | h
        · omega
        · exact h
      have hds : (stepsOf q k).toArray.size = 2 * k := by simp [stepsOf_length]
      have hH := holds_of_own (d := (stepsOf q k).toArray) hown hds
      have hgl : g < wr.heap.size := (hown.lt g rfl).2
      obtain ⟨N, hN⟩ : ∃ N, N = 2 * k := ⟨_, rfl⟩
      rw [← hN] at hds hcc
      rw [← hN]
      have HN : Hid (N = 2 * k) := hN
      have hcon := sort_step g cap' N _ wr hds hH hgl (by omega)
      have HH : Hid (Go.Sort.HoldsK encS 2 wr g 0 (stepsOf q k).toArray) := hH
      clear hN hown hH hlt hk htk hh hcs hL hP ok
      go_wp2_with (go_at_call 125; refine hcon.mono ?_; rintro e w1 ⟨rfl, d', m, os, hp, hs, rfl⟩)
      go_ret
      exact ⟨g, cap', N, d', rfl, HN.out, hcc, hcm, hg, Nat.lt_of_lt_of_le hgl (size_sortWorldK_c encS 2 wr g 0 m d' os), hp.1.trans hds, holdsK_sortWorldK_c encS 2 wr g 0 (stepsOf q k).toArray d' m os HH.out hgl hp.1,
        steps_of (by simp) hp hs, sort_below hw hg zz⟩
end Go.Proofs.YthejaecljkjliaiGreatDoor
