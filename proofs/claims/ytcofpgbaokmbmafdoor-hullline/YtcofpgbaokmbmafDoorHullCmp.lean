/- What slices.CompactFunc leaves of a row of points in order. -/
import Derived.Test.YtcofpgbaokmbmafDoorHullAny
import Derived.Test.YtcofpgbaokmbmafDoorKeeps
import Derived.Deep.RegionHeld
import Derived.Deep.CutBlock
import Derived.Deep.CutRange
import Derived.Laws.IdiomCopy
namespace Go.Proofs.YtcofpgbaokmbmafDoor
open Go.ChangeShapes Go.WideShapes Go.ChangeAt Go.RowKit Go.Joins
set_option linter.unusedVariables false
set_option linter.unusedSimpArgs false

/-- n points lie in a row that may be written. -/
def Wls (w : World) (g n : Nat) (h : Nat → Int × Int) : Prop := ∀ i, i < n → (w.cell? ⟨g, i * 2, none⟩ = some (.int .i64 (h i).1) ∧ w.frozen? ⟨g, i * 2, none⟩ = false) ∧ (w.cell? ⟨g, i * 2 + 1, none⟩ = some (.int .i64 (h i).2) ∧ w.frozen? ⟨g, i * 2 + 1, none⟩ = false)
theorem Wls.on {W u : World} {g n : Nat} {h : Nat → Int × Int} (hb : Below W.heap.size W u) (H : Wls W g n h) : Wls u g n h := fun i hi => by
  obtain ⟨⟨a, b⟩, c, d⟩ := H i hi
  have l := World.block_lt_of_cell? _ _ a
  exact ⟨⟨(hb.cell (p := ⟨g, i * 2, none⟩) l).trans a, (hb.frozen (p := ⟨g, i * 2, none⟩) l).trans b⟩, (hb.cell (p := ⟨g, i * 2 + 1, none⟩) l).trans c, (hb.frozen (p := ⟨g, i * 2 + 1, none⟩) l).trans d⟩
theorem Wls.same {w : World} {g n : Nat} {h h' : Nat → Int × Int} (H : Wls w g n h) (e : ∀ i, i < n → h i = h' i) : Wls w g n h' := fun i hi => by rw [← e i hi]; exact H i hi
theorem Wls.pls {w : World} {g n : Nat} {h : Nat → Int × Int} (H : Wls w g n h) : Pls w g 0 n h := fun i hi => by
  obtain ⟨⟨a, b⟩, c, d⟩ := H i hi
  rw [Nat.zero_add]
  exact ⟨a, c⟩
/-- One point turned. -/
def updP (h : Nat → Int × Int) (k : Nat) (p : Int × Int) (i : Nat) : Int × Int := if i = k then p else h i
theorem Wls.put {w : World} {g n k : Nat} {h : Nat → Int × Int} {x y : Int} (H : Wls w g n h) (hk : k < n) : Wls ((w.setCell ⟨g, k * 2, none⟩ (.int .i64 x)).setCell ⟨g, k * 2 + 1, none⟩ (.int .i64 y)) g n (updP h k (x, y)) := fun i hi => by
  obtain ⟨⟨a, b⟩, c, d⟩ := H i hi
  obtain ⟨⟨a', b'⟩, c', d'⟩ := H k hk
  have fr : ∀ q : Addr, ((w.setCell ⟨g, k * 2, none⟩ (.int .i64 x)).setCell ⟨g, k * 2 + 1, none⟩ (.int .i64 y)).frozen? q = w.frozen? q := fun q => by rw [World.frozen?_setCell, World.frozen?_setCell]
  rw [fr, fr]
  unfold updP
  by_cases e : i = k
  · subst e
    rw [if_pos rfl]
    have c1 : (w.setCell ⟨g, i * 2, none⟩ (.int .i64 x)).cell? ⟨g, i * 2 + 1, none⟩ = some (.int .i64 (h i).2) := by
      rw [World.cell?_setCell_other _ _ _ _ (fun q => by injection q; omega)]; exact c
    refine ⟨⟨?_, b⟩, World.cell?_setCell_same _ _ _ c1, d⟩
    rw [World.cell?_setCell_other _ _ _ _ (fun q => by injection q; omega)]
    exact World.cell?_setCell_same _ _ _ a
  · rw [if_neg e]
    refine ⟨⟨?_, b⟩, ?_, d⟩
    · rw [World.cell?_setCell_other _ _ _ _ (fun q => by injection q; omega), World.cell?_setCell_other _ _ _ _ (fun q => by injection q; omega)]
      exact a
    · rw [World.cell?_setCell_other _ _ _ _ (fun q => by injection q; omega), World.cell?_setCell_other _ _ _ _ (fun q => by injection q; omega)]
      exact c
/-- clear on a slice of points. -/
theorem run_clear_points {P : Program} (w : World) (t e ty : TypeId) (ht : P.underlying t = some (.slice e)) (hv : ∀ w, (zeroValue e).run P w = .ok (.agg #[.int .i64 0, .int .i64 0]) w) (b o n c : Nat) (hn : 0 < n)
    (hc : ∀ j, j < n * 2 → (w.cell? ⟨b, o + j, none⟩).isSome = true) (hf : ∀ j, j < n * 2 → w.frozen? ⟨b, o + j, none⟩ = false) :
    (Builtin.clear_ #[t] ty #[.slice (some ⟨b, o, none⟩) n c]).run P w = .ok (.tuple #[]) (w.setCells b o (List.replicate (n * 2) (.int .i64 0))) := by
  have hzc : (Builtin.zeroCells (Value.agg #[.int .i64 0, .int .i64 0]).cells n).toList = List.replicate (n * 2) (.int .i64 0) := by
    have hz : (Value.agg #[.int .i64 0, .int .i64 0]).cells = #[.int .i64 0, .int .i64 0] := rfl
    rw [hz]
    simp [Builtin.zeroCells]
    apply List.ext_getElem
    · simp
    · intro i h1 h2
      simp
      have : i % 2 = 0 ∨ i % 2 = 1 := by omega
      rcases this with e | e <;> simp [e]
  have hst := run_storeCells_cells (P := P) b o (List.replicate (n * 2) (.int .i64 0)) 0 w (by simpa using hc) (by simpa using hf) (by intro v hv'; rw [List.eq_of_mem_replicate hv']; rfl)
  simp only [Nat.add_zero] at hst
  obtain ⟨m, rfl⟩ : ∃ m, n = m + 1 := ⟨n - 1, by omega⟩
  simp [Builtin.clear_, run_underlying ht, hv, hzc, hst]
theorem zeroPoint : ∀ w, (zeroValue 33).run Tryd.prog w = .ok (.agg #[.int .i64 0, .int .i64 0]) w := Tryd.zeroValue33
/-- What is left of a row of fewer than two. -/
theorem compact_small (ad : Option Addr) (n cap : Nat) (fv : Value) (w : World) (h : n < 2) : Calls Tryd.prog 42 #[.slice ad n cap, fv] w fun e w' => e = .returned (.slice ad n cap) ∧ w' = w := by
  have h2 : (n : Int) < 2 := by omega
  go_enter Tryd.func42, Tryd.ntmps42
  go_wp2
  go_ret
  exact ⟨rfl, rfl⟩
/-- What lies there while points move up: those that are kept, and behind them what was there. -/
structure Cpt (f h : Nat → Int × Int) (n m k : Nat) : Prop where
  len : (cmpN f m).length = k
  lo : ∀ j, j < k → (cmpN f m)[j]? = some (h j)
  hi : ∀ j, m ≤ j + 1 → j < n → h j = f j
  lt : k < m
theorem Cpt.start {f : Nat → Int × Int} {n k : Nat} (h0 : 0 < k) (no : ∀ j, 0 < j → j < k → (f j).1 ≠ (f (j - 1)).1) (e : (f k).1 = (f (k - 1)).1) : Cpt f f n (k + 1) k := by
  have c : cmpN f (k + 1) = lst f k := (cmpN_old (by omega) e).trans (cmpN_all no)
  exact ⟨by rw [c, lst_len], fun j hj => by rw [c]; exact lst_at f k j hj, fun j _ _ => rfl, by omega⟩
theorem Cpt.skip {f h : Nat → Int × Int} {n m k : Nat} (H : Cpt f h n m k) (e : (f m).1 = (f (m - 1)).1) : Cpt f h n (m + 1) k := by
  have c : cmpN f (m + 1) = cmpN f m := cmpN_old (by have := H.lt; omega) e
  exact ⟨by rw [c]; exact H.len, fun j hj => by rw [c]; exact H.lo j hj, fun j a b => H.hi j (by omega) b, by have := H.lt; omega⟩
theorem Cpt.keep {f h : Nat → Int × Int} {n m k : Nat} (H : Cpt f h n m k) (e : (f m).1 ≠ (f (m - 1)).1) : Cpt f (updP h k (f m)) n (m + 1) (k + 1) := by
  have c : cmpN f (m + 1) = cmpN f m ++ [f m] := cmpN_new (Or.inr e)
  have l := H.len
  have lt := H.lt
  refine ⟨by rw [c]; simp [l], fun j hj => ?_, fun j a b => ?_, by omega⟩
  · rw [c]
    unfold updP
    by_cases jk : j = k
    · subst jk
      rw [if_pos rfl, List.getElem?_append_right (by omega), l]
      simp
    · rw [if_neg jk, List.getElem?_append_left (by omega)]
      exact H.lo j (by omega)
  · unfold updP
    rw [if_neg (by omega)]
    exact H.hi j (by omega) b
theorem Keeps.below_of {S : Nat → Prop} {w u : World} (h : Below w.heap.size w u) : Keeps S w u := Keeps.of h
theorem Keeps.cells {S : Nat → Prop} {w : World} {g : Nat} (hg : S g) : ∀ (vs : List Value) (o : Nat) (u : World), Keeps S w u → Keeps S w (u.setCells g o vs)
  | [], _, _, h => h
  | v :: vs, o, u, h => Keeps.cells hg vs (o + 1) _ (h.put (p := ⟨g, o, none⟩) hg)
set_option maxRecDepth 100000 in
set_option maxHeartbeats 8000000 in
theorem compact_any (g n cap : Nat) (f : Nat → Int × Int) (w : World) (h2 : 2 ≤ n) (hcap : n ≤ cap) (hmax : cap ≤ 9223372036854775807) (hW : Wls w g n f) :
    Calls Tryd.prog 42 #[.slice (some ⟨g, 0, none⟩) n cap, .func (.func 43) #[] #[]] w fun e w' => e = .returned (.slice (some ⟨g, 0, none⟩) (cmpN f n).length cap) ∧ Pls w' g 0 (cmpN f n).length (rowL (cmpN f n)) ∧ Keeps (fun k => k = g) w w' := by
  have HA : Hid (Wls w g n f) := hW
  have gl : g < w.heap.size := World.block_lt_of_cell? _ _ (hW 0 (by omega)).1.1
  have hn2 : ¬ ((n : Int) < 2) := by omega
  clear hW
  go_enter Tryd.func42, Tryd.ntmps42
  go_wp2
  go_loopw [5] (fun v wr => ∃ k : Nat, 1 ≤ k ∧ k ≤ n ∧ v = .int .i64 k ∧ (∀ j, 0 < j → j < k → (f j).1 ≠ (f (j - 1)).1) ∧ Below w.heap.size w wr) (fun i _ => n - (intOf i).toNat)
  case atStart => exact ⟨1, Nat.le_refl _, by omega, rfl, fun j a b => by omega, Below.refl _ _⟩
  case round =>
    obtain ⟨k, k1, kn, rfl, hno, hw⟩ := hrel
    have HN : Hid (∀ j, 0 < j → j < k → (f j).1 ≠ (f (j - 1)).1) := hno
    have HW : Hid (Below w.heap.size w wr) := hw
    have gl' : g < wr.heap.size := Nat.lt_of_lt_of_le gl hw.size
    by_cases hlt : k < n
    · obtain ⟨K, hKk⟩ : ∃ K, K = k - 1 := ⟨_, rfl⟩
      have HE : Hid (k = K + 1) := by show k = K + 1; omega
      have hl3 : (k : Int) < n := by omega
      have WK := HA.out.on hw
      obtain ⟨⟨x0, _⟩, x1, _⟩ := WK k hlt
      obtain ⟨⟨y0, _⟩, y1, _⟩ := WK K (by omega)
      have HWK : Hid (Wls wr g n f) := WK
      have wk : IntKind.i64.wrap ((k : Int) - 1) = (K : Int) := by rw [show (k : Int) - 1 = (K : Int) by omega]; exact IntWalk.i64_in _ (by omega)
      have lk : (K : Int) < n := by omega
      have lk2 : K < n := by omega
      have cC := fun u => high2_any (f k).1 (f k).2 (f K).1 (f K).2 u
      obtain ⟨bb, hbb⟩ : ∃ bb, bb = ((f k).1 == (f K).1) := ⟨_, rfl⟩
      rw [← hbb] at cC
      have HBB : Hid (bb = ((f k).1 == (f K).1)) := hbb
      clear hbb hno hw WK hKk
      go_upto_region 6 with (fail)
      go_cut [28] from 18 to 28 (fun v w' => v = .bool bb ∧ Wls w' g n f ∧ Below w.heap.size w w')
      case first =>
        clear HN HBB HA HE
        generalize (f k).1 = b1 at *
        generalize (f k).2 = b2 at *
        generalize (f K).1 = a1 at *
        generalize (f K).2 = a2 at *
        go_region_with (go_at_call 43; refine (cC _).mono ?_; rintro e u0 ⟨rfl, hb⟩; have HB0 : Hid (Below wr.drew.heap.size wr.drew u0) := hb; clear hb)
        all_goals
          go_wp2
          go_meet
          case rel => exact ⟨rfl, (HWK.out.on (rbel_dr (Below.refl _ _))).on HB0.out, rbel_on HB0.out (rbel_dr HW.out)⟩
      case rest =>
        obtain ⟨rfl, hA0, hW0⟩ := hcut
        have HA0 : Hid (Wls wc g n f) := hA0
        have HW0 : Hid (Below w.heap.size w wc) := hW0
        clear hA0 hW0 HW HWK x0 x1 y0 y1 cC wk lk lk2
        cases bb with
        | false =>
          have HN2 : Hid (∀ j, 0 < j → j < k + 1 → (f j).1 ≠ (f (j - 1)).1) := fun j a b => by
            by_cases e : j = k
            · subst e
              intro e
              have := HBB.out
              rw [show j - 1 = K from by rw [HE.out]; rfl] at e
              rw [e] at this
              simp at this
            · exact HN.out j a (by omega)
          clear HN HBB HA HA0 HE
          go_wp2
          go_roundw
          case rel => exact ⟨k + 1, by omega, by omega, by go_num, HN2.out, HW0.out⟩
          case measure => simp [intOf]; omega
        | true =>
          have HC : Hid (Cpt f f n (k + 1) k) := Cpt.start (by omega) HN.out (by
            have := HBB.out
            rw [show k - 1 = K from by rw [HE.out]; rfl]
            simpa using this.symm)
          have ck : ¬ (cap = k) := by omega
          clear HN HBB HE
          go_wp2
          go_loopw [5, 7] (fun v v2 wr => ∃ (kk k2 : Nat) (h : Nat → Int × Int), v = .int .i64 kk ∧ v2 = .int .i64 k2 ∧ 1 ≤ k2 ∧ k + k2 ≤ n ∧ Cpt f h n (k + k2) kk ∧ Wls wr g n h ∧ Keeps (fun k => k = g) w wr) (fun _ i _ => n - (intOf i).toNat)
          case atStart => exact ⟨k, 1, f, rfl, rfl, Nat.le_refl _, by omega, HC.out, HA0.out, Keeps.below_of HW0.out⟩
          case round =>
            clear HW0 HA0 HC
            obtain ⟨kk, m, h, rfl, rfl, k21, kle, hC, hWl, hK⟩ := hrel
            have HC : Hid (Cpt f h n (k + m) kk) := hC
            have HWl : Hid (Wls wr g n h) := hWl
            have HK : Hid (Keeps (fun k => k = g) w wr) := hK
            have klt := hC.lt
            have gl2 : g < wr.heap.size := Nat.lt_of_lt_of_le gl hK.size
            by_cases hl2 : k + m < n
            · obtain ⟨M, hM⟩ : ∃ M, M = m - 1 := ⟨_, rfl⟩
              have HE : Hid (m = M + 1) := by show m = M + 1; omega
              have hl4 : (m : Int) < ((n - k : Nat) : Int) := by omega
              have hl5 : (M : Int) < ((n - k : Nat) : Int) := by omega
              have hl6 : M < n - k := by omega
              have wM : IntKind.i64.wrap ((m : Int) - 1) = (M : Int) := by rw [show (m : Int) - 1 = (M : Int) by omega]; exact IntWalk.i64_in _ (by omega)
              obtain ⟨⟨x0, _⟩, x1, _⟩ := hWl (k + m) hl2
              obtain ⟨⟨y0, _⟩, y1, _⟩ := hWl (k + M) (by omega)
              rw [hC.hi _ (by omega) hl2] at x0 x1
              rw [hC.hi _ (by omega) (by omega)] at y0 y1
              rw [show (k + m) * 2 = k * 2 + m * 2 by omega] at x0 x1
              rw [show (k + M) * 2 = k * 2 + M * 2 by omega] at y0 y1
              have cC := fun u => high2_any (f (k + m)).1 (f (k + m)).2 (f (k + M)).1 (f (k + M)).2 u
              obtain ⟨bb, hbb⟩ : ∃ bb, bb = ((f (k + m)).1 == (f (k + M)).1) := ⟨_, rfl⟩
              rw [← hbb] at cC
              have HBB : Hid (bb = ((f (k + m)).1 == (f (k + M)).1)) := hbb
              have em : (k + m) - 1 = k + M := by omega
              have HEM : Hid ((k + m) - 1 = k + M) := em
              clear hbb hC hWl hK hM em
              go_upto_region 11 with (fail)
              go_cut [49] from 38 to 49 (fun v w' => v = .bool (!bb) ∧ Wls w' g n h ∧ Keeps (fun k => k = g) w w')
              case first =>
                clear HBB HC HE HEM
                generalize (f (k + m)).1 = b1 at *
                generalize (f (k + m)).2 = b2 at *
                generalize (f (k + M)).1 = a1 at *
                generalize (f (k + M)).2 = a2 at *
                go_region_with (go_at_call 43; refine (cC _).mono ?_; rintro e u0 ⟨rfl, hb⟩; have HB0 : Hid (Below wr.drew.heap.size wr.drew u0) := hb; clear hb)
                all_goals
                  go_wp2
                  go_meet
                  case rel => exact ⟨rfl, (HWl.out.on (rbel_dr (Below.refl _ _))).on HB0.out, HK.out.dr.on HB0.out⟩
              case rest =>
                obtain ⟨rfl, hA0, hK0⟩ := hcut
                have HA0 : Hid (Wls wc g n h) := hA0
                have HK0 : Hid (Keeps (fun k => k = g) w wc) := hK0
                have gl3 : g < wc.heap.size := Nat.lt_of_lt_of_le gl hK0.size
                cases bb with
                | true =>
                  have HC2 : Hid (Cpt f h n (k + (m + 1)) kk) := HC.out.skip (by rw [HEM.out]; have := HBB.out; simpa using this.symm)
                  clear hA0 hK0 HWl HK x0 x1 y0 y1 cC HC HBB HE HEM
                  go_wp2
                  go_roundw
                  case rel => exact ⟨kk, m + 1, h, rfl, by go_num, by omega, by omega, HC2.out, HA0.out, HK0.out⟩
                  case measure => simp [intOf]; omega
                | false =>
                  have HC2 : Hid (Cpt f (updP h kk (f (k + m))) n (k + (m + 1)) (kk + 1)) := HC.out.keep (by
                    rw [HEM.out]
                    intro e
                    have := HBB.out
                    rw [e] at this
                    simp at this)
                  obtain ⟨⟨z0, z1⟩, z2, z3⟩ := hA0 (k + m) hl2
                  obtain ⟨⟨q0, q1⟩, q2, q3⟩ := hA0 kk (by omega)
                  rw [HC.out.hi _ (by omega) hl2] at z0 z2
                  rw [show (k + m) * 2 = k * 2 + m * 2 by omega] at z0 z1 z2 z3
                  have kn2 : (kk : Int) < n := by omega
                  clear hA0 hK0 HWl HK x0 x1 y0 y1 cC HC HBB HE HEM
                  generalize f (k + m) = pp at *
                  go_wp2
                  go_roundw
                  case rel => exact ⟨kk + 1, m + 1, _, by go_num, by go_num, by omega, by omega, HC2.out, HA0.out.put (by omega), Keeps.put (S := fun k => k = g) (p := ⟨g, kk * 2 + 1, none⟩) rfl (Keeps.put (S := fun k => k = g) (p := ⟨g, kk * 2, none⟩) rfl HK0.out)⟩
                  case measure => simp [intOf]; omega
            · have hend : k + m = n := by omega
              have hl4 : ¬ ((m : Int) < ((n - k : Nat) : Int)) := by omega
              have kn2 : (kk : Int) < n := by omega
              have ck2 : ¬ (cap = kk) := by omega
              have hcl : ∀ ty, (Builtin.clear_ #[22] ty #[.slice (some ⟨g, kk * 2, none⟩) (n - kk) (cap - kk)]).run Tryd.prog wr = .ok (.tuple #[]) (wr.setCells g (kk * 2) (List.replicate ((n - kk) * 2) (.int .i64 0))) :=
                fun ty => run_clear_points wr _ _ ty Tryd.underlying22 zeroPoint g (kk * 2) _ _ (by omega) (fun j hj => by
                  obtain ⟨⟨a, _⟩, c, _⟩ := hWl (kk + j / 2) (by omega)
                  have : j % 2 = 0 ∨ j % 2 = 1 := by omega
                  rcases this with e | e
                  · rw [show kk * 2 + j = (kk + j / 2) * 2 by omega, a]; rfl
                  · rw [show kk * 2 + j = (kk + j / 2) * 2 + 1 by omega, c]; rfl) (fun j hj => by
                  obtain ⟨⟨_, b⟩, _, d⟩ := hWl (kk + j / 2) (by omega)
                  have : j % 2 = 0 ∨ j % 2 = 1 := by omega
                  rcases this with e | e
                  · rw [show kk * 2 + j = (kk + j / 2) * 2 by omega]; exact b
                  · rw [show kk * 2 + j = (kk + j / 2) * 2 + 1 by omega]; exact d)
              have HR : Hid ((cmpN f n).length = kk ∧ Pls (wr.setCells g (kk * 2) (List.replicate ((n - kk) * 2) (.int .i64 0))) g 0 kk (rowL (cmpN f n)) ∧ Keeps (fun k => k = g) w (wr.setCells g (kk * 2) (List.replicate ((n - kk) * 2) (.int .i64 0)))) := by
                rw [hend] at hC
                refine ⟨hC.len, fun i hi => ?_, Keeps.cells (S := fun k => k = g) rfl _ _ _ hK⟩
                obtain ⟨⟨a, _⟩, c, _⟩ := hWl i (by omega)
                rw [rowL_at (hC.lo i hi), Nat.zero_add]
                rw [World.cell?_setCells_out g _ _ _ ⟨g, i * 2, none⟩ (fun _ _ => Or.inl (by show i * 2 < kk * 2; omega)), World.cell?_setCells_out g _ _ _ ⟨g, i * 2 + 1, none⟩ (fun _ _ => Or.inl (by show i * 2 + 1 < kk * 2; omega))]
                exact ⟨a, c⟩
              clear hC hWl hK HC HWl HK HA
              go_wp2
              go_ret
              exact ⟨by rw [HR.out.1]; rfl, by rw [HR.out.1]; exact HR.out.2.1, HR.out.2.2⟩
    · have hl3 : ¬ ((k : Int) < n) := by omega
      have kn' : k = n := by omega
      have HR : Hid ((cmpN f n).length = n ∧ Pls wr g 0 n (rowL (cmpN f n))) := by
        have e : cmpN f n = lst f n := cmpN_all (by rw [← kn']; exact HN.out)
        show (cmpN f n).length = n ∧ Pls wr g 0 n (rowL (cmpN f n))
        rw [e]
        exact ⟨lst_len f n, ((HA.out.on hw).same (fun i hi => (rowL_lst f n i hi).symm)).pls⟩
      clear hno hw HN HA
      go_wp2
      go_ret
      exact ⟨by rw [HR.out.1]; rfl, by rw [HR.out.1]; exact HR.out.2, Keeps.below_of HW.out⟩
end Go.Proofs.YtcofpgbaokmbmafDoor
