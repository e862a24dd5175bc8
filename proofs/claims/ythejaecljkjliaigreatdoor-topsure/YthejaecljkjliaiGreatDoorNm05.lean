/- Package net: Show. Package node, as it landed: New, checkHere, widened. Package net: New. -/
import Derived.Test.YthejaecljkjliaiGreatDoorNetPkgA
import Derived.Lib.SmallJoins
import Derived.Deep.QuietTactic
import Derived.BigQuiet
import Derived.BigRegion
import Derived.IntWalk
import Derived.Test.YthejaecljkjliaiGreatDoorNm03
import Derived.Test.YthejaecljkjliaiGreatDoorNm01
import Derived.Test.YthejaecljkjliaiGreatDoorNm04
import Derived.Test.YthejaecljkjliaiGreatDoorNm02
namespace Go.Proofs.YthejaecljkjliaiGreatDoor
open Go.ChangeShapes Go.WideShapes Go.ChangeAt Go.RowKit Go.Joins
set_option linter.unusedVariables false
set_option linter.unusedSimpArgs false

section
variable {u : World} {mb : Nat} {L : Nly} {N : Nn}
set_option maxRecDepth 100000 in
set_option maxHeartbeats 4000000 in
theorem nshow_at (h : NN u mb L N) (i x e : Int) (cR : Calls Tryz.prog 39 #[.pointer (some ⟨L.wb, 0, none⟩), .int .i64 i] u fun o w' => o = .returned (.tuple #[.int .i64 x, errc e]) ∧ Below u.heap.size u w') :
    Calls Tryz.prog 19 #[.pointer (some ⟨mb, 0, none⟩), .int .i64 i] u fun o w' => o = .returned (.tuple #[.int .i64 x, errc e]) ∧ Below u.heap.size u w' := by
  have c0 := h.r.c 0 _ rfl
  have l0 := h.r.lt
  clear h
  generalize errc e = ev at *
  go_enter Tryz.func19, Tryz.ntmps19
  go_wp2_with (go_at_call 39; refine cR.mono ?_; rintro o u1 ⟨rfl, hb⟩; have HB : Hid _ := hb; clear hb)
  go_ret2
  exact ⟨rfl, HB.out⟩
theorem nshow_any (h : NN u mb L N) (g : N.W.I) (i : Int) :
    Calls Tryz.prog 19 #[.pointer (some ⟨mb, 0, none⟩), .int .i64 i] u fun o w' => ((N.W.hs i ∧ o = .returned (.tuple #[.int .i64 (N.W.rd i.toNat), errc 0])) ∨ (¬ N.W.hs i ∧ o = .returned (.tuple #[.int .i64 0, errc 1]))) ∧ Below u.heap.size u w' := by
  by_cases hs : N.W.hs i
  · exact (nshow_at h i _ 0 (read_yes h.w g hs)).mono fun _ _ ⟨q, hw⟩ => ⟨Or.inl ⟨hs, q⟩, hw⟩
  · exact (nshow_at h i _ 1 (read_no h.w g hs)).mono fun _ _ ⟨q, hw⟩ => ⟨Or.inr ⟨hs, q⟩, hw⟩
end
end Go.Proofs.YthejaecljkjliaiGreatDoor
namespace Go.Proofs.YthejaecljkjliaiGreatDoor
open Go.ChangeShapes Go.WideShapes Go.ChangeAt Go.RowKit Go.Joins Go.Maps
set_option linter.unusedVariables false
set_option linter.unusedSimpArgs false

set_option maxRecDepth 100000 in
set_option maxHeartbeats 2000000 in
theorem nnew_ok (id n : Nat) (p : Int) (u : World) (h1 : id < n) (h2 : n ≤ 6) (h3 : 0 ≤ p) (h4 : p ≤ 1000) :
    Calls Tryz.prog 27 #[.int .i64 id, .int .i64 n, .int .i64 p] u fun o w' => ∃ b M, o = .returned (.tuple #[.pointer (some ⟨b, 0, none⟩), .nilIface]) ∧ PN w' b M (Nd.made id n p) ∧ Below u.heap.size u w' ∧ u.heap.size ≤ b ∧ u.heap.size ≤ M := by
  have hmm := @run_makeMap Tryz.prog
  have d1 : ¬ ((n : Int) < 1) := by omega
  have d2 : ¬ (6 < (n : Int)) := by omega
  have d3 : ¬ ((id : Int) < 0) := by omega
  have d4 : ¬ ((n : Int) ≤ (id : Int)) := by omega
  have d5 : ¬ (p < 0) := by omega
  have d6 : ¬ (1000 < p) := by omega
  have HP : Hid (∀ t, PN ((u.alloc (.map #[] 0)).alloc (.cells #[.int .i64 id, .int .i64 n, .int .i64 p, .int .i64 0, .map (some u.heap.size)] t)) (u.heap.size + 1) u.heap.size (Nd.made id n p)) := fun t => by
    refine ⟨?_, by omega, .map [], own_bound ((World.ownsMap_made u Tryz.prog 3 offE).alloc _) (by decide), NkD.made _ _ _⟩
    exact Row.made (vs := nkL (Nd.made id n p) u.heap.size) (by simp)
  go_enter Tryz.func27, Tryz.ntmps27
  go_wp2
  go_ret2
  exact ⟨u.heap.size + 1, rfl, u.heap.size, HP.out _, rbel_al (rbel_al (Below.refl _ _)), by omega, Nat.le_refl _⟩
set_option maxRecDepth 100000 in
set_option maxHeartbeats 2000000 in
theorem nnew_no (id n p : Int) (u : World) (h : n < 1 ∨ 6 < n ∨ id < 0 ∨ n ≤ id ∨ p < 0 ∨ 1000 < p) :
    Calls Tryz.prog 27 #[.int .i64 id, .int .i64 n, .int .i64 p] u fun o w' => ∃ v, o = .returned (.tuple #[v, .iface 85 (.int .i64 1)]) ∧ Below u.heap.size u w' := by
  have h' : n < 1 ∨ (¬ n < 1 ∧ 6 < n) ∨ (¬ n < 1 ∧ ¬ 6 < n ∧ id < 0) ∨ (¬ n < 1 ∧ ¬ 6 < n ∧ ¬ id < 0 ∧ n ≤ id) ∨ (¬ n < 1 ∧ ¬ 6 < n ∧ ¬ id < 0 ∧ ¬ n ≤ id ∧ p < 0) ∨ (¬ n < 1 ∧ ¬ 6 < n ∧ ¬ id < 0 ∧ ¬ n ≤ id ∧ ¬ p < 0 ∧ 1000 < p) := by omega
  clear h
  rcases h' with d1 | ⟨d1, d2⟩ | ⟨d1, d2, d3⟩ | ⟨d1, d2, d3, d4⟩ | ⟨d1, d2, d3, d4, d5⟩ | ⟨d1, d2, d3, d4, d5, d6⟩
  all_goals
    go_enter Tryz.func27, Tryz.ntmps27
    go_wp2
    go_ret2
    first
      | exact ⟨_, rfl, Below.refl _ _⟩
      | exact ⟨⟨_, rfl⟩, Below.refl _ _⟩
section
variable {u : World} {b M : Nat} {c : Nd}
set_option maxRecDepth 100000 in
set_option maxHeartbeats 2000000 in
theorem chk_bk (h : PN u b M c) (g : c.I) (t : Int) (hb : c.bk t) :
    Calls Tryz.prog 90 #[.pointer (some ⟨b, 0, none⟩), .int .i64 t] u fun o w' => o = .returned (.iface 85 (.int .i64 8)) ∧ w' = u := by
  have q := (hm_bk g).1 hb
  have c3 := h.r.c 3 _ rfl
  clear h g hb
  generalize hm c = H at *
  have q' : t < H ∨ (¬ t < H ∧ 1000000000000 < t) := by omega
  clear q
  rcases q' with d1 | ⟨d1, d2⟩
  all_goals
    go_enter Tryz.func90, Tryz.ntmps90
    go_wp2
    go_ret
    exact ⟨rfl, rfl⟩
set_option maxRecDepth 100000 in
set_option maxHeartbeats 2000000 in
theorem chk_no (h : PN u b M c) (g : c.I) (t : Int) (hb : ¬ c.bk t) :
    Calls Tryz.prog 90 #[.pointer (some ⟨b, 0, none⟩), .int .i64 t] u fun o w' => o = .returned .nilIface ∧ w' = u := by
  have q := fun x => hb ((hm_bk g).2 x)
  have c3 := h.r.c 3 _ rfl
  clear h g hb
  generalize hm c = H at *
  have d1 : ¬ (t < H) := fun x => q (Or.inl x)
  have d2 : ¬ (1000000000000 < t) := fun x => q (Or.inr x)
  clear q
  go_enter Tryz.func90, Tryz.ntmps90
  go_wp2
  go_ret
  exact ⟨rfl, rfl⟩
set_option maxRecDepth 100000 in
set_option maxHeartbeats 4000000 in
theorem widened_at (p lo hi s t m : Int) (w : World) (c2 : w.cell? ⟨b, 2, none⟩ = some (.int .i64 p)) (s0 : 0 ≤ s) (s1 : s ≤ t) (t1 : t ≤ 1000000000000) (p0 : 0 ≤ p) (p1 : p ≤ 1000)
    (o1 : -1000000000000 ≤ lo) (o2 : lo ≤ hi) (o3 : hi ≤ 1000000000000) (hm : m = ((t - s) * 3 * p + 1000000 - 1) / 1000000) (m0 : 0 ≤ m) (m1 : m ≤ 3000000001) :
    Calls Tryz.prog 103 #[.pointer (some ⟨b, 0, none⟩), .agg #[.int .i64 lo, .int .i64 hi, .int .i64 s], .int .i64 t] w fun o w' => o = .returned (.tuple #[.agg #[.int .i64 (lo - (m + 2)), .int .i64 (hi + (m + 2))], .nilIface]) ∧ Below w.heap.size w w' := by
  have cG := fun u => growT_same (t - s) 3 p u (by unfold rdy; exact decide_eq_true ⟨by omega, by omega, p0, p1⟩) (by decide) (by decide)
  rw [← hm] at cG
  clear hm
  have zb : b < w.heap.size := World.block_lt_of_cell? _ _ c2
  have w1 : IntKind.i64.wrap (t - s) = t - s := IntWalk.i64_in _ (by omega)
  have w2 : IntKind.i64.wrap (m + 2) = m + 2 := IntWalk.i64_in _ (by omega)
  have w3 : IntKind.i64.wrap (lo - (m + 2)) = lo - (m + 2) := IntWalk.i64_in _ (by omega)
  have w4 : IntKind.i64.wrap (hi + (m + 2)) = hi + (m + 2) := IntWalk.i64_in _ (by omega)
  go_enter Tryz.func103, Tryz.ntmps103
  go_wp2
  go_quiet (first | (go_at_call 72; refine Calls.quiet_of_same (cG _)))
  go_wp2
  exact bodyPost_ret (v := .tuple #[.agg #[.int .i64 (lo - (m + 2)), .int .i64 (hi + (m + 2))], .nilIface]) (by simp [results, Tryz.results103, go_sem, *]) rfl ⟨rfl, by first | exact rbel_drn (rbel_al (rbel_al (Below.refl _ _))) | exact rbel_put (Nat.le_succ _) (rbel_put (Nat.le_succ _) (rbel_drn (rbel_al (rbel_al (Below.refl _ _)))))⟩
end
end Go.Proofs.YthejaecljkjliaiGreatDoor
namespace Go.Proofs.YthejaecljkjliaiGreatDoor
open Go.ChangeShapes Go.WideShapes Go.ChangeAt Go.RowKit Go.Joins
set_option linter.unusedVariables false
set_option linter.unusedSimpArgs false

theorem infoNodeP : (Tryz.prog.info? 82).map (fun i => (i.zero, i.size, i.bytes)) = some (some (.pointer none), 1, 8) := by kernel_rfl
/-- Pointers to nodes. -/
def npcs (nb : Nat → Nat) (k : Nat) : List Value := (List.range k).map (fun i => Value.pointer (some ⟨nb i, 0, none⟩))
theorem npcs_more (nb : Nat → Nat) (k b : Nat) : npcs (updN nb k b) (k + 1) = npcs nb k ++ [.pointer (some ⟨b, 0, none⟩)] := by
  unfold npcs
  rw [List.range_succ, List.map_append]
  congr 1
  · refine List.map_congr_left (fun i hi => ?_)
    have := List.mem_range.1 hi
    rw [updN_ne (by omega)]
  · simp [updN_at]
theorem npcs_at (nb : Nat → Nat) {k i : Nat} (hi : i < k) : (npcs nb k)[i]? = some (.pointer (some ⟨nb i, 0, none⟩)) := by
  unfold npcs
  rw [List.getElem?_map, List.getElem?_range hi]
  rfl
/-- Some nodes are made: the net's own block, the row of them, each in blocks of its own; whose each block is. -/
structure Mkn (x1 wr : World) (wb n : Nat) (p : Int) (v : Value) (k : Nat) (nb nM tg : Nat → Nat) : Prop where
  r : Row wr x1.heap.size [.pointer (some ⟨wb, 0, none⟩), v]
  o : wr.ownsRow (x1.heap.size + 1) 82 1 v k (npcs nb k)
  d : ∀ i, i < k → PN wr (nb i) (nM i) (Nd.made i n p) ∧ tg (nb i) = 3 + i ∧ tg (nM i) = 3 + i ∧ x1.heap.size < nb i ∧ x1.heap.size < nM i
  g : ∀ j, v.ownBlock = some j → tg j = 1
  b : Below x1.heap.size x1 wr
theorem Mkn.start (x1 : World) (wb n : Nat) (p : Int) (t : TypeId) : Mkn x1 (x1.alloc (.cells #[.pointer (some ⟨wb, 0, none⟩), .slice none 0 0] t)) wb n p (.slice none 0 0) 0 (fun _ => 0) (fun _ => 0) (fun _ => 1) :=
  ⟨Row.made rfl, ⟨by simp [npcs], Or.inl ⟨rfl, rfl⟩⟩, fun i hi => by omega, fun _ _ => rfl, rbel_al (Below.refl _ _)⟩
theorem Mkn.next {x1 wr y W w1 : World} {wb n k b M : Nat} {p : Int} {v v' : Value} {nb nM tg : Nat → Nat} (h : Mkn x1 wr wb n p v k nb nM tg) (hy : Below wr.heap.size wr y) (hp : PN y b M (Nd.made k n p)) (lb : wr.heap.size ≤ b) (lM : wr.heap.size ≤ M) (hW : Below y.heap.size y W)
    (ho : w1.ownsRow (x1.heap.size + 1) 82 1 v' (k + 1) (npcs nb k ++ [.pointer (some ⟨b, 0, none⟩)])) (hg : W.grownBy w1 v.ownBlock) (hl : v'.ownBlock = v.ownBlock ∨ v'.ownBlock = some W.heap.size) : ∃ nb' nM' tg', Mkn x1 (w1.setCell ⟨x1.heap.size, 1, none⟩ v') wb n p v' (k + 1) nb' nM' tg' := by
  have zx := h.r.lt
  have zy := hy.size
  have zW := hW.size
  have z1 := hg.size
  have bl := hp.lt
  have Ml := hp.ltM
  have vl : ∀ j, v.ownBlock = some j → j < wr.heap.size := fun j hj => (h.o.lt j hj).2
  have vx : ∀ j, v.ownBlock = some j → x1.heap.size + 1 ≤ j := fun j hj => (h.o.lt j hj).1
  have kS : Keeps (fun j => j = x1.heap.size) w1 (w1.setCell ⟨x1.heap.size, 1, none⟩ v') := Keeps.put rfl (Keeps.refl _ _)
  have zs := kS.size
  have same : ∀ j, j < y.heap.size → j ≠ x1.heap.size → v.ownBlock ≠ some j → (w1.setCell ⟨x1.heap.size, 1, none⟩ v').heap[j]? = y.heap[j]? := fun j q1 q2 q3 =>
    (kS.block j (by omega) q2).trans ((hg.block j (by omega) (fun e => q3 e.symm)).trans (hW.block j q1))
  refine ⟨updN nb k b, updN nM k M, fun j => if j < wr.heap.size then tg j else if j = b ∨ j = M then 3 + k else 1, ?_, ?_, fun i hi => ?_, fun j hj => ?_, ?_⟩
  · exact Row.put 1 (row_grown hg (by omega) (fun e => by have := vx _ e; omega) (Row.on hW (Row.on hy h.r)))
  · rw [npcs_more]
    exact own_keepN kS (fun g hg' e => by have := (ho.lt g hg').1; omega) ho
  · by_cases e : i = k
    · subst e
      rw [updN_at, updN_at]
      refine ⟨?_, ?_, ?_, by omega, by omega⟩
      · refine PN.keep (u := y) (by omega) (fun j hj => ?_) hp
        have jl : wr.heap.size ≤ j ∧ j < y.heap.size := by rcases hj with q | q <;> omega
        exact same j jl.2 (by omega) (fun q => by have := vl j q; omega)
      · rw [if_neg (by omega), if_pos (Or.inl rfl)]
      · rw [if_neg (by omega), if_pos (Or.inr rfl)]
    · rw [updN_ne e, updN_ne e]
      obtain ⟨d1, d2, d3, d4, d5⟩ := h.d i (by omega)
      have q1 := d1.lt
      have q2 := d1.ltM
      refine ⟨?_, ?_, ?_, d4, d5⟩
      · refine PN.keep (u := y) (by omega) (fun j hj => ?_) (d1.on hy)
        have jl : j < wr.heap.size ∧ tg j = 3 + i ∧ j ≠ x1.heap.size := by rcases hj with q | q <;> (subst q; exact ⟨by omega, by assumption, by omega⟩)
        exact same j (by omega) jl.2.2 (fun q => by have := h.g j q; omega)
      · rw [if_pos q1]; exact d2
      · rw [if_pos q2]; exact d3
  · rcases hl with q | q
    · rw [q] at hj
      show (if j < wr.heap.size then tg j else _) = 1
      rw [if_pos (vl j hj)]
      exact h.g j hj
    · rw [q] at hj
      obtain rfl := Option.some.inj hj
      show (if W.heap.size < wr.heap.size then _ else if W.heap.size = b ∨ W.heap.size = M then _ else 1) = 1
      rw [if_neg (by omega), if_neg (by omega)]
  · exact rbel_put (Nat.le_refl _) ((rbel_on hW (rbel_on hy h.b)).grown hg (by omega) (fun j hj => by have := vx j hj; omega))
/-- All are made: a net. -/
theorem Mkn.net {x1 wr : World} {n : Nat} {p : Int} {v : Value} {nb nM tg : Nat → Nat} {z r : Nat → Int} {wb cb cc : Nat} (h : Mkn x1 wr wb n p v n nb nM tg) (hn : 1 ≤ n) (hw : PW x1 wb cb cc (ws0 n z r) (.slice none 0 0)) :
    ∃ L : Nly, NN wr x1.heap.size L (Nn.made n z r p) ∧ L.wb = wb ∧ L.cb = cb ∧ L.v = .slice none 0 0 ∧ ∀ i, i < n → x1.heap.size ≤ L.b i ∧ x1.heap.size ≤ L.m i ∧ x1.heap.size ≤ L.nb := by
  have zx := h.r.lt
  rcases h.o.2 with ⟨_, e⟩ | ⟨g, cap, cur, e, hb, hg, hc, hm, hcs, htk⟩
  · omega
  have gl : g < wr.heap.size := (h.o.lt g (by rw [e]; rfl)).2
  have tgg : tg g = 1 := h.g g (by rw [e]; rfl)
  have wl : wb < x1.heap.size := hw.r.lt
  have cl : cb < x1.heap.size := hw.kl
  refine ⟨⟨wb, cb, cc, .slice none 0 0, g, cap, nb, nM, fun j => if j = x1.heap.size then 0 else if j < x1.heap.size then 2 else tg j⟩, ⟨?_, hw.on h.b, hc, gl, fun i hi => ?_, fun i hi => (h.d i hi).1, if_pos rfl, ?_, fun k hk => ?_, fun i hi => ?_⟩, rfl, rfl, rfl, fun i hi => ⟨Nat.le_of_lt (h.d i hi).2.2.2.1, Nat.le_of_lt (h.d i hi).2.2.2.2, by show x1.heap.size ≤ g; omega⟩⟩
  · have := h.r
    rw [e] at this
    exact this
  · have c := h.o.cells (g := g) (by rw [e]; rfl) i _ (npcs_at nb hi)
    rw [Addr.add_lit, Nat.zero_add] at c
    exact c
  · show (if g = x1.heap.size then 0 else if g < x1.heap.size then 2 else tg g) = 1
    rw [if_neg (by omega), if_neg (by omega)]; exact tgg
  · show (if k = x1.heap.size then 0 else if k < x1.heap.size then 2 else tg k) = 2
    have kl : k < x1.heap.size := by
      rcases hk with q | q | q
      · show k < _; rw [q]; exact wl
      · show k < _; rw [q]; exact cl
      · cases q
    rw [if_neg (by omega), if_pos kl]
  · obtain ⟨d1, d2, d3, d4, d5⟩ := h.d i hi
    show (if nb i = x1.heap.size then 0 else if nb i < x1.heap.size then 2 else tg (nb i)) = 3 + i ∧ (if nM i = x1.heap.size then 0 else if nM i < x1.heap.size then 2 else tg (nM i)) = 3 + i
    rw [if_neg (by omega), if_neg (by omega), if_neg (by omega), if_neg (by omega)]
    exact ⟨d2, d3⟩
set_option maxRecDepth 100000 in
set_option maxHeartbeats 4000000 in
theorem nnet_bad (sa : Option Addr) (n sc : Nat) (z : Nat → Int) (ra : Option Addr) (m rc : Nat) (r : Nat → Int) (p e : Int) (u : World) (hS : NHanded u sa n z) (hr : NHanded u ra m r) (hE : BeE n z m r p e) (he : e ≠ 0) :
    Calls Tryz.prog 6 #[.slice sa n sc, .slice ra m rc, .int .i64 p] u fun o w' => o = .returned (.tuple #[.pointer none, .iface 85 (.int .i64 e)]) ∧ Below u.heap.size u w' := by
  have cW : Calls Tryz.prog 26 #[.slice sa n sc, .slice ra m rc, .int .i64 p] u fun o w' => ∃ pv, o = .returned (.tuple #[pv, .iface 85 (.int .i64 e)]) ∧ Below u.heap.size u w' := (wnew_any sa n sc z ra m rc r p u hS hr).mono fun _ _ ⟨e', pv, hE', q, hb, _⟩ => by
    obtain rfl := beE_one hE hE'
    exact ⟨pv, by rw [errc_not he] at q; exact q, hb⟩
  clear hS hr hE he
  go_enter Tryz.func6, Tryz.ntmps6
  go_wp2_with (go_at_call 26; refine cW.mono ?_; rintro o u1 ⟨pv, rfl, hb⟩; have HB : Hid _ := hb; clear hb)
  go_ret2
  exact ⟨rfl, HB.out⟩
set_option maxRecDepth 100000 in
set_option maxHeartbeats 8000000 in
theorem nnet_ok (sa : Option Addr) (n sc : Nat) (z : Nat → Int) (ra : Option Addr) (m rc : Nat) (r : Nat → Int) (p : Int) (u : World) (hS : NHanded u sa n z) (hr : NHanded u ra m r) (hE : BeE n z m r p 0) :
    Calls Tryz.prog 6 #[.slice sa n sc, .slice ra m rc, .int .i64 p] u fun o w' => ∃ (b : Nat) (L : Nly), o = .returned (.tuple #[.pointer (some ⟨b, 0, none⟩), .nilIface]) ∧ NN w' b L (Nn.made n z r p) ∧ Below u.heap.size u w' ∧ ∀ k, L.F b n k → u.heap.size ≤ k := by
  have cW : Calls Tryz.prog 26 #[.slice sa n sc, .slice ra m rc, .int .i64 p] u fun o w' => ∃ wb cb cc : Nat, o = .returned (.tuple #[.pointer (some ⟨wb, 0, none⟩), .nilIface]) ∧ Below u.heap.size u w' ∧ PW w' wb cb cc (ws0 n z r) (.slice none 0 0) ∧ u.heap.size ≤ wb ∧ u.heap.size ≤ cb := (wnew_any sa n sc z ra m rc r p u hS hr).mono fun _ _ ⟨e', pv, hE', q, hb, q2⟩ => by
    obtain rfl := beE_one hE hE'
    obtain ⟨b, cb, cc, rfl, h1, h2, h3⟩ := q2 rfl
    exact ⟨b, cb, cc, by rw [errc_zero] at q; exact q, hb, h1, h2, h3⟩
  have hN : (0 ≤ p ∧ p ≤ 1000 ∧ 1 ≤ n ∧ n ≤ 6) := by
    rcases hE with ⟨_, e⟩ | ⟨_, _, e⟩ | ⟨_, _, _, e⟩ | ⟨q, _⟩
    · cases e
    · cases e
    · cases e
    · exact q
  obtain ⟨p0, p1, n1, n6⟩ := hN
  obtain ⟨i0, hi0, hz0, hz1, hz2⟩ := info_parts infoNodeP
  have cN : Hid (∀ (k : Nat) (W : World), k < n → Calls Tryz.prog 27 #[.int .i64 (k : Int), .int .i64 (n : Int), .int .i64 p] W fun o w' => ∃ b M, o = .returned (.tuple #[.pointer (some ⟨b, 0, none⟩), .nilIface]) ∧ PN w' b M (Nd.made k n p) ∧ Below W.heap.size W w' ∧ W.heap.size ≤ b ∧ W.heap.size ≤ M) := fun k W hk => nnew_ok k n p W hk n6 p0 p1
  clear hS hr hE
  go_enter Tryz.func6, Tryz.ntmps6
  go_wp2_with (go_at_call 26; refine cW.mono ?_; rintro o x1 ⟨wb, cb, cc, rfl, hb, hP, l1, l2⟩; have B1 : Hid (Below u.heap.size u x1) := hb; have P1 : Hid (PW x1 wb cb cc (ws0 n z r) (.slice none 0 0)) := hP; have L1 : Hid (u.heap.size ≤ wb ∧ u.heap.size ≤ cb) := ⟨l1, l2⟩; clear hb hP l1 l2)
  go_loopw [29, 11, 12, 13] (fun vi _ _ _ wr => ∃ (k : Nat) (v : Value) (nb nM tg : Nat → Nat), k ≤ n ∧ vi = .int .i64 k ∧ Mkn x1 wr wb n p v k nb nM tg) (fun vi _ _ _ _ => n - (intOf vi).toNat)
  case atStart => exact ⟨0, _, _, _, _, Nat.zero_le _, rfl, Mkn.start x1 wb n p _⟩
  case round =>
    clear cW
    obtain ⟨k, v, nb, nM, tg, hk, rfl, hM⟩ := hrel
    have zw : x1.heap.size < wr.heap.size := hM.r.lt
    obtain ⟨va, vc, ev⟩ := own_slice hM.o
    subst ev
    have HM : Hid (Mkn x1 wr wb n p (.slice va k vc) k nb nM tg) := hM
    by_cases hlt : k < n
    · have hl : (k : Int) < n := by omega
      have cK := cN.out k wr hlt
      clear hM
      go_upto_region 11 with (go_at_call 27; refine cK.mono ?_; rintro o y ⟨b, M, rfl, hp, hb, l1, l2⟩; have HP : Hid (PN y b M (Nd.made k n p)) := hp; have HB : Hid (Below wr.heap.size wr y) := hb; have HL : Hid (wr.heap.size ≤ b ∧ wr.heap.size ≤ M) := ⟨l1, l2⟩; clear hp hb l1 l2)
      have O2 : Hid (y.ownsRow (x1.heap.size + 1) 82 1 (.slice va k vc) k (npcs nb k)) := own_onN HB.out HM.out.o
      have R2 : Hid (Row y x1.heap.size [.pointer (some ⟨wb, 0, none⟩), .slice va k vc]) := Row.on HB.out HM.out.r
      have NE : Hid ((Value.slice va k vc).ownBlock ≠ some x1.heap.size) := fun e => by have := (HM.out.o.lt _ e).1; omega
      have zy := HB.out.size
      have lx : x1.heap.size < y.heap.size := R2.out.lt
      have k1 := R2.out.c 1 _ rfl
      clear cK
      go_wp2_with (at_builtin; go_loud (refine wpList_append_own_at _ rfl _ _ 79 rfl (x1.heap.size + 1) 82 i0 _ 1 8 Tryz.underlying79 hi0 hz0 hz1 hz2 rfl (by decide) (.slice va k vc) _ _ rfl (O2.out.alloc _) ⟨y.heap.size, 0, none⟩ 1 1 [.pointer (some ⟨b, 0, none⟩)] rfl rfl (fun j q hj => by rw [Addr.add_lit]; exact (Row.made (W := y) (vs := [.pointer (some ⟨b, 0, none⟩)]) rfl).c _ _ (by simpa using hj)) (fun q hq => by simp at hq; subst hq; rfl) (by unfold maxLen; omega) (by omega) (by simp; omega) ?_; intro v' w1 hown1 hgrow1 hnn1 hat1; obtain ⟨va', vc', rfl⟩ := own_slice hown1; have mr1 : Row w1 x1.heap.size [.pointer (some ⟨wb, 0, none⟩), .slice va k vc] := row_grown hgrow1 (by simp; omega) NE.out (Row.al R2.out); have m1 := mr1.c 1 _ rfl; have q1 := mr1.f 1 _ rfl; have lw1 := mr1.lt; have HX : Hid (∃ nb' nM' tg', Mkn x1 (w1.setCell ⟨x1.heap.size, 1, none⟩ (.slice va' (k + 1) vc')) wb n p (.slice va' (k + 1) vc') (k + 1) nb' nM' tg') := HM.out.next HB.out HP.out HL.out.1 HL.out.2 (rbel_al (Below.refl _ _)) hown1 hgrow1 hat1; clear hown1 hgrow1 hnn1 hat1 mr1))
      obtain ⟨nb', nM', tg', hM'⟩ := HX.out
      have HM2 : Hid (Mkn x1 (w1.setCell ⟨x1.heap.size, 1, none⟩ (.slice va' (k + 1) vc')) wb n p (.slice va' (k + 1) vc') (k + 1) nb' nM' tg') := hM'
      clear hM'
      go_roundw
      case rel => exact ⟨k + 1, _, _, _, _, by omega, by go_num, HM2.out⟩
      case measure => simp [intOf]; omega
    · have hl : ¬ ((k : Int) < n) := by omega
      obtain rfl : k = n := by omega
      clear HM
      obtain ⟨L, hL, e1, e2, e3, hF⟩ := Mkn.net hM n1 P1.out
      have HNN : Hid (NN wr x1.heap.size L (Nn.made k z r p)) := hL
      have HF : Hid (∀ j, L.F x1.heap.size k j → u.heap.size ≤ j) := fun j hj => by
        have q0 := B1.out.size
        rcases hj with q | q | q | ⟨i, hi, q⟩
        · omega
        · have := (hF 0 (by omega)).2.2; omega
        · rcases q with q | q | q
          · rw [e1] at q; have := L1.out; omega
          · rw [e2] at q; have := L1.out; omega
          · rw [e3] at q; cases q
        · have := hF i hi
          rcases q with q | q <;> omega
      have HBW : Hid (Below u.heap.size u wr) := rbel_on hM.b B1.out
      clear hM hL hF e1 e2 e3
      go_wp2
      go_ret2
      first
        | exact ⟨x1.heap.size, L, rfl, HNN.out, HBW.out, HF.out⟩
        | exact ⟨x1.heap.size, rfl, L, HNN.out, HBW.out, HF.out⟩
end Go.Proofs.YthejaecljkjliaiGreatDoor
